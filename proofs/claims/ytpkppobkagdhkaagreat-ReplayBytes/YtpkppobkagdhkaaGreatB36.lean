/-
 RdM RdN.
-/
import Derived.Test.YtpkppobkagdhkaaGreatB35
set_option linter.unusedVariables false
set_option linter.unusedSimpArgs false
set_option maxRecDepth 100000
set_option maxHeartbeats 1000000
namespace Go.Proofs.YtpkppobkagdhkaaGreat
open Go.RowKit Go.Maps Utf
section
variable {tag : Nat → Nat} {w : World} {d : Nat} {q : Bool} {A : Ar}
theorem rmake_any (hD : Dn tag w d q A) (ful : A.Ful) (hn : A.n < 40000) (kind ns : Int) (name text : ByteArray) (l : List Att) (ao : Option Addr) (n' c' : Nat) (hr : Rp w ao n' c' l) (ha : n' ≤ 10000) :
  Calls Tryz.prog 51 #[.pointer (some ⟨d,0,none⟩),.int .i64 kind,.int .i64 ns,.string name,.slice ao n' c',.string text] w fun e w' => e = .returned (.tuple #[.int .i64 (A.mkF kind ns name (uniq l) text).2.1,.int .i64 (A.mkF kind ns name (uniq l) text).2.2]) ∧ ∃ tag',Dn tag' w' d q (A.mkF kind ns name (uniq l) text).1 ∧ Dv tag w tag' w' := by
 have P0 : Hid (∀ V,Kp [] w V → ∃ tag',Dn tag' V d q A ∧ Dv tag w tag' V) := fun V k => ⟨tag,hD.kept k,Dv.of_kp0 k⟩
 obtain ⟨Z,hZ⟩ : ∃ Z,A.mkF kind ns name (uniq l) text = Z := ⟨_,rfl⟩
 rw [hZ]
 unfold Ar.mkF at hZ
 by_cases hk : kind < 2 ∨ 5 < kind
 ·rw [if_pos hk] at hZ
  subst hZ
  by_cases hk2 : kind < 2
  ·clear hD hk hr
   go_enter Tryz.func51,Tryz.ntmps51
   go_wp2
   go_ret2
   exact ⟨rfl,P0.out _ (Kp.refl _ _)⟩
  ·have hk5 : 5 < kind := hk.resolve_left hk2
   clear hD hk hr
   go_enter Tryz.func51,Tryz.ntmps51
   go_wp2
   go_ret2
   exact ⟨rfl,P0.out _ (Kp.refl _ _)⟩
 rw [if_neg hk] at hZ
 by_cases e3 : kind = 3
 ·subst e3
  rw [if_pos rfl] at hZ
  by_cases hbad : (ns ≠ 1 ∧ ns ≠ 2) ∨ name.size = 0
  ·rw [if_pos hbad] at hZ
   subst hZ
   rcases hbad with ⟨e1,e2⟩ | e0
   ·have t1 : (ns != 1) = true := bne_iff_ne.2 e1
    have t2 : (ns != 2) = true := bne_iff_ne.2 e2
    clear hD hk hr e1 e2
    go_enter Tryz.func51,Tryz.ntmps51
    go_wp2
    go_ret2
    exact ⟨rfl,P0.out _ ((Kp.refl _ _).alloc _)⟩
   ·have t9 : name.toList.isEmpty = true := emp_yes e0
    clear hD hk hr e0
    by_cases e1 : ns = 1
    ·subst e1
     go_enter Tryz.func51,Tryz.ntmps51
     go_wp2
     go_ret2
     exact ⟨rfl,P0.out _ ((Kp.refl _ _).alloc _)⟩
    ·have t1 : (ns != 1) = true := bne_iff_ne.2 e1
     by_cases e2 : ns = 2
     ·subst e2
      clear e1 t1
      go_enter Tryz.func51,Tryz.ntmps51
      go_wp2
      go_ret2
      exact ⟨rfl,P0.out _ ((Kp.refl _ _).alloc _)⟩
     ·have t2 : (ns != 2) = true := bne_iff_ne.2 e2
      clear e1 e2
      go_enter Tryz.func51,Tryz.ntmps51
      go_wp2
      go_ret2
      exact ⟨rfl,P0.out _ ((Kp.refl _ _).alloc _)⟩
  ·rw [if_neg hbad] at hZ
   obtain ⟨g,o,c,pl,h⟩ := hD
   have h0 : name.size ≠ 0 := fun e => hbad (.inr e)
   by_cases ht : tmplF (3,ns,name,uniq l,⟨#[]⟩) = true
   ·rw [if_pos ht] at hZ
    subst hZ
    obtain ⟨rfl,ht2⟩ : ns = 1 ∧ name = TMPL := by simp [tmplF,Lb.kind,Lb.ns,Lb.name] at ht; exact ht
    exact rmk_tmpl h ful hn 1 name text l ao n' c' hr ha rfl h0 ht2
   ·rw [if_neg ht] at hZ
    subst hZ
    by_cases e1 : ns = 1
    ·subst e1
     exact rmk_html h ful hn 1 name text l ao n' c' hr ha rfl h0 (fun e => ht (by simp [tmplF,Lb.kind,Lb.ns,Lb.name,e]))
    ·obtain rfl : ns = 2 := by
      by_cases e2 : ns = 2
      ·exact e2
      ·exact absurd (.inl ⟨e1,e2⟩) hbad
     exact rmk_svg h ful hn 2 name text l ao n' c' hr ha rfl h0
 ·rw [if_neg e3] at hZ
  obtain ⟨g,o,c,pl,h⟩ := hD
  by_cases e2 : kind = 2
  ·subst e2
   rw [if_pos rfl] at hZ
   subst hZ
   exact rmk_two h ful hn ns name text l ao n' c' hr ha
  ·rw [if_neg e2] at hZ
   subst hZ
   by_cases e4 : kind = 4
   ·subst e4
    exact rmk_four h ful hn ns name text l ao n' c' hr ha
   ·obtain rfl : kind = 5 := by omega
    exact rmk_five h ful hn ns name text l ao n' c' hr ha
theorem rmore_any (hD : Dn tag w d q A) (hn : A.n < 40000) (z : Int) (l : List Att) (ao : Option Addr) (n' c' : Nat) (hr : Rp w ao n' c' l) (ha : n' ≤ 10000) (hat : ∀ x,(A.lb x).attrs.length ≤ 10000) :
  Calls Tryz.prog 59 #[.pointer (some ⟨d,0,none⟩),.int .i64 z,.slice ao n' c'] w fun e w' => e = .returned (.int .i64 (A.morF z (fun x => more x l)).2) ∧ ∃ tag',Dn tag' w' d q (A.morF z (fun x => more x l)).1 ∧ Dv tag w tag' w' := by
 have hD0 : Hid (∃ tag',Dn tag' w d q A ∧ Dv tag w tag' w) := ⟨tag,hD,Dv.refl tag w⟩
 obtain ⟨g,o,c,pl,h⟩ := hD
 have HT := rthere_any h z
 cases hx : A.there z with
 | false =>
   have eF : A.morF z (fun x => more x l) = (A,22) := by unfold Ar.morF; rw [if_pos hx]
   rw [eF]
   rw [hx] at HT
   clear eF h hr
   go_enter Tryz.func59,Tryz.ntmps59
   go_wp2_with (go_at_call 92; refine same_of (HT) ?_)
   go_ret
   exact ⟨rfl,hD0.out⟩
 | true =>
   rw [hx] at HT
   obtain ⟨x,rfl,hx'⟩ := there_nat hx
   have j1 : (0 : Int) ≤ (x : Int) := by omega
   have j2 : (x : Int) < (A.n : Int) := by omega
   have c0 := h.head.1
   have s0 := (h.seven hx').1
   by_cases hk : (A.lb x).kind = 3
   ·have eF : A.morF (x : Int) (fun x => more x l) = (A.tell x (3,(A.lb x).ns,(A.lb x).name,more (A.lb x).attrs l,(A.lb x).text),0) := by unfold Ar.morF; rw [if_neg (by rw [hx]; simp),Int.toNat_natCast,if_neg (by rw [hk]; simp)]
    rw [eF]
    clear eF
    have s4 := (h.seven hx').2.2.2.2.1
    have rA := h.att x hx'
    have hl4 := rA.len
    rw [cs_len] at hl4
    have hl5 : (pl x).1.2.1 ≤ 10000 := by have := hat x; omega
    have HM : Hid (∀ V,Kp [] w V → Calls Tryz.prog 99 #[.slice (pl x).1.1 (pl x).1.2.1 (pl x).1.2.2,.slice ao n' c'] V fun e w' => ∃ ao' n'' c'',e = .returned (.slice ao' n'' c'') ∧ Mp V w' ao' n'' c'' (more (A.lb x).attrs l)) := fun V kV => ref_more_any V _ _ _ _ _ _ _ _ ((rA.keep (kV.sms (fun x _ hx => by simp at hx))).rp) (hr.kept kV) hl5 ha
    have hdg := h.ne
    have HZ : Hid (∀ V U a5 n5 c5,Kp [] w V → Mp V U a5 n5 c5 (more (A.lb x).attrs l) → (U.cell? ⟨d,0,none⟩ = some (.slice (some ⟨g,o,none⟩) A.n c) ∧ U.cell? ⟨g,o + x * 7 + 4,none⟩ = some (.slice (pl x).1.1 (pl x).1.2.1 (pl x).1.2.2) ∧ ∀ j,U.frozen? ⟨g,j,none⟩ = false) ∧ ∃ tag',Dn tag' (U.setCell ⟨g,o + x * 7 + 4,none⟩ (.slice a5 n5 c5)) d q (A.tell x (3,(A.lb x).ns,(A.lb x).name,more (A.lb x).attrs l,(A.lb x).text)) ∧ Dv tag w tag' (U.setCell ⟨g,o + x * 7 + 4,none⟩ (.slice a5 n5 c5))) := fun V U a5 n5 c5 kV M => by
     have kU : Kp [] w U := kV.trans M.kp (fun x hx => Or.inl hx)
     have hU := h.kept kU
     refine ⟨⟨hU.head.1,(hU.seven hx').2.2.2.2.1,hU.free⟩,?_⟩
     have h1 := h.fresh kU
     have rN : Rk (Q5 (tg5 tag w)) 2 U a5 n5 c5 (cs (more (A.lb x).attrs l)) := (M.rk0 kV).mono (fun z hz hq => if_neg (by omega))
     obtain ⟨P,hP⟩ : ∃ P : Nat → Dp,P = fun y => if y = x then ((a5,n5,c5),(pl x).2) else pl y := ⟨_,rfl⟩
     have Pp : P x = ((a5,n5,c5),(pl x).2) := by rw [hP]; simp
     have Pn : ∀ j,j ≠ x → P j = pl j := fun j hj => by rw [hP]; simp [hj]
     have P2 : ∀ j,(P j).2 = (pl j).2 := fun j => by
      by_cases e : j = x
      ·rw [e,Pp]
      ·rw [Pn j e]
     have lx : (A.tell x (3,(A.lb x).ns,(A.lb x).name,more (A.lb x).attrs l,(A.lb x).text)).lb x = (3,(A.lb x).ns,(A.lb x).name,more (A.lb x).attrs l,(A.lb x).text) := if_pos rfl
     have ln : ∀ j,j ≠ x → (A.tell x (3,(A.lb x).ns,(A.lb x).name,more (A.lb x).attrs l,(A.lb x).text)).lb j = A.lb j := fun j hj => if_neg hj
     have h2 := h1.set (A' := A.tell x (3,(A.lb x).ns,(A.lb x).name,more (A.lb x).attrs l,(A.lb x).text)) (pl' := P) hx' (k := 4) (by omega) (.slice a5 n5 c5) rfl (by rw [lx,Pp]; simp [dl,Lb.kind,Lb.ns,Lb.name,Lb.text] at hk ⊢; exact ⟨hk.symm,rfl⟩) (fun j hj hne => by rw [ln j hne,Pn j hne]; rfl) (fun j hj => by
      by_cases e : j = x
      ·subst e; rw [Pp,lx]; exact rN
      ·rw [Pn j e,ln j e]; exact h1.att j hj) (fun j hj => by rw [P2 j]; exact h1.kid j hj) (fun j hj => by rw [P2 j]; exact h1.kf j hj)
     exact dn_turn h (kpg (kU.mono (T := [g]) (fun x hx => by simp at hx)) _ _) ⟨P,h2⟩
    rw [hk] at s0
    have HC : Hid (∀ V,Kp [] w V → V.cell? ⟨d,0,none⟩ = some (.slice (some ⟨g,o,none⟩) A.n c) ∧ V.cell? ⟨g,o + x * 7 + 4,none⟩ = some (.slice (pl x).1.1 (pl x).1.2.1 (pl x).1.2.2)) := fun V k => ⟨(h.kept k).head.1,((h.kept k).seven hx').2.2.2.2.1⟩
    clear h hr rA hD0 hl4 hl5 s4 hk
    generalize (pl x).1.1 = xo at *
    generalize (pl x).1.2.1 = xn at *
    generalize (pl x).1.2.2 = xc at *
    generalize A.tell x (3,(A.lb x).ns,(A.lb x).name,more (A.lb x).attrs l,(A.lb x).text) = AP at *
    generalize more (A.lb x).attrs l = ML at *
    go_enter Tryz.func59,Tryz.ntmps59
    go_upto_region 5 with (go_at_call 92; refine same_of (HT) ?_)
    obtain ⟨U0,hU0⟩ : ∃ V,V = w.drew := ⟨_,rfl⟩
    have k0 : Kp [] w U0 := by rw [hU0]; exact (Kp.refl _ _).drew
    refine wp_region_g (S := fun V => V.cell? ⟨d,0,none⟩ = some (.slice (some ⟨g,o,none⟩) A.n c) ∧ V.cell? ⟨g,o + x * 7 + 4,none⟩ = some (.slice xo xn xc)) (T := [17]) (by kernel_rfl) (HC.out _ (Kp.refl _ _).drew) (fun hHeld => ?_)
    rw [← hU0] at hHeld ⊢
    clear hU0
    refine g_pure 0 (some 20) (.move (.tmp 0)) ?_
    refine g_pure 1 (some 21) (.nilCheck (.tmp 20)) ?_
    refine g_pure 2 (some 22) (.fieldAddr 69 (.tmp 21) 0) ?_
    refine g_takeC 3 (some 23) (.load 67 (.tmp 22)) (by intro w hSw; (obtain ⟨q1,q2⟩ := hSw); go_simp; try with_reducible rfl) ?_
    refine g_pure 4 (some 24) (.move (.tmp 1)) ?_
    refine g_pure 5 (some 25) (.move (.tmp 0)) ?_
    refine g_pure 6 (some 26) (.nilCheck (.tmp 25)) ?_
    refine g_pure 7 (some 27) (.fieldAddr 69 (.tmp 26) 0) ?_
    refine g_takeC 8 (some 28) (.load 67 (.tmp 27)) (by intro w hSw; (obtain ⟨q1,q2⟩ := hSw); go_simp; try with_reducible rfl) ?_
    refine g_pure 9 (some 29) (.move (.tmp 1)) ?_
    refine g_pure 10 (some 30) (.indexAddr 67 (.tmp 28) (.tmp 29)) ?_
    refine g_pure 11 (some 31) (.fieldAddr 106 (.tmp 30) 4) ?_
    refine g_takeC 12 (some 32) (.load 22 (.tmp 31)) (by intro w hSw; (obtain ⟨q1,q2⟩ := hSw); go_simp; try with_reducible rfl) ?_
    refine g_pure 13 (some 33) (.move (.tmp 2)) ?_
    refine wpAnyG_ready (rs := [14]) (by kernel_rfl) (by simp) ?_
    refine AllReadyG.cons (o := ⟨some 34,.call { callee := .value (.func 99),args := #[.tmp 32,.tmp 33],argTypes := #[22,22] },22,_,_,none⟩) rfl (fun K hK => ?_) AllReadyG.nil
    go_simp
    go_at_call 99
    refine (HM.out _ k0).mono ?_
    rintro e U1 ⟨a5,n5,c5,rfl,M5⟩
    go_wp2_with fail
    obtain ⟨⟨z1,z2,z3⟩,z9⟩ := HZ.out _ _ _ _ _ k0 M5
    refine hK.out _ _ ⟨z1,z2⟩ (fun hHeld1 => ?_)
    clear hK K hHeld
    try simp only [Act.put,pu1,pu2,pu3]
    refine g_pure 15 (some 35) (.indexAddr 67 (.tmp 23) (.tmp 24)) ?_
    refine g_pure 16 (some 36) (.fieldAddr 106 (.tmp 35) 4) ?_
    refine wpAnyG_free (by kernel_rfl) ?_
    refine wpAny_ready (rs := [17]) (by kernel_rfl) (by simp) ?_
    refine AllReady.cons (o := ⟨none,.store 22 (.tmp 36) (.tmp 34),0,_,_,none⟩) rfl (fun K hK => ?_) AllReady.nil
    go_simp
    refine hK _ _ ?_
    clear hK K
    try simp only [Act.put,pu1,pu2,pu3]
    refine wpAny_done (by kernel_rfl) ?_ _
    have ZZ : Hid _ := z9
    clear z9
    go_wp2
    go_ret
    exact ⟨rfl,ZZ.out⟩
   ·have eF : A.morF (x : Int) (fun x => more x l) = (A,23) := by unfold Ar.morF; rw [if_neg (by rw [hx]; simp),Int.toNat_natCast,if_pos hk]
    rw [eF]
    have t3 : ((A.lb x).kind != 3) = true := bne_iff_ne.2 hk
    clear eF h hr hk
    generalize (A.lb x).kind = kd at *
    go_enter Tryz.func59,Tryz.ntmps59
    go_wp2_with (go_at_call 92; refine same_of (HT) ?_)
    go_ret
    exact ⟨rfl,hD0.out⟩
end
section
variable {tag : Nat → Nat} {w : World} {d : Nat} {q : Bool} {A : Ar}
theorem rnewtext (hD : Dn tag w d q A) (ful : A.Ful) (hn : A.n < 40000) (p i : Nat) (hp : p < A.n) (hi : i ≤ (A.kids p).length) (s : ByteArray) :
  (Hid (∀ V,Kp [] w V → Calls Tryz.prog 51 #[.pointer (some ⟨d,0,none⟩),.int .i64 4,.int .i64 0,.string ⟨#[]⟩,.slice none 0 0,.string s] V fun e w' => e = .returned (.tuple #[.int .i64 (A.n : Int),.int .i64 0]) ∧ ∃ tag',Dn tag' w' d q (A.new (4,0,⟨#[]⟩,[],s)) ∧ Dv tag w tag' w')) ∧
  (Hid (∀ tag1 V,Dn tag1 V d q (A.new (4,0,⟨#[]⟩,[],s)) → Dv tag w tag1 V → Calls Tryz.prog 96 #[.pointer (some ⟨d,0,none⟩),.int .i64 (p : Int),.int .i64 (i : Int),.int .i64 (A.n : Int)] V fun e w' => e = .returned (.tuple #[]) ∧ ∃ tag',Dn tag' w' d q ((A.new (4,0,⟨#[]⟩,[],s)).put p i A.n) ∧ Dv tag w tag' w')) := by
 refine ⟨fun V kV => ?_,fun tag1 V dn dv => ?_⟩
 ·have := rmake_any (hD.kept kV) ful hn 4 0 ⟨#[]⟩ s [] none 0 0 (Rp.of_own (e := 0) (m := 0) ⟨rfl,Or.inl ⟨rfl,rfl⟩⟩) (by omega)
  rw [show A.mkF 4 0 ⟨#[]⟩ (uniq []) s = (A.new (4,0,⟨#[]⟩,[],s),(A.n : Int),0) from rfl] at this
  refine this.mono ?_
  rintro e w' ⟨rfl,tag',a,b⟩
  exact ⟨rfl,tag',a,(Dv.of_kp0 kV).trans b⟩
 ·obtain ⟨g,o,c,pl,h⟩ := dn
  refine (rput_any h (ful.toOk.new _) (show A.n + 1 < 50000 by omega) p A.n i (show p < A.n + 1 by omega) (show A.n < A.n + 1 by omega) hi).mono ?_
  rintro e w' ⟨rfl,k6,h6⟩
  obtain ⟨tag6,a6,v6⟩ := dn_turn h k6 h6
  exact ⟨rfl,tag6,a6,dv.trans v6⟩
theorem rtext_any (hD : Dn tag w d q A) (ful : A.Ful) (hn : A.n < 40000) (p i : Nat) (hp : p < A.n) (hi : i ≤ (A.kids p).length) (s : ByteArray) (hs : s.size ≤ 1000000) (htx : ∀ x,(A.lb x).text.size ≤ 900000) :
  Calls Tryz.prog 98 #[.pointer (some ⟨d,0,none⟩),.int .i64 (p : Int),.int .i64 (i : Int),.string s] w fun e w' => e = .returned (.tuple #[]) ∧ ∃ tag',Dn tag' w' d q (A.txt p i s) ∧ Dv tag w tag' w' := by
 have hD0 : Hid (∃ tag',Dn tag' w d q A ∧ Dv tag w tag' w) := ⟨tag,hD,Dv.refl tag w⟩
 obtain ⟨HMk,HPu⟩ := rnewtext hD ful hn p i hp hi s
 obtain ⟨g,o,c,pl,h⟩ := hD
 have c0 := h.head.1
 have s0 := (h.seven hp).1
 have j1 : (0 : Int) ≤ (p : Int) := by omega
 have j2 : (p : Int) < (A.n : Int) := by omega
 by_cases h1 : s.size = 0
 ·have eF : A.txt p i s = A := by unfold Ar.txt; rw [if_pos (.inl h1)]
  rw [eF]
  have t9 : s.toList.isEmpty = true := emp_yes h1
  clear eF h c0 s0 HMk HPu
  go_enter Tryz.func98,Tryz.ntmps98
  go_wp2
  (try simp only [Exit.inBlock,Exit.then]); refine bodyPost_ret (results_none rfl _ _ _) rfl ?_
  exact ⟨rfl,hD0.out⟩
 have t9 : s.toList.isEmpty = false := ne_empty h1
 by_cases h2 : (A.lb p).kind = 1
 ·have eF : A.txt p i s = A := by unfold Ar.txt; rw [if_pos (.inr h2)]
  rw [eF]
  rw [h2] at s0
  clear eF h HMk HPu
  go_enter Tryz.func98,Tryz.ntmps98
  go_wp2
  (try simp only [Exit.inBlock,Exit.then]); refine bodyPost_ret (results_none rfl _ _ _) rfl ?_
  exact ⟨rfl,hD0.out⟩
 have t1 : ((A.lb p).kind == 1) = false := beq_false_of_ne h2
 by_cases hi0 : i = 0
 ·subst hi0
  have eF : A.txt p 0 s = (A.new (4,0,⟨#[]⟩,[],s)).put p 0 A.n := by unfold Ar.txt; rw [if_neg (by omega)]; simp
  rw [eF]
  generalize (A.lb p).kind = kd at *
  clear eF h hD0
  rw [show ((0 : Nat) : Int) = 0 from rfl] at *
  go_enter Tryz.func98,Tryz.ntmps98
  go_wp2_with (first | (go_at_call 51; refine (HMk.out _ (Kp.refl _ _)).mono ?_; rintro e w1 ⟨rfl,tag1,a1,v1⟩) | (go_at_call 96; refine (HPu.out _ _ a1 v1).mono ?_; rintro e w2 ⟨rfl,z2⟩))
  go_end0
  exact ⟨rfl,z2⟩
 obtain ⟨j,hj⟩ : ∃ j,i = j + 1 := ⟨i - 1,by omega⟩
 have hjl : j < (A.kids p).length := by omega
 have hb : (A.kids p).length ≤ A.n := Ar.pig _ _ (ful.toOk.one p) (fun y hy => (ful.toOk.kid_lt hy).1)
 obtain ⟨b7,o7,hk7,e7⟩ := (h.kid p hp).iv_at j hjl
 have hx' : (A.kids p)[j] < A.n := (ful.toOk.kid_lt (List.getElem_mem hjl)).1
 have hkj : (A.kids p)[j]? = some (A.kids p)[j] := List.getElem?_eq_getElem hjl
 have c5 := (h.seven hp).2.2.2.2.2.1
 rw [h.klen hp,hk7] at c5
 have hwr : IntKind.i64.wrap ((i : Int) - 1) = (j : Int) := by
  rw [hj]
  simp [IntKind.wrap,IntKind.bits,IntKind.signed]
  omega
 have i1 : (0 : Int) < (i : Int) := by omega
 have i2 : (0 : Int) ≤ (j : Int) := by omega
 have i3 : (j : Int) < ((A.kids p).length : Int) := by omega
 have eT : A.txt p i s = if (A.lb (A.kids p)[j]).kind = 4 then A.tell (A.kids p)[j] (4,(A.lb (A.kids p)[j]).ns,(A.lb (A.kids p)[j]).name,(A.lb (A.kids p)[j]).attrs,(A.lb (A.kids p)[j]).text ++ s) else (A.new (4,0,⟨#[]⟩,[],s)).put p i A.n := by
  unfold Ar.txt
  rw [if_neg (by omega),if_neg hi0,show i - 1 = j by omega,hkj]
 rw [eT]
 clear eT hkj
 generalize (A.kids p)[j] = x at *
 have y1 : (0 : Int) ≤ (x : Int) := by omega
 have y2 : (x : Int) < (A.n : Int) := by omega
 have s0x := (h.seven hx').1
 by_cases h4 : (A.lb x).kind = 4
 ·rw [if_pos h4]
  have s3 := (h.seven hx').2.2.2.1
  have hdg := h.ne
  have HZ : Hid (∀ U,Kp [] w U → (∀ j,U.frozen? ⟨g,j,none⟩ = false) ∧ ∃ tag',Dn tag' (U.setCell ⟨g,o + x * 7 + 3,none⟩ (.string ((A.lb x).text ++ s))) d q (A.tell x (4,(A.lb x).ns,(A.lb x).name,(A.lb x).attrs,(A.lb x).text ++ s)) ∧ Dv tag w tag' (U.setCell ⟨g,o + x * 7 + 3,none⟩ (.string ((A.lb x).text ++ s)))) := fun U kU => by
   have h1 := h.fresh kU
   refine ⟨h1.free,?_⟩
   have lx : (A.tell x (4,(A.lb x).ns,(A.lb x).name,(A.lb x).attrs,(A.lb x).text ++ s)).lb x = (4,(A.lb x).ns,(A.lb x).name,(A.lb x).attrs,(A.lb x).text ++ s) := if_pos rfl
   have ln : ∀ j,j ≠ x → (A.tell x (4,(A.lb x).ns,(A.lb x).name,(A.lb x).attrs,(A.lb x).text ++ s)).lb j = A.lb j := fun j hj => if_neg hj
   have h2 := h1.set (A' := A.tell x (4,(A.lb x).ns,(A.lb x).name,(A.lb x).attrs,(A.lb x).text ++ s)) (pl' := pl) hx' (k := 3) (by omega) (.string ((A.lb x).text ++ s)) rfl (by rw [lx]; simp [dl,Lb.kind,Lb.ns,Lb.name,Lb.text] at h4 ⊢; exact ⟨h4.symm,rfl⟩) (fun j hj hne => by rw [ln j hne]; rfl) (fun j hj => by
    by_cases e : j = x
    ·subst e; rw [lx]; exact h1.att j hj
    ·rw [ln j e]; exact h1.att j hj) h1.kid h1.kf
   exact dn_turn h (kpg (kU.mono (T := [g]) (fun x hx => by simp at hx)) _ _) ⟨pl,h2⟩
  rw [h4] at s0x
  have z9 := htx x
  generalize A.tell x (4,(A.lb x).ns,(A.lb x).name,(A.lb x).attrs,(A.lb x).text ++ s) = AP at *
  generalize (A.lb p).kind = kd at *
  generalize (A.lb x).text = tx at *
  have hS1 : (World.drew w).cell? ⟨d,0,none⟩ = some (.slice (some ⟨g,o,none⟩) A.n c) ∧ (World.drew w).cell? ⟨g,o + x * 7 + 3,none⟩ = some (.string tx) := ⟨c0,s3⟩
  generalize (A.kids p).length = m at *
  clear h ful HMk HPu hD0 h4 h2 htx hj hjl hk7 hi0 hi hb
  go_enter Tryz.func98,Tryz.ntmps98
  go_upto_region 4 with fail
  have z8 : ¬ 9223372036854775807 < tx.size + s.size := by omega
  obtain ⟨U0,hU0⟩ : ∃ V,V = w.drew := ⟨_,rfl⟩
  obtain ⟨fr,z7⟩ := HZ.out U0 (by rw [hU0]; exact (Kp.refl _ _).drew)
  have Z7 : Hid _ := z7
  clear z7
  refine wp_region_g (S := fun V => V.cell? ⟨d,0,none⟩ = some (.slice (some ⟨g,o,none⟩) A.n c) ∧ V.cell? ⟨g,o + x * 7 + 3,none⟩ = some (.string tx)) (T := [17]) (by kernel_rfl) hS1 (fun hHeld => ?_)
  rw [← hU0] at hHeld ⊢
  clear hU0
  refine g_pure 0 (some 47) (.move (.tmp 0)) ?_
  refine g_pure 1 (some 48) (.nilCheck (.tmp 47)) ?_
  refine g_pure 2 (some 49) (.fieldAddr 69 (.tmp 48) 0) ?_
  refine g_takeC 3 (some 50) (.load 67 (.tmp 49)) (by intro w hSw; (obtain ⟨q1,q2⟩ := hSw); go_simp; try with_reducible rfl) ?_
  refine g_pure 4 (some 51) (.move (.tmp 8)) ?_
  refine g_pure 5 (some 52) (.move (.tmp 0)) ?_
  refine g_pure 6 (some 53) (.nilCheck (.tmp 52)) ?_
  refine g_pure 7 (some 54) (.fieldAddr 69 (.tmp 53) 0) ?_
  refine g_takeC 8 (some 55) (.load 67 (.tmp 54)) (by intro w hSw; (obtain ⟨q1,q2⟩ := hSw); go_simp; try with_reducible rfl) ?_
  refine g_pure 9 (some 56) (.move (.tmp 8)) ?_
  refine g_pure 10 (some 57) (.indexAddr 67 (.tmp 55) (.tmp 56)) ?_
  refine g_pure 11 (some 58) (.fieldAddr 106 (.tmp 57) 3) ?_
  refine g_takeC 12 (some 59) (.load 9 (.tmp 58)) (by intro w hSw; (obtain ⟨q1,q2⟩ := hSw); go_simp; try with_reducible rfl) ?_
  refine g_pure 13 (some 60) (.move (.tmp 3)) ?_
  refine g_pure 14 (some 61) (.binOp .add 9 (.tmp 59) (.tmp 60) 9) ?_
  refine g_pure 15 (some 62) (.indexAddr 67 (.tmp 50) (.tmp 51)) ?_
  refine g_pure 16 (some 63) (.fieldAddr 106 (.tmp 62) 3) ?_
  refine wpAnyG_free (by kernel_rfl) ?_
  refine wpAny_ready (rs := [17]) (by kernel_rfl) (by simp) ?_
  refine AllReady.cons (o := ⟨none,.store 9 (.tmp 63) (.tmp 61),0,_,_,none⟩) rfl (fun K hK => ?_) AllReady.nil
  have c3 : U0.cell? ⟨g,o + x * 7 + 3,none⟩ = some (.string tx) := (show _ ∧ _ from hHeld).2
  go_simp
  refine hK _ _ ?_
  clear hK K
  try simp only [Act.put,pu1,pu2,pu3]
  refine wpAny_done (by kernel_rfl) ?_ _
  clear hHeld
  go_wp2
  (try simp only [Exit.inBlock,Exit.then]); refine bodyPost_ret (results_none rfl _ _ _) rfl ?_
  exact ⟨rfl,Z7.out⟩
 ·rw [if_neg h4]
  have t4 : ((A.lb x).kind == 4) = false := beq_false_of_ne h4
  generalize (A.lb p).kind = kd at *
  generalize (A.lb x).kind = kx at *
  generalize (A.kids p).length = m at *
  clear h ful hD0 h4 h2 htx hj hjl hk7 hi0 hi hb
  go_enter Tryz.func98,Tryz.ntmps98
  go_wp2_with (first | (go_at_call 51; refine (HMk.out _ (Kp.refl _ _)).mono ?_; rintro e w1 ⟨rfl,tag1,a1,v1⟩) | (go_at_call 96; refine (HPu.out _ _ a1 v1).mono ?_; rintro e w2 ⟨rfl,z2⟩))
  go_end0
  exact ⟨rfl,z2⟩
theorem rwrite_any (hD : Dn tag w d q A) (ful : A.Ful) (hn : A.n < 40000) (z : Int) (s : ByteArray) (hs : s.size ≤ 1000000) (htx : ∀ x,(A.lb x).text.size ≤ 900000) :
  Calls Tryz.prog 55 #[.pointer (some ⟨d,0,none⟩),.int .i64 z,.string s] w fun e w' => e = .returned (.int .i64 (A.wrF z s).2) ∧ ∃ tag',Dn tag' w' d q (A.wrF z s).1 ∧ Dv tag w tag' w' := by
 have hD0 : Hid (∃ tag',Dn tag' w d q A ∧ Dv tag w tag' w) := ⟨tag,hD,Dv.refl tag w⟩
 have hD1 := hD
 obtain ⟨g,o,c,pl,h⟩ := hD
 have HT := rthere_any h z
 cases hx : A.there z with
 | false =>
   have eF : A.wrF z s = (A,22) := by unfold Ar.wrF; rw [if_pos hx]
   rw [eF]
   rw [hx] at HT
   clear eF h hD1
   go_enter Tryz.func55,Tryz.ntmps55
   go_wp2_with (go_at_call 92; refine same_of (HT) ?_)
   go_ret
   exact ⟨rfl,hD0.out⟩
 | true =>
   rw [hx] at HT
   obtain ⟨x,rfl,hx'⟩ := there_nat hx
   have HH := rholds_any h x hx'
   have j1 : (0 : Int) ≤ (x : Int) := by omega
   have j2 : (x : Int) < (A.n : Int) := by omega
   cases hf : Ar.hld (A.lb x) with
   | false =>
     have eF : A.wrF (x : Int) s = (A,23) := by unfold Ar.wrF; rw [if_neg (by rw [hx]; simp),Int.toNat_natCast,if_pos hf]
     rw [eF]
     rw [hf] at HH
     clear eF h ful hD1
     go_enter Tryz.func55,Tryz.ntmps55
     go_wp2_with (first | (go_at_call 92; refine same_of (HT) ?_) | (go_at_call 93; refine same_of (HH) ?_))
     go_ret
     exact ⟨rfl,hD0.out⟩
   | true =>
     have eF : A.wrF (x : Int) s = (A.txt x (A.kids x).length s,0) := by unfold Ar.wrF; rw [if_neg (by rw [hx]; simp),Int.toNat_natCast,if_neg (by rw [hf]; simp)]
     rw [eF]
     rw [hf] at HH
     have HTx := rtext_any hD1 ful hn x (A.kids x).length hx' (Nat.le_refl _) s hs htx
     have c0 := h.head.1
     have c5 := (h.seven hx').2.2.2.2.2.1
     rw [h.klen hx'] at c5
     clear eF h ful hD1 hD0
     generalize A.txt x (A.kids x).length s = AP at *
     generalize (A.kids x).length = m at *
     go_enter Tryz.func55,Tryz.ntmps55
     go_wp2_with (first | (go_at_call 92; refine same_of (HT) ?_) | (go_at_call 93; refine same_of (HH) ?_) | (go_at_call 98; refine HTx.mono ?_; rintro e w2 ⟨rfl,z2⟩))
     go_ret
     exact ⟨rfl,z2⟩
theorem rwbef_any (hD : Dn tag w d q A) (ful : A.Ful) (hn : A.n < 40000) (z : Int) (s : ByteArray) (hs : s.size ≤ 1000000) (htx : ∀ x,(A.lb x).text.size ≤ 900000) :
  Calls Tryz.prog 56 #[.pointer (some ⟨d,0,none⟩),.int .i64 z,.string s] w fun e w' => e = .returned (.int .i64 (A.wbF z s).2) ∧ ∃ tag',Dn tag' w' d q (A.wbF z s).1 ∧ Dv tag w tag' w' := by
 have hD0 : Hid (∃ tag',Dn tag' w d q A ∧ Dv tag w tag' w) := ⟨tag,hD,Dv.refl tag w⟩
 have hD1 := hD
 obtain ⟨g,o,c,pl,h⟩ := hD
 have HT := rthere_any h z
 cases hx : A.there z with
 | false =>
   have eF : A.wbF z s = (A,22) := by unfold Ar.wbF; rw [if_pos hx]
   rw [eF]
   rw [hx] at HT
   clear eF h hD1
   go_enter Tryz.func56,Tryz.ntmps56
   go_wp2_with (go_at_call 92; refine same_of (HT) ?_)
   go_ret
   exact ⟨rfl,hD0.out⟩
 | true =>
   rw [hx] at HT
   obtain ⟨r,rfl,hr'⟩ := there_nat hx
   have HF := rfixed_any h r hr'
   have j1 : (0 : Int) ≤ (r : Int) := by omega
   have j2 : (r : Int) < (A.n : Int) := by omega
   have c0 := h.head.1
   have c6 := (h.seven hr').2.2.2.2.2.2
   cases hu : A.up r with
   | none =>
     have eF : A.wbF (r : Int) s = (A,23) := by unfold Ar.wbF; rw [if_neg (by rw [hx]; simp),Int.toNat_natCast,hu]
     rw [eF]
     rw [hu,show Ar.upI none = -1 from rfl] at c6
     clear eF h ful hD1
     cases hf : Ar.fix (A.lb r) with
     | true =>
       rw [hf] at HF
       go_enter Tryz.func56,Tryz.ntmps56
       go_wp2_with (first | (go_at_call 92; refine same_of (HT) ?_) | (go_at_call 94; refine same_of (HF) ?_))
       go_ret
       exact ⟨rfl,hD0.out⟩
     | false =>
       rw [hf] at HF
       go_enter Tryz.func56,Tryz.ntmps56
       go_wp2_with (first | (go_at_call 92; refine same_of (HT) ?_) | (go_at_call 94; refine same_of (HF) ?_))
       go_ret
       exact ⟨rfl,hD0.out⟩
   | some p =>
     rw [hu,show Ar.upI (some p) = (p : Int) from rfl] at c6
     have jp : ¬ (p : Int) < 0 := by omega
     cases hf : Ar.fix (A.lb r) with
     | true =>
       have eF : A.wbF (r : Int) s = (A,23) := by
        unfold Ar.wbF
        rw [if_neg (by rw [hx]; simp),Int.toNat_natCast,hu]
        exact if_pos hf
       rw [eF]
       rw [hf] at HF
       clear eF h ful hD1
       go_enter Tryz.func56,Tryz.ntmps56
       go_wp2_with (first | (go_at_call 92; refine same_of (HT) ?_) | (go_at_call 94; refine same_of (HF) ?_))
       go_ret
       exact ⟨rfl,hD0.out⟩
     | false =>
       have eF : A.wbF (r : Int) s = (A.txt p (A.place p r) s,0) := by
        unfold Ar.wbF
        rw [if_neg (by rw [hx]; simp),Int.toNat_natCast,hu]
        exact if_neg (by rw [hf]; simp)
       rw [eF]
       rw [hf] at HF
       have hp := (ful.toOk.lt hu).2
       have hpl := (Ar.place_lt ful.toOk hu).1
       have HPl : Hid (∀ V,Kp [] w V → Calls Tryz.prog 97 #[.pointer (some ⟨d,0,none⟩),.int .i64 (r : Int)] V fun e w' => e = .returned (.int .i64 (A.place p r : Int)) ∧ Kp [] V w') := fun V k => rplace_any (h.kept k) ful.toOk (by omega) r p hu
       have HTx : Hid (∀ V,Kp [] w V → Calls Tryz.prog 98 #[.pointer (some ⟨d,0,none⟩),.int .i64 (p : Int),.int .i64 (A.place p r : Int),.string s] V fun e w' => e = .returned (.tuple #[]) ∧ ∃ tag',Dn tag' w' d q (A.txt p (A.place p r) s) ∧ Dv tag w tag' w') := fun V k => by
        refine (rtext_any (hD1.kept k) ful hn p (A.place p r) hp (Nat.le_of_lt hpl) s hs htx).mono ?_
        rintro e w' ⟨rfl,tag',a,b⟩
        exact ⟨rfl,tag',a,(Dv.of_kp0 k).trans b⟩
       have HC : Hid (∀ V,Kp [] w V → V.cell? ⟨d,0,none⟩ = some (.slice (some ⟨g,o,none⟩) A.n c) ∧ V.cell? ⟨g,o + r * 7 + 6,none⟩ = some (.int .i64 (p : Int))) := fun V k => by
        have e6 := ((h.kept k).seven hr').2.2.2.2.2.2
        rw [hu] at e6
        exact ⟨(h.kept k).head.1,e6⟩
       clear h ful hD0 hD1 eF hpl
       generalize A.txt p (A.place p r) s = AP at *
       generalize A.place p r = m at *
       go_enter Tryz.func56,Tryz.ntmps56
       go_upto_region 5 with (first | (go_at_call 92; refine same_of (HT) ?_) | (go_at_call 94; refine same_of (HF) ?_))
       obtain ⟨U0,hU0⟩ : ∃ V,V = w.drew := ⟨_,rfl⟩
       have k0 : Kp [] w U0 := by rw [hU0]; exact (Kp.refl _ _).drew
       refine wp_region_g (S := fun V => V.cell? ⟨d,0,none⟩ = some (.slice (some ⟨g,o,none⟩) A.n c) ∧ V.cell? ⟨g,o + r * 7 + 6,none⟩ = some (.int .i64 (p : Int))) (T := [13]) (by kernel_rfl) (HC.out _ (Kp.refl _ _).drew) (fun hHeld => ?_)
       rw [← hU0] at hHeld ⊢
       clear hU0
       refine g_pure 0 (some 25) (.move (.tmp 0)) ?_
       refine g_pure 1 (some 26) (.move (.tmp 0)) ?_
       refine g_pure 2 (some 27) (.nilCheck (.tmp 26)) ?_
       refine g_pure 3 (some 28) (.fieldAddr 69 (.tmp 27) 0) ?_
       refine g_takeC 4 (some 29) (.load 67 (.tmp 28)) (by intro w hSw; (obtain ⟨q1,q2⟩ := hSw); go_simp; try with_reducible rfl) ?_
       refine g_pure 5 (some 30) (.move (.tmp 1)) ?_
       refine g_pure 6 (some 31) (.indexAddr 67 (.tmp 29) (.tmp 30)) ?_
       refine g_pure 7 (some 32) (.fieldAddr 106 (.tmp 31) 6) ?_
       refine g_takeC 8 (some 33) (.load 3 (.tmp 32)) (by intro w hSw; (obtain ⟨q1,q2⟩ := hSw); go_simp; try with_reducible rfl) ?_
       refine g_pure 9 (some 34) (.move (.tmp 0)) ?_
       refine g_pure 10 (some 35) (.move (.tmp 1)) ?_
       refine g_pure 12 (some 37) (.move (.tmp 2)) ?_
       refine wpAnyG_ready (rs := [11]) (by kernel_rfl) (by simp) ?_
       refine AllReadyG.cons (o := ⟨some 36,.call { callee := .value (.func 97),args := #[.tmp 34,.tmp 35],argTypes := #[63,3] },3,_,_,none⟩) rfl (fun K hK => ?_) AllReadyG.nil
       go_simp
       go_at_call 97
       refine (HPl.out _ k0).mono ?_
       rintro e U1 ⟨rfl,u1⟩
       go_wp2_with fail
       have k1 : Kp [] w U1 := k0.trans u1 (fun z hz => Or.inl hz)
       refine hK.out _ _ (HC.out _ k1) (fun hHeld1 => ?_)
       clear hK K hHeld
       try simp only [Act.put,pu1,pu2,pu3]
       refine wpAnyG_free (by kernel_rfl) ?_
       refine wpAny_ready (rs := [13]) (by kernel_rfl) (by simp) ?_
       refine AllReady.cons (o := ⟨some 38,.call { callee := .value (.func 98),args := #[.tmp 25,.tmp 33,.tmp 36,.tmp 37],argTypes := #[63,3,3,9] },0,_,_,none⟩) rfl (fun K hK => ?_) AllReady.nil
       go_simp
       go_at_call 98
       refine (HTx.out _ k1).mono ?_
       rintro e U2 ⟨rfl,z2⟩
       go_simp
       refine hK _ _ ?_
       clear hK K
       try simp only [Act.put,pu1,pu2,pu3]
       refine wpAny_done (by kernel_rfl) ?_ _
       have ZZ : Hid _ := z2
       clear z2
       go_wp2
       go_ret
       exact ⟨rfl,ZZ.out⟩
end
end Go.Proofs.YtpkppobkagdhkaaGreat
