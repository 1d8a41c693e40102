/-
 RdI RdJ.
-/
import Derived.Test.YtpkppobkagdhkaaGreatB32
set_option linter.unusedVariables false
set_option linter.unusedSimpArgs false
set_option maxRecDepth 100000
set_option maxHeartbeats 1000000
namespace Go.Proofs.YtpkppobkagdhkaaGreat
open Go.RowKit Go.Maps Utf
section
variable {tag : Nat → Nat} {w : World} {d : Nat} {q : Bool} {A : Ar}
theorem rbef_any (hD : Dn tag w d q A) (ful : A.Ful) (hn : A.n < 50000) (r x : Int) :
  Calls Tryz.prog 54 #[.pointer (some ⟨d,0,none⟩),.int .i64 r,.int .i64 x] w fun e w' => e = .returned (.int .i64 (A.befF r x).2) ∧ ∃ tag',Dn tag' w' d q (A.befF r x).1 ∧ Dv tag w tag' w' := by
 have hD0 : Hid (∃ tag',Dn tag' w d q A ∧ Dv tag w tag' w) := ⟨tag,hD,Dv.refl tag w⟩
 obtain ⟨g,o,c,pl,h⟩ := hD
 have HT : Hid (∀ z,Calls Tryz.prog 92 #[.pointer (some ⟨d,0,none⟩),.int .i64 z] w fun e w' => e = .returned (.bool (A.there z)) ∧ w' = w) := fun z => rthere_any h z
 by_cases h1 : A.there r = false ∨ A.there x = false
 ·have eF : A.befF r x = (A,22) := by unfold Ar.befF; rw [if_pos h1]
  rw [eF]
  clear eF h ful
  cases hr : A.there r with
  | false =>
    clear h1
    go_enter Tryz.func54,Tryz.ntmps54
    go_wp2_with (go_at_call 92; refine same_of (HT.out _) ?_)
    go_ret
    exact ⟨rfl,hD0.out⟩
  | true =>
    have hx : A.there x = false := h1.resolve_left (by rw [hr]; simp)
    clear h1
    go_enter Tryz.func54,Tryz.ntmps54
    go_wp2_with (go_at_call 92; refine same_of (HT.out _) ?_)
    go_ret
    exact ⟨rfl,hD0.out⟩
 ·have hr : A.there r = true := by cases e : A.there r with | true => rfl | false => exact absurd (.inl e) h1
  have hx : A.there x = true := by cases e : A.there x with | true => rfl | false => exact absurd (.inr e) h1
  obtain ⟨r,rfl,hr'⟩ := there_nat hr
  obtain ⟨x,rfl,hx'⟩ := there_nat hx
  have HFr : Hid (Calls Tryz.prog 94 #[.pointer (some ⟨d,0,none⟩),.int .i64 (r : Int)] w fun e w' => e = .returned (.bool (Ar.fix (A.lb r))) ∧ w' = w) := rfixed_any h r hr'
  have HF : Hid (∀ z : Nat,z < A.n → Calls Tryz.prog 94 #[.pointer (some ⟨d,0,none⟩),.int .i64 (z : Int)] w fun e w' => e = .returned (.bool (Ar.fix (A.lb z))) ∧ w' = w) := fun z hz => rfixed_any h z hz
  have HW := rwithin_any h ful.toOk r x hr'
  have c0 := h.head.1
  have c6 := (h.seven hx').2.2.2.2.2.2
  have c6r := (h.seven hr').2.2.2.2.2.2
  have j1 : (0 : Int) ≤ (x : Int) := by omega
  have j2 : (x : Int) < (A.n : Int) := by omega
  have j3 : (0 : Int) ≤ (r : Int) := by omega
  have j4 : (r : Int) < (A.n : Int) := by omega
  have eB : A.befF (r : Int) (x : Int) = (match A.up r with | none => (A,23) | some p => if Ar.fix (A.lb r) = true ∨ Ar.fix (A.lb x) = true then (A,23) else if A.up x ≠ none then (A,24) else if A.wn r x = true then (A,26) else (A.put p (A.place p r) x,0)) := by unfold Ar.befF; rw [if_neg h1]; simp only [Int.toNat_natCast]; rfl
  rw [eB]
  clear eB h1
  cases hfr : Ar.fix (A.lb r) with
  | true =>
    have eF : (match A.up r with | none => (A,(23 : Int)) | some p => if true = true ∨ Ar.fix (A.lb x) = true then (A,23) else if A.up x ≠ none then (A,24) else if A.wn r x = true then (A,26) else (A.put p (A.place p r) x,0)) = (A,23) := by
     cases A.up r with
     | none => rfl
     | some p => exact if_pos (.inl rfl)
    rw [eF]
    clear eF h ful HW c0 c6 c6r
    go_enter Tryz.func54,Tryz.ntmps54
    go_wp2_with (first | (go_at_call 92; refine same_of (HT.out _) ?_) | (go_at_call 94; refine same_of (HF.out _ (by assumption)) ?_))
    go_ret
    exact ⟨rfl,hD0.out⟩
  | false =>
    cases hur : A.up r with
    | none =>
      rw [hur,show Ar.upI none = -1 from rfl] at c6r
      clear h ful HW c6
      go_enter Tryz.func54,Tryz.ntmps54
      go_wp2_with (first | (go_at_call 92; refine same_of (HT.out _) ?_) | (go_at_call 94; refine same_of (HF.out _ (by assumption)) ?_))
      go_ret
      exact ⟨rfl,hD0.out⟩
    | some p =>
      rw [hur,show Ar.upI (some p) = (p : Int) from rfl] at c6r
      have jp : ¬ (p : Int) < 0 := by omega
      have hp := (ful.toOk.lt hur).2
      cases hfx : Ar.fix (A.lb x) with
      | true =>
        clear h ful HW c6
        go_enter Tryz.func54,Tryz.ntmps54
        go_wp2_with (first | (go_at_call 92; refine same_of (HT.out _) ?_) | (go_at_call 94; refine same_of (HF.out _ (by assumption)) ?_))
        go_ret
        exact ⟨by simp,by simpa using hD0.out⟩
      | false =>
        cases hu : A.up x with
        | some u =>
          rw [hu,show Ar.upI (some u) = (u : Int) from rfl] at c6
          have ju : (0 : Int) ≤ (u : Int) := by omega
          clear h ful HW
          go_enter Tryz.func54,Tryz.ntmps54
          go_wp2_with (first | (go_at_call 92; refine same_of (HT.out _) ?_) | (go_at_call 94; refine same_of (HF.out _ (by assumption)) ?_))
          go_ret
          exact ⟨by simp,by simpa using hD0.out⟩
        | none =>
          rw [hu,show Ar.upI none = -1 from rfl] at c6
          cases hw : A.wn r x with
          | true =>
            rw [hw] at HW
            clear h ful
            go_enter Tryz.func54,Tryz.ntmps54
            go_wp2_with (first | (go_at_call 92; refine same_of (HT.out _) ?_) | (go_at_call 94; refine same_of (HF.out _ (by assumption)) ?_) | (go_at_call 95; refine same_of (HW) ?_))
            go_ret
            exact ⟨by simp,by simpa using hD0.out⟩
          | false =>
            rw [hw] at HW
            simp only [Bool.false_eq_true,or_self,if_false,ne_eq,not_true_eq_false]
            have hpl := (Ar.place_lt ful.toOk hur).1
            have HPl : Hid (∀ V,Kp [] w V → Calls Tryz.prog 97 #[.pointer (some ⟨d,0,none⟩),.int .i64 (r : Int)] V fun e w' => e = .returned (.int .i64 (A.place p r : Int)) ∧ Kp [] V w') := fun V k => rplace_any (h.kept k) ful.toOk hn r p hur
            have HPu : Hid (∀ V,Kp [] w V → Calls Tryz.prog 96 #[.pointer (some ⟨d,0,none⟩),.int .i64 (p : Int),.int .i64 (A.place p r : Int),.int .i64 (x : Int)] V fun e w' => e = .returned (.tuple #[]) ∧ (w'.cell? ⟨d,0,none⟩ = some (.slice (some ⟨g,o,none⟩) A.n c) ∧ w'.cell? ⟨g,o + r * 7 + 6,none⟩ = some (.int .i64 (p : Int))) ∧ ∃ tag',Dn tag' w' d q (A.put p (A.place p r) x) ∧ Dv tag w tag' w') := fun V k => by
             refine (rput_any (h.kept k) ful.toOk hn p x _ hp hx' (Nat.le_of_lt hpl)).mono ?_
             rintro e w' ⟨rfl,k1,h1⟩
             have hrx : r ≠ x := fun e => by rw [e,hu] at hur; cases hur
             have hS8 : (w'.cell? ⟨d,0,none⟩ = some (.slice (some ⟨g,o,none⟩) A.n c) ∧ w'.cell? ⟨g,o + r * 7 + 6,none⟩ = some (.int .i64 (p : Int))) := by
              obtain ⟨pl',h2⟩ := h1
              have e6 := (h2.seven (i := r) hr').2.2.2.2.2.2
              rw [show (A.put p (A.place p r) x).up r = some p from (if_neg hrx).trans hur] at e6
              exact ⟨h2.head.1,e6⟩
             obtain ⟨tag',a,b⟩ := dn_turn (h.kept k) k1 h1
             exact ⟨rfl,hS8,tag',a,(Dv.of_kp k (fun x hx => by simp at hx) (fun _ _ => rfl)).trans b⟩
            have HC : Hid (∀ V,Kp [] w V → V.cell? ⟨d,0,none⟩ = some (.slice (some ⟨g,o,none⟩) A.n c) ∧ V.cell? ⟨g,o + r * 7 + 6,none⟩ = some (.int .i64 (p : Int))) := fun V k => by
             have e6 := ((h.kept k).seven hr').2.2.2.2.2.2
             rw [hur] at e6
             exact ⟨(h.kept k).head.1,e6⟩
            have hS9 : (World.drew w).cell? ⟨d,0,none⟩ = some (.slice (some ⟨g,o,none⟩) A.n c) ∧ (World.drew w).cell? ⟨g,o + r * 7 + 6,none⟩ = some (.int .i64 (p : Int)) := ⟨c0,c6r⟩
            clear h ful hD0 hpl
            generalize A.place p r = m at *
            generalize A.put p m x = AP at *
            go_enter Tryz.func54,Tryz.ntmps54
            go_upto_region 9 with (first | (go_at_call 92; refine same_of (HT.out _) ?_) | (go_at_call 94; refine same_of (HF.out _ (by assumption)) ?_) | (go_at_call 95; refine same_of (HW) ?_))
            obtain ⟨U0,hU0⟩ : ∃ V,V = w.drew := ⟨_,rfl⟩
            have k0 : Kp [] w U0 := by rw [hU0]; exact (Kp.refl _ _).drew
            refine wp_region_g (S := fun V => V.cell? ⟨d,0,none⟩ = some (.slice (some ⟨g,o,none⟩) A.n c) ∧ V.cell? ⟨g,o + r * 7 + 6,none⟩ = some (.int .i64 (p : Int))) (T := []) (by kernel_rfl) hS9 (fun hHeld => ?_)
            rw [← hU0] at hHeld ⊢
            clear hU0
            refine g_pure 0 (some 53) (.move (.tmp 0)) ?_
            refine g_pure 1 (some 54) (.move (.tmp 0)) ?_
            refine g_pure 2 (some 55) (.nilCheck (.tmp 54)) ?_
            refine g_pure 3 (some 56) (.fieldAddr 69 (.tmp 55) 0) ?_
            refine g_take 4 (some 57) (.load 67 (.tmp 56)) (by intro w hSw; (obtain ⟨q1,q2⟩ := hSw); go_simp; try with_reducible rfl) ?_
            refine g_pure 5 (some 58) (.move (.tmp 1)) ?_
            refine g_pure 6 (some 59) (.indexAddr 67 (.tmp 57) (.tmp 58)) ?_
            refine g_pure 7 (some 60) (.fieldAddr 106 (.tmp 59) 6) ?_
            refine g_take 8 (some 61) (.load 3 (.tmp 60)) (by intro w hSw; (obtain ⟨q1,q2⟩ := hSw); go_simp; try with_reducible rfl) ?_
            refine g_pure 9 (some 62) (.move (.tmp 0)) ?_
            refine g_pure 10 (some 63) (.move (.tmp 1)) ?_
            refine g_pure 12 (some 65) (.move (.tmp 2)) ?_
            refine wpAnyG_ready (rs := [11]) (by kernel_rfl) (by simp) ?_
            refine AllReadyG.cons (o := ⟨some 64,.call { callee := .value (.func 97),args := #[.tmp 62,.tmp 63],argTypes := #[63,3] },3,_,_,none⟩) rfl (fun K hK => ?_) AllReadyG.nil
            go_simp
            go_at_call 97
            refine (HPl.out _ k0).mono ?_
            rintro e U1 ⟨rfl,u1⟩
            go_wp2_with fail
            have k1 : Kp [] w U1 := k0.trans u1 (fun z hz => Or.inl hz)
            refine hK.out _ _ (HC.out _ k1) (fun hHeld1 => ?_)
            clear hK K hHeld
            try simp only [Act.put,pu1,pu2,pu3]
            refine wpAnyG_ready (rs := [13]) (by kernel_rfl) (by simp) ?_
            refine AllReadyG.cons (o := ⟨some 66,.call { callee := .value (.func 96),args := #[.tmp 53,.tmp 61,.tmp 64,.tmp 65],argTypes := #[63,3,3,3] },0,_,_,none⟩) rfl (fun K hK => ?_) AllReadyG.nil
            go_simp
            go_at_call 96
            refine (HPu.out _ k1).mono ?_
            rintro e U2 ⟨rfl,z8,z9⟩
            go_wp2_with fail
            refine hK.out _ _ z8 (fun hHeld2 => ?_)
            clear hK K hHeld1
            try simp only [Act.put,pu1,pu2,pu3]
            refine wpAnyG_free (by kernel_rfl) ?_
            refine wpAny_done (by kernel_rfl) ?_ _
            have ZZ : Hid (∃ tag',Dn tag' _ d q AP ∧ Dv tag w tag' _) := z9
            clear z9
            go_wp2
            go_ret
            exact ⟨rfl,ZZ.out⟩
end
section
variable {tag : Nat → Nat} {w : World} {d : Nat} {q : Bool} {A : Ar}
theorem Dv.of_kp0 {w w' : World} {tag : Nat → Nat} (k : Kp [] w w') : Dv tag w tag w' := Dv.of_kp k (fun x hx => by simp at hx) (fun _ _ => rfl)
theorem Dn.kept {w' : World} (h : Dn tag w d q A) (k : Kp [] w w') : Dn tag w' d q A := by
 obtain ⟨g,o,c,pl,h⟩ := h
 exact ⟨g,o,c,pl,h.kept k⟩
theorem Ar.there_of {x : Nat} (hx : x < A.n) : A.there (x : Int) = true := by unfold Ar.there; exact decide_eq_true (by omega)
theorem Rk.dv {tag' : Nat → Nat} {w' : World} {K : Nat} {ao : Option Addr} {n c : Nat} {xs : List Value} (r : Rk (Q5 tag) K w ao n c xs) (v : Dv tag w tag' w') : Rk (Q5 tag') K w' ao n c xs := by
 refine ⟨r.len,r.cap,fun hn => ?_⟩
 obtain ⟨b,off,cur,t,hq,e1,e2,e3⟩ := r.at' hn
 have hl := lt_of e2
 have h5 : tag b = 5 := hq
 exact ⟨b,off,cur,t,(v.tg b hl).trans h5,e1,by rw [v.block b hl (by omega) (by omega)]; exact e2,e3⟩
theorem rmov_all (hD : Dn tag w d q A) (ful : A.Ful) (hn : A.n < 50000) (f t : Nat) (hf : f < A.n) (ht : t < A.n) (h1 : Ar.hld (A.lb f) = true) (h2 : Ar.hld (A.lb t) = true) (hw : A.wn t f = false) :
  Calls Tryz.prog 58 #[.pointer (some ⟨d,0,none⟩),.int .i64 (f : Int),.int .i64 (t : Int)] w fun e w' => e = .returned (.int .i64 0) ∧ ∃ tag',Dn tag' w' d q (A.movs t (A.kids f)) ∧ Dv tag w tag' w' := by
 have ok := ful.toOk
 have hD0 := hD
 obtain ⟨g,o,c,pl,h⟩ := hD
 have HT : Hid (∀ z,A.there z = true → Calls Tryz.prog 92 #[.pointer (some ⟨d,0,none⟩),.int .i64 z] w fun e w' => e = .returned (.bool true) ∧ w' = w) := fun z hz => by rw [← hz]; exact rthere_any h z
 have tf := Ar.there_of hf
 have tt := Ar.there_of ht
 have HH : Hid (∀ z : Nat,z < A.n → Ar.hld (A.lb z) = true → Calls Tryz.prog 93 #[.pointer (some ⟨d,0,none⟩),.int .i64 (z : Int)] w fun e w' => e = .returned (.bool true) ∧ w' = w) := fun z hz hh => by rw [← hh]; exact rholds_any h z hz
 have HW := rwithin_any h ok t f ht
 rw [hw] at HW
 have c0 := h.head.1
 have c5 := (h.seven hf).2.2.2.2.2.1
 rw [h.klen hf] at c5
 have j1 : (0 : Int) ≤ (f : Int) := by omega
 have j2 : (f : Int) < (A.n : Int) := by omega
 have j3 : (0 : Int) ≤ (t : Int) := by omega
 have j4 : (t : Int) < (A.n : Int) := by omega
 have HK : Hid (∀ tag' V,Dv tag w tag' V → ∀ i (hi : i < (A.kids f).length),∃ b7 o7,(pl f).2.1 = some ⟨b7,o7,none⟩ ∧ V.cell? ⟨b7,o7 + i,none⟩ = some (.int .i64 ((A.kids f)[i] : Int))) := fun tag' V v i hi => ((h.kid f hf).dv v).iv_at i hi
 have MV0 : Hid (Mvd A A f t (A.kids f) 0) := ⟨ful,rfl,rfl,by rw [List.drop_zero],fun y hy => by rw [List.drop_zero] at hy; exact (ok.link f y).1 hy,Ar.wn_false ok ht hw⟩
 have hnd := ok.one f
 have hlen : (A.kids f).length ≤ A.n := Ar.pig _ _ hnd (fun y hy => (ok.kid_lt hy).1)
 have hkl : ∀ y,y ∈ A.kids f → y < A.n ∧ y ≠ 0 := fun y hy => ⟨(ok.kid_lt hy).1,fun e => by
  have := (ok.link f y).1 hy
  rw [e,ok.top] at this; cases this⟩
 have hdoc : ∀ y,y < A.n → y ≠ 0 → (A.lb y).kind ≠ 1 := fun y h3 h4 e => h4 ((ful.doc y h3).1 e)
 obtain ⟨T9,hT9⟩ : ∃ T,A.movs t (A.kids f) = T := ⟨_,rfl⟩
 rw [hT9]
 have hT : Hid (A.movs t (A.kids f) = T9) := hT9
 have hDv : Hid (Dn tag w d q A ∧ Dv tag w tag w) := ⟨hD0,Dv.refl _ _⟩
 clear hT9 h hD0 ok
 generalize (pl f).2.1 = ko at *
 generalize (pl f).2.2.2 = kc at *
 generalize A.kids f = ks at *
 go_enter Tryz.func58,Tryz.ntmps58
 go_wp2_with (first | (go_at_call 92; refine same_of (HT.out _ (by assumption)) ?_) | (go_at_call 93; refine same_of (HH.out _ (by assumption) (by assumption)) ?_) | (go_at_call 95; refine same_of (HW) ?_))
 clear HT HH HW c0 c5 tf tt
 go_loopw [8] (fun i wr => ∃ (k : Nat) (B : Ar) (tag' : Nat → Nat),k ≤ ks.length ∧ i = .int .i64 (k : Int) ∧ Mvd A B f t ks k ∧ Dn tag' wr d q B ∧ Dv tag w tag' wr) (fun i _ => ks.length - (intOf i).toNat)
 case atStart => exact ⟨0,A,tag,Nat.zero_le _,rfl,MV0.out,hDv.out.1,hDv.out.2⟩
 case round =>
  obtain ⟨k,B,tag',hk,rfl,mv,dn,dv⟩ := hrel
  clear MV0 hDv
  by_cases hlt : k < ks.length
  ·obtain ⟨b7,o7,rfl,h3⟩ := HK.out _ _ dv k hlt
   have hk1 : (k : Int) < (ks.length : Int) := by omega
   have hk0 : (0 : Int) ≤ (k : Int) := by omega
   obtain ⟨hy1,hy2⟩ := hkl ks[k] (List.getElem_mem hlt)
   have hd1 := hdoc _ hy1 hy2
   have dn0 := dn
   obtain ⟨g,o,c,pl',h⟩ := dn
   have s0 := (h.seven (i := ks[k]) (by rw [mv.n]; exact hy1)).1
   rw [mv.lb] at s0
   have c0 := h.head.1
   rw [mv.n] at c0
   have y1 : (0 : Int) ≤ (ks[k] : Int) := by omega
   have y2 : (ks[k] : Int) < (A.n : Int) := by omega
   by_cases h6 : (A.lb ks[k]).kind = 6
   ·have mv2 : Hid (Mvd A B f t ks (k + 1)) := mv.skip hlt h6
    have dn2 : Hid (Dn tag' wr.drew d q B ∧ Dv tag w tag' wr.drew) := ⟨dn0.kept (Kp.refl _ _).drew,dv.trans (Dv.of_kp0 (Kp.refl _ _).drew)⟩
    rw [h6] at s0
    clear mv dn0 dv h h6 hd1 HK hy1 hy2
    generalize ks[k] = y at *
    have hS1 : (World.drew wr).cell? ⟨d,0,none⟩ = some (.slice (some ⟨g,o,none⟩) A.n c) ∧ (World.drew wr).cell? ⟨b7,o7 + k,none⟩ = some (.int .i64 (y : Int)) ∧ (World.drew wr).cell? ⟨g,o + y * 7,none⟩ = some (.int .i64 6) := ⟨c0,h3,s0⟩
    go_upto_region 11 with fail
    refine wp_region_g (S := fun V => V.cell? ⟨d,0,none⟩ = some (.slice (some ⟨g,o,none⟩) A.n c) ∧ V.cell? ⟨b7,o7 + k,none⟩ = some (.int .i64 (y : Int)) ∧ V.cell? ⟨g,o + y * 7,none⟩ = some (.int .i64 6)) (T := []) (by kernel_rfl) hS1 (fun hHeld => ?_)
    refine g_pure 0 (some 47) (.move (.tmp 0)) ?_
    refine g_pure 1 (some 48) (.nilCheck (.tmp 47)) ?_
    refine g_pure 2 (some 49) (.fieldAddr 69 (.tmp 48) 0) ?_
    refine g_take 3 (some 50) (.load 67 (.tmp 49)) (by intro w hSw; (obtain ⟨q1,q2,q3⟩ := hSw); go_simp; try with_reducible rfl) ?_
    refine g_pure 4 (some 51) (.move (.tmp 7)) ?_
    refine g_pure 5 (some 52) (.move (.tmp 8)) ?_
    refine g_pure 6 (some 53) (.indexAddr 61 (.tmp 51) (.tmp 52)) ?_
    refine g_take 7 (some 54) (.load 3 (.tmp 53)) (by intro w hSw; (obtain ⟨q1,q2,q3⟩ := hSw); go_simp; try with_reducible rfl) ?_
    refine g_pure 8 (some 55) (.indexAddr 67 (.tmp 50) (.tmp 54)) ?_
    refine g_pure 9 (some 56) (.fieldAddr 106 (.tmp 55) 0) ?_
    refine g_take 10 (some 57) (.load 3 (.tmp 56)) (by intro w hSw; (obtain ⟨q1,q2,q3⟩ := hSw); go_simp; try with_reducible rfl) ?_
    refine g_pure 11 (some 58) (.binOp .neq 3 (.tmp 57) (.const (.int .i64 6)) 3) ?_
    refine wpAnyG_free (by kernel_rfl) ?_
    refine wpAny_done (by kernel_rfl) ?_ _
    clear hS1
    go_wp2
    go_roundw
    case rel => exact ⟨k + 1,B,tag',by omega,by go_num,mv2.out,dn2.out.1,dn2.out.2⟩
    case measure => simp [intOf]; omega
   ·have hfx : Ar.fix (A.lb ks[k]) = false := by simp [Ar.fix,hd1,h6]
    have mv2 : Hid (Mvd A (B.shift t ks[k]) f t ks (k + 1)) := mv.step hnd hlt hfx ht h2
    have hub : B.up ks[k] = some f := mv.ups _ (by rw [List.drop_eq_getElem_cons hlt]; exact List.mem_cons_self ..)
    have eD : B.detF (ks[k] : Int) = (B.cut ks[k],0) := by
     unfold Ar.detF
     rw [if_neg (by rw [Ar.there_of (by rw [mv.n]; exact hy1)]; simp),Int.toNat_natCast,if_neg (by rw [mv.lb,hfx]; simp)]
    have HDt : Hid (∀ V,Kp [] wr V → Calls Tryz.prog 57 #[.pointer (some ⟨d,0,none⟩),.int .i64 (ks[k] : Int)] V fun e w' => e = .returned (.int .i64 0) ∧ ∃ tag5,Dn tag5 w' d q (B.cut ks[k]) ∧ Dv tag w tag5 w') := fun V kV => by
     have := rdet_any (dn0.kept kV) mv.ful (by rw [mv.n]; exact hn) (ks[k] : Int)
     rw [eD] at this
     refine this.mono ?_
     rintro e w5 ⟨rfl,tag5,a5,v5⟩
     exact ⟨rfl,tag5,a5,(dv.trans (Dv.of_kp0 kV)).trans v5⟩
    have HPu : Hid (∀ tag5 V g5 o5 c5 pl5,Dd tag5 V d g5 o5 c5 q (B.cut ks[k]) pl5 → Dv tag w tag5 V → Calls Tryz.prog 96 #[.pointer (some ⟨d,0,none⟩),.int .i64 (t : Int),.int .i64 (((B.cut ks[k]).kids t).length : Int),.int .i64 (ks[k] : Int)] V fun e w' => e = .returned (.tuple #[]) ∧ ∃ tag6,Dn tag6 w' d q (B.shift t ks[k]) ∧ Dv tag w tag6 w') := fun tag5 V g5 o5 c5 pl5 h5 v5 => by
     refine (rput_any h5 (mv.ful.toOk.cut _) (by show B.n < _; rw [mv.n]; exact hn) t ks[k] _ (by show t < B.n; rw [mv.n]; exact ht) (by show ks[k] < B.n; rw [mv.n]; exact hy1) (Nat.le_refl _)).mono ?_
     rintro e w6 ⟨rfl,k6,h6⟩
     obtain ⟨tag6,a6,v6⟩ := dn_turn h5 k6 h6
     exact ⟨rfl,tag6,a6,v5.trans v6⟩
    have HQ : Hid (∀ tag5 V,Dn tag5 V d q (B.cut ks[k]) → ∃ g5 o5 c5 pl5,Dd tag5 V d g5 o5 c5 q (B.cut ks[k]) pl5 ∧ V.cell? ⟨d,0,none⟩ = some (.slice (some ⟨g5,o5,none⟩) A.n c5) ∧ V.cell? ⟨g5,o5 + t * 7 + 5,none⟩ = some (.slice (pl5 t).2.1 ((B.cut ks[k]).kids t).length (pl5 t).2.2.2)) := fun tag5 V dn5 => by
     obtain ⟨g5,o5,c5,pl5,h5⟩ := dn5
     have ht5 : t < (B.cut ks[k]).n := by show t < B.n; rw [mv.n]; exact ht
     have e5 := (h5.seven ht5).2.2.2.2.2.1
     rw [h5.klen ht5] at e5
     have e0 := h5.head.1
     rw [show (B.cut ks[k]).n = A.n from mv.n] at e0
     exact ⟨g5,o5,c5,pl5,h5,e0,e5⟩
    have HK2 : Hid (∀ tag' V,Dv tag w tag' V → V.cell? ⟨b7,o7 + k,none⟩ = some (.int .i64 (ks[k] : Int))) := fun tag5 V v5 => by
     obtain ⟨b8,o8,e8,e9⟩ := HK.out _ _ v5 k hlt
     simp only [Option.some.injEq,Addr.mk.injEq] at e8
     obtain ⟨rfl,rfl,_⟩ := e8
     exact e9
    have b6 : ((A.lb ks[k]).kind != 6) = true := by simpa using h6
    have dvz : Hid (Dv tag w tag' wr.drew) := dv.trans (Dv.of_kp0 (Kp.refl _ _).drew)
    clear mv dn0 dv h h6 hd1 hub eD hfx
    generalize ks[k] = y at *
    generalize (A.lb y).kind = kd at *
    have hS1 : (World.drew wr).cell? ⟨d,0,none⟩ = some (.slice (some ⟨g,o,none⟩) A.n c) ∧ (World.drew wr).cell? ⟨b7,o7 + k,none⟩ = some (.int .i64 (y : Int)) ∧ (World.drew wr).cell? ⟨g,o + y * 7,none⟩ = some (.int .i64 kd) := ⟨c0,h3,s0⟩
    go_upto_region 11 with fail
    refine wp_region_g (S := fun V => V.cell? ⟨d,0,none⟩ = some (.slice (some ⟨g,o,none⟩) A.n c) ∧ V.cell? ⟨b7,o7 + k,none⟩ = some (.int .i64 (y : Int)) ∧ V.cell? ⟨g,o + y * 7,none⟩ = some (.int .i64 kd)) (T := []) (by kernel_rfl) hS1 (fun hHeld => ?_)
    refine g_pure 0 (some 47) (.move (.tmp 0)) ?_
    refine g_pure 1 (some 48) (.nilCheck (.tmp 47)) ?_
    refine g_pure 2 (some 49) (.fieldAddr 69 (.tmp 48) 0) ?_
    refine g_take 3 (some 50) (.load 67 (.tmp 49)) (by intro w hSw; (obtain ⟨q1,q2,q3⟩ := hSw); go_simp; try with_reducible rfl) ?_
    refine g_pure 4 (some 51) (.move (.tmp 7)) ?_
    refine g_pure 5 (some 52) (.move (.tmp 8)) ?_
    refine g_pure 6 (some 53) (.indexAddr 61 (.tmp 51) (.tmp 52)) ?_
    refine g_take 7 (some 54) (.load 3 (.tmp 53)) (by intro w hSw; (obtain ⟨q1,q2,q3⟩ := hSw); go_simp; try with_reducible rfl) ?_
    refine g_pure 8 (some 55) (.indexAddr 67 (.tmp 50) (.tmp 54)) ?_
    refine g_pure 9 (some 56) (.fieldAddr 106 (.tmp 55) 0) ?_
    refine g_take 10 (some 57) (.load 3 (.tmp 56)) (by intro w hSw; (obtain ⟨q1,q2,q3⟩ := hSw); go_simp; try with_reducible rfl) ?_
    refine g_pure 11 (some 58) (.binOp .neq 3 (.tmp 57) (.const (.int .i64 6)) 3) ?_
    refine wpAnyG_free (by kernel_rfl) ?_
    refine wpAny_done (by kernel_rfl) ?_ _
    clear hS1 c0 s0
    have kd0 : Kp [] wr wr.drew := (Kp.refl _ _).drew
    have h3 := HK2.out _ _ dvz.out
    go_upto_region 13 with (go_at_call 57; refine (HDt.out _ kd0).mono ?_; rintro e w5 ⟨rfl,tag5,a5,v5⟩)
    clear h3
    obtain ⟨g5,o5,c5,pl5,h5,e0,e5⟩ := HQ.out _ _ a5
    have h3 := HK2.out _ _ v5
    have HP5 : Hid (∀ V,Kp [] w5 V → Calls Tryz.prog 96 #[.pointer (some ⟨d,0,none⟩),.int .i64 (t : Int),.int .i64 (((B.cut y).kids t).length : Int),.int .i64 (y : Int)] V fun e w' => e = .returned (.tuple #[]) ∧ ∃ tag6,Dn tag6 w' d q (B.shift t y) ∧ Dv tag w tag6 w') := fun V kV => HPu.out _ _ _ _ _ _ (h5.kept kV) (v5.trans (Dv.of_kp0 kV))
    clear HPu HQ HDt h5 a5 v5
    generalize (pl5 t).2.1 = ko5 at *
    generalize (pl5 t).2.2.2 = kc5 at *
    generalize ((B.cut y).kids t).length = m5 at *
    have hS1 : (World.drew w5).cell? ⟨d,0,none⟩ = some (.slice (some ⟨g5,o5,none⟩) A.n c5) ∧ (World.drew w5).cell? ⟨b7,o7 + k,none⟩ = some (.int .i64 (y : Int)) ∧ (World.drew w5).cell? ⟨g5,o5 + t * 7 + 5,none⟩ = some (.slice ko5 m5 kc5) := ⟨e0,h3,e5⟩
    clear e0 h3 e5
    have k5 : Kp [] w5 w5.drew := (Kp.refl _ _).drew
    refine wp_region_g (S := fun V => V.cell? ⟨d,0,none⟩ = some (.slice (some ⟨g5,o5,none⟩) A.n c5) ∧ V.cell? ⟨b7,o7 + k,none⟩ = some (.int .i64 (y : Int)) ∧ V.cell? ⟨g5,o5 + t * 7 + 5,none⟩ = some (.slice ko5 m5 kc5)) (T := [15]) (by kernel_rfl) hS1 (fun hHeld => ?_)
    refine g_pure 0 (some 65) (.move (.tmp 0)) ?_
    refine g_pure 1 (some 66) (.move (.tmp 2)) ?_
    refine g_pure 2 (some 67) (.move (.tmp 0)) ?_
    refine g_pure 3 (some 68) (.nilCheck (.tmp 67)) ?_
    refine g_pure 4 (some 69) (.fieldAddr 69 (.tmp 68) 0) ?_
    refine g_takeC 5 (some 70) (.load 67 (.tmp 69)) (by intro w hSw; (obtain ⟨q1,q2,q3⟩ := hSw); go_simp; try with_reducible rfl) ?_
    refine g_pure 6 (some 71) (.move (.tmp 2)) ?_
    refine g_pure 7 (some 72) (.indexAddr 67 (.tmp 70) (.tmp 71)) ?_
    refine g_pure 8 (some 73) (.fieldAddr 106 (.tmp 72) 5) ?_
    refine g_takeC 9 (some 74) (.load 61 (.tmp 73)) (by intro w hSw; (obtain ⟨q1,q2,q3⟩ := hSw); go_simp; try with_reducible rfl) ?_
    refine g_pure 10 (some 75) (.call { callee := .builtin .len,args := #[.tmp 74],argTypes := #[61] }) ?_
    refine g_pure 11 (some 76) (.move (.tmp 7)) ?_
    refine g_pure 12 (some 77) (.move (.tmp 8)) ?_
    refine g_pure 13 (some 78) (.indexAddr 61 (.tmp 76) (.tmp 77)) ?_
    refine g_takeC 14 (some 79) (.load 3 (.tmp 78)) (by intro w hSw; (obtain ⟨q1,q2,q3⟩ := hSw); go_simp; try with_reducible rfl) ?_
    refine wpAnyG_free (by kernel_rfl) ?_
    refine wpAny_ready (rs := [15]) (by kernel_rfl) (by simp) ?_
    refine AllReady.cons (o := ⟨some 80,.call { callee := .value (.func 96),args := #[.tmp 65,.tmp 66,.tmp 75,.tmp 79],argTypes := #[63,3,3,3] },0,_,_,none⟩) rfl (fun K hK => ?_) AllReady.nil
    go_simp
    go_at_call 96
    refine (HP5.out _ k5).mono ?_
    rintro e w6 ⟨rfl,tag6,a6,v6⟩
    go_simp
    refine hK _ _ ?_
    clear hK K
    try simp only [Act.put,pu1,pu2,pu3]
    refine wpAny_done (by kernel_rfl) ?_ _
    clear hS1
    go_wp2
    go_roundw
    case rel => exact ⟨k + 1,_,tag6,by omega,by go_num,mv2.out,a6,v6⟩
    case measure => simp [intOf]; omega
  ·obtain rfl : k = ks.length := by omega
   have e9 : Hid (B = A.movs t ks) := by have := mv.rest; rw [List.drop_length] at this; exact this
   have r9 : Hid (∃ tag',Dn tag' wr d q B ∧ Dv tag w tag' wr) := ⟨_,dn,dv⟩
   clear mv dn dv HK
   go_wp2
   go_ret
   exact ⟨rfl,by rw [← hT.out,← e9.out]; exact r9.out⟩
theorem rmovF (hD : Dn tag w d q A) (ful : A.Ful) (hn : A.n < 50000) (f t : Int) :
  Calls Tryz.prog 58 #[.pointer (some ⟨d,0,none⟩),.int .i64 f,.int .i64 t] w fun e w' => e = .returned (.int .i64 (A.movF f t).2) ∧ ∃ tag',Dn tag' w' d q (A.movF f t).1 ∧ Dv tag w tag' w' := by
 have hD0 : Hid (∃ tag',Dn tag' w d q A ∧ Dv tag w tag' w) := ⟨tag,hD,Dv.refl tag w⟩
 have hD1 := hD
 obtain ⟨g,o,c,pl,h⟩ := hD
 have HT : Hid (∀ z,Calls Tryz.prog 92 #[.pointer (some ⟨d,0,none⟩),.int .i64 z] w fun e w' => e = .returned (.bool (A.there z)) ∧ w' = w) := fun z => rthere_any h z
 by_cases h1 : A.there f = false ∨ A.there t = false
 ·have eF : A.movF f t = (A,22) := by unfold Ar.movF; rw [if_pos h1]
  rw [eF]
  clear eF h ful hD1
  cases hp : A.there f with
  | false =>
    clear h1
    go_enter Tryz.func58,Tryz.ntmps58
    go_wp2_with (go_at_call 92; refine same_of (HT.out _) ?_)
    go_ret
    exact ⟨rfl,hD0.out⟩
  | true =>
    have hx : A.there t = false := h1.resolve_left (by rw [hp]; simp)
    clear h1
    go_enter Tryz.func58,Tryz.ntmps58
    go_wp2_with (go_at_call 92; refine same_of (HT.out _) ?_)
    go_ret
    exact ⟨rfl,hD0.out⟩
 ·have hp : A.there f = true := by cases e : A.there f with | true => rfl | false => exact absurd (.inl e) h1
  have hx : A.there t = true := by cases e : A.there t with | true => rfl | false => exact absurd (.inr e) h1
  obtain ⟨f,rfl,hf'⟩ := there_nat hp
  obtain ⟨t,rfl,ht'⟩ := there_nat hx
  have HH : Hid (∀ z : Nat,z < A.n → Calls Tryz.prog 93 #[.pointer (some ⟨d,0,none⟩),.int .i64 (z : Int)] w fun e w' => e = .returned (.bool (Ar.hld (A.lb z))) ∧ w' = w) := fun z hz => rholds_any h z hz
  have HW := rwithin_any h ful.toOk t f ht'
  by_cases h2 : Ar.hld (A.lb f) = false ∨ Ar.hld (A.lb t) = false
  ·have eF : A.movF (f : Int) (t : Int) = (A,23) := by unfold Ar.movF; rw [if_neg h1,Int.toNat_natCast,Int.toNat_natCast,if_pos h2]
   rw [eF]
   clear eF h ful HW h1 hD1
   cases e2 : Ar.hld (A.lb f) with
   | false =>
     clear h2
     go_enter Tryz.func58,Tryz.ntmps58
     go_wp2_with (first | (go_at_call 92; refine same_of (HT.out _) ?_) | (go_at_call 93; refine same_of (HH.out _ (by assumption)) ?_))
     go_ret
     exact ⟨rfl,hD0.out⟩
   | true =>
     have e3 : Ar.hld (A.lb t) = false := h2.resolve_left (by rw [e2]; simp)
     clear h2
     go_enter Tryz.func58,Tryz.ntmps58
     go_wp2_with (first | (go_at_call 92; refine same_of (HT.out _) ?_) | (go_at_call 93; refine same_of (HH.out _ (by assumption)) ?_))
     go_ret
     exact ⟨rfl,hD0.out⟩
  ·have e2 : Ar.hld (A.lb f) = true := by cases e : Ar.hld (A.lb f) with | true => rfl | false => exact absurd (.inl e) h2
   have e3 : Ar.hld (A.lb t) = true := by cases e : Ar.hld (A.lb t) with | true => rfl | false => exact absurd (.inr e) h2
   cases hw : A.wn t f with
   | true =>
     have eF : A.movF (f : Int) (t : Int) = (A,26) := by unfold Ar.movF; rw [if_neg h1,Int.toNat_natCast,Int.toNat_natCast,if_neg h2,if_pos hw]
     rw [eF]
     rw [hw] at HW
     clear eF h ful h1 h2 hD1
     go_enter Tryz.func58,Tryz.ntmps58
     go_wp2_with (first | (go_at_call 92; refine same_of (HT.out _) ?_) | (go_at_call 93; refine same_of (HH.out _ (by assumption)) ?_) | (go_at_call 95; refine same_of (HW) ?_))
     go_ret
     exact ⟨rfl,hD0.out⟩
   | false =>
     have eF : A.movF (f : Int) (t : Int) = (A.movs t (A.kids f),0) := by unfold Ar.movF; rw [if_neg h1,Int.toNat_natCast,Int.toNat_natCast,if_neg h2,if_neg (by rw [hw]; simp)]
     rw [eF]
     exact rmov_all hD1 ful hn f t hf' ht' e2 e3 hw
end
end Go.Proofs.YtpkppobkagdhkaaGreat
