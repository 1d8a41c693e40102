/-
 RdG RdH RefU Label.
-/
import Derived.Test.YtpkppobkagdhkaaGreatB31
import Derived.Deep.RegionHeld3
import Derived.BigQuiet
set_option linter.unusedVariables false
set_option linter.unusedSimpArgs false
set_option maxRecDepth 100000
set_option maxHeartbeats 1000000
namespace Go.Proofs.YtpkppobkagdhkaaGreat
open Go.RowKit Go.Maps Utf
theorem Ar.cut_eq {A : Ar} (ok : A.Ok) {x p : Nat} (hu : A.up x = some p) : A.cut x = { A with kids := fun y => if y = p then (A.kids p).take (A.place p x) ++ (A.kids p).drop (A.place p x + 1) else A.kids y,up := fun y => if y = x then none else A.up y } := by
 have hk : ∀ y,(if A.up x = some y then (A.kids y).erase x else A.kids y) = if y = p then (A.kids p).take (A.place p x) ++ (A.kids p).drop (A.place p x + 1) else A.kids y := fun y => by
  by_cases e : y = p
  ·subst e
   rw [if_pos hu,if_pos rfl,List.erase_eq_eraseIdx_of_idxOf (i := A.place y x) rfl,List.eraseIdx_eq_take_drop_succ]
  ·rw [if_neg (by rw [hu]; intro h; exact e (Option.some.inj h).symm),if_neg e]
 unfold Ar.cut
 simp only [hk]
section
variable {tag : Nat → Nat} {w : World} {d : Nat} {q : Bool} {A : Ar}
theorem rdet_cut {g o c : Nat} {pl : Nat → Dp} (h : Dd tag w d g o c q A pl) (ful : A.Ful) (hn : A.n < 50000) (p x : Nat) (hx : x < A.n) (hf : Ar.fix (A.lb x) = false) (hu : A.up x = some p) :
  Calls Tryz.prog 57 #[.pointer (some ⟨d,0,none⟩),.int .i64 (x : Int)] w fun e w' => e = .returned (.int .i64 0) ∧ ∃ tag',Dn tag' w' d q (A.cut x) ∧ Dv tag w tag' w' := by
 have ok := ful.toOk
 have hp : p < A.n := (ok.lt hu).2
 obtain ⟨m1,m2⟩ := Ar.place_lt ok hu
 have kl := h.klen hp
 have hb : (A.kids p).length ≤ A.n := Ar.pig _ _ (ok.one p) (fun y hy => (ok.kid_lt hy).1)
 obtain ⟨b7,o7,hk⟩ : ∃ b7 o7,(pl p).2.1 = some ⟨b7,o7,none⟩ := by
  rcases h.kf p hp with e | e
  ·rw [e] at kl; simp only at kl; omega
  ·exact e
 have hth : A.there (x : Int) = true := by unfold Ar.there; exact decide_eq_true (by omega)
 have HT := rthere_any h (x : Int)
 rw [hth] at HT
 have HF := rfixed_any h x hx
 rw [hf] at HF
 have HPl := rplace_any h ok hn x p hu
 have hcut := Ar.cut_eq ok hu
 obtain ⟨i,hi⟩ : ∃ i,A.place p x = i := ⟨_,rfl⟩
 rw [hi] at HPl m1 hcut
 have j3 : (0 : Int) ≤ (p : Int) := by omega
 have j4 : (p : Int) < (A.n : Int) := by omega
 have j1 : (0 : Int) ≤ (x : Int) := by omega
 have j2 : (x : Int) < (A.n : Int) := by omega
 have i1 : (0 : Int) ≤ (i : Int) := by omega
 have i2 : (i : Int) + 1 ≤ ((A.kids p).length : Int) := by omega
 have kcp := (h.kid p hp).cap
 rw [kl] at kcp
 have i3 : (i : Int) ≤ ((pl p).2.2.2 : Int) := by omega
 have i4 : ((A.kids p).length : Int) ≤ ((pl p).2.2.2 : Int) := by omega
 obtain ⟨i5,hi5⟩ : ∃ z,i + 1 = z := ⟨_,rfl⟩
 have hwr : IntKind.i64.wrap ((i : Int) + 1) = (i5 : Int) := by
  rw [← hi5]
  simp [IntKind.wrap,IntKind.bits,IntKind.signed]
  omega
 have i6 : (0 : Int) ≤ (i5 : Int) := by omega
 have i7 : (i5 : Int) ≤ ((A.kids p).length : Int) := by omega
 rw [hi5] at hcut
 obtain ⟨ko2,hko⟩ : ∃ a,(if (pl p).2.2.2 = i5 then (some ⟨b7,o7,none⟩ : Option Addr) else some ⟨b7,o7 + i5,none⟩) = a := ⟨_,rfl⟩
 have c0 := h.head.1
 have c6 := (h.seven hx).2.2.2.2.2.2
 rw [hu,show Ar.upI (some p) = (p : Int) from rfl] at c6
 have HC : Hid (∀ V,Kp [] w V → V.cell? ⟨d,0,none⟩ = some (.slice (some ⟨g,o,none⟩) A.n c)) := fun V k => (h.kept k).head.1
 have HF5 : Hid (∀ V,Kp [] w V → V.cell? ⟨g,o + p * 7 + 5,none⟩ = some (.slice (some ⟨b7,o7,none⟩) (A.kids p).length (pl p).2.2.2) ∧ ∀ j,V.frozen? ⟨g,j,none⟩ = false) := fun V k => by
  have := ((h.kept k).seven hp).2.2.2.2.2.1
  rw [hk,kl] at this
  exact ⟨this,(h.kept k).free⟩
 have HTk : Hid (∀ V,Kp [] w V → Src Tryz.prog 1 61 (.slice (some ⟨b7,o7,none⟩) i (pl p).2.2.2) i (iv ((A.kids p).take i)) V) := fun V k => by
  have := ((h.kept k).kid p hp).take i (by omega)
  rw [hk,Nat.mul_one,show (iv (A.kids p)).take i = iv ((A.kids p).take i) by simp [iv]] at this
  exact this.src Tryz.underlying61 (iv_one _)
 have HD : Hid (∀ V,Kp [] w V → Src Tryz.prog 1 61 (.slice ko2 ((A.kids p).length - i5) ((pl p).2.2.2 - i5)) ((A.kids p).length - i5) (iv ((A.kids p).drop i5)) V) := fun V k => by
  have := (h.kept k).kid p hp
  rw [hk,kl] at this
  have := this.drop2 i5 (by omega)
  rw [hko,show (iv (A.kids p)).drop i5 = iv ((A.kids p).drop i5) by simp [iv]] at this
  exact this.src Tryz.underlying61 (iv_one _)
 have hdg := h.ne
 have HZ : Hid (∀ U a n' c',Made w U 3 (some a) n' c' (iv [] ++ iv ((A.kids p).take i) ++ iv ((A.kids p).drop i5)) → ((U.setCell ⟨g,o + p * 7 + 5,none⟩ (.slice (some a) n' c')).cell? ⟨d,0,none⟩ = some (.slice (some ⟨g,o,none⟩) A.n c) ∧ (U.setCell ⟨g,o + p * 7 + 5,none⟩ (.slice (some a) n' c')).cell? ⟨g,o + x * 7 + 6,none⟩ = some (.int .i64 (p : Int)) ∧ ∀ j,(U.setCell ⟨g,o + p * 7 + 5,none⟩ (.slice (some a) n' c')).frozen? ⟨g,j,none⟩ = false) ∧ ∃ tag',Dn tag' ((U.setCell ⟨g,o + p * 7 + 5,none⟩ (.slice (some a) n' c')).setCell ⟨g,o + x * 7 + 6,none⟩ (.int .i64 (-1))) d q (A.cut x) ∧ Dv tag w tag' ((U.setCell ⟨g,o + p * 7 + 5,none⟩ (.slice (some a) n' c')).setCell ⟨g,o + x * 7 + 6,none⟩ (.int .i64 (-1)))) := fun U a n' c' M => by
  have M' : Made w U 3 (some a) n' c' (iv ((A.kids p).take i ++ (A.kids p).drop i5)) := by
   rw [show iv ((A.kids p).take i ++ (A.kids p).drop i5) = iv [] ++ iv ((A.kids p).take i) ++ iv ((A.kids p).drop i5) by simp [iv]]
   exact M
  obtain ⟨P,e1,e2⟩ := h.kids M' hp hx none
  have e6 := (e1.seven hx).2.2.2.2.2.2
  rw [show ({ A with kids := fun y => if y = p then (A.kids p).take i ++ (A.kids p).drop i5 else A.kids y } : Ar).up x = A.up x from rfl,hu] at e6
  exact ⟨⟨e1.head.1,e6,e1.free⟩,dn_turn h (kpg (kpg (M.2.1.mono (T := [g]) (fun x hx => by simp at hx)) _ _) _ _) ⟨P,by rw [hcut]; exact e2⟩⟩
 generalize (pl p).2.2.2 = kc at *
 clear h kl hk ok ful hcut m2 hi hu hf hth hi5
 generalize A.kids p = ks at *
 generalize A.cut x = AC at *
 go_enter Tryz.func57,Tryz.ntmps57
 go_upto_region 9 with (first | (go_at_call 92; refine same_of (HT) ?_) | (go_at_call 94; refine same_of (HF) ?_) | (go_at_call 97; refine HPl.mono ?_; rintro e w1 ⟨rfl,kp1⟩; have d1 := HC.out _ kp1; have d5 := (HF5.out _ kp1).1))
 have hS1 : (World.drew w1).cell? ⟨d,0,none⟩ = some (.slice (some ⟨g,o,none⟩) A.n c) := d1
 clear d1 d5 HT HF HPl c0 c6
 obtain ⟨U0,hU0⟩ : ∃ V,V = w1.drew := ⟨_,rfl⟩
 have k0 : Kp [] w U0 := by rw [hU0]; exact kp1.drew
 refine wp_region_g (S := fun V => V.cell? ⟨d,0,none⟩ = some (.slice (some ⟨g,o,none⟩) A.n c)) (T := [17]) (by kernel_rfl) hS1 (fun hHeld => ?_)
 rw [← hU0] at hHeld ⊢
 clear hU0
 refine g_pure 0 (some 36) (.move (.tmp 0)) ?_
 refine g_pure 1 (some 37) (.nilCheck (.tmp 36)) ?_
 refine g_pure 2 (some 38) (.fieldAddr 69 (.tmp 37) 0) ?_
 refine g_take 3 (some 39) (.load 67 (.tmp 38)) (by intro w hSw; (have q1 := hSw); go_simp; try with_reducible rfl) ?_
 refine g_pure 4 (some 40) (.move (.tmp 5)) ?_
 refine g_pure 6 (some 42) (.move (.tmp 7)) ?_
 refine g_pure 7 (some 43) (.move (.tmp 6)) ?_
 refine g_pure 8 (some 44) (.slice 61 (.tmp 42) none (some (.tmp 43)) none) ?_
 refine g_pure 10 (some 46) (.move (.tmp 7)) ?_
 refine g_pure 11 (some 47) (.move (.tmp 6)) ?_
 refine g_pure 12 (some 48) (.binOp .add 3 (.tmp 47) (.const (.int .i64 1)) 3) ?_
 refine g_pure 13 (some 49) (.slice 61 (.tmp 46) (some (.tmp 48)) none none) ?_
 refine wpAnyG_ready (rs := [5]) (by kernel_rfl) (by simp) ?_
 refine AllReadyG.cons (o := ⟨some 41,.buildSlice 61 0 #[],61,_,_,none⟩) rfl (fun K hK => ?_) AllReadyG.nil
 go_simp
 obtain ⟨U1,hU⟩ : ∃ V,V = World.alloc U0 (.cells #[] 3) := ⟨_,rfl⟩
 rw [← hU]
 have u1 : Kp [] U0 U1 := by rw [hU]; exact (Kp.refl _ _).alloc _
 have k1 : Kp [] w U1 := k0.trans u1 (fun z hz => by simp at hz)
 have M5 : Made w U1 3 (some ⟨U0.heap.size,0,none⟩) 0 0 (iv []) := ⟨Or.inr ⟨_,0,0,#[],rfl,by rw [hU]; exact heap_new _ _,Nat.le_refl _,Nat.zero_le _,by simp,fun j hj => by cases hj⟩,k1,fun z hz => by simp [blk] at hz; have := k0.size; omega⟩
 obtain ⟨g5,hg5⟩ : ∃ g,U0.heap.size = g := ⟨_,rfl⟩
 rw [hg5] at M5 ⊢
 clear hU
 refine hK.out _ _ (HC.out _ k1) (fun hHeld1 => ?_)
 clear hK K hHeld
 try simp only [Act.put,pu1,pu2,pu3]
 refine wpAnyG_ready (rs := [9]) (by kernel_rfl) (by simp) ?_
 refine AllReadyG.cons (o := ⟨some 45,.call { callee := .builtin .append,args := #[.tmp 41,.tmp 44],argTypes := #[61,61] },61,_,_,none⟩) rfl (fun K hK => ?_) AllReadyG.nil
 obtain ⟨a9,n9,c9,U2,run9,M9,kk9,_⟩ := M5.join (by simp) _ _ _ (HTk.out _ k1) (by simp [iv]; omega)
 refine step_app2 (by rfl) _ _ 61 61 (by rfl) _ _ (by rfl) (by rfl) run9 ?_
 have k2 := M9.2.1
 refine hK.out _ _ (HC.out _ k2) (fun hHeld2 => ?_)
 clear hK K hHeld1
 try simp only [Act.put,pu1,pu2,pu3]
 refine wpAnyG_ready (rs := [14]) (by kernel_rfl) (by simp) ?_
 refine AllReadyG.cons (o := ⟨some 50,.call { callee := .builtin .append,args := #[.tmp 45,.tmp 49],argTypes := #[61,61] },61,_,_,none⟩) rfl (fun K hK => ?_) AllReadyG.nil
 obtain ⟨a14,n14,c14,U3,run14,M14,kk14,_⟩ := M9.join (by simp) _ _ _ (HD.out _ k2) (by simp [iv]; omega)
 refine step_app2 (by rfl) _ _ 61 61 (by rfl) _ _ (by rfl) (by rfl) run14 ?_
 have k3 := M14.2.1
 refine hK.out _ _ (HC.out _ k3) (fun hHeld3 => ?_)
 clear hK K hHeld2
 try simp only [Act.put,pu1,pu2,pu3]
 refine g_pure 15 (some 51) (.indexAddr 67 (.tmp 39) (.tmp 40)) ?_
 refine g_pure 16 (some 52) (.fieldAddr 106 (.tmp 51) 5) ?_
 refine wpAnyG_free (by kernel_rfl) ?_
 refine wpAny_ready (rs := [17]) (by kernel_rfl) (by simp) ?_
 refine AllReady.cons (o := ⟨none,.store 61 (.tmp 52) (.tmp 50),0,_,_,none⟩) rfl (fun K hK => ?_) AllReady.nil
 obtain ⟨f5,fr⟩ := HF5.out _ k3
 go_simp
 refine hK _ _ ?_
 clear hK K
 try simp only [Act.put,pu1,pu2,pu3]
 refine wpAny_done (by kernel_rfl) ?_ _
 obtain ⟨⟨z1,z2,z3⟩,z4⟩ := HZ.out _ _ _ _ M14
 have ZZ : Hid (∃ tag',Dn tag' _ d q AC ∧ Dv tag w tag' _) := z4
 clear z4
 go_wp2
 go_ret
 exact ⟨rfl,ZZ.out⟩
end
section
variable {tag : Nat → Nat} {w : World} {d : Nat} {q : Bool} {A : Ar}
theorem rdet_any (hD : Dn tag w d q A) (ful : A.Ful) (hn : A.n < 50000) (x : Int) :
  Calls Tryz.prog 57 #[.pointer (some ⟨d,0,none⟩),.int .i64 x] w fun e w' => e = .returned (.int .i64 (A.detF x).2) ∧ ∃ tag',Dn tag' w' d q (A.detF x).1 ∧ Dv tag w tag' w' := by
 have hD0 : Hid (∃ tag',Dn tag' w d q A ∧ Dv tag w tag' w) := ⟨tag,hD,Dv.refl tag w⟩
 obtain ⟨g,o,c,pl,h⟩ := hD
 have HT := rthere_any h x
 cases hx : A.there x with
 | false =>
   have eF : A.detF x = (A,22) := by unfold Ar.detF; rw [if_pos hx]
   rw [eF]
   rw [hx] at HT
   clear eF h ful
   go_enter Tryz.func57,Tryz.ntmps57
   go_wp2_with (go_at_call 92; refine same_of (HT) ?_)
   go_ret
   exact ⟨rfl,hD0.out⟩
 | true =>
   rw [hx] at HT
   obtain ⟨x,rfl,hx'⟩ := there_nat hx
   have HF := rfixed_any h x hx'
   have j1 : (0 : Int) ≤ (x : Int) := by omega
   have j2 : (x : Int) < (A.n : Int) := by omega
   cases hf : Ar.fix (A.lb x) with
   | true =>
     have eF : A.detF (x : Int) = (A,23) := by unfold Ar.detF; rw [if_neg (by rw [hx]; simp),Int.toNat_natCast,if_pos hf]
     rw [eF]
     rw [hf] at HF
     clear eF h ful
     go_enter Tryz.func57,Tryz.ntmps57
     go_wp2_with (first | (go_at_call 92; refine same_of (HT) ?_) | (go_at_call 94; refine same_of (HF) ?_))
     go_ret
     exact ⟨rfl,hD0.out⟩
   | false =>
     have eF : A.detF (x : Int) = (A.cut x,0) := by unfold Ar.detF; rw [if_neg (by rw [hx]; simp),Int.toNat_natCast,if_neg (by rw [hf]; simp)]
     rw [eF]
     cases hu : A.up x with
     | some p => exact rdet_cut h ful hn p x hx' hf hu
     | none =>
       rw [Ar.cut_none hu]
       rw [hf] at HF
       have c0 := h.head.1
       have c6 := (h.seven hx').2.2.2.2.2.2
       rw [hu,show Ar.upI none = -1 from rfl] at c6
       clear eF h ful
       go_enter Tryz.func57,Tryz.ntmps57
       go_wp2_with (first | (go_at_call 92; refine same_of (HT) ?_) | (go_at_call 94; refine same_of (HF) ?_))
       go_ret
       exact ⟨rfl,hD0.out⟩
end
end Go.Proofs.YtpkppobkagdhkaaGreat
namespace Go.Proofs.YtpkppobkagdhkaaGreat
open Go.RowKit
theorem ref_more_any (w : World) (l m : List Att) (ao bo : Option Addr) (n c p d : Nat) (hr : Rp w ao n c l) (hs : Rp w bo p d m) (hl : n ≤ 10000) (hm : p ≤ 10000) :
  Calls Tryz.prog 99 #[.slice ao n c,.slice bo p d] w fun e w' => ∃ ao' n' c',e = .returned (.slice ao' n' c') ∧ Mp w w' ao' n' c' (more l m) := by
 have M1 := mp_none w
 obtain ⟨a2,n2,c2,w2,hrun,M2⟩ := M1.app ((hr.kept M1.kp).src Tryz.underlying22) (fun h => by cases h) (by omega)
 rw [List.nil_append] at M2
 have hln : l.length ≤ 10000 := by have := hr.len; omega
 obtain rfl := hs.len
 clear M1 hr
 go_enter Tryz.func99,Tryz.ntmps99
 go_wp2_with (at_builtin; refine Lib.wpList_append_run _ rfl _ _ _ _ rfl _ _ rfl rfl _ _ (hrun _) ?_)
 clear hrun
 go_loopw [5,6] (fun v i wr => ∃ (k : Nat) (ao' : Option Addr) (n' c' : Nat),k ≤ m.length ∧ i = .int .i64 k ∧ v = .slice ao' n' c' ∧ Mp w wr ao' n' c' (more l (m.take k))) (fun _ i _ => m.length - (intOf i).toNat)
 case atStart => exact ⟨0,_,_,_,Nat.zero_le _,rfl,rfl,M2⟩
 case round =>
  obtain ⟨k,ao',n',c',hk,rfl,rfl,M⟩ := hrel
  clear M2
  by_cases hlt : k < m.length
  ·obtain ⟨b1,o1,rfl,h1,h2⟩ := (hs.kept M.kp).get k hlt
   have hts := take_snoc hlt
   have hn : n' ≤ 30000 := by
    have e1 := M.len
    have e2 := more_len (m.take k) l
    simp at e2
    omega
   generalize m[k] = a at h1 h2 hts
   have HA := ref_add_any wr _ a ao' n' c' M.rp hn
   unfold av at HA
   clear hs
   go_wp2_with (go_at_call 120; refine HA.mono ?_; rintro e w3 ⟨a3,n3,c3,rfl,M3⟩)
   have M4 := M3.back M.kp
   rw [← more_snoc,← hts] at M4
   clear M M3 hts h1 h2 HA
   go_roundw
   case rel => exact ⟨k + 1,_,_,_,by omega,by go_num,rfl,M4⟩
   case measure => simp [intOf]; omega
  ·obtain rfl : k = m.length := by omega
   rw [List.take_length] at M
   go_wp2
   go_ret
   exact ⟨_,_,_,rfl,M⟩
theorem ref_uniq_any (w : World) (m : List Att) (bo : Option Addr) (p d : Nat) (hs : Rp w bo p d m) (hm : p ≤ 10000) :
  Calls Tryz.prog 91 #[.slice bo p d] w fun e w' => ∃ ao' n' c',e = .returned (.slice ao' n' c') ∧ Mp w w' ao' n' c' (uniq m) := by
 have H := ref_more_any w [] m none bo 0 0 p d (rp_nil w) hs (by omega) hm
 go_enter Tryz.func91,Tryz.ntmps91
 go_wp2_with (go_at_call 99; refine H.mono ?_; rintro e w3 ⟨a3,n3,c3,rfl,M3⟩)
 go_ret
 exact ⟨_,_,_,rfl,M3⟩
theorem eqs_no {x y : ByteArray} (h : ¬ x = y) : (x.toList == y.toList) = false := by
 cases hx : eqs x y with
 | false => exact hx
 | true => exact absurd (eqs_iff.1 hx) h
theorem eqs_yes {x y : ByteArray} (h : x = y) : (x.toList == y.toList) = true := eqs_iff.2 h
theorem label_any (w : World) (b off : Nat) (l m : Lb) (p q : Pl) (hc : Cl w b off l p) (h1 : Rp w p.1.1 p.1.2.1 p.1.2.2 l.attrs) (h2 : Rp w q.1.1 q.1.2.1 q.1.2.2 m.attrs) (hl : p.1.2.1 ≤ 100000) (hm : q.1.2.1 ≤ 100000) :
  Calls Tryz.prog 46 #[.pointer (some ⟨b,off,none⟩),wv m q] w fun e w' => e = .returned (.bool (sameL l m)) ∧ Kp [] w w' := by
 obtain ⟨A,hA⟩ : ∃ A,sameL l m = A := ⟨_,rfl⟩
 rw [hA]
 have hbl := hc.lt
 have k0 : Kp [] w (w.alloc (.cells (six m q).toArray 40)) := (Kp.refl _ _).alloc _
 have HC : Hid (∀ W,Kp [] w W → Calls Tryz.prog 89 #[.slice p.1.1 p.1.2.1 p.1.2.2,.slice q.1.1 q.1.2.1 q.1.2.2] W fun e w' => e = .returned (.bool (same l.attrs m.attrs)) ∧ Kp [] W w') := fun W k => same_any W _ _ _ _ _ _ _ _ (h1.kept k) (h2.kept k) hl hm
 have hn := heap_new w (.cells (six m q).toArray 40)
 have HS : Hid (∀ W,Kp [] (w.alloc (.cells (six m q).toArray 40)) W → (W.cell? ⟨b,off,none⟩ = some (.int .i64 l.kind) ∧ W.cell? ⟨b,off + 1,none⟩ = some (.int .i64 l.ns) ∧ W.cell? ⟨b,off + 2,none⟩ = some (.string l.name) ∧ W.cell? ⟨b,off + 3,none⟩ = some (.slice p.1.1 p.1.2.1 p.1.2.2) ∧ W.cell? ⟨b,off + 4,none⟩ = some (.string l.text)) ∧ (W.cell? ⟨w.heap.size,0,none⟩ = some (.int .i64 m.kind) ∧ W.cell? ⟨w.heap.size,1,none⟩ = some (.int .i64 m.ns) ∧ W.cell? ⟨w.heap.size,2,none⟩ = some (.string m.name) ∧ W.cell? ⟨w.heap.size,3,none⟩ = some (.slice q.1.1 q.1.2.1 q.1.2.2) ∧ W.cell? ⟨w.heap.size,4,none⟩ = some (.string m.text))) := fun W k => by
  have c1 := ((hc.keep k0 (by simp)).keep k (by simp)).cells
  have c2 : W.heap[w.heap.size]? = some (.cells (six m q).toArray 40 (0,0)) := (k.block _ (by simp) (by simp)).trans hn
  exact ⟨⟨c1.1,c1.2.1,c1.2.2.1,c1.2.2.2.1,c1.2.2.2.2.1⟩,cell_of c2 0,cell_of c2 1,cell_of c2 2,cell_of c2 3,cell_of c2 4⟩
 have K0 : Hid (Kp [] w (w.alloc (.cells (six m q).toArray 40))) := k0
 clear hn k0 h1 h2
 obtain ⟨c0,c1,c2,c3,c4,_⟩ := hc.cells
 clear hc
 simp only [six,wv] at HS K0 ⊢
 by_cases e1 : l.kind = m.kind
 ·have q1 : ((l.kind : Int) == (m.kind : Int)) = true := by simpa using e1
  by_cases e2 : l.ns = m.ns
  ·have q2 : ((l.ns : Int) == (m.ns : Int)) = true := by simpa using e2
   by_cases e3 : l.name = m.name
   ·have q3 : (l.name.toList == m.name.toList) = true := eqs_yes e3
    by_cases e4 : l.text = m.text
    ·have q4 : (l.text.toList == m.text.toList) = true := eqs_yes e4
     obtain rfl : A = same l.attrs m.attrs := by
      rw [← hA]
      unfold sameL same
      exact decide_eq_decide.2 ⟨fun h => by rw [h],fun h => Prod.ext e1 (Prod.ext e2 (Prod.ext e3 (Prod.ext h e4)))⟩
     clear hA
     go_enter Tryz.func46,Tryz.ntmps46
     go_wp2_with fail
     go_region_held3 (fun w' => (w'.cell? ⟨b,off,none⟩ = some (.int .i64 l.kind) ∧ w'.cell? ⟨b,off + 1,none⟩ = some (.int .i64 l.ns) ∧ w'.cell? ⟨b,off + 2,none⟩ = some (.string l.name) ∧ w'.cell? ⟨b,off + 3,none⟩ = some (.slice p.1.1 p.1.2.1 p.1.2.2) ∧ w'.cell? ⟨b,off + 4,none⟩ = some (.string l.text)) ∧ (w'.cell? ⟨w.heap.size,0,none⟩ = some (.int .i64 m.kind) ∧ w'.cell? ⟨w.heap.size,1,none⟩ = some (.int .i64 m.ns) ∧ w'.cell? ⟨w.heap.size,2,none⟩ = some (.string m.name) ∧ w'.cell? ⟨w.heap.size,3,none⟩ = some (.slice q.1.1 q.1.2.1 q.1.2.2) ∧ w'.cell? ⟨w.heap.size,4,none⟩ = some (.string m.text)))
      (first
       | exact HS.out _ K1.out
       | exact HS.out _ (Kp.refl _ _).drew)
      (first | (go_at_call 89; refine (HC.out _ K0.out.drew).mono ?_; rintro e w1 ⟨rfl,k1⟩; have K1 : Hid (Kp [] (w.alloc (.cells #[.int .i64 m.kind,.int .i64 m.ns,.string m.name,.slice q.1.1 q.1.2.1 q.1.2.2,.string m.text,.slice q.2.1 q.2.2.1 q.2.2.2] 40)) w1) := (Kp.refl _ _).drew.trans k1 (fun x hx => Or.inl hx)))
     go_wp2
     go_ret
     exact ⟨rfl,K0.out.trans K1.out (fun x hx => Or.inl hx)⟩
    ·have q4 : (l.text.toList == m.text.toList) = false := eqs_no e4
     obtain rfl : A = false := by rw [← hA]; exact decide_eq_false (fun h => e4 (by rw [h]))
     clear e1 e2 e3 e4
     clear HC HS hA
     go_enter Tryz.func46,Tryz.ntmps46
     go_wp2_with fail
     go_quiet (fail)
     go_wp2
     go_ret
     exact ⟨rfl,K0.out.drewN nq⟩
   ·have q3 : (l.name.toList == m.name.toList) = false := eqs_no e3
    obtain rfl : A = false := by rw [← hA]; exact decide_eq_false (fun h => e3 (by rw [h]))
    clear e1 e2 e3
    clear HC HS hA
    go_enter Tryz.func46,Tryz.ntmps46
    go_wp2_with fail
    go_quiet (fail)
    go_wp2
    go_ret
    exact ⟨rfl,K0.out.drewN nq⟩
  ·have q2 : ((l.ns : Int) == (m.ns : Int)) = false := by simpa using e2
   obtain rfl : A = false := by rw [← hA]; exact decide_eq_false (fun h => e2 (by rw [h]))
   clear e1 e2
   clear HC HS hA
   go_enter Tryz.func46,Tryz.ntmps46
   go_wp2_with fail
   go_quiet (fail)
   go_wp2
   go_ret
   exact ⟨rfl,K0.out.drewN nq⟩
 ·have q1 : ((l.kind : Int) == (m.kind : Int)) = false := by simpa using e1
  obtain rfl : A = false := by rw [← hA]; exact decide_eq_false (fun h => e1 (by rw [h]))
  clear e1
  clear HC HS hA
  go_enter Tryz.func46,Tryz.ntmps46
  go_wp2_with fail
  go_quiet (fail)
  go_wp2
  go_ret
  exact ⟨rfl,K0.out.drewN nq⟩
end Go.Proofs.YtpkppobkagdhkaaGreat
