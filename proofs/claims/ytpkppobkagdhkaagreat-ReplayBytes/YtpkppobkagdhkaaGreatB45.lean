/-
 Rpe Rpf Kno Cnt.
-/
import Derived.Test.YtpkppobkagdhkaaGreatB44
set_option linter.unusedVariables false
set_option linter.unusedSimpArgs false
set_option maxRecDepth 100000
set_option maxHeartbeats 1000000
namespace Go.Proofs.YtpkppobkagdhkaaGreat
open Go.RowKit Go.Maps Utf
section
variable {tag tag' : Nat → Nat} {w w' : World} {b d k g : Nat} {l1 l2 : Sl} {s : Py} {o : Ot} {p : Sl}
theorem Dx.asks {tag1 : Nat → Nat} {W1 : World} (X : Dx tag1 W1 b d l1 l2 s k g o p) (ho : tinyO o) (hq : rightO o = true) :
  (Calls Tryz.prog 48 #[ov o p] W1 fun e w' => e = .returned (.bool true) ∧ Kp [] W1 w') ∧
  Hid (∀ V,Kp [] W1 V → ∀ x,s.kn x = true → Calls Tryz.prog 49 #[.pointer (some ⟨b,0,none⟩),.int .i64 x] V fun e w' => e = .returned (.int .i64 ((s.nz x : Nat) : Int)) ∧ w' = V) ∧
  Hid (∀ V,Kp [] W1 V → ∀ x,s.kn x = false → Calls Tryz.prog 49 #[.pointer (some ⟨b,0,none⟩),.int .i64 x] V fun e w' => e = .returned (.int .i64 (-1)) ∧ w' = V) ∧
  Hid (∀ V,Calls Tryz.prog 50 #[ov o p] V fun e w' => ∃ ao c,e = .returned (.slice ao (askF o).length c) ∧ Rb w' ao (askF o).length c (iz (askF o)) ∧ Kp [] V w') ∧
  Hid (∀ V,Kp [] W1 V → Nine V g 0 o p) := by
 obtain ⟨_,_,_,r7,r8⟩ := right_of hq
 have hl6 := ho.al
 have hpl : p.2.1 = o.al.length := X.rk.rp.len
 have HR := rref_any W1 o p X.rk.rp (by omega)
 rw [hq] at HR
 refine ⟨HR,fun V kV x hx => ?_,fun V kV x hx => ?_,fun V => ?_,fun V kV => nine_at (X.bx.kept kV (by simp))⟩
 ·have := node_any (X.pp.kept kV) x
  rw [ni_yes hx] at this
  exact this
 ·have := node_any (X.pp.kept kV) x
  rw [ni_no hx] at this
  exact this
 ·refine (asked_any V o p r7 r8).mono ?_
  rintro e w' ⟨ao,n,c,rfl,rb,k1⟩
  obtain rfl : n = (askF o).length := by rw [rb.len,iz_len]
  exact ⟨ao,c,rfl,rb,k1⟩
theorem iz_cell {W : World} {ao : Option Addr} {n c : Nat} {L : List Int} (h : Rb W ao n c (iz L)) {i : Nat} (hi : i < L.length) : ∃ b7 o7,ao = some ⟨b7,o7,none⟩ ∧ W.cell? ⟨b7,o7 + i,none⟩ = some (.int .i64 L[i]) := h.iz_at i hi
theorem rdo_229 (h : Pd tag w b d l1 l2 s k) (hk : k < 1300) (ho : tinyO o) (hr : R0 tag w p o.al) (hq : rightO o = true) (hkd : o.kd = 9) (hno : s.kn o.nd = false) (hall : (askF o).all s.kn = false) :
  Calls Tryz.prog 31 #[.pointer (some ⟨b,0,none⟩),ov o p] w fun e w' => e = .returned (.int .i64 22) ∧ Rn tag w b d k s w' := by
 obtain ⟨tag1,W1,g,hg,HW,X,v1⟩ := Dx.open (o := o) h hr
 obtain ⟨HR,HN,HO,HA,HC⟩ := X.asks ho hq
 obtain ⟨f0,f1,f2,f3,f4,f5,f6,f7,f8⟩ := nine_at X.bx
 have hL3 := askF_len o
 have H9 : Hid (∀ W2,Kp [] W1 W2 → Rn tag w b d k s W2) := fun W2 kV => ⟨tag1,l1,l2,(X.pp.kept kV).up hk,v1.trans (Qv.of_kp0 kV)⟩
 clear h hr X v1 hq
 unfold ov at HR HA ⊢
 rw [hkd] at HW HR HA f0 ⊢
 go_enter Tryz.func31,Tryz.ntmps31
 go_upto_region 1 with fail
 rw [HW.out]
 clear HW
 go_wp2_with (first | (go_at_call 48; refine HR.mono ?_; rintro e W2 ⟨rfl,k2⟩; obtain ⟨f0,f1,f2,f3,f4,f5,f6,f7,f8⟩ := HC.out _ k2; rw [hkd] at f0) | (go_at_call 49; refine same_of (HO.out _ k2 _ hno) ?_) | (go_at_call 50; refine (HA.out _).mono ?_; rintro e W3 ⟨ao,c,rfl,rb,k3⟩))
 have k13 : Kp [] W1 W3 := k2.trans k3 (fun x hx => Or.inl hx)
 clear HA HR k3 f0 f1 f2 f3 f4 f5 f6 f7 f8
 generalize askF o = L at *
 go_loopw [6] (fun v wr => ∃ i : Nat,v = .int .i64 (i : Int) ∧ i ≤ L.length ∧ wr = W3 ∧ ∀ j (hj : j < L.length),j < i → s.kn L[j] = true) (fun v _ => L.length - (intOf v).toNat)
 case atStart => exact ⟨0,rfl,Nat.zero_le _,rfl,fun j _ hj => by omega⟩
 case round =>
  obtain ⟨i,rfl,hi,rfl,hp⟩ := hrel
  by_cases hlt : i < L.length
  ·obtain ⟨b7,o7,rfl,f9⟩ := iz_cell rb hlt
   have j0 : (0 : Int) ≤ (i : Int) := by omega
   have j1 : (i : Int) < (L.length : Int) := by omega
   cases hc : s.kn L[i] with
   | true =>
     have HN1 := HN.out _ k13 L[i] hc
     have hp2 : Hid (∀ j (hj : j < L.length),j < i + 1 → s.kn L[j] = true) := fun j hj hji => by
      by_cases e : j = i
      ·subst e; exact hc
      ·exact hp j hj (by omega)
     have t1 : decide (((s.nz L[i] : Nat) : Int) < 0) = false := decide_eq_false (by omega)
     clear hp hc rb H9 HO HN HC hall
     generalize L[i] = y at *
     go_wp2_with (go_at_call 49; refine same_of (HN1) ?_)
     go_roundw
     case rel => exact ⟨i + 1,by go_num,by omega,by trivial,hp2.out⟩
     case measure => simp [intOf]; omega
   | false =>
     have HN1 := HO.out _ k13 L[i] hc
     clear hp hc rb HO HN HC hall
     generalize L[i] = y at *
     go_wp2_with (go_at_call 49; refine same_of (HN1) ?_)
     go_ret
     exact ⟨rfl,H9.out _ k13⟩
  ·exfalso
   have : L.all s.kn = true := by
    rw [List.all_eq_true]
    intro y hy
    obtain ⟨j,hj,rfl⟩ := List.mem_iff_getElem.1 hy
    exact hp j hj (by omega)
   rw [this] at hall
   cases hall
theorem rdo_22x (h : Pd tag w b d l1 l2 s k) (hk : k < 1300) (ho : tinyO o) (hr : R0 tag w p o.al) (hq : rightO o = true) (i1 : (o.kd == 1) = false) (i2 : (o.kd == 9) = false) (hall : (askF o).all s.kn = false) :
  Calls Tryz.prog 31 #[.pointer (some ⟨b,0,none⟩),ov o p] w fun e w' => e = .returned (.int .i64 22) ∧ Rn tag w b d k s w' := by
 obtain ⟨tag1,W1,g,hg,HW,X,v1⟩ := Dx.open (o := o) h hr
 obtain ⟨HR,HN,HO,HA,HC⟩ := X.asks ho hq
 obtain ⟨f0,f1,f2,f3,f4,f5,f6,f7,f8⟩ := nine_at X.bx
 have hL3 := askF_len o
 have H9 : Hid (∀ W2,Kp [] W1 W2 → Rn tag w b d k s W2) := fun W2 kV => ⟨tag1,l1,l2,(X.pp.kept kV).up hk,v1.trans (Qv.of_kp0 kV)⟩
 clear h hr X v1 hq
 unfold ov at HR HA ⊢
 go_enter Tryz.func31,Tryz.ntmps31
 go_upto_region 1 with fail
 rw [HW.out]
 clear HW
 go_wp2_with (first | (go_at_call 48; refine HR.mono ?_; rintro e W2 ⟨rfl,k2⟩; obtain ⟨f0,f1,f2,f3,f4,f5,f6,f7,f8⟩ := HC.out _ k2) | (go_at_call 50; refine (HA.out _).mono ?_; rintro e W3 ⟨ao,c,rfl,rb,k3⟩))
 have k13 : Kp [] W1 W3 := k2.trans k3 (fun x hx => Or.inl hx)
 clear HA HR k3 f0 f1 f2 f3 f4 f5 f6 f7 f8
 generalize askF o = L at *
 go_loopw [6] (fun v wr => ∃ i : Nat,v = .int .i64 (i : Int) ∧ i ≤ L.length ∧ wr = W3 ∧ ∀ j (hj : j < L.length),j < i → s.kn L[j] = true) (fun v _ => L.length - (intOf v).toNat)
 case atStart => exact ⟨0,rfl,Nat.zero_le _,rfl,fun j _ hj => by omega⟩
 case round =>
  obtain ⟨i,rfl,hi,rfl,hp⟩ := hrel
  by_cases hlt : i < L.length
  ·obtain ⟨b7,o7,rfl,f9⟩ := iz_cell rb hlt
   have j0 : (0 : Int) ≤ (i : Int) := by omega
   have j1 : (i : Int) < (L.length : Int) := by omega
   cases hc : s.kn L[i] with
   | true =>
     have HN1 := HN.out _ k13 L[i] hc
     have hp2 : Hid (∀ j (hj : j < L.length),j < i + 1 → s.kn L[j] = true) := fun j hj hji => by
      by_cases e : j = i
      ·subst e; exact hc
      ·exact hp j hj (by omega)
     have t1 : decide (((s.nz L[i] : Nat) : Int) < 0) = false := decide_eq_false (by omega)
     clear hp hc rb H9 HO HN HC hall
     generalize L[i] = y at *
     go_wp2_with (go_at_call 49; refine same_of (HN1) ?_)
     go_roundw
     case rel => exact ⟨i + 1,by go_num,by omega,by trivial,hp2.out⟩
     case measure => simp [intOf]; omega
   | false =>
     have HN1 := HO.out _ k13 L[i] hc
     clear hp hc rb HO HN HC hall
     generalize L[i] = y at *
     go_wp2_with (go_at_call 49; refine same_of (HN1) ?_)
     go_ret
     exact ⟨rfl,H9.out _ k13⟩
  ·exfalso
   have : L.all s.kn = true := by
    rw [List.all_eq_true]
    intro y hy
    obtain ⟨j,hj,rfl⟩ := List.mem_iff_getElem.1 hy
    exact hp j hj (by omega)
   rw [this] at hall
   cases hall
end
section
variable {tag tag' : Nat → Nat} {w w' : World} {b d k g : Nat} {l1 l2 : Sl} {s : Py} {o : Ot} {p : Sl} {q : Bool} {A : Ar}
theorem Dn.quirk (h : Dn tag w d q A) (q' : Bool) : Dn tag (w.setCell ⟨d,1,none⟩ (.bool q')) d q' A ∧ Dv tag w tag (w.setCell ⟨d,1,none⟩ (.bool q')) := by
 obtain ⟨g,o,c,pl,h⟩ := h
 have k1 : Kp [d] w (w.setCell ⟨d,1,none⟩ (.bool q')) := (Kp.refl _ _).setCell (Or.inl (by simp)) _
 have hs : Sm (Q5 tag) w (w.setCell ⟨d,1,none⟩ (.bool q')) := k1.sms (fun x hq hx => by rw [List.mem_singleton.1 hx] at hq; have := h.td; omega)
 obtain ⟨cur,h1,h2,h3⟩ := h.body
 refine ⟨⟨g,o,c,pl,h.hd.set 1 _,h.td,h.cap,h.max,⟨cur,h1.kept k1 (by simpa using Ne.symm h.ne),h2,h3⟩,h.tg,fun i hi => (h.att i hi).keep hs,fun i hi => (h.kid i hi).keep hs,h.kf⟩,Dv.of_kp k1 (fun x hx _ => by rw [List.mem_singleton.1 hx]; exact .inl h.td) (fun _ _ => rfl)⟩
theorem Py.Fit.bnd {s : Py} {k : Nat} (h : s.Fit k) : s.A.n < 40000 ∧ (∀ x,(s.A.lb x).text.size ≤ 900000) ∧ ∀ x,(s.A.lb x).attrs.length ≤ 10000 := by
 have hk := h.hk
 refine ⟨by have := h.sz.n; omega,fun x => by have := (h.sz.lbs x).2.1; omega,fun x => by have := (h.sz.lbs x).2.2.len; omega⟩
set_option maxHeartbeats 4000000 in
theorem rdo_okx (h : Pd tag w b d l1 l2 s k) (hk : k < 1300) (ho : tinyO o) (hr : R0 tag w p o.al) (hq : rightO o = true) (i1 : (o.kd == 1) = false) (i2 : (o.kd == 9) = false) (hall : (askF o).all s.kn = true) (hn : s.kn o.nd = true) (hp : s.kn o.pa = true) (hr3 : s.kn o.rf = true) :
  Calls Tryz.prog 31 #[.pointer (some ⟨b,0,none⟩),ov o p] w fun e w' => e = .returned (.int .i64 (s.perF o (s.nz o.nd) (s.nz o.pa) (s.nz o.rf)).2) ∧ Rn tag w b d k (s.perF o (s.nz o.nd) (s.nz o.pa) (s.nz o.rf)).1 w' := by
 obtain ⟨_,_,_,r7,r8⟩ := right_of hq
 obtain ⟨tag1,W1,g,hg,HW,X,v1⟩ := Dx.open (o := o) h hr
 obtain ⟨HR,HN,HO,HA,HC⟩ := X.asks ho hq
 obtain ⟨f0,f1,f2,f3,f4,f5,f6,f7,f8⟩ := nine_at X.bx
 have hL3 := askF_len o
 have HK : Hid (∀ V,Kp [] W1 V → Dx tag1 V b d l1 l2 s k g o p ∧ Qv tag w tag1 V) := fun V kV => ⟨X.kept kV,v1.trans (Qv.of_kp0 kV)⟩
 obtain ⟨hb1,hb2,hb3⟩ := h.fit.bnd
 have ful := h.fit.ful
 have hrf := h.fit.nz_lt o.rf
 have hf := h.fit.perF hk ho (s.nz o.nd) (s.nz o.pa) (s.nz o.rf)
 clear h hr X v1 hq
 obtain ⟨n1,hn1⟩ : ∃ n,s.nz o.nd = n := ⟨_,rfl⟩
 obtain ⟨n2,hn2⟩ : ∃ n,s.nz o.pa = n := ⟨_,rfl⟩
 obtain ⟨n3,hn3⟩ : ∃ n,s.nz o.rf = n := ⟨_,rfl⟩
 rw [hn1,hn2,hn3] at hf ⊢
 rw [hn3] at hrf
 have hn1 : Hid (s.nz o.nd = n1) := hn1
 have hn2 : Hid (s.nz o.pa = n2) := hn2
 have hn3 : Hid (s.nz o.rf = n3) := hn3
 unfold ov at HR HA ⊢
 go_enter Tryz.func31,Tryz.ntmps31
 go_upto_region 1 with fail
 rw [HW.out]
 clear HW
 go_wp2_with (first | (go_at_call 48; refine HR.mono ?_; rintro e W2 ⟨rfl,k2⟩; obtain ⟨f0,f1,f2,f3,f4,f5,f6,f7,f8⟩ := HC.out _ k2) | (go_at_call 50; refine (HA.out _).mono ?_; rintro e W3 ⟨ao,c,rfl,rb,k3⟩))
 have k13 : Kp [] W1 W3 := k2.trans k3 (fun x hx => Or.inl hx)
 clear HA HR k3 f0 f1 f2 f3 f4 f5 f6 f7 f8
 generalize askF o = L at *
 go_loopw [6] (fun v wr => ∃ i : Nat,v = .int .i64 (i : Int) ∧ i ≤ L.length ∧ wr = W3) (fun v _ => L.length - (intOf v).toNat)
 case atStart => exact ⟨0,rfl,Nat.zero_le _,rfl⟩
 case round =>
  obtain ⟨i,rfl,hi,rfl⟩ := hrel
  by_cases hlt : i < L.length
  ·obtain ⟨b7,o7,rfl,f9⟩ := iz_cell rb hlt
   have j0 : (0 : Int) ≤ (i : Int) := by omega
   have j1 : (i : Int) < (L.length : Int) := by omega
   have HN1 := HN.out _ k13 L[i] (List.all_eq_true.1 hall _ (List.getElem_mem hlt))
   have t1 : decide (((s.nz L[i] : Nat) : Int) < 0) = false := decide_eq_false (by omega)
   clear rb HO HN HC HK hf ful hb1 hb2 hb3 hall
   generalize L[i] = y at *
   go_wp2_with (go_at_call 49; refine same_of (HN1) ?_)
   go_roundw
   case rel => exact ⟨i + 1,by go_num,by omega,by trivial⟩
   case measure => simp [intOf]; omega
  ·obtain rfl : i = L.length := by omega
   obtain ⟨U5,hU5⟩ : ∃ V,V = wr.drew := ⟨_,rfl⟩
   have k5 : Kp [] W1 U5 := by rw [hU5]; exact k13.drew
   have HN1 := HN.out _ k5 o.nd hn
   have HN2 := HN.out _ k5 o.pa hp
   have HN3 := HN.out _ k5 o.rf hr3
   rw [hn1.out] at HN1
   rw [hn2.out] at HN2
   rw [hn3.out] at HN3
   clear rb HO HN hall hlt hi
   go_upto_region 11 with fail
   refine wp_region_g (S := fun V => Nine V g 0 o p) (T := []) (by kernel_rfl) (HC.out _ k13.drew) (fun hHeld => ?_)
   rw [← hU5] at hHeld ⊢
   clear hU5
   refine g_pure 0 (some 46) (.move (.tmp 0)) ?_
   refine g_pure 1 (some 47) (.fieldAddr 24 (.tmp 3) 1) ?_
   refine g_take 2 (some 48) (.load 3 (.tmp 47)) (by intro w hSw; (obtain ⟨q0,q1,q2,q3,q4,q5,q6,q7,q8⟩ := hSw); go_simp; try with_reducible rfl) ?_
   refine g_pure 4 (some 50) (.move (.tmp 0)) ?_
   refine g_pure 5 (some 51) (.fieldAddr 24 (.tmp 3) 2) ?_
   refine g_take 6 (some 52) (.load 3 (.tmp 51)) (by intro w hSw; (obtain ⟨q0,q1,q2,q3,q4,q5,q6,q7,q8⟩ := hSw); go_simp; try with_reducible rfl) ?_
   refine g_pure 8 (some 54) (.move (.tmp 0)) ?_
   refine g_pure 9 (some 55) (.fieldAddr 24 (.tmp 3) 3) ?_
   refine g_take 10 (some 56) (.load 3 (.tmp 55)) (by intro w hSw; (obtain ⟨q0,q1,q2,q3,q4,q5,q6,q7,q8⟩ := hSw); go_simp; try with_reducible rfl) ?_
   refine wpAnyG_ready (rs := [3]) (by kernel_rfl) (by simp) ?_
   refine AllReadyG.cons (o := ⟨some 49,.call { callee := .value (.func 49),args := #[.tmp 46,.tmp 48],argTypes := #[71,3] },3,_,_,none⟩) rfl (fun K hK => ?_) AllReadyG.nil
   go_simp
   go_at_call 49
   refine (HN1).mono ?_
   rintro e w9 ⟨rfl,hw⟩
   have hw2 := hw.symm
   clear hw
   subst hw2
   go_wp2_with fail
   refine hK.out _ _ (HC.out _ k5) (fun hHeld1 => ?_)
   clear hK K hHeld
   try simp only [Act.put,pu1,pu2,pu3]
   refine wpAnyG_ready (rs := [7]) (by kernel_rfl) (by simp) ?_
   refine AllReadyG.cons (o := ⟨some 53,.call { callee := .value (.func 49),args := #[.tmp 50,.tmp 52],argTypes := #[71,3] },3,_,_,none⟩) rfl (fun K hK => ?_) AllReadyG.nil
   go_simp
   go_at_call 49
   refine (HN2).mono ?_
   rintro e w9 ⟨rfl,hw⟩
   have hw2 := hw.symm
   clear hw
   subst hw2
   go_wp2_with fail
   refine hK.out _ _ (HC.out _ k5) (fun hHeld2 => ?_)
   clear hK K hHeld1
   try simp only [Act.put,pu1,pu2,pu3]
   refine wpAnyG_ready (rs := [11]) (by kernel_rfl) (by simp) ?_
   refine AllReadyG.cons (o := ⟨some 57,.call { callee := .value (.func 49),args := #[.tmp 54,.tmp 56],argTypes := #[71,3] },3,_,_,none⟩) rfl (fun K hK => ?_) AllReadyG.nil
   go_simp
   go_at_call 49
   refine (HN3).mono ?_
   rintro e w9 ⟨rfl,hw⟩
   have hw2 := hw.symm
   clear hw
   subst hw2
   go_wp2_with fail
   refine hK.out _ _ (HC.out _ k5) (fun hHeld3 => ?_)
   clear hK K hHeld2
   try simp only [Act.put,pu1,pu2,pu3]
   refine g_pure 12 (some 7) (.assign (.tmp 49)) ?_
   refine g_pure 13 (some 8) (.assign (.tmp 53)) ?_
   refine g_pure 14 (some 9) (.assign (.tmp 57)) ?_
   refine wpAnyG_free (by kernel_rfl) ?_
   refine wpAny_done (by kernel_rfl) ?_ _
   clear hHeld3
   clear HN1 HN2 HN3
   obtain ⟨X5,v5⟩ := HK.out _ k5
   have f0 := (HC.out _ k5).1
   clear HK k13 k2
   have hj : o.kd = 2 ∨ o.kd = 3 ∨ o.kd = 4 ∨ o.kd = 5 ∨ o.kd = 6 ∨ o.kd = 7 ∨ o.kd = 8 ∨ o.kd = 10 ∨ o.kd = 11 := by simp at i1 i2; omega
   have c0 := X5.pp.head.1
   clear i1 i2 hn hp hr3
   obtain hkd | hkd | hkd | hkd | hkd | hkd | hkd | hkd | hkd := hj
   ·rw [hkd] at f0
    have eP : s.perF o n1 n2 n3 = s.upd (s.A.appF n2 n1) := by unfold Py.perF; rw [if_neg (by rw [hkd]; decide),if_pos hkd]
    rw [eP] at hf
    have HE : Hid _ := eP
    have HC9 := rapp_any X5.pp.dn ful (by omega) (n2 : Int) (n1 : Int)
    have H9 : Hid (∀ tag9 W9 q9 A9,Dn tag9 W9 d q9 A9 → Dv tag1 U5 tag9 W9 → (Py.mk A9 q9 s.M).Fit (k + 1) → Rn tag w b d k ⟨A9,q9,s.M⟩ W9) := fun tag9 W9 q9 A9 d9 m9 f9 => X5.fin v5 d9 m9 f9
    clear X5 v5 HC eP
    go_wp2_with (go_at_call 53; refine HC9.mono ?_; rintro e W9 ⟨rfl,tag9,d9,m9⟩)
    go_ret
    rw [HE.out]
    exact ⟨rfl,H9.out _ _ _ _ d9 m9 hf⟩
   ·rw [hkd] at f0
    have eP : s.perF o n1 n2 n3 = s.upd (s.A.befF n3 n1) := by unfold Py.perF; rw [if_neg (by rw [hkd]; decide),if_neg (by rw [hkd]; decide),if_pos hkd]
    rw [eP] at hf
    have HE : Hid _ := eP
    have HC9 := rbef_any X5.pp.dn ful (by omega) (n3 : Int) (n1 : Int)
    have H9 : Hid (∀ tag9 W9 q9 A9,Dn tag9 W9 d q9 A9 → Dv tag1 U5 tag9 W9 → (Py.mk A9 q9 s.M).Fit (k + 1) → Rn tag w b d k ⟨A9,q9,s.M⟩ W9) := fun tag9 W9 q9 A9 d9 m9 f9 => X5.fin v5 d9 m9 f9
    clear X5 v5 HC eP
    go_wp2_with (go_at_call 54; refine HC9.mono ?_; rintro e W9 ⟨rfl,tag9,d9,m9⟩)
    go_ret
    rw [HE.out]
    exact ⟨rfl,H9.out _ _ _ _ d9 m9 hf⟩
   ·rw [hkd] at f0
    have eP : s.perF o n1 n2 n3 = s.fosF n3 n2 n1 := by unfold Py.perF; rw [if_neg (by rw [hkd]; decide),if_neg (by rw [hkd]; decide),if_neg (by rw [hkd]; decide),if_pos hkd]
    rw [eP] at hf
    have HE : Hid _ := eP
    have HB := rbef_any X5.pp.dn ful (by omega) (n3 : Int) (n1 : Int)
    have HA9 := rapp_any X5.pp.dn ful (by omega) (n2 : Int) (n1 : Int)
    obtain ⟨g5,o5,c5,pl5,D5⟩ := X5.pp.dn
    have e0 := D5.head.1
    have e6 := (D5.seven hrf).2.2.2.2.2.2
    have j3 : (0 : Int) ≤ (n3 : Int) := by omega
    have j4 : (n3 : Int) < (s.A.n : Int) := by omega
    have H9 : Hid (∀ tag9 W9 q9 A9,Dn tag9 W9 d q9 A9 → Dv tag1 U5 tag9 W9 → (Py.mk A9 q9 s.M).Fit (k + 1) → Rn tag w b d k ⟨A9,q9,s.M⟩ W9) := fun tag9 W9 q9 A9 d9 m9 f9 => X5.fin v5 d9 m9 f9
    unfold Py.fosF at hf HE
    clear X5 v5 HC eP D5
    cases hu : s.A.up n3 with
    | none =>
      rw [hu] at e6 hf HE
      rw [if_neg (by simp)] at hf
      have HE : Hid (s.perF o n1 n2 n3 = s.upd (s.A.appF n2 n1)) := by rw [HE.out,if_neg (by simp)]; exact rfl
      have e6 : U5.cell? ⟨g5,o5 + n3 * 7 + 6,none⟩ = some (.int .i64 (-1)) := e6
      clear HB
      go_wp2_with (go_at_call 53; refine HA9.mono ?_; rintro e W9 ⟨rfl,tag9,d9,m9⟩)
      go_ret
      rw [HE.out]
      exact ⟨rfl,H9.out _ _ _ _ d9 m9 hf⟩
    | some y =>
      rw [hu] at e6 hf HE
      rw [if_pos (by simp)] at hf
      have HE : Hid (s.perF o n1 n2 n3 = s.upd (s.A.befF n3 n1)) := by rw [HE.out,if_pos (by simp)]; exact rfl
      have e6 : U5.cell? ⟨g5,o5 + n3 * 7 + 6,none⟩ = some (.int .i64 (y : Int)) := e6
      have y0 : (0 : Int) ≤ (y : Int) := by omega
      clear HA9
      go_wp2_with (go_at_call 54; refine HB.mono ?_; rintro e W9 ⟨rfl,tag9,d9,m9⟩)
      go_ret
      rw [HE.out]
      exact ⟨rfl,H9.out _ _ _ _ d9 m9 hf⟩
   ·rw [hkd] at f0
    have eP : s.perF o n1 n2 n3 = s.upd (s.A.wrF (n2 : Int) o.tt) := by unfold Py.perF; rw [if_neg (by rw [hkd]; decide),if_neg (by rw [hkd]; decide),if_neg (by rw [hkd]; decide),if_neg (by rw [hkd]; decide),if_pos hkd]
    rw [eP] at hf
    have HE : Hid _ := eP
    have HC9 : Hid (∀ V,Kp [] U5 V → Calls Tryz.prog 55 #[.pointer (some ⟨d,0,none⟩),.int .i64 (n2 : Int),.string o.tt] V fun e w' => e = .returned (.int .i64 (s.A.wrF (n2 : Int) o.tt).2) ∧ ∃ tag',Dn tag' w' d s.q (s.A.wrF (n2 : Int) o.tt).1 ∧ Dv tag1 V tag' w') := fun V kV => by
     have Z := X5.kept kV
     exact rwrite_any Z.pp.dn ful hb1 (n2 : Int) o.tt (by have := ho.tt; omega) hb2
    have HS9 : Hid (∀ V,Kp [] U5 V → V.cell? ⟨b,0,none⟩ = some (.pointer (some ⟨d,0,none⟩)) ∧ V.cell? ⟨g,8,none⟩ = some (.string o.tt)) := fun V kV => ⟨(X5.pp.kept kV).head.1,(X5.bx.kept kV (by simp)).cell 8⟩
    have H9 : Hid (∀ V tag9 W9,Kp [] U5 V → Dn tag9 W9 d s.q (s.A.wrF (n2 : Int) o.tt).1 → Dv tag1 V tag9 W9 → (W9.cell? ⟨b,0,none⟩ = some (.pointer (some ⟨d,0,none⟩)) ∧ W9.cell? ⟨g,8,none⟩ = some (.string o.tt)) ∧ Rn tag w b d k (s.upd (s.A.wrF (n2 : Int) o.tt)).1 W9) := fun V tag9 W9 kV d9 m9 => by
     have Z := X5.kept kV
     exact ⟨⟨(Z.pp.dv m9 d9 hf).head.1,(Z.bx.qv Z.t0 m9.qv).cell 8⟩,Z.fin (v5.trans (Qv.of_kp0 kV)) d9 m9 hf⟩
    clear X5 v5 HC eP hf
    go_upto_region 34 with fail
    refine wp_region_g (S := fun V => V.cell? ⟨b,0,none⟩ = some (.pointer (some ⟨d,0,none⟩)) ∧ V.cell? ⟨g,8,none⟩ = some (.string o.tt)) (T := []) (by kernel_rfl) (HS9.out _ (Kp.refl _ _).drew) (fun hHeld => ?_)
    refine g_pure 0 (some 183) (.move (.tmp 0)) ?_
    refine g_pure 1 (some 184) (.nilCheck (.tmp 183)) ?_
    refine g_pure 2 (some 185) (.fieldAddr 104 (.tmp 184) 0) ?_
    refine g_take 3 (some 186) (.load 63 (.tmp 185)) (by intro w hSw; (obtain ⟨q0,q1⟩ := hSw); go_simp; try with_reducible rfl) ?_
    refine g_pure 4 (some 187) (.move (.tmp 8)) ?_
    refine g_pure 5 (some 188) (.fieldAddr 24 (.tmp 3) 8) ?_
    refine g_take 6 (some 189) (.load 9 (.tmp 188)) (by intro w hSw; (obtain ⟨q0,q1⟩ := hSw); go_simp; try with_reducible rfl) ?_
    refine wpAnyG_ready (rs := [7]) (by kernel_rfl) (by simp) ?_
    refine AllReadyG.cons (o := ⟨some 190,.call { callee := .value (.func 55),args := #[.tmp 186,.tmp 187,.tmp 189],argTypes := #[63,3,9] },3,_,_,none⟩) rfl (fun K hK => ?_) AllReadyG.nil
    go_simp
    go_at_call 55
    refine (HC9.out _ (Kp.refl _ _).drew).mono ?_
    rintro e W9 ⟨rfl,tag9,d9,m9⟩
    go_wp2_with fail
    have Y9 := H9.out _ _ _ (Kp.refl _ _).drew d9 m9
    refine hK.out _ _ Y9.1 (fun hHeld1 => ?_)
    clear hK K hHeld
    try simp only [Act.put,pu1,pu2,pu3]
    refine g_pure 8 (some 4) (.assign (.tmp 190)) ?_
    refine wpAnyG_free (by kernel_rfl) ?_
    refine wpAny_done (by kernel_rfl) ?_ _
    have Y3 : Hid _ := Y9.2
    clear HC9 HS9 H9 Y9 hHeld1 d9 m9
    go_wp2
    go_ret
    rw [HE.out]
    exact ⟨rfl,Y3.out⟩
   ·rw [hkd] at f0
    have eP : s.perF o n1 n2 n3 = s.pouF n3 n2 o.tt := by unfold Py.perF; rw [if_neg (by rw [hkd]; decide),if_neg (by rw [hkd]; decide),if_neg (by rw [hkd]; decide),if_neg (by rw [hkd]; decide),if_neg (by rw [hkd]; decide),if_pos hkd]
    rw [eP] at hf
    have HE : Hid _ := eP
    obtain ⟨g5,o5,c5,pl5,D5⟩ := X5.pp.dn
    have e0 := D5.head.1
    have e6 := (D5.seven hrf).2.2.2.2.2.2
    have j3 : (0 : Int) ≤ (n3 : Int) := by omega
    have j4 : (n3 : Int) < (s.A.n : Int) := by omega
    unfold Py.pouF at hf HE
    clear eP D5
    cases hu : s.A.up n3 with
    | none =>
      rw [hu] at e6 hf HE
      rw [if_neg (by simp)] at hf
      have HE : Hid (s.perF o n1 n2 n3 = s.upd (s.A.wrF n2 o.tt)) := by rw [HE.out,if_neg (by simp)]; exact rfl
      have e6 : U5.cell? ⟨g5,o5 + n3 * 7 + 6,none⟩ = some (.int .i64 (-1)) := e6
      have HC9 : Hid (∀ V,Kp [] U5 V → Calls Tryz.prog 55 #[.pointer (some ⟨d,0,none⟩),.int .i64 (n2 : Int),.string o.tt] V fun e w' => e = .returned (.int .i64 (s.A.wrF (n2 : Int) o.tt).2) ∧ ∃ tag',Dn tag' w' d s.q (s.A.wrF (n2 : Int) o.tt).1 ∧ Dv tag1 V tag' w') := fun V kV => by
       have Z := X5.kept kV
       exact rwrite_any Z.pp.dn ful hb1 (n2 : Int) o.tt (by have := ho.tt; omega) hb2
      have HS9 : Hid (∀ V,Kp [] U5 V → V.cell? ⟨b,0,none⟩ = some (.pointer (some ⟨d,0,none⟩)) ∧ V.cell? ⟨g,8,none⟩ = some (.string o.tt)) := fun V kV => ⟨(X5.pp.kept kV).head.1,(X5.bx.kept kV (by simp)).cell 8⟩
      have H9 : Hid (∀ V tag9 W9,Kp [] U5 V → Dn tag9 W9 d s.q (s.A.wrF (n2 : Int) o.tt).1 → Dv tag1 V tag9 W9 → (W9.cell? ⟨b,0,none⟩ = some (.pointer (some ⟨d,0,none⟩)) ∧ W9.cell? ⟨g,8,none⟩ = some (.string o.tt)) ∧ Rn tag w b d k (s.upd (s.A.wrF (n2 : Int) o.tt)).1 W9) := fun V tag9 W9 kV d9 m9 => by
       have Z := X5.kept kV
       exact ⟨⟨(Z.pp.dv m9 d9 hf).head.1,(Z.bx.qv Z.t0 m9.qv).cell 8⟩,Z.fin (v5.trans (Qv.of_kp0 kV)) d9 m9 hf⟩
      clear X5 v5 HC hf
      go_upto_region 38 with fail
      refine wp_region_g (S := fun V => V.cell? ⟨b,0,none⟩ = some (.pointer (some ⟨d,0,none⟩)) ∧ V.cell? ⟨g,8,none⟩ = some (.string o.tt)) (T := []) (by kernel_rfl) (HS9.out _ (Kp.refl _ _).drew) (fun hHeld => ?_)
      refine g_pure 0 (some 213) (.move (.tmp 0)) ?_
      refine g_pure 1 (some 214) (.nilCheck (.tmp 213)) ?_
      refine g_pure 2 (some 215) (.fieldAddr 104 (.tmp 214) 0) ?_
      refine g_take 3 (some 216) (.load 63 (.tmp 215)) (by intro w hSw; (obtain ⟨q0,q1⟩ := hSw); go_simp; try with_reducible rfl) ?_
      refine g_pure 4 (some 217) (.move (.tmp 8)) ?_
      refine g_pure 5 (some 218) (.fieldAddr 24 (.tmp 3) 8) ?_
      refine g_take 6 (some 219) (.load 9 (.tmp 218)) (by intro w hSw; (obtain ⟨q0,q1⟩ := hSw); go_simp; try with_reducible rfl) ?_
      refine wpAnyG_ready (rs := [7]) (by kernel_rfl) (by simp) ?_
      refine AllReadyG.cons (o := ⟨some 220,.call { callee := .value (.func 55),args := #[.tmp 216,.tmp 217,.tmp 219],argTypes := #[63,3,9] },3,_,_,none⟩) rfl (fun K hK => ?_) AllReadyG.nil
      go_simp
      go_at_call 55
      refine (HC9.out _ (Kp.refl _ _).drew).mono ?_
      rintro e W9 ⟨rfl,tag9,d9,m9⟩
      go_wp2_with fail
      have Y9 := H9.out _ _ _ (Kp.refl _ _).drew d9 m9
      refine hK.out _ _ Y9.1 (fun hHeld1 => ?_)
      clear hK K hHeld
      try simp only [Act.put,pu1,pu2,pu3]
      refine g_pure 8 (some 4) (.assign (.tmp 220)) ?_
      refine wpAnyG_free (by kernel_rfl) ?_
      refine wpAny_done (by kernel_rfl) ?_ _
      have Y3 : Hid _ := Y9.2
      clear HC9 HS9 H9 Y9 hHeld1 d9 m9
      go_wp2
      go_ret
      rw [HE.out]
      exact ⟨rfl,Y3.out⟩
    | some y =>
      rw [hu] at e6 hf HE
      rw [if_pos (by simp)] at hf
      have HE : Hid (s.perF o n1 n2 n3 = s.upd (s.A.wbF n3 o.tt)) := by rw [HE.out,if_pos (by simp)]; exact rfl
      have e6 : U5.cell? ⟨g5,o5 + n3 * 7 + 6,none⟩ = some (.int .i64 (y : Int)) := e6
      have y0 : (0 : Int) ≤ (y : Int) := by omega
      have HC9 : Hid (∀ V,Kp [] U5 V → Calls Tryz.prog 56 #[.pointer (some ⟨d,0,none⟩),.int .i64 (n3 : Int),.string o.tt] V fun e w' => e = .returned (.int .i64 (s.A.wbF (n3 : Int) o.tt).2) ∧ ∃ tag',Dn tag' w' d s.q (s.A.wbF (n3 : Int) o.tt).1 ∧ Dv tag1 V tag' w') := fun V kV => by
       have Z := X5.kept kV
       exact rwbef_any Z.pp.dn ful hb1 (n3 : Int) o.tt (by have := ho.tt; omega) hb2
      have HS9 : Hid (∀ V,Kp [] U5 V → V.cell? ⟨b,0,none⟩ = some (.pointer (some ⟨d,0,none⟩)) ∧ V.cell? ⟨g,8,none⟩ = some (.string o.tt)) := fun V kV => ⟨(X5.pp.kept kV).head.1,(X5.bx.kept kV (by simp)).cell 8⟩
      have H9 : Hid (∀ V tag9 W9,Kp [] U5 V → Dn tag9 W9 d s.q (s.A.wbF (n3 : Int) o.tt).1 → Dv tag1 V tag9 W9 → (W9.cell? ⟨b,0,none⟩ = some (.pointer (some ⟨d,0,none⟩)) ∧ W9.cell? ⟨g,8,none⟩ = some (.string o.tt)) ∧ Rn tag w b d k (s.upd (s.A.wbF (n3 : Int) o.tt)).1 W9) := fun V tag9 W9 kV d9 m9 => by
       have Z := X5.kept kV
       exact ⟨⟨(Z.pp.dv m9 d9 hf).head.1,(Z.bx.qv Z.t0 m9.qv).cell 8⟩,Z.fin (v5.trans (Qv.of_kp0 kV)) d9 m9 hf⟩
      clear X5 v5 HC hf
      go_upto_region 37 with fail
      refine wp_region_g (S := fun V => V.cell? ⟨b,0,none⟩ = some (.pointer (some ⟨d,0,none⟩)) ∧ V.cell? ⟨g,8,none⟩ = some (.string o.tt)) (T := []) (by kernel_rfl) (HS9.out _ (Kp.refl _ _).drew) (fun hHeld => ?_)
      refine g_pure 0 (some 205) (.move (.tmp 0)) ?_
      refine g_pure 1 (some 206) (.nilCheck (.tmp 205)) ?_
      refine g_pure 2 (some 207) (.fieldAddr 104 (.tmp 206) 0) ?_
      refine g_take 3 (some 208) (.load 63 (.tmp 207)) (by intro w hSw; (obtain ⟨q0,q1⟩ := hSw); go_simp; try with_reducible rfl) ?_
      refine g_pure 4 (some 209) (.move (.tmp 9)) ?_
      refine g_pure 5 (some 210) (.fieldAddr 24 (.tmp 3) 8) ?_
      refine g_take 6 (some 211) (.load 9 (.tmp 210)) (by intro w hSw; (obtain ⟨q0,q1⟩ := hSw); go_simp; try with_reducible rfl) ?_
      refine wpAnyG_ready (rs := [7]) (by kernel_rfl) (by simp) ?_
      refine AllReadyG.cons (o := ⟨some 212,.call { callee := .value (.func 56),args := #[.tmp 208,.tmp 209,.tmp 211],argTypes := #[63,3,9] },3,_,_,none⟩) rfl (fun K hK => ?_) AllReadyG.nil
      go_simp
      go_at_call 56
      refine (HC9.out _ (Kp.refl _ _).drew).mono ?_
      rintro e W9 ⟨rfl,tag9,d9,m9⟩
      go_wp2_with fail
      have Y9 := H9.out _ _ _ (Kp.refl _ _).drew d9 m9
      refine hK.out _ _ Y9.1 (fun hHeld1 => ?_)
      clear hK K hHeld
      try simp only [Act.put,pu1,pu2,pu3]
      refine g_pure 8 (some 4) (.assign (.tmp 212)) ?_
      refine wpAnyG_free (by kernel_rfl) ?_
      refine wpAny_done (by kernel_rfl) ?_ _
      have Y3 : Hid _ := Y9.2
      clear HC9 HS9 H9 Y9 hHeld1 d9 m9
      go_wp2
      go_ret
      rw [HE.out]
      exact ⟨rfl,Y3.out⟩
   ·rw [hkd] at f0
    have eP : s.perF o n1 n2 n3 = s.upd (s.A.detF n1) := by unfold Py.perF; rw [if_neg (by rw [hkd]; decide),if_neg (by rw [hkd]; decide),if_neg (by rw [hkd]; decide),if_neg (by rw [hkd]; decide),if_neg (by rw [hkd]; decide),if_neg (by rw [hkd]; decide),if_pos hkd]
    rw [eP] at hf
    have HE : Hid _ := eP
    have HC9 := rdet_any X5.pp.dn ful (by omega) (n1 : Int)
    have H9 : Hid (∀ tag9 W9 q9 A9,Dn tag9 W9 d q9 A9 → Dv tag1 U5 tag9 W9 → (Py.mk A9 q9 s.M).Fit (k + 1) → Rn tag w b d k ⟨A9,q9,s.M⟩ W9) := fun tag9 W9 q9 A9 d9 m9 f9 => X5.fin v5 d9 m9 f9
    clear X5 v5 HC eP
    go_wp2_with (go_at_call 57; refine HC9.mono ?_; rintro e W9 ⟨rfl,tag9,d9,m9⟩)
    go_ret
    rw [HE.out]
    exact ⟨rfl,H9.out _ _ _ _ d9 m9 hf⟩
   ·rw [hkd] at f0
    have eP : s.perF o n1 n2 n3 = s.upd (s.A.movF n3 n2) := by unfold Py.perF; rw [if_neg (by rw [hkd]; decide),if_neg (by rw [hkd]; decide),if_neg (by rw [hkd]; decide),if_neg (by rw [hkd]; decide),if_neg (by rw [hkd]; decide),if_neg (by rw [hkd]; decide),if_neg (by rw [hkd]; decide),if_pos hkd]
    rw [eP] at hf
    have HE : Hid _ := eP
    have HC9 := rmovF X5.pp.dn ful (by omega) (n3 : Int) (n2 : Int)
    have H9 : Hid (∀ tag9 W9 q9 A9,Dn tag9 W9 d q9 A9 → Dv tag1 U5 tag9 W9 → (Py.mk A9 q9 s.M).Fit (k + 1) → Rn tag w b d k ⟨A9,q9,s.M⟩ W9) := fun tag9 W9 q9 A9 d9 m9 f9 => X5.fin v5 d9 m9 f9
    clear X5 v5 HC eP
    go_wp2_with (go_at_call 58; refine HC9.mono ?_; rintro e W9 ⟨rfl,tag9,d9,m9⟩)
    go_ret
    rw [HE.out]
    exact ⟨rfl,H9.out _ _ _ _ d9 m9 hf⟩
   ·rw [hkd] at f0
    have eP : s.perF o n1 n2 n3 = s.upd (s.A.morF (n1 : Int) (fun x => more x o.al)) := by unfold Py.perF; rw [if_neg (by rw [hkd]; decide),if_neg (by rw [hkd]; decide),if_neg (by rw [hkd]; decide),if_neg (by rw [hkd]; decide),if_neg (by rw [hkd]; decide),if_neg (by rw [hkd]; decide),if_neg (by rw [hkd]; decide),if_neg (by rw [hkd]; decide),if_neg (by rw [hkd]; decide),if_pos hkd]
    rw [eP] at hf
    have HE : Hid _ := eP
    have HC9 : Hid (∀ V,Kp [] U5 V → Calls Tryz.prog 59 #[.pointer (some ⟨d,0,none⟩),.int .i64 (n1 : Int),.slice p.1 p.2.1 p.2.2] V fun e w' => e = .returned (.int .i64 (s.A.morF (n1 : Int) (fun x => more x o.al)).2) ∧ ∃ tag',Dn tag' w' d s.q (s.A.morF (n1 : Int) (fun x => more x o.al)).1 ∧ Dv tag1 V tag' w') := fun V kV => by
     have Z := X5.kept kV
     exact rmore_any Z.pp.dn hb1 (n1 : Int) o.al p.1 p.2.1 p.2.2 Z.rk.rp (by have := ho.al; have := Z.rk.rp.len; omega) hb3
    have HS9 : Hid (∀ V,Kp [] U5 V → V.cell? ⟨b,0,none⟩ = some (.pointer (some ⟨d,0,none⟩)) ∧ V.cell? ⟨g,7,none⟩ = some (.slice p.1 p.2.1 p.2.2)) := fun V kV => ⟨(X5.pp.kept kV).head.1,(X5.bx.kept kV (by simp)).cell 7⟩
    have H9 : Hid (∀ V tag9 W9,Kp [] U5 V → Dn tag9 W9 d s.q (s.A.morF (n1 : Int) (fun x => more x o.al)).1 → Dv tag1 V tag9 W9 → (W9.cell? ⟨b,0,none⟩ = some (.pointer (some ⟨d,0,none⟩)) ∧ W9.cell? ⟨g,7,none⟩ = some (.slice p.1 p.2.1 p.2.2)) ∧ Rn tag w b d k (s.upd (s.A.morF (n1 : Int) (fun x => more x o.al))).1 W9) := fun V tag9 W9 kV d9 m9 => by
     have Z := X5.kept kV
     exact ⟨⟨(Z.pp.dv m9 d9 hf).head.1,(Z.bx.qv Z.t0 m9.qv).cell 7⟩,Z.fin (v5.trans (Qv.of_kp0 kV)) d9 m9 hf⟩
    clear X5 v5 HC eP hf
    go_upto_region 44 with fail
    refine wp_region_g (S := fun V => V.cell? ⟨b,0,none⟩ = some (.pointer (some ⟨d,0,none⟩)) ∧ V.cell? ⟨g,7,none⟩ = some (.slice p.1 p.2.1 p.2.2)) (T := []) (by kernel_rfl) (HS9.out _ (Kp.refl _ _).drew) (fun hHeld => ?_)
    refine g_pure 0 (some 240) (.move (.tmp 0)) ?_
    refine g_pure 1 (some 241) (.nilCheck (.tmp 240)) ?_
    refine g_pure 2 (some 242) (.fieldAddr 104 (.tmp 241) 0) ?_
    refine g_take 3 (some 243) (.load 63 (.tmp 242)) (by intro w hSw; (obtain ⟨q0,q1⟩ := hSw); go_simp; try with_reducible rfl) ?_
    refine g_pure 4 (some 244) (.move (.tmp 7)) ?_
    refine g_pure 5 (some 245) (.fieldAddr 24 (.tmp 3) 7) ?_
    refine g_take 6 (some 246) (.load 22 (.tmp 245)) (by intro w hSw; (obtain ⟨q0,q1⟩ := hSw); go_simp; try with_reducible rfl) ?_
    refine wpAnyG_ready (rs := [7]) (by kernel_rfl) (by simp) ?_
    refine AllReadyG.cons (o := ⟨some 247,.call { callee := .value (.func 59),args := #[.tmp 243,.tmp 244,.tmp 246],argTypes := #[63,3,22] },3,_,_,none⟩) rfl (fun K hK => ?_) AllReadyG.nil
    go_simp
    go_at_call 59
    refine (HC9.out _ (Kp.refl _ _).drew).mono ?_
    rintro e W9 ⟨rfl,tag9,d9,m9⟩
    go_wp2_with fail
    have Y9 := H9.out _ _ _ (Kp.refl _ _).drew d9 m9
    refine hK.out _ _ Y9.1 (fun hHeld1 => ?_)
    clear hK K hHeld
    try simp only [Act.put,pu1,pu2,pu3]
    refine g_pure 8 (some 4) (.assign (.tmp 247)) ?_
    refine wpAnyG_free (by kernel_rfl) ?_
    refine wpAny_done (by kernel_rfl) ?_ _
    have Y3 : Hid _ := Y9.2
    clear HC9 HS9 H9 Y9 hHeld1 d9 m9
    go_wp2
    go_ret
    rw [HE.out]
    exact ⟨rfl,Y3.out⟩
   ·rw [hkd] at f0
    have eP : s.perF o n1 n2 n3 = (⟨s.A,true,s.M⟩,0) := by unfold Py.perF; rw [if_neg (by rw [hkd]; decide),if_neg (by rw [hkd]; decide),if_neg (by rw [hkd]; decide),if_neg (by rw [hkd]; decide),if_neg (by rw [hkd]; decide),if_neg (by rw [hkd]; decide),if_neg (by rw [hkd]; decide),if_neg (by rw [hkd]; decide),if_neg (by rw [hkd]; decide),if_neg (by rw [hkd]; decide),if_pos hkd]
    rw [eP] at hf
    have HE : Hid _ := eP
    obtain ⟨d9,m9⟩ := X5.pp.dn.quirk true
    have H9 : Hid _ := X5.fin v5 d9 m9 hf
    obtain ⟨g5,o5,c5,pl5,D5⟩ := X5.pp.dn
    have e1 := D5.head.2
    have fr := D5.hd.free 1
    clear X5 v5 HC eP D5 d9 m9 hf
    go_wp2
    go_ret
    rw [HE.out]
    exact ⟨rfl,H9.out⟩
end
theorem rq_lit (w : World) (q : List Oq) : Rq (w.alloc (.cells (qs q).toArray 24)) (some ⟨w.heap.size,0,none⟩) q.length q.length q :=
 ⟨rfl,Nat.le_refl _,fun j hj => ⟨w.heap.size,0,rfl,by
  rw [cell_of (heap_new w _),Nat.zero_add,List.getElem?_toArray]⟩⟩
def oq (o : Ot) : Oq := (o,none,0,0)
theorem ry_lit (w : World) (l : List Ot) (h : ∀ o,o ∈ l → tinyO o ∧ o.al = []) : Ry (w.alloc (.cells (qs (l.map oq)).toArray 24)) (some ⟨w.heap.size,0,none⟩) l.length l.length (l.map oq) := by
 have := rq_lit w (l.map oq)
 rw [List.length_map] at this
 refine ⟨this,fun p hp => ?_,fun p hp => ?_⟩
 ·obtain ⟨o,ho,rfl⟩ := List.mem_map.1 hp
  show Rk Any 2 _ none 0 0 (cs o.al)
  rw [(h o ho).2]
  exact Rk.nil _ _ _ _ _
 ·obtain ⟨o,ho,rfl⟩ := List.mem_map.1 hp
  exact (h o ho).1
theorem os_oq (l : List Ot) : os (l.map oq) = l := by
 simp only [os,List.map_map]
 exact List.map_id l
def kA : Ot := ⟨1,1,0,0,3,1,⟨#[112]⟩,[],⟨#[]⟩⟩
def kB : Ot := ⟨2,1,0,0,0,0,⟨#[]⟩,[],⟨#[]⟩⟩
theorem tiny_no {o : Ot} (h1 : o.nm.size ≤ 10) (h2 : o.tt.size ≤ 10) (h3 : o.al = []) : tinyO o := ⟨h1,h2,by rw [h3]; exact Nat.zero_le _,fun a ha => by rw [h3] at ha; cases ha⟩
theorem kno1 : (Py.playF Py.first [kA,kB]).2 = (2,0) ∧ (Py.playF Py.first [kA,kB]).1.A.kidF 0 = [1] := by
 constructor
 ·kernel_rfl
 ·kernel_rfl
theorem kno2 : (Py.playF Py.first [kB]).2 = (0,22) := by kernel_rfl
theorem known_any (w : World) : Calls Tryz.prog 10 #[] w fun e w' => e = .returned (.bool true) ∧ Kp [] w w' := by
 have tA : ∀ o,o ∈ [kA,kB] → tinyO o ∧ o.al = [] := fun o ho => by
  simp only [List.mem_cons,List.not_mem_nil,or_false] at ho
  rcases ho with rfl | rfl
  ·exact ⟨tiny_no (by decide) (by decide) rfl,rfl⟩
  ·exact ⟨tiny_no (by decide) (by decide) rfl,rfl⟩
 have H1 : Hid (∃ W,w.alloc (.cells (qs ([kA,kB].map oq)).toArray 24) = W ∧ Kp [] w W ∧ Calls Tryz.prog 18 #[.slice (some ⟨w.heap.size,0,none⟩) 2 2] W fun e w' => ∃ a tag,e = .returned (.tuple #[.pointer (some ⟨a,0,none⟩),.int .i64 2,.int .i64 0]) ∧ Ps tag w' a (Py.playF Py.first [kA,kB]).1.q (Py.playF Py.first [kA,kB]).1.A 2 ∧ Kp [] w w') := by
  have k0 : Kp [] w (w.alloc (.cells (qs ([kA,kB].map oq)).toArray 24)) := (Kp.refl _ _).alloc _
  refine ⟨_,rfl,k0,(replay_any _ _ _ _ _ (ry_lit w [kA,kB] tA) (by show 2 ≤ 1300; omega)).mono ?_⟩
  rintro e W2 ⟨ptr,j,ec,rfl,⟨hd,h0,hc⟩,k2⟩
  rw [os_oq] at hd hc
  rw [kno1.1] at hd
  obtain ⟨hj,rfl⟩ : 2 = j.toNat ∧ 0 = ec := by simpa using hd
  obtain rfl : j = 2 := by omega
  rcases hc with ⟨_,a,tag,rfl,P⟩ | ⟨hc,_⟩
  ·exact ⟨a,tag,rfl,P,k0.trans k2 (fun x hx => Or.inl hx)⟩
  ·exact absurd rfl hc
 have H2 : Hid (∀ V,∃ W,V.alloc (.cells (qs ([kB].map oq)).toArray 24) = W ∧ Kp [] V W ∧ Calls Tryz.prog 18 #[.slice (some ⟨V.heap.size,0,none⟩) 1 1] W fun e w' => e = .returned (.tuple #[.pointer none,.int .i64 0,.int .i64 22]) ∧ Kp [] V w') := fun V => by
  have k0 : Kp [] V (V.alloc (.cells (qs ([kB].map oq)).toArray 24)) := (Kp.refl _ _).alloc _
  refine ⟨_,rfl,k0,(replay_any _ _ _ _ _ (ry_lit V [kB] (fun o ho => tA o (List.mem_cons_of_mem _ ho))) (by show 1 ≤ 1300; omega)).mono ?_⟩
  rintro e W2 ⟨ptr,j,ec,rfl,⟨hd,h0,hc⟩,k2⟩
  rw [os_oq] at hd hc
  rw [kno2] at hd
  obtain ⟨hj,rfl⟩ : 0 = j.toNat ∧ 22 = ec := by simpa using hd
  obtain rfl : j = 0 := by omega
  rcases hc with ⟨hc,_⟩ | ⟨_,rfl⟩
  ·exact absurd hc (by decide)
  ·exact ⟨rfl,k0.trans k2 (fun x hx => Or.inl hx)⟩
 have HK : Hid (∀ V tag a,Ps tag V a (Py.playF Py.first [kA,kB]).1.q (Py.playF Py.first [kA,kB]).1.A 2 → Calls Tryz.prog 29 #[.pointer (some ⟨a,0,none⟩),.int .i64 0] V fun e w' => ∃ ao c',e = .returned (.slice ao 1 c') ∧ Kp [] V w') := fun V tag a P => by
  refine (P.kids 0).mono ?_
  rintro e w' ⟨ao,n',c',rfl,M⟩
  rw [kno1.2] at M
  obtain rfl : n' = 1 := M.rb.len
  exact ⟨ao,c',rfl,M.2.1⟩
 clear tA
 obtain ⟨W1,hW1,k1,HD1⟩ := H1.out
 have HW1 : Hid (_ = W1) := hW1
 simp only [List.map_cons,List.map_nil,qs,oq,kA,kB] at HW1 H2
 clear hW1 H1
 generalize Py.playF Py.first [kA,kB] = R at *
 go_enter Tryz.func10,Tryz.ntmps10
 go_wp2_with (first | (go_at_call 18; rw [HW1.out]; refine HD1.mono ?_; rintro e W2 ⟨a,tag,rfl,P2,k2⟩; obtain ⟨W3,hW3,k3,HD3⟩ := H2.out W2; have HW3 : Hid (_ = W3) := hW3; clear hW3) | (go_at_call 18; rw [HW3.out]; refine HD3.mono ?_; rintro e W4 ⟨rfl,k4⟩; have HK4 := HK.out _ _ _ (P2.kept k4)) | (go_at_call 29; refine HK4.mono ?_; rintro e W5 ⟨ao5,c5,rfl,k5⟩))
 go_ret
 exact ⟨rfl,(k2.trans k4 (fun x hx => Or.inl hx)).trans k5 (fun x hx => Or.inl hx)⟩
end Go.Proofs.YtpkppobkagdhkaaGreat
namespace Go.Proofs.YtpkppobkagdhkaaGreat
namespace Ar
def dsc (a : Ar) : Nat → Nat → List Nat
 | 0,_ => []
 | f + 1,x => (a.kids x).flatMap fun c => c :: a.dsc f c
theorem dsc_wn {a : Ar} (h : a.Ok) : ∀ (f x y : Nat),y ∈ a.dsc f x → ∃ c,a.up c = some x ∧ a.Wn y c
 | 0,x,y,hy => by cases hy
 | f + 1,x,y,hy => by
   unfold dsc at hy
   obtain ⟨c,hc,hy⟩ := List.mem_flatMap.1 hy
   have hu := (h.link x c).1 hc
   rcases List.mem_cons.1 hy with rfl | hy
   ·exact ⟨y,hu,Wn.refl a y⟩
   ·obtain ⟨c',hu',hw⟩ := dsc_wn h f c y hy
    exact ⟨c,hu,hw.trans (Wn.step hu' (Wn.refl a c))⟩
theorem Wn.lin {a : Ar} {y c c' : Nat} (h : a.Wn y c) (g : a.Wn y c') : a.Wn c c' ∨ a.Wn c' c := by
 obtain ⟨k,e⟩ := h
 induction k generalizing y with
 | zero =>
   obtain rfl : y = c := by simpa [anc] using e
   exact .inl g
 | succ k ih =>
   cases hu : a.up y with
   | none => simp [anc,hu] at e
   | some p =>
     rcases (Wn.some hu).1 g with rfl | g
     ·exact .inr ⟨k + 1,e⟩
     ·exact ih g (by simpa [anc,hu] using e)
theorem Ok.sib {a : Ar} (h : a.Ok) {x c c' y : Nat} (hc : a.up c = some x) (hc' : a.up c' = some x) (hn : c ≠ c') (h1 : a.Wn y c) (h2 : a.Wn y c') : False := by
 rcases h1.lin h2 with g | g
 ·rcases (Wn.some hc).1 g with e | g
  ·exact hn e
  ·exact h.not_up hc' g
 ·rcases (Wn.some hc').1 g with e | g
  ·exact hn e.symm
  ·exact h.not_up hc g
theorem dsc_nodup {a : Ar} (h : a.Ok) : ∀ (f x : Nat),(a.dsc f x).Nodup
 | 0,_ => List.nodup_nil
 | f + 1,x => by
   have key : ∀ l : List Nat,l.Nodup → (∀ c ∈ l,a.up c = some x) → (l.flatMap fun c => c :: a.dsc f c).Nodup := fun l => by
    induction l with
    | nil => exact fun _ _ => List.nodup_nil
    | cons c cs ih =>
      intro hn hu
      have hn' := List.nodup_cons.1 hn
      rw [List.flatMap_cons,List.nodup_append]
      refine ⟨List.nodup_cons.2 ⟨fun hm => ?_,dsc_nodup h f c⟩,ih hn'.2 (fun z hz => hu z (List.mem_cons_of_mem _ hz)),fun y hy z hz e => ?_⟩
      ·obtain ⟨c',hu',hw⟩ := dsc_wn h f c c hm
       exact h.not_up hu' hw
      ·subst e
       have w1 : a.Wn y c := by
        rcases List.mem_cons.1 hy with rfl | hy
        ·exact Wn.refl a y
        ·obtain ⟨c',hu',hw⟩ := dsc_wn h f c y hy
         exact hw.trans (Wn.step hu' (Wn.refl a c))
       obtain ⟨c2,hc2,hz⟩ := List.mem_flatMap.1 hz
       have w2 : a.Wn y c2 := by
        rcases List.mem_cons.1 hz with rfl | hz
        ·exact Wn.refl a y
        ·obtain ⟨c',hu',hw⟩ := dsc_wn h f c2 y hz
         exact hw.trans (Wn.step hu' (Wn.refl a c2))
       exact h.sib (hu c (List.mem_cons_self ..)) (hu c2 (List.mem_cons_of_mem _ hc2)) (fun e => hn'.1 (e ▸ hc2)) w1 w2
   exact key _ (h.one x) (fun c hc => (h.link x c).1 hc)
theorem dsc_lt {a : Ar} (h : a.Ok) : ∀ (f x y : Nat),y ∈ a.dsc f x → y < a.n
 | 0,x,y,hy => by cases hy
 | f + 1,x,y,hy => by
   unfold dsc at hy
   obtain ⟨c,hc,hy⟩ := List.mem_flatMap.1 hy
   rcases List.mem_cons.1 hy with rfl | hy
   ·exact (h.kid_lt hc).1
   ·exact dsc_lt h f c y hy
theorem tr_cnt {a : Ar} : ∀ (f x : Nat) (r : Fo),(a.tr f x r).cnt = 1 + (a.dsc f x).length + r.cnt
 | 0,x,r => rfl
 | f + 1,x,r => by
   unfold tr dsc
   rw [Fo.cnt_cons]
   have key : ∀ l : List Nat,(l.foldr (a.tr f) Fo.nil).cnt = (l.flatMap fun c => c :: a.dsc f c).length := fun l => by
    induction l with
    | nil => rfl
    | cons c cs ih =>
      rw [List.foldr_cons,tr_cnt f c,ih,List.flatMap_cons,List.length_append,List.length_cons]
      omega
   rw [key]
theorem Ok.below_cnt {a : Ar} (h : a.Ok) (x : Nat) : (a.below x).cnt ≤ a.n := by
 have e : (a.tr (a.n + 1) x .nil).cnt = 1 + (a.below x).cnt := by
  show (Fo.cons (a.lb x) (a.below x) Fo.nil).cnt = _
  rw [Fo.cnt_cons,Fo.cnt_nil]; omega
 rw [tr_cnt,Fo.cnt_nil] at e
 have := pig a.n (a.dsc (a.n + 1) x) (dsc_nodup h _ x) (dsc_lt h _ x)
 omega
theorem tr_each {a : Ar} {P : Lb → Prop} (hp : ∀ x,P (a.lb x)) : ∀ (f x : Nat) (r : Fo),r.Each P → (a.tr f x r).Each P
 | 0,x,r,hr => (Fo.each_cons ..).2 ⟨hp x,Fo.each_nil P,hr⟩
 | f + 1,x,r,hr => by
   unfold tr
   refine (Fo.each_cons ..).2 ⟨hp x,?_,hr⟩
   have key : ∀ l : List Nat,(l.foldr (a.tr f) Fo.nil).Each P := fun l => by
    induction l with
    | nil => exact Fo.each_nil P
    | cons c cs ih => exact tr_each hp f c _ ih
   exact key _
theorem below_each {a : Ar} {P : Lb → Prop} (hp : ∀ x,P (a.lb x)) (x : Nat) : (a.below x).Each P :=
 ((Fo.each_cons P (a.lb x) (a.below x) Fo.nil).1 (tr_each hp (a.n + 1) x .nil (Fo.each_nil P))).2.1
theorem Ok.okT {a : Ar} (h : a.Ok) (hn : a.n ≤ 20000) (hp : ∀ x,okL (a.lb x)) (x : Nat) : okT (a.lb x) (a.below x) :=
 ⟨(Fo.each_cons ..).2 ⟨hp x,below_each hp x,Fo.each_nil _⟩,Nat.le_trans (h.below_cnt x) hn⟩
end Ar
end Go.Proofs.YtpkppobkagdhkaaGreat
