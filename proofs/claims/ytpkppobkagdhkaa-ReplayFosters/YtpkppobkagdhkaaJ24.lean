/-
  Joined: PrC.
-/
import Derived.Test.YtpkppobkagdhkaaJ23

/-
  The program's arena: Append, Before, Detach.
-/
namespace Go.Proofs.Ytpkppobkagdhkaa
open Go.RowKit Go.Maps Utf
set_option linter.unusedVariables false
set_option linter.unusedSimpArgs false

section
variable {tag : Nat → Nat} {w : World} {b g o c : Nat} {q : Bool} {A : Ar} {pl : Nat → Np}

theorem there_nat {z : Int} (h : A.there z = true) : ∃ y : Nat, z = (y : Int) ∧ y < A.n := by
  obtain ⟨h1, h2⟩ := Ar.there_lt h
  exact ⟨z.toNat, h2.symm, h1⟩

theorem there_dec (z : Int) : A.there z = decide (0 ≤ z ∧ z < A.n) := rfl

theorem hid_link (h : Rw tag w b g o c q A.n A.raw pl) (ok : A.Ok) (hn : A.n < 50000) {p x : Nat} (hp : p < A.n) (hx : x < A.n) (hu : A.up x = none) {k1 k2 : List Nat} (e : A.kids p = k1 ++ k2) (z : Int) (hz : z = hdI k2) :
    Hid (∀ V, Kp [] w V → Calls Try.prog 45 #[.pointer (some ⟨b, 0, none⟩), .int .i64 p, .int .i64 z, .int .i64 x] V fun e w' => e = .returned (.tuple #[]) ∧ Rz w tag w' b g o c q A.n (A.put p k1.length x).raw pl) := by
  intro V kV
  subst hz
  have hk : ∀ y, y ∈ k2 → y < A.n := fun y hy => (ok.kid_lt (p := p) (by rw [e]; simp [hy])).1
  refine (link_any (h.kept kV) (by omega) p hp (hdI k2) (hdI_nn hk) x hx (aheadF_nn (fun i _ => ⟨(raw_nn ok i).2.2.1, (raw_nn ok i).2.2.2.1⟩) hp (hdI_nn hk))).mono ?_
  rintro e2 w2 ⟨rfl, r2⟩
  rw [ok.link_raw e hu] at r2
  exact ⟨rfl, r2.1, (kV.mono (T := [g]) (fun x hx => by simp at hx)).trans r2.2 (fun x hx => Or.inl hx)⟩

theorem up_eq {x : Nat} (hu : A.up x = none) : (A.raw x).up = -1 := by show Ar.upI (A.up x) = -1; rw [hu]; rfl

theorem up_some {x p : Nat} (hu : A.up x = some p) : (A.raw x).up = (p : Int) := by show Ar.upI (A.up x) = _; rw [hu]; rfl

set_option maxHeartbeats 1000000 in
theorem app_arena (h : Rw tag w b g o c q A.n A.raw pl) (ful : A.Ful) (hn : A.n < 50000) (p x : Int) :
    Calls Try.prog 27 #[.pointer (some ⟨b, 0, none⟩), .int .i64 p, .int .i64 x] w fun e w' => e = .returned (.int .i64 (A.appF p x).2) ∧ Rz w tag w' b g o c q A.n (A.appF p x).1.raw pl := by
  have HH := fun z => has_any h (by omega) z
  have ok := ful.toOk
  obtain ⟨Z, hZ⟩ : ∃ Z, A.appF p x = Z := ⟨_, rfl⟩
  rw [hZ]
  unfold Ar.appF at hZ
  have z0 : Rz w tag w b g o c q A.n A.raw pl := Rz.mk h (Kp.refl _ _)
  by_cases hp : A.there p = true
  case neg =>
    have hp : A.there p = false := by simpa using hp
    rw [if_pos (.inl hp)] at hZ
    subst hZ
    rw [there_dec] at hp
    have z1 : Hid (Rz w tag w b g o c q A.n A.raw pl) := z0
    clear z0 h
    go_enter Try.func27, Try.ntmps27
    go_wp2_with (go_at_call 10; refine (HH _).mono ?_; rintro e w9 ⟨rfl, hw⟩; have hw2 := hw.symm; clear hw; subst hw2)
    go_ret
    exact ⟨rfl, z1.out⟩
  by_cases hx : A.there x = true
  case neg =>
    have hx : A.there x = false := by simpa using hx
    rw [if_pos (.inr hx)] at hZ
    subst hZ
    rw [there_dec] at hp hx
    have z1 : Hid (Rz w tag w b g o c q A.n A.raw pl) := z0
    clear z0 h
    go_enter Try.func27, Try.ntmps27
    go_wp2_with (go_at_call 10; refine (HH _).mono ?_; rintro e w9 ⟨rfl, hw⟩; have hw2 := hw.symm; clear hw; subst hw2)
    go_ret
    exact ⟨rfl, z1.out⟩
  rw [if_neg (by simp [hp, hx])] at hZ
  obtain ⟨p, rfl, hpn⟩ := there_nat hp
  obtain ⟨x, rfl, hxn⟩ := there_nat hx
  rw [Int.toNat_natCast, Int.toNat_natCast] at hZ
  rw [there_dec] at hp hx
  have HM := may_any h (by omega) p hpn
  have HF := fixed_any h (by omega) x hxn
  rw [show (A.raw p).lb = A.lb p from rfl] at HM
  rw [show (A.raw x).lb = A.lb x from rfl] at HF
  cases h1 : Ar.hld (A.lb p) with
  | false =>
    rw [h1] at HM
    rw [if_pos (.inl h1)] at hZ
    subst hZ
    have z1 : Hid (Rz w tag w b g o c q A.n A.raw pl) := z0
    clear z0 h HF
    go_enter Try.func27, Try.ntmps27
    go_wp2_with (first | (go_at_call 10; refine (HH _).mono ?_; rintro e w9 ⟨rfl, hw⟩; have hw2 := hw.symm; clear hw; subst hw2) | (go_at_call 42; refine (HM).mono ?_; rintro e w9 ⟨rfl, hw⟩; have hw2 := hw.symm; clear hw; subst hw2))
    go_ret
    exact ⟨rfl, z1.out⟩
  | true =>
  rw [h1] at HM
  cases h2 : Ar.fix (A.lb x) with
  | true =>
    rw [h2] at HF
    rw [if_pos (.inr h2)] at hZ
    subst hZ
    have z1 : Hid (Rz w tag w b g o c q A.n A.raw pl) := z0
    clear z0 h
    go_enter Try.func27, Try.ntmps27
    go_wp2_with (first | (go_at_call 10; refine (HH _).mono ?_; rintro e w9 ⟨rfl, hw⟩; have hw2 := hw.symm; clear hw; subst hw2) | (go_at_call 42; refine (HM).mono ?_; rintro e w9 ⟨rfl, hw⟩; have hw2 := hw.symm; clear hw; subst hw2) | (go_at_call 43; refine (HF).mono ?_; rintro e w9 ⟨rfl, hw⟩; have hw2 := hw.symm; clear hw; subst hw2))
    go_ret
    exact ⟨rfl, z1.out⟩
  | false =>
  rw [h2] at HF
  rw [if_neg (by simp [h1, h2])] at hZ
  obtain ⟨c0, _⟩ := h.head
  obtain ⟨l1, _⟩ := h.links hxn
  have hx0 : (0 : Int) ≤ (x : Int) := by omega
  have hx1 : (x : Int) < (A.n : Int) := by omega
  cases hu : A.up x with
  | some u =>
    rw [if_pos (by rw [hu]; simp)] at hZ
    subst hZ
    rw [up_some hu] at l1
    have t1 : ((u : Int) != -1) = true := bne_iff_ne.2 (by omega)
    have z1 : Hid (Rz w tag w b g o c q A.n A.raw pl) := z0
    clear z0 h
    go_enter Try.func27, Try.ntmps27
    go_wp2_with (first | (go_at_call 10; refine (HH _).mono ?_; rintro e w9 ⟨rfl, hw⟩; have hw2 := hw.symm; clear hw; subst hw2) | (go_at_call 42; refine (HM).mono ?_; rintro e w9 ⟨rfl, hw⟩; have hw2 := hw.symm; clear hw; subst hw2) | (go_at_call 43; refine (HF).mono ?_; rintro e w9 ⟨rfl, hw⟩; have hw2 := hw.symm; clear hw; subst hw2))
    go_ret
    exact ⟨rfl, z1.out⟩
  | none =>
  rw [if_neg (by rw [hu]; simp)] at hZ
  rw [up_eq hu] at l1
  have HW := iswn_any h ok hn p x hpn hxn
  cases hw : A.wn p x with
  | true =>
    rw [if_pos hw] at hZ
    subst hZ
    rw [hw] at HW
    have z1 : Hid (∀ V, Kp [] w V → Rz w tag V b g o c q A.n A.raw pl) := fun V kV => Rz.mk (h.kept kV) (kV.mono (fun x hx => by simp at hx))
    clear z0 h
    go_enter Try.func27, Try.ntmps27
    go_wp2_with (first | (go_at_call 10; refine (HH _).mono ?_; rintro e w9 ⟨rfl, hw⟩; have hw2 := hw.symm; clear hw; subst hw2) | (go_at_call 42; refine (HM).mono ?_; rintro e w9 ⟨rfl, hw⟩; have hw2 := hw.symm; clear hw; subst hw2) | (go_at_call 43; refine (HF).mono ?_; rintro e w9 ⟨rfl, hw⟩; have hw2 := hw.symm; clear hw; subst hw2) | (go_at_call 44; refine HW.mono ?_; rintro e w3 ⟨rfl, K3⟩))
    go_ret
    exact ⟨rfl, z1.out _ K3⟩
  | false =>
    rw [if_neg (by rw [hw]; simp)] at hZ
    subst hZ
    rw [hw] at HW
    have HL := hid_link h ok hn hpn hxn hu (k1 := A.kids p) (k2 := []) (by rw [List.append_nil]) (-1) rfl
    clear z0 h
    go_enter Try.func27, Try.ntmps27
    go_wp2_with (first | (go_at_call 10; refine (HH _).mono ?_; rintro e w9 ⟨rfl, hw⟩; have hw2 := hw.symm; clear hw; subst hw2) | (go_at_call 42; refine (HM).mono ?_; rintro e w9 ⟨rfl, hw⟩; have hw2 := hw.symm; clear hw; subst hw2) | (go_at_call 43; refine (HF).mono ?_; rintro e w9 ⟨rfl, hw⟩; have hw2 := hw.symm; clear hw; subst hw2) | (go_at_call 44; refine HW.mono ?_; rintro e w3 ⟨rfl, K3⟩) | (go_at_call 45; refine (HL.out _ K3).mono ?_; rintro e w4 ⟨rfl, Z4⟩))
    go_ret
    exact ⟨rfl, Z4⟩

set_option maxHeartbeats 1000000 in
theorem det_arena (h : Rw tag w b g o c q A.n A.raw pl) (ful : A.Ful) (hn : A.n < 50000) (x : Int) :
    Calls Try.prog 32 #[.pointer (some ⟨b, 0, none⟩), .int .i64 x] w fun e w' => e = .returned (.int .i64 (A.detF x).2) ∧ Rz w tag w' b g o c q A.n (A.detF x).1.raw pl := by
  have HH := fun z => has_any h (by omega) z
  have ok := ful.toOk
  obtain ⟨Z, hZ⟩ : ∃ Z, A.detF x = Z := ⟨_, rfl⟩
  rw [hZ]
  unfold Ar.detF at hZ
  have z0 : Rz w tag w b g o c q A.n A.raw pl := Rz.mk h (Kp.refl _ _)
  by_cases hx : A.there x = true
  case neg =>
    have hx : A.there x = false := by simpa using hx
    rw [if_pos hx] at hZ
    subst hZ
    rw [there_dec] at hx
    have z1 : Hid (Rz w tag w b g o c q A.n A.raw pl) := z0
    clear z0 h
    go_enter Try.func32, Try.ntmps32
    go_wp2_with (go_at_call 10; refine (HH _).mono ?_; rintro e w9 ⟨rfl, hw⟩; have hw2 := hw.symm; clear hw; subst hw2)
    go_ret
    exact ⟨rfl, z1.out⟩
  rw [if_neg (by simp [hx])] at hZ
  obtain ⟨x, rfl, hxn⟩ := there_nat hx
  rw [Int.toNat_natCast] at hZ
  rw [there_dec] at hx
  have HF := fixed_any h (by omega) x hxn
  rw [show (A.raw x).lb = A.lb x from rfl] at HF
  cases h2 : Ar.fix (A.lb x) with
  | true =>
    rw [h2] at HF
    rw [if_pos h2] at hZ
    subst hZ
    have z1 : Hid (Rz w tag w b g o c q A.n A.raw pl) := z0
    clear z0 h
    go_enter Try.func32, Try.ntmps32
    go_wp2_with (first | (go_at_call 10; refine (HH _).mono ?_; rintro e w9 ⟨rfl, hw⟩; have hw2 := hw.symm; clear hw; subst hw2) | (go_at_call 43; refine (HF).mono ?_; rintro e w9 ⟨rfl, hw⟩; have hw2 := hw.symm; clear hw; subst hw2))
    go_ret
    exact ⟨rfl, z1.out⟩
  | false =>
  rw [h2] at HF
  rw [if_neg (by simp [h2])] at hZ
  subst hZ
  obtain ⟨c0, _⟩ := h.head
  obtain ⟨l1, _⟩ := h.links hxn
  have hx0 : (0 : Int) ≤ (x : Int) := by omega
  have hx1 : (x : Int) < (A.n : Int) := by omega
  cases hu : A.up x with
  | none =>
    rw [up_eq hu] at l1
    have e1 : A.cut x = A := Ar.cut_none hu
    rw [e1]
    have z1 : Hid (Rz w tag w b g o c q A.n A.raw pl) := z0
    clear z0 h
    go_enter Try.func32, Try.ntmps32
    go_wp2_with (first | (go_at_call 10; refine (HH _).mono ?_; rintro e w9 ⟨rfl, hw⟩; have hw2 := hw.symm; clear hw; subst hw2) | (go_at_call 43; refine (HF).mono ?_; rintro e w9 ⟨rfl, hw⟩; have hw2 := hw.symm; clear hw; subst hw2))
    go_ret
    exact ⟨rfl, z1.out⟩
  | some u =>
    rw [up_some hu] at l1
    have t1 : ((u : Int) != -1) = true := bne_iff_ne.2 (by omega)
    obtain ⟨_, _, _, n1, n2, n3, n4⟩ := raw_nn ok x
    have HU := unlink_any h (by omega) u (ok.lt hu).2 x hxn (up_some hu) n1 n2 n3 n4
    rw [ok.unlink_raw hu] at HU
    clear z0 h
    go_enter Try.func32, Try.ntmps32
    go_wp2_with (first | (go_at_call 10; refine (HH _).mono ?_; rintro e w9 ⟨rfl, hw⟩; have hw2 := hw.symm; clear hw; subst hw2) | (go_at_call 43; refine (HF).mono ?_; rintro e w9 ⟨rfl, hw⟩; have hw2 := hw.symm; clear hw; subst hw2) | (go_at_call 50; refine HU.mono ?_; rintro e w3 ⟨rfl, Z3⟩))
    go_ret
    exact ⟨rfl, Z3⟩

set_option maxHeartbeats 1000000 in
theorem bef_arena (h : Rw tag w b g o c q A.n A.raw pl) (ful : A.Ful) (hn : A.n < 50000) (r x : Int) :
    Calls Try.prog 28 #[.pointer (some ⟨b, 0, none⟩), .int .i64 r, .int .i64 x] w fun e w' => e = .returned (.int .i64 (A.befF r x).2) ∧ Rz w tag w' b g o c q A.n (A.befF r x).1.raw pl := by
  have HH := fun z => has_any h (by omega) z
  have ok := ful.toOk
  obtain ⟨Z, hZ⟩ : ∃ Z, A.befF r x = Z := ⟨_, rfl⟩
  rw [hZ]
  unfold Ar.befF at hZ
  have z0 : Rz w tag w b g o c q A.n A.raw pl := Rz.mk h (Kp.refl _ _)
  by_cases hp : A.there r = true
  case neg =>
    have hp : A.there r = false := by simpa using hp
    rw [if_pos (.inl hp)] at hZ
    subst hZ
    rw [there_dec] at hp
    have z1 : Hid (Rz w tag w b g o c q A.n A.raw pl) := z0
    clear z0 h
    go_enter Try.func28, Try.ntmps28
    go_wp2_with (go_at_call 10; refine (HH _).mono ?_; rintro e w9 ⟨rfl, hw⟩; have hw2 := hw.symm; clear hw; subst hw2)
    go_ret
    exact ⟨rfl, z1.out⟩
  by_cases hx : A.there x = true
  case neg =>
    have hx : A.there x = false := by simpa using hx
    rw [if_pos (.inr hx)] at hZ
    subst hZ
    rw [there_dec] at hp hx
    have z1 : Hid (Rz w tag w b g o c q A.n A.raw pl) := z0
    clear z0 h
    go_enter Try.func28, Try.ntmps28
    go_wp2_with (go_at_call 10; refine (HH _).mono ?_; rintro e w9 ⟨rfl, hw⟩; have hw2 := hw.symm; clear hw; subst hw2)
    go_ret
    exact ⟨rfl, z1.out⟩
  rw [if_neg (by simp [hp, hx])] at hZ
  obtain ⟨r, rfl, hpn⟩ := there_nat hp
  obtain ⟨x, rfl, hxn⟩ := there_nat hx
  rw [Int.toNat_natCast, Int.toNat_natCast] at hZ
  rw [there_dec] at hp hx
  have HM := follow_any h (by omega) r hpn
  have HF := fixed_any h (by omega) x hxn
  rw [show (A.raw r).lb = A.lb r from rfl] at HM
  rw [show (A.raw x).lb = A.lb x from rfl] at HF
  cases hr : A.up r with
  | none =>
    rw [hr] at hZ
    rw [up_eq hr, show (!Ar.fix (A.lb r) && decide ((-1 : Int) ≠ -1)) = false by simp] at HM
    subst hZ
    have z1 : Hid (Rz w tag w b g o c q A.n A.raw pl) := z0
    clear z0 h HF
    go_enter Try.func28, Try.ntmps28
    go_wp2_with (first | (go_at_call 10; refine (HH _).mono ?_; rintro e w9 ⟨rfl, hw⟩; have hw2 := hw.symm; clear hw; subst hw2) | (go_at_call 46; refine (HM).mono ?_; rintro e w9 ⟨rfl, hw⟩; have hw2 := hw.symm; clear hw; subst hw2))
    go_ret
    exact ⟨rfl, z1.out⟩
  | some p =>
  rw [hr] at hZ
  replace hZ : (if Ar.fix (A.lb r) = true ∨ Ar.fix (A.lb x) = true then (A, 23) else if A.up x ≠ none then (A, 24) else if A.wn r x = true then (A, 26) else (A.put p (A.place p r) x, 0)) = Z := hZ
  cases h1 : Ar.fix (A.lb r) with
  | true =>
    rw [h1, show (!true && decide ((A.raw r).up ≠ -1)) = false from rfl] at HM
    rw [if_pos (.inl h1)] at hZ
    subst hZ
    have z1 : Hid (Rz w tag w b g o c q A.n A.raw pl) := z0
    clear z0 h HF
    go_enter Try.func28, Try.ntmps28
    go_wp2_with (first | (go_at_call 10; refine (HH _).mono ?_; rintro e w9 ⟨rfl, hw⟩; have hw2 := hw.symm; clear hw; subst hw2) | (go_at_call 46; refine (HM).mono ?_; rintro e w9 ⟨rfl, hw⟩; have hw2 := hw.symm; clear hw; subst hw2))
    go_ret
    exact ⟨rfl, z1.out⟩
  | false =>
  rw [h1, up_some hr, show (!false && decide ((p : Int) ≠ -1)) = true by simp] at HM
  cases h2 : Ar.fix (A.lb x) with
  | true =>
    rw [h2] at HF
    rw [if_pos (.inr h2)] at hZ
    subst hZ
    have z1 : Hid (Rz w tag w b g o c q A.n A.raw pl) := z0
    clear z0 h
    go_enter Try.func28, Try.ntmps28
    go_wp2_with (first | (go_at_call 10; refine (HH _).mono ?_; rintro e w9 ⟨rfl, hw⟩; have hw2 := hw.symm; clear hw; subst hw2) | (go_at_call 46; refine (HM).mono ?_; rintro e w9 ⟨rfl, hw⟩; have hw2 := hw.symm; clear hw; subst hw2) | (go_at_call 43; refine (HF).mono ?_; rintro e w9 ⟨rfl, hw⟩; have hw2 := hw.symm; clear hw; subst hw2))
    go_ret
    exact ⟨rfl, z1.out⟩
  | false =>
  rw [h2] at HF
  rw [if_neg (by simp [h1, h2])] at hZ
  obtain ⟨c0, _⟩ := h.head
  obtain ⟨l1, _⟩ := h.links hxn
  have hx0 : (0 : Int) ≤ (x : Int) := by omega
  have hx1 : (x : Int) < (A.n : Int) := by omega
  cases hu : A.up x with
  | some u =>
    rw [if_pos (by rw [hu]; simp)] at hZ
    subst hZ
    rw [up_some hu] at l1
    have t1 : ((u : Int) != -1) = true := bne_iff_ne.2 (by omega)
    have z1 : Hid (Rz w tag w b g o c q A.n A.raw pl) := z0
    clear z0 h
    go_enter Try.func28, Try.ntmps28
    go_wp2_with (first | (go_at_call 10; refine (HH _).mono ?_; rintro e w9 ⟨rfl, hw⟩; have hw2 := hw.symm; clear hw; subst hw2) | (go_at_call 46; refine (HM).mono ?_; rintro e w9 ⟨rfl, hw⟩; have hw2 := hw.symm; clear hw; subst hw2) | (go_at_call 43; refine (HF).mono ?_; rintro e w9 ⟨rfl, hw⟩; have hw2 := hw.symm; clear hw; subst hw2))
    go_ret
    exact ⟨rfl, z1.out⟩
  | none =>
  rw [if_neg (by rw [hu]; simp)] at hZ
  rw [up_eq hu] at l1
  have HW := iswn_any h ok hn r x hpn hxn
  cases hw : A.wn r x with
  | true =>
    rw [if_pos hw] at hZ
    subst hZ
    rw [hw] at HW
    have z1 : Hid (∀ V, Kp [] w V → Rz w tag V b g o c q A.n A.raw pl) := fun V kV => Rz.mk (h.kept kV) (kV.mono (fun x hx => by simp at hx))
    clear z0 h
    go_enter Try.func28, Try.ntmps28
    go_wp2_with (first | (go_at_call 10; refine (HH _).mono ?_; rintro e w9 ⟨rfl, hw⟩; have hw2 := hw.symm; clear hw; subst hw2) | (go_at_call 46; refine (HM).mono ?_; rintro e w9 ⟨rfl, hw⟩; have hw2 := hw.symm; clear hw; subst hw2) | (go_at_call 43; refine (HF).mono ?_; rintro e w9 ⟨rfl, hw⟩; have hw2 := hw.symm; clear hw; subst hw2) | (go_at_call 44; refine HW.mono ?_; rintro e w3 ⟨rfl, K3⟩))
    go_ret
    exact ⟨rfl, z1.out _ K3⟩
  | false =>
    rw [if_neg (by rw [hw]; simp)] at hZ
    subst hZ
    rw [hw] at HW
    obtain ⟨k1, k2, ek, ek1, _, _⟩ := ok.split hr
    have epl : A.place p r = k1.length := by
      unfold Ar.place
      rw [ek, List.idxOf_append, if_neg ek1, List.idxOf_cons_self]; simp
    rw [epl]
    have HL := hid_link h ok hn (ok.lt hr).2 hxn hu (k1 := k1) (k2 := r :: k2) ek (r : Int) rfl
    have C3 : Hid (∀ V, Kp [] w V → V.cell? ⟨b, 0, none⟩ = some (.slice (some ⟨g, o, none⟩) A.n c) ∧ V.cell? ⟨g, o + r * 11 + 6, none⟩ = some (.int .i64 (p : Int))) := fun V kV => ⟨(h.kept kV).head.1, by rw [((h.kept kV).links hpn).1, up_some hr]⟩
    have hr0 : (0 : Int) ≤ (r : Int) := by omega
    have hr1 : (r : Int) < (A.n : Int) := by omega
    clear z0 h ek ek1 epl
    go_enter Try.func28, Try.ntmps28
    go_wp2_with (first | (go_at_call 10; refine (HH _).mono ?_; rintro e w9 ⟨rfl, hw⟩; have hw2 := hw.symm; clear hw; subst hw2) | (go_at_call 46; refine (HM).mono ?_; rintro e w9 ⟨rfl, hw⟩; have hw2 := hw.symm; clear hw; subst hw2) | (go_at_call 43; refine (HF).mono ?_; rintro e w9 ⟨rfl, hw⟩; have hw2 := hw.symm; clear hw; subst hw2) | (go_at_call 44; refine HW.mono ?_; rintro e w3 ⟨rfl, K3⟩; obtain ⟨c3, d3⟩ := C3.out _ K3) | (go_at_call 45; refine (HL.out _ K3).mono ?_; rintro e w4 ⟨rfl, Z4⟩))
    go_ret
    exact ⟨rfl, Z4⟩

end

end Go.Proofs.Ytpkppobkagdhkaa
