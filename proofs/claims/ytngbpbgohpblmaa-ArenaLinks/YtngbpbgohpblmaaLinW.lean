/-
  ArenaLinks: through any calls each node stands once among its parent's kids, none below itself.
-/
import Derived.Test.YtngbpbgohpblmaaRefP
namespace Go.Proofs.Ytngbpbgohpblmaa
open Go.RowKit Go.Maps Utf
set_option linter.unusedVariables false
set_option linter.unusedSimpArgs false

namespace Ar
theorem anc_up {a : Ar} : ∀ (s : Nat) {x c p : Nat}, a.anc s x = some c → a.up c = some p → a.anc (s + 1) x = some p
  | 0, x, c, p, e, hu => by
    obtain rfl : x = c := by simpa [anc] using e
    simp [anc, hu]
  | s + 1, x, c, p, e, hu => by
    cases hx : a.up x with
    | none => simp [anc, hx] at e
    | some z =>
      have e2 : a.anc s z = some c := by simpa [anc, hx] using e
      have := anc_up s e2 hu
      show (a.up x).bind (a.anc (s + 1)) = some p
      rw [hx]
      exact this

theorem Ok.no_loop {a : Ar} (h : a.Ok) {s x p : Nat} (e : a.anc (s + 1) x = some p) : p ≠ x := fun hp => by
  subst hp
  cases hx : a.up p with
  | none => simp [anc, hx] at e
  | some z => exact h.not_up hx ⟨s, by simpa [anc, hx] using e⟩

/-- A Content stands first. -/
theorem Ful.con_first {a : Ar} (h : a.Ful) {x i : Nat} (hi : i < (a.kids x).length) (h6 : (a.lb (a.kids x)[i]).kind = 6) : i = 0 := by
  have hm := List.getElem_mem hi
  obtain ⟨p, h1, h2⟩ := h.con _ (h.toOk.kid_lt hm).1 h6
  have e1 := (h.link x _).1 hm
  have hmp : (a.kids x)[i] ∈ a.kids p := by
    cases hq : a.kids p with
    | nil => rw [hq] at h1; cases h1
    | cons y ys => rw [hq] at h1; obtain rfl : y = (a.kids x)[i] := by simpa using h1
                   exact List.mem_cons_self ..
  rw [(h.link p _).1 hmp] at e1
  obtain rfl := Option.some.inj e1
  have h0 : 0 < (a.kids p).length := by omega
  have e0 : (a.kids p)[0] = (a.kids p)[i] := by
    rw [List.head?_eq_getElem?, List.getElem?_eq_getElem h0] at h1
    exact Option.some.inj h1
  exact ((List.getElem_inj (h.toOk.one p)).1 e0).symm
end Ar

set_option maxRecDepth 100000 in
set_option maxHeartbeats 4000000 in
theorem links_any (w : World) (ao : Option Addr) (n c : Nat) (F : Nat → Aq) (hin : Ain w ao n c F) :
    Calls Try.prog 4 #[.slice ao n c] w fun e w' => e = .returned (.bool true) ∧ Kp [] w w' := by
  have HPl := played_any w ao n c F hin
  clear hin
  go_enter Try.func4, Try.ntmps4
  go_upto_region 2 with (go_at_call 14; refine HPl.mono ?_; rintro e W1 ⟨b, d, tag, q, A, k, rfl, B, hk, v⟩)
  clear HPl
  have ful := B.ps.ful
  have ok := ful.toOk
  have hnb : A.n ≤ 101 := by have := B.ps.sz.n; omega
  have HL : Hid (∀ V, Kp [] W1 V → Calls Try.prog 15 #[.pointer (some ⟨b, 0, none⟩)] V fun e w' => e = .returned (.int .i64 (A.n : Int)) ∧ w' = V) := fun V kV => (B.ps.kept kV).len
  have HPa : Hid (∀ V z, Kp [] W1 V → Calls Try.prog 17 #[.pointer (some ⟨b, 0, none⟩), .int .i64 z] V fun e w' => e = .returned (.tuple #[.int .i64 (A.parF z).1, .bool (A.parF z).2]) ∧ w' = V) := fun V z kV => (B.ps.kept kV).par z
  have HK : Hid (∀ V (x : Nat), Kp [] W1 V → x < A.n → Calls Try.prog 16 #[.pointer (some ⟨b, 0, none⟩), .int .i64 (x : Int)] V fun e w' => ∃ ao c', e = .returned (.slice ao (A.kids x).length c') ∧ Made V w' 3 ao (A.kids x).length c' (iv (A.kids x))) := fun V x kV hx => by
    have := (B.ps.kept kV).kids (x : Int)
    rw [Ar.kidF_nat hx] at this
    refine this.mono ?_
    rintro e w' ⟨ao, n', c', rfl, M⟩
    have hl := M.rb.len
    rw [iv_len] at hl
    subst hl
    exact ⟨ao, c', rfl, M⟩
  have HNo : Hid (∀ V (x : Nat), Kp [] W1 V → x < A.n → Calls Try.prog 18 #[.pointer (some ⟨b, 0, none⟩), .int .i64 (x : Int)] V fun e w' => ∃ p : Option Addr × Nat × Nat, e = .returned (.tuple #[wv (A.lb x) (p, (none, 0, 0)), .bool true]) ∧ Kp [] V w') := fun V x kV hx => by
    refine ((B.ps.kept kV).node x hx).mono ?_
    rintro e w' ⟨p, rfl, k1, _⟩
    exact ⟨p, rfl, k1⟩
  unfold wv at HNo
  have HV : Hid (Bv (fun _ => 0) w tag W1) := v
  have HO : Hid A.Ful := ful
  clear B v ful ok
  have HL1 := HL.out _ (Kp.refl _ _)
  have j4 : ¬ (400 : Int) < (A.n : Int) := by omega
  go_wp2_with (go_at_call 15; refine (HL1).mono ?_; rintro e w9 ⟨rfl, hw⟩; have hw2 := hw.symm; clear hw; subst hw2)
  clear HL1 j4
  go_loopw [4] (fun z wr => ∃ x : Nat, z = .int .i64 (x : Int) ∧ x ≤ A.n ∧ Kp [] W1 wr) (fun z _ => A.n - (intOf z).toNat)
  case atStart => exact ⟨0, rfl, Nat.zero_le _, Kp.refl _ _⟩
  case round =>
    obtain ⟨x, rfl, hx, kr⟩ := hrel
    have HL2 := HL.out _ kr
    by_cases hlt : x < A.n
    · have x1 : (x : Int) < (A.n : Int) := by omega
      have HK2 := HK.out _ x kr hlt
      have hone := HO.out.toOk.one x
      have hlk : ∀ y, y ∈ A.kids x → A.up y = some x := fun y hy => (HO.out.toOk.link x y).1 hy
      have hkb : (A.kids x).length ≤ 101 := by have := Ar.pig _ _ hone (fun y hy => (HO.out.toOk.kid_lt hy).1); omega
      have hcf : Hid (∀ i (hi : i < (A.kids x).length), (A.lb (A.kids x)[i]).kind = 6 → i = 0) := fun i hi => HO.out.con_first hi
      go_upto_region 8 with (first | (go_at_call 15; refine (HL2).mono ?_; rintro e w9 ⟨rfl, hw⟩; have hw2 := hw.symm; clear hw; subst hw2) | (go_at_call 16; refine HK2.mono ?_; rintro e W4 ⟨ao4, c4, rfl, M4⟩))
      clear HL2 HK2
      have k4 : Kp [] W1 W4 := kr.trans M4.2.1 (fun z hz => Or.inl hz)
      have HKc : Hid (∀ i (hi : i < (A.kids x).length) V, Kp [] W4 V → ∃ b7 o7, ao4 = some ⟨b7, o7, none⟩ ∧ V.cell? ⟨b7, o7 + i, none⟩ = some (.int .i64 ((A.kids x)[i] : Int))) := fun i hi V kV => (M4.rka.kept kV).iv_at i hi
      clear M4 kr
      obtain ⟨ks, hks⟩ : ∃ ks, A.kids x = ks := ⟨_, rfl⟩
      rw [hks] at hone hlk hkb hcf HKc ⊢
      clear hks
      go_wp2_with fail
      go_loopw [6] (fun z wr => ∃ i : Nat, z = .int .i64 (i : Int) ∧ i ≤ ks.length ∧ Kp [] W4 wr) (fun z _ => ks.length - (intOf z).toNat)
      case atStart => exact ⟨0, rfl, Nat.zero_le _, Kp.refl _ _⟩
      case round =>
        obtain ⟨i, rfl, hi, kr⟩ := hrel
        by_cases hil : i < ks.length
        · obtain ⟨b7, o7, rfl, h7⟩ := HKc.out i hil _ kr
          have i0 : (0 : Int) ≤ (i : Int) := by omega
          have i1 : (i : Int) < (ks.length : Int) := by omega
          have hup := hlk ks[i] (List.getElem_mem hil)
          have hyn : ks[i] < A.n := (HO.out.toOk.lt hup).1
          have k1r : Kp [] W1 wr := k4.trans kr (fun z hz => Or.inl hz)
          have HP2 := HPa.out _ (ks[i] : Int) k1r
          rw [Ar.parF_some hyn hup] at HP2
          have h6 := hcf.out i hil
          have hne : Hid (∀ j (hj : j < ks.length), j < i → ks[j] ≠ ks[i]) := fun j hj hji e => by
            have := (List.getElem_inj hone).1 e
            omega
          have hKj : Hid (∀ j (hj : j < ks.length) V, Kp [] W4 V → V.cell? ⟨b7, o7 + j, none⟩ = some (.int .i64 (ks[j] : Int)) ∧ V.cell? ⟨b7, o7 + i, none⟩ = some (.int .i64 (ks[i] : Int))) := fun j hj V kV => by
            obtain ⟨b8, o8, e8, e9⟩ := HKc.out j hj V kV
            simp only [Option.some.injEq, Addr.mk.injEq] at e8
            obtain ⟨rfl, rfl, _⟩ := e8
            obtain ⟨b9, o9, e10, e11⟩ := HKc.out i hil V kV
            simp only [Option.some.injEq, Addr.mk.injEq] at e10
            obtain ⟨rfl, rfl, _⟩ := e10
            exact ⟨e9, e11⟩
          obtain ⟨y, hy⟩ : ∃ y, ks[i] = y := ⟨_, rfl⟩
          rw [hy] at h7 HP2 h6 hyn hne hKj
          clear hy hup
          have d1 : decide ((i : Int) < (ks.length : Int)) = true := decide_eq_true i1
          go_upto_region 14 with (go_at_call 17; refine (HP2).mono ?_; rintro e w9 ⟨rfl, hw⟩; have hw2 := hw.symm; clear hw; subst hw2)
          clear HP2 h7
          obtain ⟨wr0, hwr0⟩ : ∃ x, x = wr := ⟨_, rfl⟩
          rw [← hwr0] at kr k1r ⊢
          clear hwr0
          go_wp2_with fail
          go_loopw [9] (fun z wr => ∃ j : Nat, z = .int .i64 (j : Int) ∧ j ≤ i ∧ Kp [] W4 wr) (fun z _ => i - (intOf z).toNat)
          case atStart => exact ⟨0, rfl, Nat.zero_le _, kr⟩
          case round =>
            obtain ⟨j, rfl, hj, kj⟩ := hrel
            by_cases hji : j < i
            · obtain ⟨e1, e2⟩ := hKj.out j (by omega) wr.drew (kj.drew)
              have hb := hne.out j (by omega) hji
              have c0 : (0 : Int) ≤ (j : Int) := by omega
              have c1 : (j : Int) < (i : Int) := by omega
              have c2 : (j : Int) < (ks.length : Int) := by omega
              have hb2 : ((ks[j] : Int) == (y : Int)) = false := beq_false_of_ne (by omega)
              generalize ks[j] = z at *
              have hS1 : (World.drew wr).cell? ⟨b7, o7 + j, none⟩ = some (.int .i64 (z : Int)) ∧ (World.drew wr).cell? ⟨b7, o7 + i, none⟩ = some (.int .i64 (y : Int)) := ⟨e1, e2⟩
              have kjd : Hid (Kp [] W4 wr.drew) := kj.drew
              clear e1 e2 hb kj
              go_upto_region 17 with fail
              refine wp_region_g (S := fun V => V.cell? ⟨b7, o7 + j, none⟩ = some (.int .i64 (z : Int)) ∧ V.cell? ⟨b7, o7 + i, none⟩ = some (.int .i64 (y : Int))) (T := []) (by kernel_rfl) hS1 (fun hHeld => ?_)
              refine wpAnyG_pure (i := 0) (oi := ⟨some 63, .move (.tmp 5), 36, "law.go:161", #[], none⟩) (v := ?_) rfl (by kernel_rfl) (by kernel_rfl) (by kernel_rfl) (by kernel_rfl) (fun _ _ _ h => h) (Or.inl ⟨by rfl, ?_⟩) (by assumption) ?_
              rotate_left
              · (intro w; go_simp; try with_reducible rfl)
              simp only [Act.put, List.setIfInBounds_toArray, List.set_cons_zero, List.set_cons_succ]
              refine wpAnyG_pure (i := 1) (oi := ⟨some 64, .move (.tmp 9), 3, "law.go:161", #[], none⟩) (v := ?_) rfl (by kernel_rfl) (by kernel_rfl) (by kernel_rfl) (by kernel_rfl) (fun _ _ _ h => h) (Or.inl ⟨by rfl, ?_⟩) (by assumption) ?_
              rotate_left
              · (intro w; go_simp; try with_reducible rfl)
              simp only [Act.put, List.setIfInBounds_toArray, List.set_cons_zero, List.set_cons_succ]
              refine wpAnyG_pure (i := 2) (oi := ⟨some 65, .indexAddr 36 (.tmp 63) (.tmp 64), 0, "law.go:161", #[⟨0, .data⟩, ⟨1, .data⟩], none⟩) (v := ?_) rfl (by kernel_rfl) (by kernel_rfl) (by kernel_rfl) (by kernel_rfl) (fun _ _ _ h => h) (Or.inl ⟨by rfl, ?_⟩) (by assumption) ?_
              rotate_left
              · (intro w; go_simp; try with_reducible rfl)
              simp only [Act.put, List.setIfInBounds_toArray, List.set_cons_zero, List.set_cons_succ]
              refine wpAnyG_take (i := 3) (oi := ⟨some 66, .load 3 (.tmp 65), 3, "law.go:161", #[⟨2, .data⟩], none⟩) (v := ?_) rfl (by kernel_rfl) (by kernel_rfl) (by kernel_rfl) (by kernel_rfl) (fun _ _ _ h => h) (Or.inl ⟨by rfl, ?_⟩) (by assumption) ?_
              rotate_left
              · (intro w hSw; (obtain ⟨q1, q2⟩ := hSw); go_simp; try with_reducible rfl)
              simp only [Act.put, List.setIfInBounds_toArray, List.set_cons_zero, List.set_cons_succ]
              refine wpAnyG_pure (i := 4) (oi := ⟨some 67, .move (.tmp 5), 36, "law.go:161", #[], none⟩) (v := ?_) rfl (by kernel_rfl) (by kernel_rfl) (by kernel_rfl) (by kernel_rfl) (fun _ _ _ h => h) (Or.inl ⟨by rfl, ?_⟩) (by assumption) ?_
              rotate_left
              · (intro w; go_simp; try with_reducible rfl)
              simp only [Act.put, List.setIfInBounds_toArray, List.set_cons_zero, List.set_cons_succ]
              refine wpAnyG_pure (i := 5) (oi := ⟨some 68, .move (.tmp 6), 3, "law.go:161", #[], none⟩) (v := ?_) rfl (by kernel_rfl) (by kernel_rfl) (by kernel_rfl) (by kernel_rfl) (fun _ _ _ h => h) (Or.inl ⟨by rfl, ?_⟩) (by assumption) ?_
              rotate_left
              · (intro w; go_simp; try with_reducible rfl)
              simp only [Act.put, List.setIfInBounds_toArray, List.set_cons_zero, List.set_cons_succ]
              refine wpAnyG_pure (i := 6) (oi := ⟨some 69, .indexAddr 36 (.tmp 67) (.tmp 68), 0, "law.go:161", #[⟨4, .data⟩, ⟨5, .data⟩], none⟩) (v := ?_) rfl (by kernel_rfl) (by kernel_rfl) (by kernel_rfl) (by kernel_rfl) (fun _ _ _ h => h) (Or.inl ⟨by rfl, ?_⟩) (by assumption) ?_
              rotate_left
              · (intro w; go_simp; try with_reducible rfl)
              simp only [Act.put, List.setIfInBounds_toArray, List.set_cons_zero, List.set_cons_succ]
              refine wpAnyG_take (i := 7) (oi := ⟨some 70, .load 3 (.tmp 69), 3, "law.go:161", #[⟨6, .data⟩], none⟩) (v := ?_) rfl (by kernel_rfl) (by kernel_rfl) (by kernel_rfl) (by kernel_rfl) (fun _ _ _ h => h) (Or.inl ⟨by rfl, ?_⟩) (by assumption) ?_
              rotate_left
              · (intro w hSw; (obtain ⟨q1, q2⟩ := hSw); go_simp; try with_reducible rfl)
              simp only [Act.put, List.setIfInBounds_toArray, List.set_cons_zero, List.set_cons_succ]
              refine wpAnyG_pure (i := 8) (oi := ⟨some 71, .binOp .eql 3 (.tmp 66) (.tmp 70) 3, 4, "law.go:161", #[⟨3, .data⟩, ⟨7, .data⟩], none⟩) (v := ?_) rfl (by kernel_rfl) (by kernel_rfl) (by kernel_rfl) (by kernel_rfl) (fun _ _ _ h => h) (Or.inl ⟨by rfl, ?_⟩) (by assumption) ?_
              rotate_left
              · (intro w; go_simp; try with_reducible rfl)
              simp only [Act.put, List.setIfInBounds_toArray, List.set_cons_zero, List.set_cons_succ]
              refine wpAnyG_free (by kernel_rfl) ?_
              refine wpAny_done (by kernel_rfl) ?_ _
              clear hS1
              go_wp2
              go_roundw
              case rel => exact ⟨j + 1, by go_num, by omega, kjd.out⟩
              case measure => simp [intOf]; omega
            · obtain rfl : j = i := by omega
              have k1j : Kp [] W1 wr := k4.trans kj (fun z hz => Or.inl hz)
              have h7 := (hKj.out j hil wr kj).2
              have HN2 := HNo.out _ y k1j hyn
              have c9 : Hid ((A.lb y).kind = 6 → j = 0) := h6
              clear h6
              have HKk : Hid (∀ V, Kp [] wr V → Kp [] W4 V) := fun V kV => kj.trans kV (fun z hz => Or.inl hz)
              by_cases e6 : (A.lb y).kind = 6
              · have hj0 : ¬ (0 : Int) < (j : Int) := by have := c9.out e6; omega
                have b6 : ((A.lb y).kind == 6) = true := by rw [e6]; rfl
                clear c9 e6
                go_upto_region 20 with (go_at_call 18; refine HN2.mono ?_; rintro e W5 ⟨p5, rfl, k5⟩)
                obtain ⟨W6, hW6⟩ : ∃ W, W = W5.alloc (.cells #[.int .i64 (A.lb y).kind, .int .i64 (A.lb y).ns, .string (A.lb y).name, .slice p5.1 p5.2.1 p5.2.2, .string (A.lb y).text, .slice none 0 0] 42) := ⟨_, rfl⟩
                have k6 : Kp [] wr W6 := by rw [hW6]; exact k5.alloc _
                have a10 : W6.cell? ⟨W5.heap.size, 0, none⟩ = some (.int .i64 (A.lb y).kind) := (show At W6 W5.heap.size #[.int .i64 (A.lb y).kind, .int .i64 (A.lb y).ns, .string (A.lb y).name, .slice p5.1 p5.2.1 p5.2.2, .string (A.lb y).text, .slice none 0 0] 42 by rw [hW6]; exact At.new _ _ _).cell 0
                rw [← hW6]
                clear hW6
                generalize (A.lb y).kind = ky at *
                have kf : Hid (Kp [] W4 W6) := HKk.out _ k6
                clear k6 k5
                go_wp2
                go_roundw
                case rel => exact ⟨j + 1, by go_num, by omega, kf.out⟩
                case measure => simp [intOf]; omega
              · have b6 : ((A.lb y).kind == 6) = false := beq_false_of_ne e6
                clear c9 e6
                go_upto_region 20 with (go_at_call 18; refine HN2.mono ?_; rintro e W5 ⟨p5, rfl, k5⟩)
                obtain ⟨W6, hW6⟩ : ∃ W, W = W5.alloc (.cells #[.int .i64 (A.lb y).kind, .int .i64 (A.lb y).ns, .string (A.lb y).name, .slice p5.1 p5.2.1 p5.2.2, .string (A.lb y).text, .slice none 0 0] 42) := ⟨_, rfl⟩
                have k6 : Kp [] wr W6 := by rw [hW6]; exact k5.alloc _
                have a10 : W6.cell? ⟨W5.heap.size, 0, none⟩ = some (.int .i64 (A.lb y).kind) := (show At W6 W5.heap.size #[.int .i64 (A.lb y).kind, .int .i64 (A.lb y).ns, .string (A.lb y).name, .slice p5.1 p5.2.1 p5.2.2, .string (A.lb y).text, .slice none 0 0] 42 by rw [hW6]; exact At.new _ _ _).cell 0
                rw [← hW6]
                clear hW6
                generalize (A.lb y).kind = ky at *
                have kf : Hid (Kp [] W4 W6) := HKk.out _ k6
                clear k6 k5
                go_wp2
                go_roundw
                case rel => exact ⟨j + 1, by go_num, by omega, kf.out⟩
                case measure => simp [intOf]; omega
        · obtain rfl : i = ks.length := by omega
          have k1r : Kp [] W1 wr := k4.trans kr (fun z hz => Or.inl hz)
          clear HKc hcf kr
          obtain ⟨wr0, hwr0⟩ : ∃ x, x = wr := ⟨_, rfl⟩
          rw [← hwr0] at k1r ⊢
          clear hwr0
          go_wp2_with fail
          go_loopw [12, 13] (fun u z wr => ∃ (s cur : Nat), z = .int .i64 (s : Int) ∧ u = .int .i64 (cur : Int) ∧ A.anc s x = some cur ∧ wr = wr0) (fun _ z _ => A.n + 1 - (intOf z).toNat)
          case atStart => exact ⟨0, x, rfl, rfl, rfl, rfl⟩
          case round =>
            obtain ⟨s, cur, rfl, rfl, hanc, hw⟩ := hrel
            have hw2 := hw.symm
            clear hw
            subst hw2
            have hsn : s < A.n := HO.out.toOk.anc_lt hlt hanc
            have s1 : (s : Int) ≤ (A.n : Int) := by omega
            have HL4 := HL.out _ k1r
            have HP4 := HPa.out _ (cur : Int) k1r
            cases hu : A.up cur with
            | none =>
              rw [Ar.parF_none hu] at HP4
              have KF : Hid (Kp [] W1 wr0) := k1r
              clear hanc hu
              go_wp2_with (first | (go_at_call 15; refine (HL4).mono ?_; rintro e w9 ⟨rfl, hw⟩; have hw2 := hw.symm; clear hw; subst hw2) | (go_at_call 17; refine (HP4).mono ?_; rintro e w9 ⟨rfl, hw⟩; have hw2 := hw.symm; clear hw; subst hw2))
              go_roundw
              case rel => exact ⟨x + 1, by go_num, by omega, KF.out⟩
              case measure => simp [intOf]; omega
            | some p =>
              have hcn : cur < A.n := (HO.out.toOk.lt hu).1
              rw [Ar.parF_some hcn hu] at HP4
              have hanc2 : Hid (A.anc (s + 1) x = some p) := Ar.anc_up s hanc hu
              have hpx := HO.out.toOk.no_loop hanc2.out
              have b1 : ((p : Int) == (x : Int)) = false := beq_false_of_ne (by omega)
              have b2 : ((s : Int) == (A.n : Int)) = false := beq_false_of_ne (by omega)
              clear hanc hu hpx
              go_wp2_with (first | (go_at_call 15; refine (HL4).mono ?_; rintro e w9 ⟨rfl, hw⟩; have hw2 := hw.symm; clear hw; subst hw2) | (go_at_call 17; refine (HP4).mono ?_; rintro e w9 ⟨rfl, hw⟩; have hw2 := hw.symm; clear hw; subst hw2))
              go_roundw
              case rel => exact ⟨s + 1, p, by go_num, rfl, hanc2.out, trivial⟩
              case measure => simp [intOf]; omega
    · obtain rfl : x = A.n := by omega
      have HP2 := HPa.out _ 0 kr
      have h00 : A.parF 0 = (0, false) := Ar.parF_none (x := 0) HO.out.toOk.top
      rw [h00] at HP2
      have KF : Hid (Kp [] w wr) := (HV.out.kp (fun _ _ => rfl)).trans kr (fun z hz => Or.inl hz)
      clear kr h00 hx hlt
      go_wp2_with (first | (go_at_call 15; refine (HL2).mono ?_; rintro e w9 ⟨rfl, hw⟩; have hw2 := hw.symm; clear hw; subst hw2) | (go_at_call 17; refine (HP2).mono ?_; rintro e w9 ⟨rfl, hw⟩; have hw2 := hw.symm; clear hw; subst hw2) | (go_at_call 13; refine (known_any _).mono ?_; rintro e W9 ⟨rfl, k9⟩))
      go_ret
      exact ⟨rfl, KF.out.trans k9 (fun z hz => Or.inl hz)⟩

end Go.Proofs.Ytngbpbgohpblmaa
