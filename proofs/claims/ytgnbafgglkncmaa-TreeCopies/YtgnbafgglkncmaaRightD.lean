/-
  hasRightFields of the program.
-/
import Derived.Test.YtgnbafgglkncmaaRightC
namespace Go.Proofs.Ytgnbafgglkncmaa
open Go.RowKit
set_option linter.unusedVariables false

theorem rp_none (w : World) : Rp w none 0 0 [] := ⟨rfl, Nat.le_refl _, fun j hj => by omega⟩

set_option maxRecDepth 100000 in
set_option maxHeartbeats 1000000 in
theorem fields_any (w : World) (b off : Nat) (l : Lb) (p : Pl) (hc : Cl w b off l p) (hr : Rp w p.1.1 p.1.2.1 p.1.2.2 l.attrs) (hl : l.attrs.length ≤ 300) (hf : fits l.attrs) :
    Calls Try.prog 46 #[.pointer (some ⟨b, off, none⟩)] w fun e w' => e = .returned (.bool (fieldsF l)) ∧ Kp [] w w' := by
  obtain ⟨A, hA⟩ : ∃ A, fieldsF l = A := ⟨_, rfl⟩
  rw [hA]
  have HL : Hid (∀ (m : Lb), m.attrs = [] → ∀ W, Kp [] w W → Calls Try.prog 39 #[.pointer (some ⟨b, off, none⟩), wv m ((none, 0, 0), (none, 0, 0))] W fun e w' => e = .returned (.bool (sameL l m)) ∧ Kp [] W w') := fun m hm W kW =>
    label_any W b off l m p ((none, 0, 0), (none, 0, 0)) (hc.keep kW (by simp)) (hr.kept kW) (by rw [hm]; exact rp_none W) (by have := hr.len; omega) (by simp)
  have HE := elem_any w b off l p hc hr hl hf
  have HS : Hid (∀ W, Kp [] w W → W.cell? ⟨b, off, none⟩ = some (.int .i64 l.kind) ∧ W.cell? ⟨b, off + 2, none⟩ = some (.string l.name) ∧ W.cell? ⟨b, off + 4, none⟩ = some (.string l.text)) := fun W kW => by
    have := (hc.keep kW (by simp)).cells
    exact ⟨this.1, this.2.2.1, this.2.2.2.2.1⟩
  obtain ⟨c0, c1, c2, c3, c4, c5⟩ := hc.cells
  clear hc hr hl hf c1 c3 c5
  unfold fieldsF at hA
  by_cases h1 : l.kind = 1
  · have r1 : ((l.kind : Int) == 1) = true := int_eq_yes h1
    rw [if_pos (by omega)] at hA
    have HC : Hid _ := HL.out (l.kind, 0, NON, [], NON) rfl
    rw [hA] at HC
    simp only [wv, NON, Lb.kind, Lb.ns, Lb.name, Lb.text] at HC
    clear HL HE hA h1
    go_enter Try.func46, Try.ntmps46
    go_wp2_with (go_at_call 39; refine (HC.out _ (Kp.refl _ _)).mono ?_; rintro e w1 ⟨rfl, k1⟩)
    go_ret
    exact ⟨rfl, k1⟩
  · have r1 : ((l.kind : Int) == 1) = false := int_eq_no h1
    by_cases h6 : l.kind = 6
    · have r6 : ((l.kind : Int) == 6) = true := int_eq_yes h6
      rw [if_pos (by omega)] at hA
      have HC : Hid _ := HL.out (l.kind, 0, NON, [], NON) rfl
      rw [hA] at HC
      simp only [wv, NON, Lb.kind, Lb.ns, Lb.name, Lb.text] at HC
      clear HL HE hA h1 h6
      go_enter Try.func46, Try.ntmps46
      go_wp2_with (go_at_call 39; refine (HC.out _ (Kp.refl _ _)).mono ?_; rintro e w1 ⟨rfl, k1⟩)
      go_ret
      exact ⟨rfl, k1⟩
    · have r6 : ((l.kind : Int) == 6) = false := int_eq_no h6
      by_cases h2 : l.kind = 2
      · have r2 : ((l.kind : Int) == 2) = true := int_eq_yes h2
        rw [if_neg (by omega), if_pos h2] at hA
        have HC : Hid _ := HL.out (l.kind, 0, l.name, [], NON) rfl
        rw [hA] at HC
        simp only [wv, NON, Lb.kind, Lb.ns, Lb.name, Lb.text] at HC
        clear HL HE hA h1 h6 h2
        go_enter Try.func46, Try.ntmps46
        go_wp2_with fail
        go_region_held3 (fun V => V.cell? ⟨b, off, none⟩ = some (.int .i64 l.kind) ∧ V.cell? ⟨b, off + 2, none⟩ = some (.string l.name) ∧ V.cell? ⟨b, off + 4, none⟩ = some (.string l.text))
          (first
            | exact HS.out _ K1.out
            | exact HS.out _ (Kp.refl _ _).drew)
          (first | (go_at_call 39; refine (HC.out _ (Kp.refl _ _).drew).mono ?_; rintro e w1 ⟨rfl, k1⟩; have K1 : Hid (Kp [] w w1) := (Kp.refl _ _).drew.trans k1 (fun x hx => Or.inl hx)))
        go_wp2
        go_ret
        exact ⟨rfl, K1.out⟩
      · have r2 : ((l.kind : Int) == 2) = false := int_eq_no h2
        by_cases h3 : l.kind = 3
        · have r3 : ((l.kind : Int) == 3) = true := int_eq_yes h3
          rw [if_neg (by omega), if_neg h2, if_pos h3] at hA
          rw [hA] at HE
          clear HL HS hA h1 h6 h2 h3
          go_enter Try.func46, Try.ntmps46
          go_wp2_with (go_at_call 64; refine HE.mono ?_; rintro e w1 ⟨rfl, k1⟩)
          go_ret
          exact ⟨rfl, k1⟩
        · have r3 : ((l.kind : Int) == 3) = false := int_eq_no h3
          by_cases h4 : l.kind = 4
          · have r4 : ((l.kind : Int) == 4) = true := int_eq_yes h4
            rw [if_neg (by omega), if_neg h2, if_neg h3, if_pos h4] at hA
            by_cases ht : l.text = NON
            · have q4 : (l.text.toList == NON.toList) = true := eqs_yes ht
              rw [show NON.toList = [] from by decide +kernel] at q4
              have q5 : (l.text.toList != []) = false := by simp only [bne, q4]; rfl
              obtain rfl : false = A := by rw [← hA]; simp [ht]
              clear HL HE HS hA ht h1 h6 h2 h3 h4
              go_enter Try.func46, Try.ntmps46
              go_wp2_with fail
              go_quiet (fail)
              go_wp2
              go_ret
              exact ⟨rfl, (Kp.refl _ _).drewN nq⟩
            · have q4 : (l.text.toList == NON.toList) = false := eqs_no ht
              rw [show NON.toList = [] from by decide +kernel] at q4
              have q5 : (l.text.toList != []) = true := by simp only [bne, q4]; rfl
              have hA2 : sameL l (l.kind, 0, NON, [], l.text) = A := by rw [← hA]; simp [ht]
              have HC : Hid _ := HL.out (l.kind, 0, NON, [], l.text) rfl
              rw [hA2] at HC
              simp only [wv, NON, Lb.kind, Lb.ns, Lb.name, Lb.text] at HC
              clear HL HE hA hA2 ht h1 h6 h2 h3 h4
              go_enter Try.func46, Try.ntmps46
              go_wp2_with fail
              go_region_held3 (fun V => V.cell? ⟨b, off, none⟩ = some (.int .i64 l.kind) ∧ V.cell? ⟨b, off + 2, none⟩ = some (.string l.name) ∧ V.cell? ⟨b, off + 4, none⟩ = some (.string l.text))
                (first
                  | exact HS.out _ K1.out
                  | exact HS.out _ (Kp.refl _ _).drew)
                (first | (go_at_call 39; refine (HC.out _ (Kp.refl _ _).drew).mono ?_; rintro e w1 ⟨rfl, k1⟩; have K1 : Hid (Kp [] w w1) := (Kp.refl _ _).drew.trans k1 (fun x hx => Or.inl hx)))
              go_wp2
              go_ret
              exact ⟨rfl, K1.out⟩
          · have r4 : ((l.kind : Int) == 4) = false := int_eq_no h4
            by_cases h5 : l.kind = 5
            · have r5 : ((l.kind : Int) == 5) = true := int_eq_yes h5
              rw [if_neg (by omega), if_neg h2, if_neg h3, if_neg h4, if_pos h5] at hA
              have HC : Hid _ := HL.out (l.kind, 0, NON, [], l.text) rfl
              rw [hA] at HC
              simp only [wv, NON, Lb.kind, Lb.ns, Lb.name, Lb.text] at HC
              clear HL HE hA h1 h6 h2 h3 h4 h5
              go_enter Try.func46, Try.ntmps46
              go_wp2_with fail
              go_region_held3 (fun V => V.cell? ⟨b, off, none⟩ = some (.int .i64 l.kind) ∧ V.cell? ⟨b, off + 2, none⟩ = some (.string l.name) ∧ V.cell? ⟨b, off + 4, none⟩ = some (.string l.text))
                (first
                  | exact HS.out _ K1.out
                  | exact HS.out _ (Kp.refl _ _).drew)
                (first | (go_at_call 39; refine (HC.out _ (Kp.refl _ _).drew).mono ?_; rintro e w1 ⟨rfl, k1⟩; have K1 : Hid (Kp [] w w1) := (Kp.refl _ _).drew.trans k1 (fun x hx => Or.inl hx)))
              go_wp2
              go_ret
              exact ⟨rfl, K1.out⟩
            · have r5 : ((l.kind : Int) == 5) = false := int_eq_no h5
              rw [if_neg (by omega), if_neg h2, if_neg h3, if_neg h4, if_neg h5] at hA
              subst hA
              clear HL HE HS h1 h6 h2 h3 h4 h5
              go_enter Try.func46, Try.ntmps46
              go_wp2
              go_ret
              exact ⟨rfl, Kp.refl _ _⟩

end Go.Proofs.Ytgnbafgglkncmaa
