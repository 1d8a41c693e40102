/-
  begins of the program.
-/
import Derived.Test.YtcfaejbbjmjgpaaGreatDoorLexB
import Derived.Deep.RegionHeld3
import Derived.BigQuiet
import Derived.Deep.QuietTactic
namespace Go.Proofs.YtcfaejbbjmjgpaaGreatDoor
open Go.RowKit Utf
set_option linter.unusedVariables false

/-- What three bytes tell of a tag. -/
theorem first_tag {s : ByteArray} {p m : Nat} (hp : p < s.size) (hm : m = min (p + 3) s.size) : ∃ (T : Tok) (n : Nat) (k : Bool), tagF (s.extract p m) 0 = (T, (n : Int), k) ∧ decide ((n : Int) > 0) = decide (¬ (begF s (p : Int)).1 = 0) := by
  obtain ⟨g1, _⟩ := beg3 hp hm
  have hz : (s.extract p m).size = m - p := by rw [ByteArray.size_extract]; omega
  by_cases h : (begF s (p : Int)).1 = 0
  · rw [h] at g1
    refine ⟨zt, 0, false, ?_, ?_⟩
    · unfold tagF
      rw [if_pos g1]
      rfl
    · rw [h]
      decide
  · have h' : ¬ (begF (s.extract p m) ((0 : Nat) : Int)).1 = 0 := by
      show ¬ (begF (s.extract p m) (0 : Int)).1 = 0
      rw [g1]
      exact h
    rw [decide_eq_true h]
    rcases tag_facts h' with g | ⟨e, g2, g3, _⟩
    · exact ⟨_, _, _, g, decide_eq_true (by omega)⟩
    · refine ⟨(tagF (s.extract p m) 0).1, e, true, ?_, decide_eq_true (by omega)⟩
      exact Prod.ext rfl g2

set_option maxHeartbeats 1000000 in
set_option maxRecDepth 100000 in
theorem begins_any (w0 w : World) (b : Nat) (E : Ev w0 w b) (s : ByteArray) (q : Nat) (md : Int) (fg : Bool) (last : ByteArray) (h : Lx w b s q md fg last) (p : Nat) (hp : p < s.size) (hs : s.size ≤ 4000) :
    Calls Tryz.prog 61 #[.pointer (some ⟨b, 0, none⟩), .int .i64 (p : Int)] w fun e w' => e = .returned (.bool (bgs s p)) ∧ Kp [] w w' := by
  obtain ⟨⟨c0, c1, c2, c3, c4⟩, hf⟩ := h.facts
  have i0 := index_at s (p : Int) p rfl hp
  by_cases h0 : bt s p = 60
  · rw [h0] at i0
    obtain ⟨m, hm⟩ : ∃ m, m = min (p + 3) s.size := ⟨_, rfl⟩
    obtain ⟨_, g2⟩ := beg3 hp hm
    have hz : (s.extract p m).size = m - p := by rw [ByteArray.size_extract]; omega
    obtain ⟨T, n, k, e1, e2⟩ := first_tag hp hm
    have H1 := fun W (kk : Kp [] w W) => tread_any W (E.more kk).names (E.more kk).runes (s.extract p m) 0 (by omega)
    rw [e1] at H1
    have H2 := fun W => mk_read_any W (s.extract p m) 0 fg (by omega)
    have e3 : ∃ (R : Mt) (r : Int), mkF (s.extract p m) 0 fg = (R, r, begM s p) := by
      rw [← g2]
      cases hx : begM (s.extract p m) 0 with
      | true => exact ⟨_, _, mk_yes (p := 0) hx fg⟩
      | false => exact ⟨_, _, mk_no (p := 0) hx fg⟩
    obtain ⟨R, r, e3⟩ := e3
    rw [e3] at H2
    unfold bgs
    rw [← e2]
    unfold rdv tv at H1
    unfold rv mv at H2
    simp only [] at H1 H2
    obtain ⟨tk, tx', tl, tb, ty⟩ := T
    obtain ⟨rk, rx, ry⟩ := R
    simp only [] at H1 H2
    have CC : Hid (∀ W, Kp [] w W → W.cell? ⟨b, 3, none⟩ = some (.bool fg)) := fun W kW => by
      obtain ⟨⟨_, _, _, d3, _⟩, _⟩ := (h.kept kW (by simp)).facts
      exact d3
    generalize begM s p = B at H2 ⊢
    have d3 : Hid (∀ w1 o, Kp [] w w1 → (w1.alloc o).cell? ⟨b, 3, none⟩ = some (.bool fg)) := fun w1 o k => CC.out _ (k.alloc _)
    clear h E e1 e2 e3 g2 h0 hz CC
    have hmn : (min ((p : Int) + 3) (s.size : Int)).toNat = m := by omega
    clear hm
    rcases (show 0 < n ∨ n = 0 by omega) with hn0 | rfl
    all_goals
      try rw [show decide ((n : Int) > 0) = true from decide_eq_true (by omega)]
      try rw [show decide (((0 : Nat) : Int) > 0) = false from decide_eq_false (by omega)]
      go_enter Tryz.func61, Tryz.ntmps61
      go_wp2_with fail
      go_quiet (fail)
      try rw [hmn]
      have k0 := (Kp.refl [] w).drewN nq
      generalize w.drewN nq = W0 at k0 ⊢
      go_wp2_with fail
      refine (H1 _ k0).mono ?_
      rintro e w1 ⟨ao, n1, c, rfl, M1⟩
      have k1 := k0.trans M1.kp (fun z hz => by simp at hz)
      have d3' := d3.out w1 (.cells #[.int .i64 tk, .string tx', .slice ao n1 c, .bool tb, .string ty] 44) k1
      have k2 := k1.alloc (.cells #[.int .i64 tk, .string tx', .slice ao n1 c, .bool tb, .string ty] 44)
      clear H1 M1 d3
      go_wp2_with fail
      refine (H2 _).mono ?_
      rintro e w2 ⟨rfl, k3⟩
      have k4 := (k2.trans k3 (fun z hz => by simp at hz)).alloc (.cells #[.int .i64 rk, .string rx, .slice none 0 0, .bool false, .string ry] 44)
      clear H2
      go_wp2
      go_ret
      exact ⟨rfl, k4⟩
  · have hb : bgs s p = false := by
      cases hx : bgs s p with
      | false => rfl
      | true => exact absurd (bgs_lt hx).2 h0
    rw [hb]
    have hne : (bt s p != 60) = true := by simpa using h0
    generalize bt s p = x at i0 hne
    clear h E hb h0
    go_enter Tryz.func61, Tryz.ntmps61
    go_wp2
    go_ret
    exact ⟨rfl, Kp.refl _ _⟩

end Go.Proofs.YtcfaejbbjmjgpaaGreatDoor
