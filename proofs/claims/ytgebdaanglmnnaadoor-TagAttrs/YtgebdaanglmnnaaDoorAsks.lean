/-
  The walk of TagAttrs: whatever it is given, it answers true, and leaves what was there as it was.
-/
import Derived.Test.YtgebdaanglmnnaaDoorPiece
namespace Go.Proofs.YtgebdaanglmnnaaDoor
open Go.RowKit Utf
set_option linter.unusedVariables false

set_option maxRecDepth 100000 in
set_option maxHeartbeats 4000000 in
theorem asks_any (w : World) (hn : Nm w) (hi : In w) (s0 : ByteArray) (ao : Option Addr) (n c : Nat) (F : Nat → Int) (hl : Is w ao n c F) (a : Int) :
    Calls Tryd.prog 5 #[.string s0, .slice ao n c, .int .i64 a] w fun e w' => e = .returned (.bool true) ∧ Kp [] w w' := by
  have hsz := cut_size s0 20
  go_enter Tryd.func5, Tryd.ntmps5
  go_wp2_with fail
  refine (cut_any _ s0 20 (by omega)).mono ?_
  rintro e w' ⟨rfl, rfl⟩
  generalize (if 20 < s0.size then s0.extract 0 20 else s0) = s at hsz ⊢
  rename World => w
  go_wp2
  go_loopw [7, 8] (fun x i wr => ∃ (k : Nat) (t : ByteArray), i = .int .i64 (k : Int) ∧ x = .string t ∧ k ≤ n ∧ k ≤ 15 ∧ t.size ≤ 20 + 6 * k ∧ Kp [] w wr) (fun _ i _ => 15 - (intOf i).toNat)
  case atStart => exact ⟨0, s, rfl, rfl, by omega, by omega, by omega, Kp.refl _ _⟩
  case round =>
    obtain ⟨k, t, rfl, rfl, hk1, hk2, ht, kr⟩ := hrel
    have hz : t.size ≤ 110 := by omega
    have hz2 : (t.size : Int) ≤ 110 := by omega
    by_cases h1 : k < n
    · by_cases h2 : k < 15
      · obtain ⟨b, o, rfl, hc⟩ := (hl.kept kr).2 k h1
        generalize F k = y at hc
        go_wp2_with fail
        refine (piece_any _ y).mono ?_
        rintro e w2 ⟨p, rfl, hp, k2⟩
        have i7 : ¬ 9223372036854775807 < t.size + p.size := by omega
        go_wp2
        go_roundw
        case rel => exact ⟨k + 1, t ++ p, by go_num, rfl, by omega, by omega, by rw [cat_size]; omega, kr.trans k2 (fun x hx => by simp at hx)⟩
        case measure => simp [intOf]; omega
      · skip
        have W1 := fun W => within_zero W a t.size (by omega)
        have hw := wi_le a t.size
        generalize wi a t.size = p at W1 hw
        have S6 := fun W (kk : Kp [] w W) => known_any W (hn.kept kk) (hi.kept kk)
        clear hl
        by_cases g1 : p = t.size
        · clear hn hi
          subst g1
          go_wp2_with fail
          refine (W1 _).mono ?_
          rintro e w1 ⟨rfl, rfl⟩
          clear W1
          go_wp2_with fail
          refine (from_back (S6 _ kr) kr).mono ?_
          rintro e w8 ⟨rfl, k8⟩
          clear S6
          go_wp2
          go_ret
          exact ⟨rfl, k8⟩
        have g2 : p < t.size := by omega
        have b0 : ((p : Int) == (t.size : Int)) = false := by simp only [beq_eq_false_iff_ne, ne_eq]; omega
        have i1 := index_at t (p : Int) p rfl g2
        obtain ⟨r1, r2⟩ := bt_range t p
        have HA := fun W (kk : Kp [] w W) => attr_any W (hn.kept kk) (hi.kept kk) t p g2 (by omega)
        have HB := fun W => ref_attr_any W t p g2 (by omega)
        generalize aF t p = A at HA HB
        obtain ⟨⟨a1, a2⟩, an, ah⟩ := A
        simp only [av] at HA HB
        generalize bt t p = x at i1 r1 r2
        clear hn hi g1
        by_cases q1 : x = 62
        · subst q1
          clear HA HB
          go_wp2_with fail
          refine (W1 _).mono ?_
          rintro e w1 ⟨rfl, rfl⟩
          clear W1
          go_wp2_with fail
          refine (from_back (S6 _ kr) kr).mono ?_
          rintro e w8 ⟨rfl, k8⟩
          clear S6
          go_wp2
          go_ret
          exact ⟨rfl, k8⟩
        have b1 : (x == 62) = false := by simpa using q1
        by_cases q2 : x = 47
        · subst q2
          clear HA HB q1
          go_wp2_with fail
          refine (W1 _).mono ?_
          rintro e w1 ⟨rfl, rfl⟩
          clear W1
          go_wp2_with fail
          refine (from_back (S6 _ kr) kr).mono ?_
          rintro e w8 ⟨rfl, k8⟩
          clear S6
          go_wp2
          go_ret
          exact ⟨rfl, k8⟩
        have b2 : (x == 47) = false := by simpa using q2
        by_cases q3 : x = 32
        · subst q3
          clear HA HB q1 q2
          go_wp2_with fail
          refine (W1 _).mono ?_
          rintro e w1 ⟨rfl, rfl⟩
          clear W1
          go_wp2_with fail
          refine (from_back (S6 _ kr) kr).mono ?_
          rintro e w8 ⟨rfl, k8⟩
          clear S6
          go_wp2
          go_ret
          exact ⟨rfl, k8⟩
        have b3 : (x == 32) = false := by simpa using q3
        clear q1 q2 q3
        by_cases q4 : 9 ≤ x
        · by_cases q5 : x ≤ 13
          · by_cases q6 : x = 11
            · subst q6
              go_wp2_with fail
              refine (W1 _).mono ?_
              rintro e w1 ⟨rfl, rfl⟩
              clear W1
              go_wp2_with fail
              refine (HA _ kr).mono ?_
              rintro e w2 ⟨rfl, k2⟩
              have A1 := At.new w2 #[.string a1, .string a2] 31
              have k3 := (kr.trans k2 (fun z hz => by simp at hz)).alloc (.cells #[.string a1, .string a2] 31)
              clear HA k2
              go_wp2_with fail
              generalize w2.alloc (.cells #[.string a1, .string a2] 31) = W at A1 k3 ⊢
              generalize w2.heap.size = g at A1 ⊢
              refine (HB _).mono ?_
              rintro e w4 ⟨rfl, k4⟩
              have A2 := (A1.kept k4 (by simp)).kept ((Kp.refl [] w4).alloc (.cells #[.string a1, .string a2] 31)) (by simp)
              have k5 := (k3.trans k4 (fun z hz => by simp at hz)).alloc (.cells #[.string a1, .string a2] 31)
              clear HB A1 k3 k4
              have x0 : _ = some (Value.string a1) := A2.cell 0
              have x1 : _ = some (Value.string a2) := A2.cell 1
              clear A2
              go_wp2_with fail
              refine (from_back (S6 _ k5) k5).mono ?_
              rintro e w8 ⟨rfl, k8⟩
              clear S6 x0 x1
              go_wp2
              go_ret
              exact ⟨rfl, k8⟩
            · have b6 : (x != 11) = true := by simpa using q6
              clear HA HB q6
              go_wp2_with fail
              refine (W1 _).mono ?_
              rintro e w1 ⟨rfl, rfl⟩
              clear W1
              go_wp2_with fail
              refine (from_back (S6 _ kr) kr).mono ?_
              rintro e w8 ⟨rfl, k8⟩
              clear S6
              go_wp2
              go_ret
              exact ⟨rfl, k8⟩
          · skip
            go_wp2_with fail
            refine (W1 _).mono ?_
            rintro e w1 ⟨rfl, rfl⟩
            clear W1
            go_wp2_with fail
            refine (HA _ kr).mono ?_
            rintro e w2 ⟨rfl, k2⟩
            have A1 := At.new w2 #[.string a1, .string a2] 31
            have k3 := (kr.trans k2 (fun z hz => by simp at hz)).alloc (.cells #[.string a1, .string a2] 31)
            clear HA k2
            go_wp2_with fail
            generalize w2.alloc (.cells #[.string a1, .string a2] 31) = W at A1 k3 ⊢
            generalize w2.heap.size = g at A1 ⊢
            refine (HB _).mono ?_
            rintro e w4 ⟨rfl, k4⟩
            have A2 := (A1.kept k4 (by simp)).kept ((Kp.refl [] w4).alloc (.cells #[.string a1, .string a2] 31)) (by simp)
            have k5 := (k3.trans k4 (fun z hz => by simp at hz)).alloc (.cells #[.string a1, .string a2] 31)
            clear HB A1 k3 k4
            have x0 : _ = some (Value.string a1) := A2.cell 0
            have x1 : _ = some (Value.string a2) := A2.cell 1
            clear A2
            go_wp2_with fail
            refine (from_back (S6 _ k5) k5).mono ?_
            rintro e w8 ⟨rfl, k8⟩
            clear S6 x0 x1
            go_wp2
            go_ret
            exact ⟨rfl, k8⟩
        · skip
          go_wp2_with fail
          refine (W1 _).mono ?_
          rintro e w1 ⟨rfl, rfl⟩
          clear W1
          go_wp2_with fail
          refine (HA _ kr).mono ?_
          rintro e w2 ⟨rfl, k2⟩
          have A1 := At.new w2 #[.string a1, .string a2] 31
          have k3 := (kr.trans k2 (fun z hz => by simp at hz)).alloc (.cells #[.string a1, .string a2] 31)
          clear HA k2
          go_wp2_with fail
          generalize w2.alloc (.cells #[.string a1, .string a2] 31) = W at A1 k3 ⊢
          generalize w2.heap.size = g at A1 ⊢
          refine (HB _).mono ?_
          rintro e w4 ⟨rfl, k4⟩
          have A2 := (A1.kept k4 (by simp)).kept ((Kp.refl [] w4).alloc (.cells #[.string a1, .string a2] 31)) (by simp)
          have k5 := (k3.trans k4 (fun z hz => by simp at hz)).alloc (.cells #[.string a1, .string a2] 31)
          clear HB A1 k3 k4
          have x0 : _ = some (Value.string a1) := A2.cell 0
          have x1 : _ = some (Value.string a2) := A2.cell 1
          clear A2
          go_wp2_with fail
          refine (from_back (S6 _ k5) k5).mono ?_
          rintro e w8 ⟨rfl, k8⟩
          clear S6 x0 x1
          go_wp2
          go_ret
          exact ⟨rfl, k8⟩
    · skip
      have W1 := fun W => within_zero W a t.size (by omega)
      have hw := wi_le a t.size
      generalize wi a t.size = p at W1 hw
      have S6 := fun W (kk : Kp [] w W) => known_any W (hn.kept kk) (hi.kept kk)
      clear hl
      by_cases g1 : p = t.size
      · clear hn hi
        subst g1
        go_wp2_with fail
        refine (W1 _).mono ?_
        rintro e w1 ⟨rfl, rfl⟩
        clear W1
        go_wp2_with fail
        refine (from_back (S6 _ kr) kr).mono ?_
        rintro e w8 ⟨rfl, k8⟩
        clear S6
        go_wp2
        go_ret
        exact ⟨rfl, k8⟩
      have g2 : p < t.size := by omega
      have b0 : ((p : Int) == (t.size : Int)) = false := by simp only [beq_eq_false_iff_ne, ne_eq]; omega
      have i1 := index_at t (p : Int) p rfl g2
      obtain ⟨r1, r2⟩ := bt_range t p
      have HA := fun W (kk : Kp [] w W) => attr_any W (hn.kept kk) (hi.kept kk) t p g2 (by omega)
      have HB := fun W => ref_attr_any W t p g2 (by omega)
      generalize aF t p = A at HA HB
      obtain ⟨⟨a1, a2⟩, an, ah⟩ := A
      simp only [av] at HA HB
      generalize bt t p = x at i1 r1 r2
      clear hn hi g1
      by_cases q1 : x = 62
      · subst q1
        clear HA HB
        go_wp2_with fail
        refine (W1 _).mono ?_
        rintro e w1 ⟨rfl, rfl⟩
        clear W1
        go_wp2_with fail
        refine (from_back (S6 _ kr) kr).mono ?_
        rintro e w8 ⟨rfl, k8⟩
        clear S6
        go_wp2
        go_ret
        exact ⟨rfl, k8⟩
      have b1 : (x == 62) = false := by simpa using q1
      by_cases q2 : x = 47
      · subst q2
        clear HA HB q1
        go_wp2_with fail
        refine (W1 _).mono ?_
        rintro e w1 ⟨rfl, rfl⟩
        clear W1
        go_wp2_with fail
        refine (from_back (S6 _ kr) kr).mono ?_
        rintro e w8 ⟨rfl, k8⟩
        clear S6
        go_wp2
        go_ret
        exact ⟨rfl, k8⟩
      have b2 : (x == 47) = false := by simpa using q2
      by_cases q3 : x = 32
      · subst q3
        clear HA HB q1 q2
        go_wp2_with fail
        refine (W1 _).mono ?_
        rintro e w1 ⟨rfl, rfl⟩
        clear W1
        go_wp2_with fail
        refine (from_back (S6 _ kr) kr).mono ?_
        rintro e w8 ⟨rfl, k8⟩
        clear S6
        go_wp2
        go_ret
        exact ⟨rfl, k8⟩
      have b3 : (x == 32) = false := by simpa using q3
      clear q1 q2 q3
      by_cases q4 : 9 ≤ x
      · by_cases q5 : x ≤ 13
        · by_cases q6 : x = 11
          · subst q6
            go_wp2_with fail
            refine (W1 _).mono ?_
            rintro e w1 ⟨rfl, rfl⟩
            clear W1
            go_wp2_with fail
            refine (HA _ kr).mono ?_
            rintro e w2 ⟨rfl, k2⟩
            have A1 := At.new w2 #[.string a1, .string a2] 31
            have k3 := (kr.trans k2 (fun z hz => by simp at hz)).alloc (.cells #[.string a1, .string a2] 31)
            clear HA k2
            go_wp2_with fail
            generalize w2.alloc (.cells #[.string a1, .string a2] 31) = W at A1 k3 ⊢
            generalize w2.heap.size = g at A1 ⊢
            refine (HB _).mono ?_
            rintro e w4 ⟨rfl, k4⟩
            have A2 := (A1.kept k4 (by simp)).kept ((Kp.refl [] w4).alloc (.cells #[.string a1, .string a2] 31)) (by simp)
            have k5 := (k3.trans k4 (fun z hz => by simp at hz)).alloc (.cells #[.string a1, .string a2] 31)
            clear HB A1 k3 k4
            have x0 : _ = some (Value.string a1) := A2.cell 0
            have x1 : _ = some (Value.string a2) := A2.cell 1
            clear A2
            go_wp2_with fail
            refine (from_back (S6 _ k5) k5).mono ?_
            rintro e w8 ⟨rfl, k8⟩
            clear S6 x0 x1
            go_wp2
            go_ret
            exact ⟨rfl, k8⟩
          · have b6 : (x != 11) = true := by simpa using q6
            clear HA HB q6
            go_wp2_with fail
            refine (W1 _).mono ?_
            rintro e w1 ⟨rfl, rfl⟩
            clear W1
            go_wp2_with fail
            refine (from_back (S6 _ kr) kr).mono ?_
            rintro e w8 ⟨rfl, k8⟩
            clear S6
            go_wp2
            go_ret
            exact ⟨rfl, k8⟩
        · skip
          go_wp2_with fail
          refine (W1 _).mono ?_
          rintro e w1 ⟨rfl, rfl⟩
          clear W1
          go_wp2_with fail
          refine (HA _ kr).mono ?_
          rintro e w2 ⟨rfl, k2⟩
          have A1 := At.new w2 #[.string a1, .string a2] 31
          have k3 := (kr.trans k2 (fun z hz => by simp at hz)).alloc (.cells #[.string a1, .string a2] 31)
          clear HA k2
          go_wp2_with fail
          generalize w2.alloc (.cells #[.string a1, .string a2] 31) = W at A1 k3 ⊢
          generalize w2.heap.size = g at A1 ⊢
          refine (HB _).mono ?_
          rintro e w4 ⟨rfl, k4⟩
          have A2 := (A1.kept k4 (by simp)).kept ((Kp.refl [] w4).alloc (.cells #[.string a1, .string a2] 31)) (by simp)
          have k5 := (k3.trans k4 (fun z hz => by simp at hz)).alloc (.cells #[.string a1, .string a2] 31)
          clear HB A1 k3 k4
          have x0 : _ = some (Value.string a1) := A2.cell 0
          have x1 : _ = some (Value.string a2) := A2.cell 1
          clear A2
          go_wp2_with fail
          refine (from_back (S6 _ k5) k5).mono ?_
          rintro e w8 ⟨rfl, k8⟩
          clear S6 x0 x1
          go_wp2
          go_ret
          exact ⟨rfl, k8⟩
      · skip
        go_wp2_with fail
        refine (W1 _).mono ?_
        rintro e w1 ⟨rfl, rfl⟩
        clear W1
        go_wp2_with fail
        refine (HA _ kr).mono ?_
        rintro e w2 ⟨rfl, k2⟩
        have A1 := At.new w2 #[.string a1, .string a2] 31
        have k3 := (kr.trans k2 (fun z hz => by simp at hz)).alloc (.cells #[.string a1, .string a2] 31)
        clear HA k2
        go_wp2_with fail
        generalize w2.alloc (.cells #[.string a1, .string a2] 31) = W at A1 k3 ⊢
        generalize w2.heap.size = g at A1 ⊢
        refine (HB _).mono ?_
        rintro e w4 ⟨rfl, k4⟩
        have A2 := (A1.kept k4 (by simp)).kept ((Kp.refl [] w4).alloc (.cells #[.string a1, .string a2] 31)) (by simp)
        have k5 := (k3.trans k4 (fun z hz => by simp at hz)).alloc (.cells #[.string a1, .string a2] 31)
        clear HB A1 k3 k4
        have x0 : _ = some (Value.string a1) := A2.cell 0
        have x1 : _ = some (Value.string a2) := A2.cell 1
        clear A2
        go_wp2_with fail
        refine (from_back (S6 _ k5) k5).mono ?_
        rintro e w8 ⟨rfl, k8⟩
        clear S6 x0 x1
        go_wp2
        go_ret
        exact ⟨rfl, k8⟩

end Go.Proofs.YtgebdaanglmnnaaDoor
