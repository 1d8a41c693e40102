/-
  The walk of TagTells: whatever it is given, it answers true, and leaves what was there as it was.
-/
import Derived.Test.YtgebdaanglmnnaaDoorPiece
namespace Go.Proofs.YtgebdaanglmnnaaDoor
open Go.RowKit Utf
set_option linter.unusedVariables false

set_option maxRecDepth 100000 in
set_option maxHeartbeats 2000000 in
theorem tells_any (w : World) (hn : Nm w) (hi : In w) (s0 : ByteArray) (ao : Option Addr) (n c : Nat) (F : Nat → Int) (hl : Is w ao n c F) (a : Int) (en : Bool) :
    Calls Tryd.prog 4 #[.string s0, .slice ao n c, .int .i64 a, .bool en] w fun e w' => e = .returned (.bool true) ∧ Kp [] w w' := by
  have hsz := cut_size s0 60
  have h0 : ∀ (x : ByteArray), (x = ⟨#[60, 97]⟩ ∨ x = ⟨#[60, 47, 97]⟩) → x.size ≤ 3 := by rintro x (rfl | rfl) <;> decide
  cases en with
  | false =>
    go_enter Tryd.func4, Tryd.ntmps4
    go_wp2_with fail
    refine (cut_any _ s0 60 (by omega)).mono ?_
    rintro e w' ⟨rfl, rfl⟩
    generalize (if 60 < s0.size then s0.extract 0 60 else s0) = s at hsz ⊢
    rename World => w
    go_wp2
    go_loopw [9, 10] (fun x i wr => ∃ (k : Nat) (t : ByteArray), i = .int .i64 (k : Int) ∧ x = .string t ∧ k ≤ n ∧ k ≤ 20 ∧ t.size ≤ 3 + 6 * k ∧ Kp [] w wr) (fun _ i _ => 20 - (intOf i).toNat)
    case atStart => exact ⟨0, ⟨#[60, 97]⟩, rfl, rfl, by omega, by omega, by decide, Kp.refl _ _⟩
    case round =>
      obtain ⟨k, t, rfl, rfl, hk1, hk2, ht, kr⟩ := hrel
      by_cases h1 : k < n
      · by_cases h2 : k < 20
        · obtain ⟨b, o, rfl, hc⟩ := (hl.kept kr).2 k h1
          generalize F k = y at hc
          go_wp2_with fail
          refine (piece_any _ y).mono ?_
          rintro e w2 ⟨p, rfl, hp, k2⟩
          have i7 : ¬ 9223372036854775807 < t.size + p.size := by omega
          go_wp2
          go_roundw
          case rel => exact ⟨k + 1, t ++ p, by go_num, rfl, by omega, by omega, by rw [cat_size]; omega, kr.trans k2 (fun x hx => by simp at hx)⟩
          case measure => simp [intOf]; omega
        · skip
          have hz : t.size ≤ 130 := by omega
          have hz2 : (t.size : Int) ≤ 130 := by omega
          have z1 : (⟨#[60]⟩ ++ s).size ≤ 380 := by rw [cat_size, show ByteArray.size ⟨#[60]⟩ = 1 from rfl]; omega
          have z2 : (t ++ ⟨#[62]⟩).size ≤ 380 := by rw [cat_size, show ByteArray.size ⟨#[62]⟩ = 1 from rfl]; omega
          have z3 : (t ++ s).size ≤ 380 := by rw [cat_size]; omega
          have S1 := tsame_law _ (hn.kept kr) (hi.kept kr) s a (by omega)
          have S2 := fun W (kk : Kp [] w W) => tsame_law W (hn.kept kk) (hi.kept kk) (⟨#[60]⟩ ++ s) 0 z1
          have S3 := fun W (kk : Kp [] w W) => tsame_law W (hn.kept kk) (hi.kept kk) t 0 (by omega)
          have S4 := fun W (kk : Kp [] w W) => tsame_law W (hn.kept kk) (hi.kept kk) (t ++ ⟨#[62]⟩) 0 z2
          have W1 := fun W => within_zero W a t.size (by omega)
          generalize (wi a t.size : Int) = a2 at W1
          have S5 := fun W (kk : Kp [] w W) => tsame_law W (hn.kept kk) (hi.kept kk) (t ++ s) a2 z3
          have S6 := fun W (kk : Kp [] w W) => known_any W (hn.kept kk) (hi.kept kk)
          have i7 : ¬ 9223372036854775807 < 1 + s.size := by omega
          have i8 : ¬ 9223372036854775807 < t.size + 1 := by omega
          have i9 : ¬ 9223372036854775807 < t.size + s.size := by omega
          clear hl hn hi z1 z2 z3
          go_wp2_with fail
          refine (from_back S1 kr).mono ?_
          rintro e w1 ⟨rfl, k1⟩
          clear S1
          go_wp2_with fail
          refine (from_back (S2 _ k1) k1).mono ?_
          rintro e w3 ⟨rfl, k3⟩
          clear S2 k1
          go_wp2_with fail
          refine (from_back (S3 _ k3) k3).mono ?_
          rintro e w4 ⟨rfl, k4⟩
          clear S3 k3
          go_wp2_with fail
          refine (from_back (S4 _ k4) k4).mono ?_
          rintro e w5 ⟨rfl, k5⟩
          clear S4 k4
          go_wp2_with fail
          refine (W1 _).mono ?_
          rintro e w6 ⟨rfl, rfl⟩
          clear W1
          go_wp2_with fail
          refine (from_back (S5 _ k5) k5).mono ?_
          rintro e w7 ⟨rfl, k7⟩
          clear S5 k5
          go_wp2_with fail
          refine (from_back (S6 _ k7) k7).mono ?_
          rintro e w8 ⟨rfl, k8⟩
          clear S6 k7
          go_wp2
          go_ret
          exact ⟨rfl, k8⟩
      · skip
        have hz : t.size ≤ 130 := by omega
        have hz2 : (t.size : Int) ≤ 130 := by omega
        have z1 : (⟨#[60]⟩ ++ s).size ≤ 380 := by rw [cat_size, show ByteArray.size ⟨#[60]⟩ = 1 from rfl]; omega
        have z2 : (t ++ ⟨#[62]⟩).size ≤ 380 := by rw [cat_size, show ByteArray.size ⟨#[62]⟩ = 1 from rfl]; omega
        have z3 : (t ++ s).size ≤ 380 := by rw [cat_size]; omega
        have S1 := tsame_law _ (hn.kept kr) (hi.kept kr) s a (by omega)
        have S2 := fun W (kk : Kp [] w W) => tsame_law W (hn.kept kk) (hi.kept kk) (⟨#[60]⟩ ++ s) 0 z1
        have S3 := fun W (kk : Kp [] w W) => tsame_law W (hn.kept kk) (hi.kept kk) t 0 (by omega)
        have S4 := fun W (kk : Kp [] w W) => tsame_law W (hn.kept kk) (hi.kept kk) (t ++ ⟨#[62]⟩) 0 z2
        have W1 := fun W => within_zero W a t.size (by omega)
        generalize (wi a t.size : Int) = a2 at W1
        have S5 := fun W (kk : Kp [] w W) => tsame_law W (hn.kept kk) (hi.kept kk) (t ++ s) a2 z3
        have S6 := fun W (kk : Kp [] w W) => known_any W (hn.kept kk) (hi.kept kk)
        have i7 : ¬ 9223372036854775807 < 1 + s.size := by omega
        have i8 : ¬ 9223372036854775807 < t.size + 1 := by omega
        have i9 : ¬ 9223372036854775807 < t.size + s.size := by omega
        clear hl hn hi z1 z2 z3
        go_wp2_with fail
        refine (from_back S1 kr).mono ?_
        rintro e w1 ⟨rfl, k1⟩
        clear S1
        go_wp2_with fail
        refine (from_back (S2 _ k1) k1).mono ?_
        rintro e w3 ⟨rfl, k3⟩
        clear S2 k1
        go_wp2_with fail
        refine (from_back (S3 _ k3) k3).mono ?_
        rintro e w4 ⟨rfl, k4⟩
        clear S3 k3
        go_wp2_with fail
        refine (from_back (S4 _ k4) k4).mono ?_
        rintro e w5 ⟨rfl, k5⟩
        clear S4 k4
        go_wp2_with fail
        refine (W1 _).mono ?_
        rintro e w6 ⟨rfl, rfl⟩
        clear W1
        go_wp2_with fail
        refine (from_back (S5 _ k5) k5).mono ?_
        rintro e w7 ⟨rfl, k7⟩
        clear S5 k5
        go_wp2_with fail
        refine (from_back (S6 _ k7) k7).mono ?_
        rintro e w8 ⟨rfl, k8⟩
        clear S6 k7
        go_wp2
        go_ret
        exact ⟨rfl, k8⟩
  | true =>
    go_enter Tryd.func4, Tryd.ntmps4
    go_wp2_with fail
    refine (cut_any _ s0 60 (by omega)).mono ?_
    rintro e w' ⟨rfl, rfl⟩
    generalize (if 60 < s0.size then s0.extract 0 60 else s0) = s at hsz ⊢
    rename World => w
    go_wp2
    go_loopw [9, 10] (fun x i wr => ∃ (k : Nat) (t : ByteArray), i = .int .i64 (k : Int) ∧ x = .string t ∧ k ≤ n ∧ k ≤ 20 ∧ t.size ≤ 3 + 6 * k ∧ Kp [] w wr) (fun _ i _ => 20 - (intOf i).toNat)
    case atStart => exact ⟨0, ⟨#[60, 47, 97]⟩, rfl, rfl, by omega, by omega, by decide, Kp.refl _ _⟩
    case round =>
      obtain ⟨k, t, rfl, rfl, hk1, hk2, ht, kr⟩ := hrel
      by_cases h1 : k < n
      · by_cases h2 : k < 20
        · obtain ⟨b, o, rfl, hc⟩ := (hl.kept kr).2 k h1
          generalize F k = y at hc
          go_wp2_with fail
          refine (piece_any _ y).mono ?_
          rintro e w2 ⟨p, rfl, hp, k2⟩
          have i7 : ¬ 9223372036854775807 < t.size + p.size := by omega
          go_wp2
          go_roundw
          case rel => exact ⟨k + 1, t ++ p, by go_num, rfl, by omega, by omega, by rw [cat_size]; omega, kr.trans k2 (fun x hx => by simp at hx)⟩
          case measure => simp [intOf]; omega
        · skip
          have hz : t.size ≤ 130 := by omega
          have hz2 : (t.size : Int) ≤ 130 := by omega
          have z1 : (⟨#[60]⟩ ++ s).size ≤ 380 := by rw [cat_size, show ByteArray.size ⟨#[60]⟩ = 1 from rfl]; omega
          have z2 : (t ++ ⟨#[62]⟩).size ≤ 380 := by rw [cat_size, show ByteArray.size ⟨#[62]⟩ = 1 from rfl]; omega
          have z3 : (t ++ s).size ≤ 380 := by rw [cat_size]; omega
          have S1 := tsame_law _ (hn.kept kr) (hi.kept kr) s a (by omega)
          have S2 := fun W (kk : Kp [] w W) => tsame_law W (hn.kept kk) (hi.kept kk) (⟨#[60]⟩ ++ s) 0 z1
          have S3 := fun W (kk : Kp [] w W) => tsame_law W (hn.kept kk) (hi.kept kk) t 0 (by omega)
          have S4 := fun W (kk : Kp [] w W) => tsame_law W (hn.kept kk) (hi.kept kk) (t ++ ⟨#[62]⟩) 0 z2
          have W1 := fun W => within_zero W a t.size (by omega)
          generalize (wi a t.size : Int) = a2 at W1
          have S5 := fun W (kk : Kp [] w W) => tsame_law W (hn.kept kk) (hi.kept kk) (t ++ s) a2 z3
          have S6 := fun W (kk : Kp [] w W) => known_any W (hn.kept kk) (hi.kept kk)
          have i7 : ¬ 9223372036854775807 < 1 + s.size := by omega
          have i8 : ¬ 9223372036854775807 < t.size + 1 := by omega
          have i9 : ¬ 9223372036854775807 < t.size + s.size := by omega
          clear hl hn hi z1 z2 z3
          go_wp2_with fail
          refine (from_back S1 kr).mono ?_
          rintro e w1 ⟨rfl, k1⟩
          clear S1
          go_wp2_with fail
          refine (from_back (S2 _ k1) k1).mono ?_
          rintro e w3 ⟨rfl, k3⟩
          clear S2 k1
          go_wp2_with fail
          refine (from_back (S3 _ k3) k3).mono ?_
          rintro e w4 ⟨rfl, k4⟩
          clear S3 k3
          go_wp2_with fail
          refine (from_back (S4 _ k4) k4).mono ?_
          rintro e w5 ⟨rfl, k5⟩
          clear S4 k4
          go_wp2_with fail
          refine (W1 _).mono ?_
          rintro e w6 ⟨rfl, rfl⟩
          clear W1
          go_wp2_with fail
          refine (from_back (S5 _ k5) k5).mono ?_
          rintro e w7 ⟨rfl, k7⟩
          clear S5 k5
          go_wp2_with fail
          refine (from_back (S6 _ k7) k7).mono ?_
          rintro e w8 ⟨rfl, k8⟩
          clear S6 k7
          go_wp2
          go_ret
          exact ⟨rfl, k8⟩
      · skip
        have hz : t.size ≤ 130 := by omega
        have hz2 : (t.size : Int) ≤ 130 := by omega
        have z1 : (⟨#[60]⟩ ++ s).size ≤ 380 := by rw [cat_size, show ByteArray.size ⟨#[60]⟩ = 1 from rfl]; omega
        have z2 : (t ++ ⟨#[62]⟩).size ≤ 380 := by rw [cat_size, show ByteArray.size ⟨#[62]⟩ = 1 from rfl]; omega
        have z3 : (t ++ s).size ≤ 380 := by rw [cat_size]; omega
        have S1 := tsame_law _ (hn.kept kr) (hi.kept kr) s a (by omega)
        have S2 := fun W (kk : Kp [] w W) => tsame_law W (hn.kept kk) (hi.kept kk) (⟨#[60]⟩ ++ s) 0 z1
        have S3 := fun W (kk : Kp [] w W) => tsame_law W (hn.kept kk) (hi.kept kk) t 0 (by omega)
        have S4 := fun W (kk : Kp [] w W) => tsame_law W (hn.kept kk) (hi.kept kk) (t ++ ⟨#[62]⟩) 0 z2
        have W1 := fun W => within_zero W a t.size (by omega)
        generalize (wi a t.size : Int) = a2 at W1
        have S5 := fun W (kk : Kp [] w W) => tsame_law W (hn.kept kk) (hi.kept kk) (t ++ s) a2 z3
        have S6 := fun W (kk : Kp [] w W) => known_any W (hn.kept kk) (hi.kept kk)
        have i7 : ¬ 9223372036854775807 < 1 + s.size := by omega
        have i8 : ¬ 9223372036854775807 < t.size + 1 := by omega
        have i9 : ¬ 9223372036854775807 < t.size + s.size := by omega
        clear hl hn hi z1 z2 z3
        go_wp2_with fail
        refine (from_back S1 kr).mono ?_
        rintro e w1 ⟨rfl, k1⟩
        clear S1
        go_wp2_with fail
        refine (from_back (S2 _ k1) k1).mono ?_
        rintro e w3 ⟨rfl, k3⟩
        clear S2 k1
        go_wp2_with fail
        refine (from_back (S3 _ k3) k3).mono ?_
        rintro e w4 ⟨rfl, k4⟩
        clear S3 k3
        go_wp2_with fail
        refine (from_back (S4 _ k4) k4).mono ?_
        rintro e w5 ⟨rfl, k5⟩
        clear S4 k4
        go_wp2_with fail
        refine (W1 _).mono ?_
        rintro e w6 ⟨rfl, rfl⟩
        clear W1
        go_wp2_with fail
        refine (from_back (S5 _ k5) k5).mono ?_
        rintro e w7 ⟨rfl, k7⟩
        clear S5 k5
        go_wp2_with fail
        refine (from_back (S6 _ k7) k7).mono ?_
        rintro e w8 ⟨rfl, k8⟩
        clear S6 k7
        go_wp2
        go_ret
        exact ⟨rfl, k8⟩
end Go.Proofs.YtgebdaanglmnnaaDoor
