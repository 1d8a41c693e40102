/-
  The laws' known and same: program and document tell the same, of any text, place and sub.
-/
import Derived.Test.YtoegjgajleamkaaUntil
namespace Go.Proofs.Ytoegjgajleamkaa
open Go.RowKit Utf

/-- A call that turns nothing. -/
theorem still {f : FuncId} {args : Array Value} {E : Ending} {w : World} (h : Calls Try.prog f args w fun e w' => e = E ∧ w' = w) : Calls Try.prog f args w fun e w' => e = E ∧ Kp [] w w' :=
  h.mono fun _ _ x => ⟨x.1, by rw [x.2]; exact Kp.refl _ _⟩

/-- What came of a call, seen from further back. -/
theorem from_back {f : FuncId} {args : Array Value} {E : Ending} {w0 w1 : World} (h : Calls Try.prog f args w1 fun e w' => e = E ∧ Kp [] w1 w') (k : Kp [] w0 w1) : Calls Try.prog f args w1 fun e w' => e = E ∧ Kp [] w0 w' :=
  h.mono fun _ _ x => ⟨x.1, k.trans x.2 (fun y hy => by simp at hy)⟩

theorem fo_doc : fo { data := #[60, 33, 68, 111, 99, 84, 121, 112, 101] } 2 { data := #[100, 111, 99, 116, 121, 112, 101] } = true := by decide
theorem skip_three : skipF { data := #[32, 32, 32] } 0 = 3 := by decide
theorem find_x : findF { data := #[97, 98, 99] } { data := #[120] } 0 = 3 := by decide

theorem known_any (w : World) : Calls Try.prog 10 #[] w fun e w' => e = .returned (.bool true) ∧ Kp [] w w' := by
  have H1 := fold_any w { data := #[60, 33, 68, 111, 99, 84, 121, 112, 101] } 2 { data := #[100, 111, 99, 116, 121, 112, 101] } (by decide)
  have H2 := fun W => still (skip_any W { data := #[32, 32, 32] } 0 (by decide))
  have H3 := fun W => find_any W { data := #[97, 98, 99] } 0 { data := #[120] } (by decide) (by decide)
  rw [show pl (ByteArray.size { data := #[60, 33, 68, 111, 99, 84, 121, 112, 101] }) 2 = 2 by decide, fo_doc] at H1
  simp only [show pl (ByteArray.size { data := #[32, 32, 32] }) 0 = 0 by decide, skip_three] at H2
  simp only [show pl (ByteArray.size { data := #[97, 98, 99] }) 0 = 0 by decide, find_x] at H3
  go_enter Try.func10, Try.ntmps10
  go_wp2_with fail
  refine H1.mono ?_
  rintro e w1 ⟨rfl, k1⟩
  clear H1
  go_wp2_with fail
  refine (from_back (H2 _) k1).mono ?_
  rintro e w2 ⟨rfl, k2⟩
  clear H2 k1
  go_wp2_with fail
  refine (from_back (H3 _) k2).mono ?_
  rintro e w3 ⟨rfl, k3⟩
  clear H3 k2
  go_wp2
  go_ret
  exact ⟨rfl, k3⟩

set_option maxHeartbeats 1000000 in
set_option maxRecDepth 100000 in
theorem same_any (w : World) (s : ByteArray) (p : Int) (sub : ByteArray) (hs : s.size ≤ 100000) (hb : sub.size ≤ 100000) : Calls Try.prog 9 #[.string s, .int .i64 p, .string sub] w fun e w' => e = .returned (.bool true) ∧ Kp [] w w' := by
  have P0 := fun W => starts_any W s p sub hs
  have R0 := fun W => still (ref_starts_any W s p sub hs hb)
  generalize st s (pl s.size p) sub = x0 at P0 R0
  have q0 : (x0 == x0) = true := by simp
  have P1 := fun W => fold_any W s p sub hs
  have R1 := fun W => ref_fold_any W s p sub hs hb
  generalize fo s (pl s.size p) sub = x1 at P1 R1
  have q1 : (x1 == x1) = true := by simp
  have P2 := fun W => find_any W s p sub hs hb
  have R2 := fun W => still (ref_find_any W s p sub hs hb)
  generalize findF s sub (pl s.size p) = x2 at P2 R2
  have q2 : ((x2 : Int) == (x2 : Int)) = true := by simp
  have P3 := fun W => until_any W s p sub hs hb
  have R3 := fun W => still (ref_until_any W s p sub hs hb)
  generalize untilF s sub (pl s.size p) = x3 at P3 R3
  have q3 : ((x3 : Int) == (x3 : Int)) = true := by simp
  have P4 := fun W => still (skip_any W s p hs)
  have R4 := fun W => still (ref_skip_any W s p hs)
  generalize skipF s (pl s.size p) = x4 at P4 R4
  have q4 : ((x4 : Int) == (x4 : Int)) = true := by simp
  have P5 := fun W => still (name_any W s p hs)
  have R5 := fun W => still (ref_name_any W s p hs)
  generalize nameF s (pl s.size p) = x5 at P5 R5
  have q5 : ((x5 : Int) == (x5 : Int)) = true := by simp
  have k0 := Kp.refl [] w
  clear hs hb
  go_enter Try.func9, Try.ntmps9
  go_wp2_with fail
  refine (from_back (P0 _) k0).mono ?_
  rintro e w1 ⟨rfl, k1⟩
  clear P0 k0
  go_wp2_with fail
  refine (from_back (R0 _) k1).mono ?_
  rintro e w2 ⟨rfl, k2⟩
  clear R0 k1
  go_wp2_with fail
  refine (from_back (P1 _) k2).mono ?_
  rintro e w3 ⟨rfl, k3⟩
  clear P1 k2
  go_wp2_with fail
  refine (from_back (R1 _) k3).mono ?_
  rintro e w4 ⟨rfl, k4⟩
  clear R1 k3
  go_wp2_with fail
  refine (from_back (P2 _) k4).mono ?_
  rintro e w5 ⟨rfl, k5⟩
  clear P2 k4
  go_wp2_with fail
  refine (from_back (R2 _) k5).mono ?_
  rintro e w6 ⟨rfl, k6⟩
  clear R2 k5
  go_wp2_with fail
  refine (from_back (P3 _) k6).mono ?_
  rintro e w7 ⟨rfl, k7⟩
  clear P3 k6
  go_wp2_with fail
  refine (from_back (R3 _) k7).mono ?_
  rintro e w8 ⟨rfl, k8⟩
  clear R3 k7
  go_wp2_with fail
  refine (from_back (P4 _) k8).mono ?_
  rintro e w9 ⟨rfl, k9⟩
  clear P4 k8
  go_wp2_with fail
  refine (from_back (R4 _) k9).mono ?_
  rintro e w10 ⟨rfl, k10⟩
  clear R4 k9
  go_wp2_with fail
  refine (from_back (P5 _) k10).mono ?_
  rintro e w11 ⟨rfl, k11⟩
  clear P5 k10
  go_wp2_with fail
  refine (from_back (R5 _) k11).mono ?_
  rintro e w12 ⟨rfl, k12⟩
  clear R5 k11
  go_wp2
  go_ret
  exact ⟨rfl, k12⟩

end Go.Proofs.Ytoegjgajleamkaa
