/-
  The chapter's run of known, which answers true and leaves what was there as it was; and Within, which answers a number from one on.
-/
import Derived.Test.YtigpbkgcfnmdiaaStrsC
namespace Go.Proofs.Ytigpbkgcfnmdiaa
open Go.RowKit Strs

set_option maxHeartbeats 1000000 in
theorem known_any (w : World) : Calls Try.prog 14 #[] w fun e w' => e = .returned (.bool true) ∧ Kp [] w w' := by
  go_enter Try.func14, Try.ntmps14
  go_wp2_with fail
  refine (new_any w 2 (by omega) (by omega)).mono ?_
  rintro e w1 ⟨rfl, l1, k1⟩
  have i1 : Inv w w1 (w.heap.size + 1) w.heap.size 2 [] [] := ⟨l1, k1, Nat.le_refl _⟩
  clear l1 k1
  have hp : w.heap.size + 1 < w1.heap.size := i1.1.lt.1
  generalize w.heap.size + 1 = p at i1 hp ⊢
  generalize w.heap.size = c at i1 ⊢
  have r2 : Rd (w1.alloc (.cells #[.string ⟨#[97]⟩, .string ⟨#[98]⟩, .string ⟨#[99]⟩] 9)) (.slice (some ⟨w1.heap.size, 0, none⟩) 3 3) (List.map Value.string [⟨#[97]⟩, ⟨#[98]⟩, ⟨#[99]⟩]) :=
    (own_new w1 9 #[.string ⟨#[97]⟩, .string ⟨#[98]⟩, .string ⟨#[99]⟩] (List.map Value.string [⟨#[97]⟩, ⟨#[98]⟩, ⟨#[99]⟩]) 3 (by simp) (by unfold maxLen; omega) rfl (fun j hj => by
      match j, hj with
      | 0, _ => rfl
      | 1, _ => rfl
      | 2, _ => rfl) 3 rfl).rd
  have i2 := i1.kept ((Kp.refl [] w1).alloc (.cells #[.string ⟨#[97]⟩, .string ⟨#[98]⟩, .string ⟨#[99]⟩] 9))
  have HF := fill_any _ _ _ _ _ _ i2.1 _ _ [⟨#[97]⟩, ⟨#[98]⟩, ⟨#[99]⟩] r2 (by simp)
  clear i1 r2
  go_wp2_with fail
  refine HF.mono ?_
  rintro e w2 ⟨rfl, k2, ks2, l2, _⟩
  have i3 := i2.step l2 k2
  clear HF i2 l2 k2
  go_wp2_with fail
  refine (room_any _ _ _ _ _ _ i3.1 (by omega)).mono ?_
  rintro e w3 ⟨rfl, l3, k3⟩
  have i4 := i3.kept k3
  clear i3 l3 k3
  go_wp2
  go_ret
  exact ⟨rfl, i4.2.1⟩

set_option maxHeartbeats 1000000 in
theorem within_any (w : World) (n : Int) (hi : Nat) (h1 : 1 ≤ hi) (h2 : hi ≤ 100) :
    Calls Try.prog 15 #[.int .i64 n, .int .i64 1, .int .i64 (hi : Int)] w fun e w' => (∃ r : Nat, 1 ≤ r ∧ r ≤ hi ∧ e = .returned (.int .i64 (r : Int))) ∧ w' = w := by
  have t1 : n.tmod (hi : Int) < hi := Int.tmod_lt_of_pos n (by omega)
  have t2 : -(hi : Int) < n.tmod (hi : Int) := Int.lt_tmod_of_pos n (by omega)
  go_enter Try.func15, Try.ntmps15
  go_wp2
  · go_ret
    refine ⟨⟨(1 + (n.tmod (hi : Int) + hi)).toNat, by omega, by omega, ?_⟩, rfl⟩
    show Ending.returned (.int .i64 _) = _
    congr 2
    omega
  · go_ret
    refine ⟨⟨(1 + n.tmod (hi : Int)).toNat, by omega, by omega, ?_⟩, rfl⟩
    show Ending.returned (.int .i64 _) = _
    congr 2
    omega

end Go.Proofs.Ytigpbkgcfnmdiaa
