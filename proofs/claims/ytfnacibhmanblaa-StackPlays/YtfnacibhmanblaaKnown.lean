/-
  The chapter's run of known: it answers true, and leaves what was there as it was.
-/
import Derived.Test.YtfnacibhmanblaaStrsE
namespace Go.Proofs.Ytfnacibhmanblaa
open Go.RowKit Strs

set_option maxHeartbeats 1000000 in
theorem known_any (w : World) : Calls Try.prog 9 #[] w fun e w' => e = .returned (.bool true) ∧ Kp [] w w' := by
  go_enter Try.func9, Try.ntmps9
  go_wp2_with fail
  refine (new_any _).mono ?_
  rintro e w1 ⟨rfl, rfl⟩
  have i1 := Inv.new w
  generalize w.alloc (.cells #[.slice none 0 0] 55) = w1 at i1 ⊢
  generalize w.heap.size = p at i1 ⊢
  go_wp2_with fail
  refine (push_any _ _ _ _ _ i1.1 (by simp)).mono ?_
  rintro e w2 ⟨rfl, t2⟩
  obtain ⟨v2, i2⟩ := i1.step t2
  clear i1 t2
  go_wp2_with fail
  refine (push_any _ _ _ _ _ i2.1 (by simp)).mono ?_
  rintro e w3 ⟨rfl, t3⟩
  obtain ⟨v3, i3⟩ := i2.step t3
  clear i2 t3
  go_wp2_with fail
  refine (put_in _ _ _ _ _ _ i3.1 (by omega) (by simp) (by simp)).mono ?_
  rintro e w4 ⟨rfl, t4⟩
  obtain ⟨v4, i4⟩ := i3.step t4
  clear i3 t4
  have i4 : Inv w w4 p v4 [⟨#[97]⟩, ⟨#[99]⟩, ⟨#[98]⟩] := i4
  go_wp2_with fail
  refine (all_any _ _ _ _ i4.1 (by simp)).mono ?_
  rintro e w5 ⟨rfl, o5, k5⟩
  have i5 := i4.kept k5
  clear i4 k5
  generalize w4.heap.size = g at o5 ⊢
  have i6 := i5.kept ((Kp.refl [] w5).alloc (.cells #[.string ⟨#[97]⟩, .string ⟨#[99]⟩, .string ⟨#[98]⟩] 9))
  have r1 : Rd (w5.alloc (.cells #[.string ⟨#[97]⟩, .string ⟨#[99]⟩, .string ⟨#[98]⟩] 9)) (.slice (some ⟨g, 0, none⟩) 3 3) (List.map Value.string [⟨#[97]⟩, ⟨#[99]⟩, ⟨#[98]⟩]) := (o5.keep ((Kp.refl [] w5).alloc _) (fun _ _ => by simp)).rd
  have r2 : Rd (w5.alloc (.cells #[.string ⟨#[97]⟩, .string ⟨#[99]⟩, .string ⟨#[98]⟩] 9)) (.slice (some ⟨w5.heap.size, 0, none⟩) 3 3) (List.map Value.string [⟨#[97]⟩, ⟨#[99]⟩, ⟨#[98]⟩]) :=
    (own_new w5 9 #[.string ⟨#[97]⟩, .string ⟨#[99]⟩, .string ⟨#[98]⟩] (List.map Value.string [⟨#[97]⟩, ⟨#[99]⟩, ⟨#[98]⟩]) 3 (by simp) (by unfold maxLen; omega) rfl (fun j hj => by
      match j, hj with
      | 0, _ => rfl
      | 1, _ => rfl
      | 2, _ => rfl) 3 rfl).rd
  clear i5 o5
  go_wp2_with fail
  refine (same_eq _ _ _ _ r1 r2 (by simp)).mono ?_
  rintro e w6 ⟨rfl, q, rfl⟩
  have i7 := i6.kept ((Kp.refl [] _).drewN q)
  clear i6 r1 r2
  go_wp2_with fail
  refine (len_any _ _ _ _ i7.1).mono ?_
  rintro e w7 ⟨rfl, rfl⟩
  go_wp2
  go_ret
  exact ⟨rfl, i7.2.1⟩

end Go.Proofs.Ytfnacibhmanblaa
