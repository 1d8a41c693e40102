/-
  known and same: the program and the document tell alike, of any two tokens that are not too long.
-/
import Derived.Test.YtgeebmlincddkaaJudged
import Derived.Test.YtgeebmlincddkaaSays
namespace Go.Proofs.Ytgeebmlincddkaa
open Go.RowKit

theorem right_known : right (2, ⟨#[112]⟩, [(⟨#[97]⟩, ⟨#[49]⟩)], false, ⟨#[]⟩) = true := by
  rw [is2]
  have h1 : tagName ⟨#[112]⟩ = true := by decide
  have h2 : areRight [(⟨#[97]⟩, ⟨#[49]⟩)] = true := by
    have hne : eqs (⟨#[97]⟩ : ByteArray) ⟨#[]⟩ = false := by
      cases hx : eqs (⟨#[97]⟩ : ByteArray) ⟨#[]⟩ with
      | false => rfl
      | true => exact absurd (eqs_iff.1 hx) (by decide)
    refine areRight_all (fun k hk => ?_) (fun k hk => ?_)
    · obtain rfl : k = 0 := by simp at hk; omega
      exact hne
    · obtain rfl : k = 0 := by simp at hk; omega
      exact idx_drop hk (fun j hj => by omega) (eqs_refl _)
  rw [h1, h2, eqs_refl]
  rfl

theorem right_not : right (2, ⟨#[80]⟩, [], false, ⟨#[]⟩) = false := by
  rw [is2]
  have h1 : tagName ⟨#[80]⟩ = false := by decide
  rw [h1]
  rfl

theorem told_known : told (2, ⟨#[112]⟩, [(⟨#[97]⟩, ⟨#[49]⟩)], false, ⟨#[]⟩) = ⟨#[60, 112, 32, 97, 61, 49]⟩ := by
  apply ByteArray.ext
  simp [told, startT, grow]

set_option maxHeartbeats 1000000 in
theorem known_any (w : World) : Calls Try.prog 9 #[] w fun e w' => e = .returned (.bool true) ∧ Kp [] w w' := by
  obtain ⟨w1, hw1⟩ : ∃ w1, w1 = w.alloc (.cells #[.string ⟨#[97]⟩, .string ⟨#[49]⟩] 26) := ⟨_, rfl⟩
  have M1 : Mp w w1 (some ⟨w.heap.size, 0, none⟩) 1 1 [(⟨#[97]⟩, ⟨#[49]⟩)] := by rw [hw1]; exact rp_lit w _ _ 1 rfl rfl (by omega)
  obtain ⟨w2, hw2⟩ : ∃ w2, w2 = w1.alloc (.cells #[.int .i64 2, .string ⟨#[112]⟩, .slice (some ⟨w.heap.size, 0, none⟩) 1 1, .bool false, .string ⟨#[]⟩] 24) := ⟨_, rfl⟩
  have k2 : Kp [] w1 w2 := by rw [hw2]; exact (Kp.refl _ _).alloc _
  have r2 := M1.rp.kept k2
  have C1 : Hid (∀ V, Kp [] w2 V → Box V (w.heap.size + 1) 2 ⟨#[112]⟩ (.slice (some ⟨w.heap.size, 0, none⟩) 1 1) false ⟨#[]⟩) := fun V kV => by
    refine (box_of (e := 24) ?_).kept kV (by simp)
    rw [hw2]
    exact heap_new' _ _ _ (by rw [hw1]; simp)
  have hb : brief [((⟨#[97]⟩ : ByteArray), (⟨#[49]⟩ : ByteArray))] := ⟨by simp, fun a ha => by
    simp only [List.mem_singleton] at ha
    rw [ha]
    exact ⟨by decide, by decide⟩⟩
  have HT := fun V (kV : Kp [] w2 V) => text_any V 2 ⟨#[112]⟩ ⟨#[]⟩ _ false _ 1 1 (r2.kept kV) hb (by decide) (by decide)
  have HR := fun V (kV : Kp [] w2 V) => right_any V 2 ⟨#[112]⟩ ⟨#[]⟩ _ false _ 1 1 (r2.kept kV) (by omega) (brief_fits hb) (by decide)
  have HP := fun V => right_any V 2 ⟨#[80]⟩ ⟨#[]⟩ [] false none 0 0 (rp_nil V) (by omega) (fun a ha => by simp at ha) (by decide)
  simp only [told_known] at HT
  simp only [right_known] at HR
  simp only [right_not] at HP
  have kw := M1.kp.trans k2 (fun x hx => by simp at hx)
  clear M1 r2 hb k2
  obtain ⟨c0, c1, c2, c3, c4⟩ := C1.out _ (Kp.refl _ _)
  have HT0 := HT w2 (Kp.refl _ _)
  unfold tv at *
  go_enter Try.func9, Try.ntmps9
  go_wp2_with fail
  rw [← hw1, ← hw2]
  refine HT0.mono ?_
  rintro e w3 ⟨rfl, k3⟩
  clear HT HT0 c0 c1 c2 c3 c4 hw1 hw2
  obtain ⟨c0, c1, c2, c3, c4⟩ := C1.out _ k3
  have HR3 := HR w3 k3
  go_wp2_with fail
  refine HR3.mono ?_
  rintro e w4 ⟨rfl, k4⟩
  clear HR HR3 c0 c1 c2 c3 c4
  go_wp2_with fail
  refine (HP _).mono ?_
  rintro e w5 ⟨rfl, k5⟩
  clear HP
  go_wp2
  go_ret
  exact ⟨rfl, ((kw.trans k3 (fun x hx => by simp at hx)).trans k4 (fun x hx => by simp at hx)).trans k5 (fun x hx => by simp at hx)⟩

end Go.Proofs.Ytgeebmlincddkaa
