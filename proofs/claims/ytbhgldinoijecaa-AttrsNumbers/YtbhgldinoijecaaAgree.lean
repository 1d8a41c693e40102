/-
  known and same: the program and the document tell alike, of any lists.
-/
import Derived.Test.YtbhgldinoijecaaRoomy
namespace Go.Proofs.Ytbhgldinoijecaa
open Go.RowKit

/-- What is held against itself. -/
theorem attrs_self (w : World) (l : List Att) (ao bo : Option Addr) (n c p d : Nat) (hr : Rp w ao n c l) (hs : Rp w bo p d l) (hl : n ≤ 1000) :
    Calls Try.prog 20 #[.slice ao n c, .slice bo p d] w fun e w' => e = .returned (.bool true) ∧ Kp [] w w' := by
  have := attrs_any w l l ao bo n c p d hr hs hl (by have := hr.len; have := hs.len; omega)
  rw [same_yes rfl] at this
  exact this

/-- A text, written out. -/
theorem eqs_out (x y : ByteArray) : eqs x y = (x.data.toList == y.data.toList) := by
  unfold eqs
  rw [ByteArray.toList_eq, ByteArray.toList_eq]

theorem known_more : more [(⟨#[97]⟩, ⟨#[49]⟩)] [(⟨#[97]⟩, ⟨#[50]⟩), (⟨#[98]⟩, ⟨#[51]⟩)] = [(⟨#[97]⟩, ⟨#[49]⟩), (⟨#[98]⟩, ⟨#[51]⟩)] := by
  simp [more, add, hasN, getF, eqs_out]

theorem known_get : getF [(⟨#[97]⟩, ⟨#[49]⟩), (⟨#[98]⟩, ⟨#[51]⟩)] ⟨#[99]⟩ = none := by
  simp [getF, eqs_out]

theorem fits_small {l : List Att} (h : ∀ a, a ∈ l → a.1.size ≤ 1000 ∧ a.2.size ≤ 1000) : fits l := fun a ha => ⟨by have := (h a ha).1; omega, by have := (h a ha).2; omega⟩

set_option maxHeartbeats 1000000 in
theorem known_any (w : World) : Calls Try.prog 8 #[] w fun e w' => e = .returned (.bool true) ∧ Kp [] w w' := by
  have M1 := rp_lit w #[.string ⟨#[97]⟩, .string ⟨#[49]⟩] [(⟨#[97]⟩, ⟨#[49]⟩)] 1 rfl rfl (by omega)
  have M2 := rp_lit (w.alloc (.cells #[.string ⟨#[97]⟩, .string ⟨#[49]⟩] 23)) #[.string ⟨#[97]⟩, .string ⟨#[50]⟩, .string ⟨#[98]⟩, .string ⟨#[51]⟩] [(⟨#[97]⟩, ⟨#[50]⟩), (⟨#[98]⟩, ⟨#[51]⟩)] 2 rfl rfl (by omega)
  have e0 : (w.alloc (.cells #[.string ⟨#[97]⟩, .string ⟨#[49]⟩] 23)).heap.size = w.heap.size + 1 := by simp
  have k12 := M1.kp.trans M2.kp (fun x hx => by simp at hx)
  have HM := more_any _ _ _ _ _ _ _ _ _ (M1.rp.kept M2.kp) M2.rp (by omega) (by omega) (fits_small (by decide)) (fits_small (by decide))
  rw [known_more, e0] at HM
  clear M1 M2 e0
  go_enter Try.func8, Try.ntmps8
  go_wp2_with fail
  refine HM.mono ?_
  rintro e w1 ⟨a1, n1, c1, rfl, N1⟩
  clear HM
  have hn1 : n1 ≤ 1000 := by have := N1.len; simp at this; omega
  have HG := get_any w1 ⟨#[99]⟩ _ _ _ _ N1.rp hn1 (fits_small (by decide))
  rw [known_get] at HG
  simp only [gtn] at HG
  have k1 := k12.trans N1.kp (fun x hx => by simp at hx)
  go_wp2_with fail
  refine HG.mono ?_
  rintro e w2 ⟨rfl, k2⟩
  clear HG
  have M3 := rp_lit w2 #[.string ⟨#[97]⟩, .string ⟨#[49]⟩, .string ⟨#[98]⟩, .string ⟨#[51]⟩] [(⟨#[97]⟩, ⟨#[49]⟩), (⟨#[98]⟩, ⟨#[51]⟩)] 2 rfl rfl (by omega)
  have HA := attrs_self _ _ _ _ _ _ _ _ ((N1.rp.kept k2).kept M3.kp) M3.rp hn1
  have k3 := (k1.trans k2 (fun x hx => by simp at hx)).trans M3.kp (fun x hx => by simp at hx)
  clear N1 M3
  go_wp2_with fail
  refine HA.mono ?_
  rintro e w4 ⟨rfl, k4⟩
  clear HA
  go_wp2
  go_ret
  exact ⟨rfl, k3.trans k4 (fun x hx => by simp at hx)⟩

end Go.Proofs.Ytbhgldinoijecaa
