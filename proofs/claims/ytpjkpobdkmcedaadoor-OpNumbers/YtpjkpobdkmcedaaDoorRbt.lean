/-
  Parts of slices that are read.
-/
import Derived.Test.YtpjkpobdkmcedaaDoorBase
namespace Go.Proofs.YtpjkpobdkmcedaaDoor
open Go.RowKit Utf

/-- The address of what is sliced off from k on. -/
def offAt (ao : Option Addr) (k c : Nat) : Option Addr := if c = k then ao else ao.map (·.add (k * 1))

theorem sliced_off (ao : Option Addr) (k n c : Nat) : sliced ao k n c 1 = .slice (offAt ao k c) (n - k) (c - k) := rfl

theorem Rb.drop {w : World} {ao : Option Addr} {n c : Nat} {xs : List Value} (h : Rb w ao n c xs) (k : Nat) (hk : k ≤ n) : Rb w (offAt ao k c) (n - k) (c - k) (xs.drop k) := by
  have hl := h.len
  have hc := h.cap
  refine ⟨by simp; omega, by omega, fun j hj => ?_⟩
  obtain ⟨b, off, h1, h2⟩ := h.at' (k + j) (by omega)
  refine ⟨b, off + k, ?_, ?_⟩
  · subst h1
    unfold offAt
    rw [if_neg (by omega)]
    simp [Addr.add_lit]
  · rw [Nat.add_assoc, h2]
    simp

theorem Rb.take {w : World} {ao : Option Addr} {n c : Nat} {xs : List Value} (h : Rb w ao n c xs) (k : Nat) (hk : k ≤ n) : Rb w ao k c (xs.take k) := by
  have hl := h.len
  have hc := h.cap
  refine ⟨by simp; omega, by omega, fun j hj => ?_⟩
  obtain ⟨b, off, h1, h2⟩ := h.at' j (by omega)
  exact ⟨b, off, h1, by rw [h2, List.getElem?_take_of_lt hj]⟩

theorem b8_take (l : List Int) (k : Nat) : (b8 l).take k = b8 (l.take k) := by simp [b8]

theorem b8_drop (l : List Int) (k : Nat) : (b8 l).drop k = b8 (l.drop k) := by simp [b8]

/-- What stands at a place. -/
theorem Rb.b8_at {w : World} {ao : Option Addr} {n c : Nat} {l : List Int} (h : Rb w ao n c (b8 l)) (k : Nat) (hk : k < l.length) : ∃ b off, ao = some ⟨b, off, none⟩ ∧ w.cell? ⟨b, off + k, none⟩ = some (Value.int .u8 l[k]) := by
  have hl := h.len
  rw [b8_len] at hl
  obtain ⟨b, off, h1, h2⟩ := h.at' k (by omega)
  exact ⟨b, off, h1, by rw [h2]; simp [b8, hk]⟩

theorem byt_drop {l : List Int} (h : byt l) (k : Nat) : byt (l.drop k) := fun x hx => h x (List.mem_of_mem_drop hx)

theorem byt_take {l : List Int} (h : byt l) (k : Nat) : byt (l.take k) := fun x hx => h x (List.mem_of_mem_take hx)

theorem byt_at {l : List Int} (h : byt l) (k : Nat) (hk : k < l.length) : 0 ≤ l[k] ∧ l[k] < 256 := h _ (List.getElem_mem hk)

end Go.Proofs.YtpjkpobdkmcedaaDoor
