/-
  Two texts that are the same up to a place. No program.
-/
import Derived.Test.YthdlmglnieomeaaCat
namespace Go.Proofs.Ythdlmglnieomeaa
open Go.RowKit Utf
set_option linter.unusedVariables false

/-- Two texts that are the same up to n. -/
structure Agr (s t : ByteArray) (n : Nat) : Prop where
  hs : n ≤ s.size
  ht : n ≤ t.size
  at' : ∀ j, j < n → bt s j = bt t j

theorem fs_agr {f g : Nat → Bool} {p S T r n : Nat} (hp : p ≤ S) (h : fs f p S = r) (hr : r < n) (hS : n ≤ S) (hT : n ≤ T) (he : ∀ j, j < n → f j = g j) : fs g p T = r := by
  have h1 := fs_is f hp
  rw [h] at h1
  exact fs_eq ⟨h1.lo, by omega, fun j a b => by rw [← he j (by omega)]; exact h1.no j a b, fun _ => by rw [← he r hr]; exact h1.at' (by omega)⟩

theorem Agr.skip {s t : ByteArray} {n p q : Nat} (h : Agr s t n) (hp : p ≤ s.size) (hq : skipF s p = q) (hn : q < n) : skipF t p = q :=
  fs_agr hp hq hn h.hs h.ht (fun j hj => by rw [h.at' j hj])

theorem Agr.until {s t : ByteArray} {n p q : Nat} (h : Agr s t n) (set : ByteArray) (hp : p ≤ s.size) (hq : untilF s set p = q) (hn : q < n) : untilF t set p = q :=
  fs_agr hp hq hn h.hs h.ht (fun j hj => by rw [h.at' j hj])

theorem Agr.cut {s t : ByteArray} {n p q : Nat} (h : Agr s t n) (hq : q ≤ n) : t.extract p q = s.extract p q := by
  have := h.hs
  have := h.ht
  refine bt_ext (by rw [ByteArray.size_extract, ByteArray.size_extract]; omega) fun j hj => ?_
  rw [ByteArray.size_extract] at hj
  rw [bt_cut t p q j (by omega) (by omega), bt_cut s p q j (by omega) (by omega)]
  exact (h.at' _ (by omega)).symm

end Go.Proofs.Ythdlmglnieomeaa
