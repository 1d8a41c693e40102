/-
  Within, from 0 on; ints that came in.
-/
import Derived.Test.YthdlmglnieomeaaSmall
import Derived.Test.YthdlmglnieomeaaCat
namespace Go.Proofs.Ythdlmglnieomeaa
open Go.RowKit Utf
set_option linter.unusedVariables false

/-- Within, from 0 on. -/
theorem within_zero (w : World) (n : Int) (m : Nat) (hm : m ≤ 1099511627776) : Calls Try.prog 10 #[.int .i64 n, .int .i64 0, .int .i64 (m : Int)] w fun e w' => e = .returned (.int .i64 (wi n m : Int)) ∧ w' = w := by
  have h := within_any w n 0 m (by omega) hm
  rw [Nat.zero_add, Nat.sub_zero] at h
  exact h

theorem lit_cat (t x : ByteArray) (n : Nat) (h : t.size ≤ n) : (t ++ x).size ≤ n + x.size := by rw [cat_size]; omega


/-- Ints that came in: what stands at each place. -/
def Is (w : World) (ao : Option Addr) (n c : Nat) (F : Nat → Int) : Prop := n ≤ c ∧ ∀ i, i < n → ∃ b off, ao = some ⟨b, off, none⟩ ∧ w.cell? ⟨b, off + i, none⟩ = some (.int .i64 (F i))
theorem Is.kept {w w' : World} {ao : Option Addr} {n c : Nat} {F : Nat → Int} (h : Is w ao n c F) (k : Kp [] w w') : Is w' ao n c F :=
  ⟨h.1, fun i hi => by
    obtain ⟨b, off, h1, h2⟩ := h.2 i hi
    exact ⟨b, off, h1, by rw [k.cell (a := ⟨b, off + i, none⟩) (block_lt_of_cell h2) (by simp)]; exact h2⟩⟩

end Go.Proofs.Ythdlmglnieomeaa
