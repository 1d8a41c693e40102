/-
  OpBack: a byte is turned.
-/
import Derived.Test.YtpjkpobdkmcedaaDoorRin
import Derived.Test.YtpjkpobdkmcedaaDoorKn
import Derived.Test.YtpjkpobdkmcedaaDoorKop
import Derived.Test.YtpjkpobdkmcedaaDoorEncE
import Derived.Deep.CutRange
namespace Go.Proofs.YtpjkpobdkmcedaaDoor
open Go.RowKit Utf
set_option linter.unusedVariables false

theorem small_at {w : World} {q : Q} (h : smallO q.1) (ha : Ar w q) : At w q ∧ q.2.2.1 ≤ 100000 :=
  ⟨ha.rp, by have h1 := Rp.len ha.rp; have h2 := h.2.2.1; omega⟩

theorem obs_small : ∀ (L : List Q), (∀ q, q ∈ L → smallO q.1) → (obs (os L)).length ≤ 409 * L.length
  | [], _ => Nat.le_refl _
  | q :: L, h => by
    have h1 := obs_small L (fun x hx => h x (by simp [hx]))
    have h2 := small_ob (h q (by simp))
    simp only [os, obs, List.length_append, List.length_cons]
    omega

theorem turn_b {wB W : World} {bo : Option Addr} {bn bc : Nat} {ys : List Int} (h : Mb wB W (.slice bo bn bc) ys) (k : Nat) (hk : k < ys.length) :
    ∃ g, bo = some ⟨g, 0, none⟩ ∧ W.cell? ⟨g, k, none⟩ = some (.int .u8 ys[k]) ∧ W.frozen? ⟨g, k, none⟩ = false ∧ wB.heap.size ≤ g ∧ ∀ v, OwnB (W.setCell ⟨g, k, none⟩ (.int .u8 v)) (.slice bo bn bc) (b8 (ys.set k v)) := by
  obtain ⟨ho, _, hb⟩ := h
  rcases ho with ⟨h1, h2⟩ | ⟨g, cap, cur, hv, hg, h1, h2, h3, h4⟩
  · have : ys.length = 0 := by rw [← b8_len, h2]; rfl
    omega
  · simp only [Value.slice.injEq] at hv
    obtain ⟨rfl, hn, rfl⟩ := hv
    rw [b8_len] at hn h1 h4
    refine ⟨g, rfl, ?_, frozen_of hg k, hb g (by simp [blk]), fun v => Or.inr ⟨g, bc, _, by rw [b8_len, List.length_set, hn], setCell_block hg k _, by rw [b8_len, List.length_set]; exact h1, h2, by simpa using h3, fun j hj => ?_⟩⟩
    · rw [cell_of hg k, h4 k hk]
      simp [b8, hk]
    · rw [b8_len, List.length_set] at hj
      have h5 := h4 j hj
      by_cases hjk : k = j
      · subst hjk
        have : k < cur.size := by omega
        simp [b8, this, hj]
      · rw [Array.getElem?_setIfInBounds_ne hjk, h5]
        simp [b8, hjk]

theorem set_byt {ys : List Int} (h : byt ys) (k : Nat) (v : Int) (hv : 0 ≤ v ∧ v ≤ 255) : byt (ys.set k v) := fun x hx => by
  rcases List.mem_or_eq_of_mem_set hx with h1 | h1
  · exact h x h1
  · rw [h1]; omega

theorem xor_byte (a b : Int) : 0 ≤ bits BinOp.xor IntKind.u8 a b ∧ bits BinOp.xor IntKind.u8 a b ≤ 255 := by
  unfold bits
  rw [IntKind.wrap_u8]
  omega

theorem byt_takeB {ys : List Int} (h : byt ys) (k : Nat) : byt (ys.take k) := fun x hx => h x (List.mem_of_mem_take hx)

end Go.Proofs.YtpjkpobdkmcedaaDoor
