/-
  A pile of texts that the call itself made, through any of its methods.
-/
import Derived.Test.YtfnacibhmanblaaStrsD
namespace Go.Proofs.Ytfnacibhmanblaa.Strs
open Go.RowKit

/-- The pile in block p, made behind w0, holds zs; what w0 had is as it was. -/
def Inv (w0 w : World) (p : Nat) (v : Value) (zs : List ByteArray) : Prop :=
  PX w p v zs ∧ Kp [] w0 w ∧ w0.heap.size ≤ p ∧ ∀ k, k ∈ blk v → w0.heap.size ≤ k

theorem Inv.new (w : World) : Inv w (w.alloc (.cells #[.slice none 0 0] 55)) w.heap.size (.slice none 0 0) [] :=
  ⟨⟨heap_new w _, Or.inl ⟨rfl, rfl⟩, by simp [blk]⟩, (Kp.refl _ _).alloc _, Nat.le_refl _, fun k hk => by simp [blk] at hk⟩

theorem Inv.step {w0 w w' : World} {p : Nat} {v : Value} {zs zs' : List ByteArray} (h : Inv w0 w p v zs) (t : TX w w' p v zs') : ∃ v', Inv w0 w' p v' zs' := by
  obtain ⟨h1, h2, h3, h4⟩ := h
  obtain ⟨v', t1, t2, t3⟩ := t
  refine ⟨v', t1, h2.trans t2 (fun x hx => ?_), h3, fun k hk => ?_⟩
  · rcases List.mem_cons.1 hx with h5 | h5
    · exact Or.inr (by omega)
    · exact Or.inr (h4 x h5)
  · rcases t3 k hk with h5 | h5
    · exact h4 k h5
    · have := h2.size
      omega

theorem PX.kept {w w' : World} {S : List Nat} {p : Nat} {v : Value} {zs : List ByteArray} (h : PX w p v zs) (k : Kp S w w') (hp : p ∉ S) (hv : ∀ x, x ∈ blk v → x ∉ S) : PX w' p v zs := by
  obtain ⟨h1, h2, h3⟩ := h
  exact ⟨by rw [k.block p (Array.getElem?_eq_some_iff.1 h1).1 hp]; exact h1, h2.keep k hv, h3⟩

theorem Inv.kept {w0 w w' : World} {p : Nat} {v : Value} {zs : List ByteArray} (h : Inv w0 w p v zs) (k : Kp [] w w') : Inv w0 w' p v zs := by
  obtain ⟨h1, h2, h3, h4⟩ := h
  exact ⟨h1.kept k (by simp) (fun _ _ => by simp), h2.trans k (fun x hx => by simp at hx), h3, h4⟩

theorem rd_at {w : World} {ao : Option Addr} {n c : Nat} {zs : List ByteArray} (h : Rd w (.slice ao n c) (zs.map (Value.string))) (k : Nat) (hk : k < zs.length) : ∃ b off, ao = some ⟨b, off, none⟩ ∧ w.cell? ⟨b, off + k, none⟩ = some (Value.string zs[k]) := by
  obtain ⟨ao', c', he, hcs⟩ := h
  simp only [Value.slice.injEq] at he
  obtain ⟨rfl, _, rfl⟩ := he
  obtain ⟨b, off, h1, h2⟩ := hcs k (by simpa using hk)
  exact ⟨b, off, h1, by rw [h2]; simp [hk]⟩

end Go.Proofs.Ytfnacibhmanblaa.Strs
