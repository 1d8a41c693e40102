/-
  A pile of ints and a pile of texts, each with its list, side by side.
-/
import Derived.Test.YtfnacibhmanblaaIntsG
import Derived.Test.YtfnacibhmanblaaStrsG
import Derived.Test.YtfnacibhmanblaaKnown
namespace Go.Proofs.Ytfnacibhmanblaa
open Go.RowKit

/-- Two piles, each with its list, made behind w0, in blocks of their own; what w0 had is as it was. -/
def GG (w0 w : World) (p q : Nat) (pv lv qv mv : Value) (zs : List Int) (ys : List ByteArray) : Prop :=
  Ints.Two w p pv lv zs ∧ Strs.Two w q qv mv ys ∧ Kp [] w0 w ∧ (∀ y, y ∈ Ints.feet p pv lv → w0.heap.size ≤ y) ∧ (∀ y, y ∈ Strs.feet q qv mv → w0.heap.size ≤ y) ∧ ∀ y, y ∈ Ints.feet p pv lv → y ∉ Strs.feet q qv mv

theorem GG.new (w : World) : GG w ((w.alloc (.cells #[.slice none 0 0] 49)).alloc (.cells #[.slice none 0 0] 55)) w.heap.size (w.heap.size + 1) (.slice none 0 0) (.slice none 0 0) (.slice none 0 0) (.slice none 0 0) [] [] := by
  have h1 : Ints.Two (w.alloc (.cells #[.slice none 0 0] 49)) w.heap.size (.slice none 0 0) (.slice none 0 0) [] := ⟨(Ints.Inv.new w).1, Or.inl ⟨rfl, rfl⟩, by simp [blk], fun k hk => by simp [blk] at hk⟩
  have h2 : Strs.Two ((w.alloc (.cells #[.slice none 0 0] 49)).alloc (.cells #[.slice none 0 0] 55)) (w.heap.size + 1) (.slice none 0 0) (.slice none 0 0) [] := by
    have h3 := (Strs.Inv.new (w.alloc (.cells #[.slice none 0 0] 49))).1
    have h4 : (w.alloc (.cells #[.slice none 0 0] 49)).heap.size = w.heap.size + 1 := by simp
    rw [h4] at h3
    exact ⟨h3, Or.inl ⟨rfl, rfl⟩, by simp [blk], fun k hk => by simp [blk] at hk⟩
  exact ⟨h1.kept ((Kp.refl [] _).alloc _) (fun _ _ => by simp), h2, ((Kp.refl [] w).alloc _).alloc _, fun y hy => by simp [Ints.feet, blk] at hy; omega, fun y hy => by simp [Strs.feet, blk] at hy; omega, fun y hy => by simp [Ints.feet, blk] at hy; subst hy; simp [Strs.feet, blk]⟩

theorem GG.ints {w0 w W w' : World} {p q : Nat} {pv lv qv mv lv' : Value} {zs zs' : List Int} {ys : List ByteArray} (h : GG w0 w p q pv lv qv mv zs ys) (k : Kp [] w W) (t : Ints.TwoT W w' p pv lv lv' zs') : ∃ pv', GG w0 w' p q pv' lv' qv mv zs' ys := by
  obtain ⟨h1, h2, h3, h4, h5, h6⟩ := h
  obtain ⟨pv', t1, t2, t3⟩ := t
  have hk := h3.trans k (fun x hx => by simp at hx)
  have h2' := h2.kept k (fun _ _ => by simp)
  refine ⟨pv', t1, h2'.kept t2 (fun x hx hy => h6 x hy hx), hk.trans t2 (fun x hx => Or.inr (h4 x hx)), fun y hy => ?_, h5, fun y hy hz => ?_⟩
  · rcases t3 y hy with h7 | h7
    · exact h4 y h7
    · have := hk.size
      omega
  · rcases t3 y hy with h7 | h7
    · exact h6 y h7 hz
    · have := h2'.lt y hz
      omega

theorem GG.strs {w0 w W w' : World} {p q : Nat} {pv lv qv mv mv' : Value} {zs : List Int} {ys ys' : List ByteArray} (h : GG w0 w p q pv lv qv mv zs ys) (k : Kp [] w W) (t : Strs.TwoT W w' q qv mv mv' ys') : ∃ qv', GG w0 w' p q pv lv qv' mv' zs ys' := by
  obtain ⟨h1, h2, h3, h4, h5, h6⟩ := h
  obtain ⟨qv', t1, t2, t3⟩ := t
  have hk := h3.trans k (fun x hx => by simp at hx)
  have h1' := h1.kept k (fun _ _ => by simp)
  refine ⟨qv', h1'.kept t2 (fun x hx hy => h6 x hx hy), t1, hk.trans t2 (fun x hx => Or.inr (h5 x hx)), h4, fun y hy => ?_, fun y hy hz => ?_⟩
  · rcases t3 y hy with h7 | h7
    · exact h5 y h7
    · have := hk.size
      omega
  · rcases t3 y hz with h7 | h7
    · exact h6 y hy h7
    · have := h1'.lt y hy
      omega

/-- The calls that came in: each of four cells. -/
def Asks (w : World) (ao : Option Addr) (n : Nat) : Prop :=
  ∀ k, k < n → ∃ (b off : Nat) (kd i m : Int) (s : ByteArray), ao = some ⟨b, off, none⟩ ∧ b < w.heap.size ∧ w.cell? ⟨b, off + k * 4, none⟩ = some (.int .i64 kd) ∧ w.cell? ⟨b, off + k * 4 + 1, none⟩ = some (.int .i64 i) ∧ w.cell? ⟨b, off + k * 4 + 2, none⟩ = some (.int .i64 m) ∧ w.cell? ⟨b, off + k * 4 + 3, none⟩ = some (.string s)

end Go.Proofs.Ytfnacibhmanblaa
