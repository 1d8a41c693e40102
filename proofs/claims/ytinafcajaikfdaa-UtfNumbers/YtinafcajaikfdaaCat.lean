/-
  Lists, one behind the other, in memory that a call made.
-/
import Derived.Test.YtinafcajaikfdaaAgree
namespace Go.Proofs.Ytinafcajaikfdaa
open Go.RowKit Utf

/-- A list that is read is appended. -/
theorem Made.join {t e : TypeId} {z : Value} {bytes : Nat} (ht : Try.prog.underlying t = some (.slice e)) (hi : (Try.prog.info? e).map (fun i => (i.zero, i.size, i.bytes)) = some (some z, 1, bytes)) (hz : z.cells = #[z]) (hby : bytes ≤ 1024) {w w1 : World} {ao bo : Option Addr} {n c m d : Nat} {xs ys : List Value} (h : Made w w1 e ao n c xs) (k : Rb w1 bo m d ys) (hy : ∀ u, u ∈ ys → u.oneCell' = true) (hm : ao = none → 0 < m) (hlen : xs.length + m ≤ 1000000) :
    ∃ ao' n' c' w2, (∀ ty, (Builtin.append_ #[t, t] ty #[.slice ao n c, .slice bo m d]).run Try.prog w1 = .ok (.slice ao' n' c') w2) ∧ Made w w2 e ao' n' c' (xs ++ ys) ∧ ∃ a, ao' = some a := by
  obtain ⟨h1, h2, h3⟩ := h
  obtain ⟨v', w2, hrun, o2, k2, b2, a2, c2, rfl⟩ := app_any ht hi hz hby w1 _ _ h1 (.slice bo m d) m ys (k.rd.src ht hy) (fun he => by
    simp only [Value.slice.injEq] at he
    exact hm he.1) hlen
  refine ⟨_, _, _, w2, hrun, ⟨o2, h2.trans k2 (fun x hx => Or.inr (h3 x hx)), fun k hk => ?_⟩, a2, rfl⟩
  rcases b2 k hk with h4 | h4
  · exact h3 k h4
  · have := h2.size
    omega

/-- Some are appended. -/
theorem Made.lits {t e : TypeId} {z : Value} {bytes : Nat} (ht : Try.prog.underlying t = some (.slice e)) (hi : (Try.prog.info? e).map (fun i => (i.zero, i.size, i.bytes)) = some (some z, 1, bytes)) (hz : z.cells = #[z]) (hby : bytes ≤ 1024) {w w1 : World} {ao : Option Addr} {n c : Nat} {xs : List Value} (h : Made w w1 e ao n c xs) (arr : Array Value) (m : Nat) (hm : m = arr.size) (h0 : 0 < m) (hu : ∀ u, u ∈ arr.toList → u.oneCell' = true) (hlen : xs.length + m ≤ 1000000) :
    ∃ ao' n' c' w2, (∀ ty, (Builtin.append_ #[t, t] ty #[.slice ao n c, .slice (some ⟨w1.heap.size, 0, none⟩) m m]).run Try.prog (w1.alloc (.cells arr e)) = .ok (.slice ao' n' c') w2) ∧ Made w w2 e ao' n' c' (xs ++ arr.toList) ∧ ∃ a, ao' = some a := by
  obtain ⟨h1, h2, h3⟩ := h
  obtain ⟨v', w2, hrun, o2, k2, b2, a2, c2, rfl⟩ := app_lit ht hi hz hby w1 _ _ h1 arr m hm h0 hu hlen
  refine ⟨_, _, _, w2, hrun, ⟨o2, h2.trans k2 (fun x hx => Or.inr (h3 x hx)), fun k hk => ?_⟩, a2, rfl⟩
  rcases b2 k hk with h4 | h4
  · exact h3 k h4
  · have := h2.size
    omega

/-- A literal, in new memory. -/
theorem Made.lit (w : World) (e : TypeId) (arr : Array Value) (m : Nat) (hm : m = arr.size) (h1 : m ≤ 1000) : Made w (w.alloc (.cells arr e)) e (some ⟨w.heap.size, 0, none⟩) m m arr.toList :=
  ⟨own_new w e arr arr.toList m (by simp [hm]) (by unfold maxLen; omega) hm.symm (fun j hj => by simp) m (by simp [hm]), (Kp.refl _ _).alloc _, fun k hk => by simp [blk] at hk; omega⟩

theorem b8_append (a b : List Int) : b8 a ++ b8 b = b8 (a ++ b) := by simp [b8]
theorem r32_append (a b : List Int) : r32 a ++ r32 b = r32 (a ++ b) := by simp [r32]
theorem byt_append {a b : List Int} (h : byt a) (k : byt b) : byt (a ++ b) := fun x hx => by
  rcases List.mem_append.1 hx with h1 | h1
  · exact h x h1
  · exact k x h1

/-- What is made since w1 is made since w. -/
theorem Made.since {w w1 w2 : World} {e : TypeId} {ao : Option Addr} {n c : Nat} {xs : List Value} (k : Kp [] w w1) (h : Made w1 w2 e ao n c xs) : Made w w2 e ao n c xs :=
  ⟨h.1, k.trans h.2.1 (fun x hx => by simp at hx), fun y hy => Nat.le_trans k.size (h.2.2 y hy)⟩

end Go.Proofs.Ytinafcajaikfdaa
