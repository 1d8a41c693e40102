/-
  Values in a block of its own (Arr).
-/
import Derived.Test.YthdlmglnieomeaaReads
import Derived.Laws.MakeOwn
import Derived.Laws.OwnMore
import Derived.Deep.RegionWith
namespace Go.Proofs.Ythdlmglnieomeaa
open Go.RowKit Utf

/-- In block g, made since w, lie the values xs. -/
structure Arr (w wr : World) (g : Nat) (xs : List Value) : Prop where
  kp : Kp [] w wr
  new : w.heap.size ≤ g
  at' : ∀ j, j < xs.length → wr.cell? ⟨g, j, none⟩ = xs[j]?
  free : ∀ j, j < xs.length → wr.frozen? ⟨g, j, none⟩ = false

theorem Arr.set {w wr : World} {g : Nat} {xs : List Value} (h : Arr w wr g xs) (k : Nat) (hk : k < xs.length) (u : Value) : Arr w (wr.setCell ⟨g, k, none⟩ u) g (xs.set k u) := by
  refine ⟨h.kp.setCell (Or.inr h.new) _, h.new, fun j hj => ?_, fun j hj => ?_⟩
  · have hj2 : j < xs.length := by simpa using hj
    by_cases he : j = k
    · subst he
      rw [World.cell?_setCell_same _ _ _ ((h.at' j hj2).trans (List.getElem?_eq_getElem hj2))]
      simp [hj2]
    · rw [World.cell?_setCell_other _ _ _ _ (fun e => he (congrArg Addr.off e).symm), h.at' j hj2, List.getElem?_set_ne (fun e => he e.symm)]
  · rw [World.frozen?_setCell]
    exact h.free j (by simpa using hj)

theorem Arr.drew {w wr : World} {g : Nat} {xs : List Value} (h : Arr w wr g xs) : Arr w wr.drew g xs := ⟨h.kp.drew, h.new, h.at', h.free⟩
theorem Arr.drewN {w wr : World} {g : Nat} {xs : List Value} (h : Arr w wr g xs) (n : Nat) : Arr w (wr.drewN n) g xs := by
  obtain ⟨h1, h2, h3, h4⟩ := h
  exact ⟨h1.drewN n, h2, h3, h4⟩

theorem Arr.rb {w wr : World} {g n c : Nat} {xs : List Value} (h : Arr w wr g xs) (hn : n = xs.length) (hc : n ≤ c) : Rb wr (some ⟨g, 0, none⟩) n c xs :=
  ⟨hn, hc, fun j hj => ⟨g, 0, rfl, by rw [Nat.zero_add, h.at' j (by omega)]⟩⟩

theorem arr_new (w : World) (cur : Array Value) (e : TypeId) (xs : List Value) (h : cur.toList = xs) : Arr w (w.alloc (.cells cur e)) w.heap.size xs := by
  refine ⟨(Kp.refl _ _).alloc _, Nat.le_refl _, fun j hj => ?_, fun j hj => frozen_of (heap_new w _) j⟩
  rw [cell_of (heap_new w _), ← h]
  simp

end Go.Proofs.Ythdlmglnieomeaa
