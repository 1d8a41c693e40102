/-
  Slices whose elements take k cells each: what one in a block of its own holds (OwnK), and append onto it.
-/
import Derived.Test.YtpadnfpifldoaaaBase
import Derived.Laws.AppendOwn
namespace Go.Proofs.Ytpadnfpifldoaaa
open Go.RowKit

/-- The slice v, of n elements of type e of k cells each, holds xs, cell by cell, in a block of its own, from some cell on. -/
def OwnK (k : Nat) (w : World) (e : TypeId) (v : Value) (n : Nat) (xs : List Value) : Prop :=
  xs.length = n * k ∧ ((v = .slice none 0 0 ∧ n = 0) ∨
    ∃ g o cap cur, v = .slice (some ⟨g, o, none⟩) n cap ∧ w.heap[g]? = some (.cells cur e (0, 0)) ∧ n ≤ cap ∧ cap ≤ maxLen ∧ o + cap * k ≤ cur.size ∧ ∀ j, j < n * k → cur[o + j]? = xs[j]?)

theorem OwnK.lt {k : Nat} {w : World} {e : TypeId} {v : Value} {n : Nat} {xs : List Value} (h : OwnK k w e v n xs) : ∀ x, x ∈ blk v → x < w.heap.size := by
  intro x hx
  rcases h.2 with ⟨rfl, _⟩ | ⟨g, o, cap, cur, rfl, hg, _⟩
  · simp [blk] at hx
  · simp [blk] at hx
    subst hx
    exact (Array.getElem?_eq_some_iff.1 hg).1

theorem OwnK.keep {k : Nat} {w w' : World} {S : List Nat} {e : TypeId} {v : Value} {n : Nat} {xs : List Value} (h : OwnK k w e v n xs) (hk : Kp S w w') (hn : ∀ x, x ∈ blk v → x ∉ S) : OwnK k w' e v n xs := by
  have hl := h.lt
  obtain ⟨h0, h⟩ := h
  refine ⟨h0, ?_⟩
  rcases h with h | ⟨g, o, cap, cur, rfl, hg, r⟩
  · exact Or.inl h
  · have hm : g ∈ blk (Value.slice (some ⟨g, o, none⟩) n cap) := by simp [blk]
    exact Or.inr ⟨g, o, cap, cur, rfl, by rw [hk.block g (hl g hm) (hn g hm)]; exact hg, r⟩

/-- A slice at the head of a new block. -/
theorem ownK_new (k : Nat) (w : World) (e : TypeId) (cur : Array Value) (xs : List Value) (n cap : Nat) (h0 : xs.length = n * k) (h1 : n ≤ cap) (h2 : cap ≤ maxLen) (h3 : cap * k ≤ cur.size) (h4 : ∀ j, j < n * k → cur[j]? = xs[j]?) :
    OwnK k (w.alloc (.cells cur e)) e (.slice (some ⟨w.heap.size, 0, none⟩) n cap) n xs :=
  ⟨h0, Or.inr ⟨w.heap.size, 0, cap, cur, rfl, heap_new w _, h1, h2, by omega, fun j hj => by rw [Nat.zero_add]; exact h4 j hj⟩⟩

/-- append, onto a slice in a block of its own. -/
theorem appK {P : Program} {t e : TypeId} {z : Value} {bytes k : Nat} (ht : P.underlying t = some (.slice e)) (hi : (P.info? e).map (fun i => (i.zero, i.size, i.bytes)) = some (some z, k, bytes)) (hz : z.cells.size = k) (hby : bytes ≤ 1024)
    (w : World) (v : Value) (n : Nat) (xs : List Value) (h : OwnK k w e v n xs) (src : Value) (m : Nat) (news : List Value) (hs : Src P k t src m news w) (hm : v = .slice none 0 0 → 0 < m) (hlen : n + m ≤ 1000000) :
    ∃ v' w', (∀ ty, (Builtin.append_ #[t, t] ty #[v, src]).run P w = .ok v' w') ∧ OwnK k w' e v' (n + m) (xs ++ news) ∧ Kp (blk v) w w' ∧ (∀ x, x ∈ blk v' → x ∈ blk v ∨ x = w.heap.size) ∧ (∃ a c, v' = .slice (some a) (n + m) c) := by
  obtain ⟨i, hi0, hi1, hi2, hi3⟩ := info_parts hi
  have hnl : news.length = m * k := hs.newsLen
  have hs' : Src P i.size t src m news w := by rw [hi2]; exact hs
  have hby2 : (n + m) * bytes ≤ 140737488355328 := Nat.le_trans (Nat.mul_le_mul hlen hby) (by decide)
  obtain ⟨hxl, h⟩ := h
  have hall : (xs ++ news).length = (n + m) * k := by rw [List.length_append, hxl, hnl, Nat.add_mul]
  rcases h with ⟨rfl, rfl⟩ | ⟨g, o, cap, cur, rfl, hg, hc1, hc2, hc3, hc4⟩
  · have hm0 := hm rfl
    obtain rfl : xs = [] := List.eq_nil_of_length_eq_zero (by simpa using hxl)
    have hr := fun ty => run_append_grow_src (P := P) w t t ty e i z ht hi0 hi1 none 0 0 [] (run_firstCells_none w.drew i.size 0 0 0) src m news hs' (by omega) (by omega) (by rw [hi3]; exact growslice_fits (by omega) hby2)
    have hge := grownCap_ge w (0 + m) 0 e
    refine ⟨_, _, hr, ?_, (Kp.refl _ _).drew.alloc _, fun x hx => ?_, ⟨_, _, rfl⟩⟩
    · refine ownK_new k w.drew e _ _ _ _ hall hge (grownCap_le_maxLen w _ _ _ (by unfold maxLen; omega)) ?_ ?_
      · rw [Array.size_append, size_zeroCells, hz]
        simp only [List.size_toArray]
        rw [hall, ← Nat.add_mul]
        exact Nat.mul_le_mul_right _ (by omega)
      · intro j hj
        rw [← hall] at hj
        rw [Array.getElem?_append_left (by simpa using hj)]
        simp
    · simp [blk] at hx
      exact Or.inr hx
  · by_cases hroom : n + m ≤ cap
    · have hsp : n * k + m * k ≤ cap * k := by rw [← Nat.add_mul]; exact Nat.mul_le_mul_right _ hroom
      have hr := fun ty => run_append_room_src (P := P) w t t ty e i ht hi0 g o n cap src m news hs' hroom
        (fun j hj => by rw [hi2, cell_of hg, Array.getElem?_eq_getElem (by omega)]; rfl) (fun j hj => frozen_of hg _)
      obtain ⟨cur', hg', hsz'⟩ := setCells_block g e news (o + n * i.size) w cur hg
      have hget := setCells_get g e news (o + n * i.size) w cur cur' hg hg' (by rw [hi2]; omega)
      refine ⟨_, _, hr, ⟨hall, Or.inr ⟨g, o, cap, cur', rfl, hg', hroom, hc2, by omega, fun j hj => ?_⟩⟩, Kp.setCells g (Or.inl (by simp [blk])) _ _ _ (Kp.refl _ _), fun x hx => Or.inl (by simpa [blk] using hx), ⟨_, _, rfl⟩⟩
      rw [hget (o + j), hi2]
      rw [Nat.add_mul] at hj
      by_cases hjx : j < n * k
      · rw [if_neg (by omega), List.getElem?_append_left (by omega), hc4 j hjx]
      · rw [if_pos (by omega), List.getElem?_append_right (by omega), show o + j - (o + n * k) = j - xs.length by omega]
    · have hold : (Builtin.firstCells i.size n (.slice (some ⟨g, o, none⟩) n cap)).run P w.drew = .ok xs.toArray w.drew :=
        run_firstCells_some w.drew i.size n ⟨g, o, none⟩ n cap xs (by rw [hi2, hxl]) (fun j u hj => by
          rw [Addr.add_lit]
          show w.cell? _ = _
          have hjl := (List.getElem?_eq_some_iff.1 hj).1
          rw [cell_of hg, hc4 j (by omega)]
          exact hj)
      have hr := fun ty => run_append_grow_src (P := P) w t t ty e i z ht hi0 hi1 (some ⟨g, o, none⟩) n cap xs hold src m news hs' (by omega) (by omega) (by rw [hi3]; exact growslice_fits (by omega) hby2)
      have hge := grownCap_ge w (n + m) cap e
      refine ⟨_, _, hr, ?_, (Kp.refl _ _).drew.alloc _, fun x hx => ?_, ⟨_, _, rfl⟩⟩
      · refine ownK_new k w.drew e _ _ _ _ hall hge (grownCap_le_maxLen w _ _ _ (by unfold maxLen; omega)) ?_ ?_
        · rw [Array.size_append, size_zeroCells, hz]
          simp only [List.size_toArray]
          rw [hall, ← Nat.add_mul]
          exact Nat.mul_le_mul_right _ (by omega)
        · intro j hj
          rw [← hall] at hj
          rw [Array.getElem?_append_left (by simpa using hj)]
          simp
      · simp [blk] at hx
        exact Or.inr hx

end Go.Proofs.Ytpadnfpifldoaaa
