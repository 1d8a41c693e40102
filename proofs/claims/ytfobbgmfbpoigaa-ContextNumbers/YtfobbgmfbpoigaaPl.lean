/-
  Piles: what a slice of one-cell elements at the head of a block of its own holds (Ow); a struct whose one field is such a slice (Pile), and what a call makes of it (Turned).
-/
import Derived.Test.YtfobbgmfbpoigaaBase
namespace Go.Proofs.Ytfobbgmfbpoigaa
open Go.RowKit

/-- The slice v, of one-cell elements of type e, holds xs, in a block of its own, from its head on. -/
def Ow (w : World) (e : TypeId) (v : Value) (xs : List Value) : Prop :=
  (v = .slice none 0 0 ∧ xs = []) ∨
  ∃ g cap cur, v = .slice (some ⟨g, 0, none⟩) xs.length cap ∧ w.heap[g]? = some (.cells cur e (0, 0)) ∧ xs.length ≤ cap ∧ cap ≤ maxLen ∧ cur.size = cap ∧ ∀ j, j < xs.length → cur[j]? = xs[j]?

theorem Ow.lt {w : World} {e : TypeId} {v : Value} {xs : List Value} (h : Ow w e v xs) : ∀ k, k ∈ blk v → k < w.heap.size := by
  intro k hk
  rcases h with ⟨rfl, _⟩ | ⟨g, cap, cur, rfl, hg, _⟩
  · simp [blk] at hk
  · simp [blk] at hk
    subst hk
    exact (Array.getElem?_eq_some_iff.1 hg).1

theorem Ow.keep {w w' : World} {S : List Nat} {e : TypeId} {v : Value} {xs : List Value} (h : Ow w e v xs) (k : Kp S w w') (hn : ∀ x, x ∈ blk v → x ∉ S) : Ow w' e v xs := by
  have hl := h.lt
  rcases h with h | ⟨g, cap, cur, rfl, hg, r⟩
  · exact Or.inl h
  · have hm : g ∈ blk (Value.slice (some ⟨g, 0, none⟩) xs.length cap) := by simp [blk]
    exact Or.inr ⟨g, cap, cur, rfl, by rw [k.block g (hl g hm) (hn g hm)]; exact hg, r⟩

/-- A slice at the head of a new block. -/
theorem ow_new (w : World) (e : TypeId) (cur : Array Value) (xs : List Value) (cap : Nat) (h1 : xs.length ≤ cap) (h2 : cap ≤ maxLen) (h3 : cur.size = cap) (h4 : ∀ j, j < xs.length → cur[j]? = xs[j]?) (n : Nat) (hn : n = xs.length) :
    Ow (w.alloc (.cells cur e)) e (.slice (some ⟨w.heap.size, 0, none⟩) n cap) xs := by
  subst hn
  exact Or.inr ⟨w.heap.size, cap, cur, rfl, heap_new w _, h1, h2, h3, h4⟩

/-- A slice at the head of a new block, with zeros behind it. -/
theorem ow_grown (w : World) (e : TypeId) (z : Value) (hz : z.cells = #[z]) (L : List Value) (n G : Nat) (hn : n = L.length) (hG : n ≤ G) (hm : G ≤ maxLen) :
    Ow (w.alloc (.cells (L.toArray ++ Builtin.zeroCells z.cells (G - n)) e)) e (.slice (some ⟨w.heap.size, 0, none⟩) n G) L := by
  refine ow_new w e _ _ _ (by omega) hm ?_ ?_ _ hn
  · rw [Array.size_append, zeroCells_size z hz]
    simp
    omega
  · intro j hj
    rw [Array.getElem?_append_left (by simpa using hj)]
    simp

/-- append, onto a slice in a block of its own. -/
theorem ow_app {P : Program} {t e : TypeId} {z : Value} {bytes : Nat} (ht : P.underlying t = some (.slice e)) (hi : (P.info? e).map (fun i => (i.zero, i.size, i.bytes)) = some (some z, 1, bytes)) (hz : z.cells = #[z]) (hby : bytes ≤ 1024)
    (w : World) (v : Value) (xs : List Value) (h : Ow w e v xs) (src : Value) (m : Nat) (news : List Value) (hs : Src P 1 t src m news w) (hm : v = .slice none 0 0 → 0 < m) (hlen : xs.length + m ≤ 1000000) :
    ∃ v' w', (∀ ty, (Builtin.append_ #[t, t] ty #[v, src]).run P w = .ok v' w') ∧ Ow w' e v' (xs ++ news) ∧ Kp (blk v) w w' ∧ (∀ k, k ∈ blk v' → k ∈ blk v ∨ k = w.heap.size) ∧ (∃ a c, v' = .slice (some a) (xs.length + m) c) := by
  obtain ⟨i, hi0, hi1, hi2, hi3⟩ := info_parts hi
  have hnl : news.length = m := by simpa using hs.newsLen
  have hs' : Src P i.size t src m news w := by rw [hi2]; exact hs
  have hby2 : (xs.length + m) * bytes ≤ 140737488355328 := Nat.le_trans (Nat.mul_le_mul hlen hby) (by decide)
  rcases h with ⟨rfl, rfl⟩ | ⟨g, cap, cur, rfl, hg, hc1, hc2, hc3, hc4⟩
  · have hm0 := hm rfl
    have hr := fun ty => run_append_grow_src (P := P) w t t ty e i z ht hi0 hi1 none 0 0 [] (run_firstCells_none w.drew i.size 0 0 0) src m news hs' (by omega) (by simp at hlen; omega) (by rw [hi3]; exact growslice_fits (by omega) (by simpa using hby2))
    refine ⟨_, _, hr, ?_, (Kp.refl _ _).drew.alloc _, fun k hk => ?_, ⟨_, _, rfl⟩⟩
    · refine ow_new w.drew e _ _ _ ?_ ?_ ?_ ?_ _ (by simp [hnl])
      · have := grownCap_ge w (0 + m) 0 e
        simp [hnl]
        simpa using this
      · exact grownCap_le_maxLen w _ _ _ (by unfold maxLen; simp at hlen; omega)
      · have := grownCap_ge w (0 + m) 0 e
        rw [Array.size_append, zeroCells_size z hz]
        simp [hnl] at this ⊢
        omega
      · intro j hj
        simp at hj
        rw [Array.getElem?_append_left (by simpa using hj)]
        simp
    · simp [blk] at hk
      exact Or.inr hk
  · by_cases hroom : xs.length + m ≤ cap
    · have hr := fun ty => run_append_room_src (P := P) w t t ty e i ht hi0 g 0 xs.length cap src m news hs' hroom
        (fun j hj => by rw [hi2, cell_of hg, Array.getElem?_eq_getElem (by omega)]; rfl) (fun j hj => frozen_of hg _)
      obtain ⟨cur', hg', hsz'⟩ := setCells_block g e news (0 + xs.length * i.size) w cur hg
      have hget := setCells_get g e news (0 + xs.length * i.size) w cur cur' hg hg' (by rw [hi2]; omega)
      refine ⟨_, _, hr, Or.inr ⟨g, cap, cur', by simp [hnl], hg', by simp [hnl]; exact hroom, hc2, by omega, fun j hj => ?_⟩, Kp.setCells g (Or.inl (by simp [blk])) _ _ _ (Kp.refl _ _), fun k hk => Or.inl (by simpa [blk] using hk), ⟨_, _, rfl⟩⟩
      rw [hget j, hi2]
      simp only [Nat.mul_one, Nat.zero_add]
      rw [List.length_append] at hj
      by_cases hjx : j < xs.length
      · rw [if_neg (by omega), List.getElem?_append_left hjx, hc4 j hjx]
      · rw [if_pos (by omega), List.getElem?_append_right (by omega)]
    · have hold : (Builtin.firstCells i.size xs.length (.slice (some ⟨g, 0, none⟩) xs.length cap)).run P w.drew = .ok xs.toArray w.drew :=
        run_firstCells_some w.drew i.size xs.length ⟨g, 0, none⟩ xs.length cap xs (by rw [hi2, Nat.mul_one]) (fun j u hj => by
          rw [Addr.add_lit]
          show w.cell? _ = _
          have hjl := (List.getElem?_eq_some_iff.1 hj).1
          rw [Nat.zero_add, cell_of hg, hc4 j hjl]
          exact hj)
      have hr := fun ty => run_append_grow_src (P := P) w t t ty e i z ht hi0 hi1 (some ⟨g, 0, none⟩) xs.length cap xs hold src m news hs' (by omega) (by omega) (by rw [hi3]; exact growslice_fits (by omega) hby2)
      refine ⟨_, _, hr, ?_, (Kp.refl _ _).drew.alloc _, fun k hk => ?_, ⟨_, _, rfl⟩⟩
      · refine ow_new w.drew e _ _ _ ?_ ?_ ?_ ?_ _ (by simp [hnl])
        · have := grownCap_ge w (xs.length + m) cap e
          simp [hnl]
          exact this
        · exact grownCap_le_maxLen w _ _ _ (by unfold maxLen; omega)
        · have := grownCap_ge w (xs.length + m) cap e
          rw [Array.size_append, zeroCells_size z hz]
          simp [hnl]
          omega
        · intro j hj
          rw [Array.getElem?_append_left (by simpa using hj)]
          simp
      · simp [blk] at hk
        exact Or.inr hk

/-- A pile: a struct in block p, whose one field is a slice in a block of its own. -/
def Pile (w : World) (T e : TypeId) (p : Nat) (v : Value) (xs : List Value) : Prop :=
  w.heap[p]? = some (.cells #[v] T (0, 0)) ∧ Ow w e v xs ∧ p ∉ blk v

/-- The pile in block p, whose slice was v, holds xs' now; nothing else has turned. -/
def Turned (w w' : World) (T e : TypeId) (p : Nat) (v : Value) (xs' : List Value) : Prop :=
  ∃ v', Pile w' T e p v' xs' ∧ Kp (p :: blk v) w w' ∧ ∀ k, k ∈ blk v' → k ∈ blk v ∨ w.heap.size ≤ k

theorem Ow.get {w : World} {e : TypeId} {g n cap : Nat} {xs : List Value} (h : Ow w e (.slice (some ⟨g, 0, none⟩) n cap) xs) (j : Nat) (hj : j < xs.length) : w.cell? ⟨g, j, none⟩ = some xs[j] ∧ w.frozen? ⟨g, j, none⟩ = false := by
  rcases h with ⟨h, _⟩ | ⟨g', cap', cur, hv, hg, h1, h2, h3, h4⟩
  · cases h
  · simp only [Value.slice.injEq, Option.some.injEq, Addr.mk.injEq] at hv
    obtain ⟨⟨rfl, _⟩, rfl, rfl⟩ := hv
    exact ⟨by rw [cell_of hg, h4 j hj]; simp, frozen_of hg j⟩

/-- A store into the pile's struct. -/
theorem Turned.mk {w w2 : World} {T e : TypeId} {p : Nat} {v v' : Value} {xs' : List Value} (hpl : p < w.heap.size) (hp2 : w2.heap[p]? = some (.cells #[v] T (0, 0))) (hpb : p ∉ blk v) (hown : Ow w2 e v' xs') (hk : Kp (p :: blk v) w w2)
    (hb : ∀ k, k ∈ blk v' → k ∈ blk v ∨ w.heap.size ≤ k) : Turned w (w2.setCell ⟨p, 0, none⟩ v') T e p v xs' := by
  have hpn : p ∉ blk v' := fun hx => by
    rcases hb p hx with h1 | h1
    · exact hpb h1
    · omega
  exact ⟨v', ⟨by rw [setCell_block hp2]; rfl, hown.keep ((Kp.refl [p] w2).setCell (Or.inl (by simp)) v') (fun y hy => by simp; intro e; subst e; exact hpn hy), hpn⟩, hk.setCell (Or.inl (by simp)) v', hb⟩

end Go.Proofs.Ytfobbgmfbpoigaa
