/-
  append onto a list of elements that a law holds, beside a list of open elements: a block of more than one element is no element's own.
-/
import Derived.Test.YtfobbgmfbpoigaaRs
namespace Go.Proofs.Ytfobbgmfbpoigaa.Ints
open Go.RowKit
set_option linter.unusedSimpArgs false

/-- append, onto a slice in a block of its own: the old block is written only where there was room. -/
theorem appK2 {P : Program} {t e : TypeId} {z : Value} {bytes k : Nat} (ht : P.underlying t = some (.slice e)) (hi : (P.info? e).map (fun i => (i.zero, i.size, i.bytes)) = some (some z, k, bytes)) (hz : z.cells.size = k) (hby : bytes ≤ 1024)
    (w : World) (v : Value) (n : Nat) (xs : List Value) (h : OwnK k w e v n xs) (src : Value) (m : Nat) (news : List Value) (hs : Src P k t src m news w) (hm : v = .slice none 0 0 → 0 < m) (hlen : n + m ≤ 1000000) :
    ∃ v' w', (∀ ty, (Builtin.append_ #[t, t] ty #[v, src]).run P w = .ok v' w') ∧ OwnK k w' e v' (n + m) (xs ++ news) ∧ Kp (blk v) w w' ∧ (∀ x, x ∈ blk v' → x ∈ blk v ∨ x = w.heap.size) ∧ (∃ a c, v' = .slice (some a) (n + m) c) ∧ (Kp [] w w' ∨ ∃ a c, v = .slice (some a) n c ∧ n + m ≤ c) := by
  obtain ⟨i, hi0, hi1, hi2, hi3⟩ := info_parts hi
  have hnl : news.length = m * k := hs.newsLen
  have hs' : Src P i.size t src m news w := by rw [hi2]; exact hs
  have hby2 : (n + m) * bytes ≤ 140737488355328 := Nat.le_trans (Nat.mul_le_mul hlen hby) (by decide)
  obtain ⟨hxl, h⟩ := h
  have hall : (xs ++ news).length = (n + m) * k := by rw [List.length_append, hxl, hnl, Nat.add_mul]
  rcases h with ⟨rfl, rfl⟩ | ⟨g, o, cap, cur, rfl, hg, hc1, hc2, hc3, hc4⟩
  · have hm0 := hm rfl
    obtain rfl : xs = [] := List.eq_nil_of_length_eq_zero (by simpa using hxl)
    have hr := fun ty => run_append_grow_src (P := P) w t t ty e i z ht hi0 hi1 none 0 0 [] (run_firstCells_none w.drew i.size 0 0 0) src m news hs' (by omega) (by omega) (by rw [hi3]; exact growslice_fits (by omega) hby2)
    have hge := grownCap_ge w (0 + m) 0 e
    refine ⟨_, _, hr, ?_, (Kp.refl _ _).drew.alloc _, fun x hx => ?_, ⟨_, _, rfl⟩, Or.inl ((Kp.refl _ _).drew.alloc _)⟩
    · refine ownK_new k w.drew e _ _ _ _ hall hge (grownCap_le_maxLen w _ _ _ (by unfold maxLen; omega)) ?_ ?_
      · rw [Array.size_append, size_zeroCells, hz]
        simp only [List.size_toArray]
        rw [hall, ← Nat.add_mul]
        exact Nat.mul_le_mul_right _ (by omega)
      · intro j hj
        rw [← hall] at hj
        rw [Array.getElem?_append_left (by simpa using hj)]
        simp
    · simp [blk] at hx
      exact Or.inr hx
  · by_cases hroom : n + m ≤ cap
    · have hsp : n * k + m * k ≤ cap * k := by rw [← Nat.add_mul]; exact Nat.mul_le_mul_right _ hroom
      have hr := fun ty => run_append_room_src (P := P) w t t ty e i ht hi0 g o n cap src m news hs' hroom
        (fun j hj => by rw [hi2, cell_of hg, Array.getElem?_eq_getElem (by omega)]; rfl) (fun j hj => frozen_of hg _)
      obtain ⟨cur', hg', hsz'⟩ := setCells_block g e news (o + n * i.size) w cur hg
      have hget := setCells_get g e news (o + n * i.size) w cur cur' hg hg' (by rw [hi2]; omega)
      refine ⟨_, _, hr, ⟨hall, Or.inr ⟨g, o, cap, cur', rfl, hg', hroom, hc2, by omega, fun j hj => ?_⟩⟩, Kp.setCells g (Or.inl (by simp [blk])) _ _ _ (Kp.refl _ _), fun x hx => Or.inl (by simpa [blk] using hx), ⟨_, _, rfl⟩, Or.inr ⟨_, _, rfl, hroom⟩⟩
      rw [hget (o + j), hi2]
      rw [Nat.add_mul] at hj
      by_cases hjx : j < n * k
      · rw [if_neg (by omega), List.getElem?_append_left (by omega), hc4 j hjx]
      · rw [if_pos (by omega), List.getElem?_append_right (by omega), show o + j - (o + n * k) = j - xs.length by omega]
    · have hold : (Builtin.firstCells i.size n (.slice (some ⟨g, o, none⟩) n cap)).run P w.drew = .ok xs.toArray w.drew :=
        run_firstCells_some w.drew i.size n ⟨g, o, none⟩ n cap xs (by rw [hi2, hxl]) (fun j u hj => by
          rw [Addr.add_lit]
          show w.cell? _ = _
          have hjl := (List.getElem?_eq_some_iff.1 hj).1
          rw [cell_of hg, hc4 j (by omega)]
          exact hj)
      have hr := fun ty => run_append_grow_src (P := P) w t t ty e i z ht hi0 hi1 (some ⟨g, o, none⟩) n cap xs hold src m news hs' (by omega) (by omega) (by rw [hi3]; exact growslice_fits (by omega) hby2)
      have hge := grownCap_ge w (n + m) cap e
      refine ⟨_, _, hr, ?_, (Kp.refl _ _).drew.alloc _, fun x hx => ?_, ⟨_, _, rfl⟩, Or.inl ((Kp.refl _ _).drew.alloc _)⟩
      · refine ownK_new k w.drew e _ _ _ _ hall hge (grownCap_le_maxLen w _ _ _ (by unfold maxLen; omega)) ?_ ?_
        · rw [Array.size_append, size_zeroCells, hz]
          simp only [List.size_toArray]
          rw [hall, ← Nat.add_mul]
          exact Nat.mul_le_mul_right _ (by omega)
        · intro j hj
          rw [← hall] at hj
          rw [Array.getElem?_append_left (by simpa using hj)]
          simp
      · simp [blk] at hx
        exact Or.inr hx

/-- A block of more than one element is written: no element of the list lies there. -/
theorem Lx.big {w0 w w' : World} {q p : Nat} {v : Value} {bs : List (Option Addr)} {zs : List It} {S : List Nat} (h : Lx w0 w q p v bs zs) (k : Kp S w w') (hS : ∀ x, x ∈ S → ∃ cur, w.heap[x]? = some (Obj.cells cur 51 (0, 0)) ∧ 4 < cur.size) : Lx w0 w' q p v bs zs := by
  have ne : ∀ x c t, w.heap[x]? = some (Obj.cells c t (0, 0)) → (t ≠ 51 ∨ c.size ≤ 4) → x ∉ S := fun x c t h1 h2 h3 => by
    obtain ⟨cur, h4, h5⟩ := hS x h3
    rw [h4] at h1
    simp only [Option.some.injEq, Obj.cells.injEq] at h1
    rcases h2 with h2 | h2
    · exact h2 h1.2.1.symm
    · rw [← h1.1] at h2
      omega
  refine ⟨?_, ⟨?_, h.px.2.1.keep k (fun x hx => ?_), h.px.2.2⟩, h.len, fun i h1 h2 => ?_, h.new1, h.new2⟩
  · rw [k.block q (lt_of h.head) (ne _ _ _ h.head (Or.inl (by decide)))]
    exact h.head
  · rw [k.block p (lt_of h.px.1) (ne _ _ _ h.px.1 (Or.inl (by decide)))]
    exact h.px.1
  · rcases h.px.2.1 with ⟨h3, _⟩ | ⟨g, cap, cur', h3, h4, _⟩
    · rw [h3] at hx
      simp [blk] at hx
    · rw [h3] at hx
      simp [blk] at hx
      subst hx
      exact ne _ _ _ h4 (Or.inl (by decide))
  · obtain ⟨g, h3, h4⟩ := h.box i h1 h2
    refine ⟨g, h3, ?_⟩
    rw [k.block g (lt_of h4) (ne _ _ _ h4 (Or.inr (by simp [ic])))]
    exact h4

theorem Ms.ev {w w1 w2 : World} {ao : Option Addr} {n c : Nat} {zs : List It} (h : Ms w w1 ao n c zs) (e : Ev w w1 w2) : Ms w w2 ao n c zs := by
  obtain ⟨⟨h0, h1⟩, h2, h3⟩ := h
  refine ⟨⟨h0, ?_⟩, e.kp h2, h3⟩
  rcases h1 with h1 | ⟨g, o, cap, cur, a1, a2, a3⟩
  · exact Or.inl h1
  · exact Or.inr ⟨g, o, cap, cur, a1, e.cells _ _ _ a2 not_pil_item, a3⟩

/-- One more behind a law's list; what the program holds is as it was. -/
theorem Ms.more {w w1 : World} {ao : Option Addr} {n c : Nat} {zs : List It} (h : Ms w w1 ao n c zs) {src : Value} {x : It} (hs : Src Try.prog 4 47 src 1 (cz [x]) w1) (hlen : n + 1 ≤ 1000000) (hnil : n = 0 → ao = none) :
    ∃ ao' c' w2, (∀ ty, (Builtin.append_ #[47, 47] ty #[.slice ao n c, src]).run Try.prog w1 = .ok (.slice ao' (n + 1) c') w2) ∧ Ms w w2 ao' (n + 1) c' (zs ++ [x]) ∧ (∃ a, ao' = some a) ∧ (∀ w0 q ys, Li w0 w1 q ys → Li w0 w2 q ys) ∧ ∃ S, Kp S w1 w2 ∧ ∀ y, y ∈ S → ∃ cur, w1.heap[y]? = some (Obj.cells cur 51 (0, 0)) := by
  obtain ⟨h1, h2, h3⟩ := h
  obtain ⟨v', w2, hrun, o2, k2, b2, ⟨a2, c2, rfl⟩, hr⟩ := appK2 Try.underlying47 infoI rfl (by decide) w1 _ _ _ h1 src 1 (cz [x]) hs (fun _ => by omega) hlen
  refine ⟨_, _, w2, hrun, ⟨by rw [cz_append]; exact o2, h2.trans k2 (fun x hx => Or.inr (h3 x hx)), fun k hk => ?_⟩, ⟨_, rfl⟩, fun w0 q ys hL => ?_, _, k2, fun y hy => ?_⟩
  · rcases b2 k hk with h4 | h4
    · exact h3 k h4
    · have := h2.size
      omega
  · rcases hr with hr | ⟨a, c', hv, hr⟩
    · exact hL.kept hr
    · obtain ⟨p, v, bs, hx⟩ := hL
      refine ⟨p, v, bs, hx.big k2 (fun y hy => ?_)⟩
      rcases h1.2 with ⟨h4, _⟩ | ⟨g, o, cap, cur, h4, h5, h6, h7, h8, h9⟩
      · rw [h4] at hy
        simp [blk] at hy
      · rw [h4] at hy
        simp [blk] at hy
        subst hy
        rw [h4] at hv
        simp only [Value.slice.injEq] at hv
        refine ⟨cur, h5, ?_⟩
        have hn := h1.1
        rw [cz_len] at hn
        rcases Nat.eq_zero_or_pos n with h0 | h0
        · rw [hnil h0] at h4
          simp only [Value.slice.injEq] at h4
          cases h4.1
        · omega
  · rcases h1.2 with ⟨h4, _⟩ | ⟨g, o, cap, cur, h4, h5, _⟩
    · rw [h4] at hy
      simp [blk] at hy
    · rw [h4] at hy
      simp [blk] at hy
      subst hy
      exact ⟨cur, h5⟩

end Go.Proofs.Ytfobbgmfbpoigaa.Ints