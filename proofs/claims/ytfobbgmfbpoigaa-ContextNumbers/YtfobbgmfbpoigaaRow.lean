/-
  Slices whose elements take k cells each: what one in a block of its own holds (OwnK), and append onto it; attributes, as two texts a piece.
-/
import Derived.Test.YtfobbgmfbpoigaaAgree
import Derived.Laws.AppendOwn
namespace Go.Proofs.Ytfobbgmfbpoigaa
open Go.RowKit

/-- The slice v, of n elements of type e of k cells each, holds xs, cell by cell, in a block of its own, from some cell on. -/
def OwnK (k : Nat) (w : World) (e : TypeId) (v : Value) (n : Nat) (xs : List Value) : Prop :=
  xs.length = n * k ∧ ((v = .slice none 0 0 ∧ n = 0) ∨
    ∃ g o cap cur, v = .slice (some ⟨g, o, none⟩) n cap ∧ w.heap[g]? = some (.cells cur e (0, 0)) ∧ n ≤ cap ∧ cap ≤ maxLen ∧ o + cap * k ≤ cur.size ∧ ∀ j, j < n * k → cur[o + j]? = xs[j]?)

theorem OwnK.lt {k : Nat} {w : World} {e : TypeId} {v : Value} {n : Nat} {xs : List Value} (h : OwnK k w e v n xs) : ∀ x, x ∈ blk v → x < w.heap.size := by
  intro x hx
  rcases h.2 with ⟨rfl, _⟩ | ⟨g, o, cap, cur, rfl, hg, _⟩
  · simp [blk] at hx
  · simp [blk] at hx
    subst hx
    exact (Array.getElem?_eq_some_iff.1 hg).1

theorem OwnK.keep {k : Nat} {w w' : World} {S : List Nat} {e : TypeId} {v : Value} {n : Nat} {xs : List Value} (h : OwnK k w e v n xs) (hk : Kp S w w') (hn : ∀ x, x ∈ blk v → x ∉ S) : OwnK k w' e v n xs := by
  have hl := h.lt
  obtain ⟨h0, h⟩ := h
  refine ⟨h0, ?_⟩
  rcases h with h | ⟨g, o, cap, cur, rfl, hg, r⟩
  · exact Or.inl h
  · have hm : g ∈ blk (Value.slice (some ⟨g, o, none⟩) n cap) := by simp [blk]
    exact Or.inr ⟨g, o, cap, cur, rfl, by rw [hk.block g (hl g hm) (hn g hm)]; exact hg, r⟩

/-- A slice at the head of a new block. -/
theorem ownK_new (k : Nat) (w : World) (e : TypeId) (cur : Array Value) (xs : List Value) (n cap : Nat) (h0 : xs.length = n * k) (h1 : n ≤ cap) (h2 : cap ≤ maxLen) (h3 : cap * k ≤ cur.size) (h4 : ∀ j, j < n * k → cur[j]? = xs[j]?) :
    OwnK k (w.alloc (.cells cur e)) e (.slice (some ⟨w.heap.size, 0, none⟩) n cap) n xs :=
  ⟨h0, Or.inr ⟨w.heap.size, 0, cap, cur, rfl, heap_new w _, h1, h2, by omega, fun j hj => by rw [Nat.zero_add]; exact h4 j hj⟩⟩

/-- append, onto a slice in a block of its own. -/
theorem appK {P : Program} {t e : TypeId} {z : Value} {bytes k : Nat} (ht : P.underlying t = some (.slice e)) (hi : (P.info? e).map (fun i => (i.zero, i.size, i.bytes)) = some (some z, k, bytes)) (hz : z.cells.size = k) (hby : bytes ≤ 1024)
    (w : World) (v : Value) (n : Nat) (xs : List Value) (h : OwnK k w e v n xs) (src : Value) (m : Nat) (news : List Value) (hs : Src P k t src m news w) (hm : v = .slice none 0 0 → 0 < m) (hlen : n + m ≤ 1000000) :
    ∃ v' w', (∀ ty, (Builtin.append_ #[t, t] ty #[v, src]).run P w = .ok v' w') ∧ OwnK k w' e v' (n + m) (xs ++ news) ∧ Kp (blk v) w w' ∧ (∀ x, x ∈ blk v' → x ∈ blk v ∨ x = w.heap.size) ∧ (∃ a c, v' = .slice (some a) (n + m) c) := by
  obtain ⟨i, hi0, hi1, hi2, hi3⟩ := info_parts hi
  have hnl : news.length = m * k := hs.newsLen
  have hs' : Src P i.size t src m news w := by rw [hi2]; exact hs
  have hby2 : (n + m) * bytes ≤ 140737488355328 := Nat.le_trans (Nat.mul_le_mul hlen hby) (by decide)
  obtain ⟨hxl, h⟩ := h
  have hall : (xs ++ news).length = (n + m) * k := by rw [List.length_append, hxl, hnl, Nat.add_mul]
  rcases h with ⟨rfl, rfl⟩ | ⟨g, o, cap, cur, rfl, hg, hc1, hc2, hc3, hc4⟩
  · have hm0 := hm rfl
    obtain rfl : xs = [] := List.eq_nil_of_length_eq_zero (by simpa using hxl)
    have hr := fun ty => run_append_grow_src (P := P) w t t ty e i z ht hi0 hi1 none 0 0 [] (run_firstCells_none w.drew i.size 0 0 0) src m news hs' (by omega) (by omega) (by rw [hi3]; exact growslice_fits (by omega) hby2)
    have hge := grownCap_ge w (0 + m) 0 e
    refine ⟨_, _, hr, ?_, (Kp.refl _ _).drew.alloc _, fun x hx => ?_, ⟨_, _, rfl⟩⟩
    · refine ownK_new k w.drew e _ _ _ _ hall hge (grownCap_le_maxLen w _ _ _ (by unfold maxLen; omega)) ?_ ?_
      · rw [Array.size_append, size_zeroCells, hz]
        simp only [List.size_toArray]
        rw [hall, ← Nat.add_mul]
        exact Nat.mul_le_mul_right _ (by omega)
      · intro j hj
        rw [← hall] at hj
        rw [Array.getElem?_append_left (by simpa using hj)]
        simp
    · simp [blk] at hx
      exact Or.inr hx
  · by_cases hroom : n + m ≤ cap
    · have hsp : n * k + m * k ≤ cap * k := by rw [← Nat.add_mul]; exact Nat.mul_le_mul_right _ hroom
      have hr := fun ty => run_append_room_src (P := P) w t t ty e i ht hi0 g o n cap src m news hs' hroom
        (fun j hj => by rw [hi2, cell_of hg, Array.getElem?_eq_getElem (by omega)]; rfl) (fun j hj => frozen_of hg _)
      obtain ⟨cur', hg', hsz'⟩ := setCells_block g e news (o + n * i.size) w cur hg
      have hget := setCells_get g e news (o + n * i.size) w cur cur' hg hg' (by rw [hi2]; omega)
      refine ⟨_, _, hr, ⟨hall, Or.inr ⟨g, o, cap, cur', rfl, hg', hroom, hc2, by omega, fun j hj => ?_⟩⟩, Kp.setCells g (Or.inl (by simp [blk])) _ _ _ (Kp.refl _ _), fun x hx => Or.inl (by simpa [blk] using hx), ⟨_, _, rfl⟩⟩
      rw [hget (o + j), hi2]
      rw [Nat.add_mul] at hj
      by_cases hjx : j < n * k
      · rw [if_neg (by omega), List.getElem?_append_left (by omega), hc4 j hjx]
      · rw [if_pos (by omega), List.getElem?_append_right (by omega), show o + j - (o + n * k) = j - xs.length by omega]
    · have hold : (Builtin.firstCells i.size n (.slice (some ⟨g, o, none⟩) n cap)).run P w.drew = .ok xs.toArray w.drew :=
        run_firstCells_some w.drew i.size n ⟨g, o, none⟩ n cap xs (by rw [hi2, hxl]) (fun j u hj => by
          rw [Addr.add_lit]
          show w.cell? _ = _
          have hjl := (List.getElem?_eq_some_iff.1 hj).1
          rw [cell_of hg, hc4 j (by omega)]
          exact hj)
      have hr := fun ty => run_append_grow_src (P := P) w t t ty e i z ht hi0 hi1 (some ⟨g, o, none⟩) n cap xs hold src m news hs' (by omega) (by omega) (by rw [hi3]; exact growslice_fits (by omega) hby2)
      have hge := grownCap_ge w (n + m) cap e
      refine ⟨_, _, hr, ?_, (Kp.refl _ _).drew.alloc _, fun x hx => ?_, ⟨_, _, rfl⟩⟩
      · refine ownK_new k w.drew e _ _ _ _ hall hge (grownCap_le_maxLen w _ _ _ (by unfold maxLen; omega)) ?_ ?_
        · rw [Array.size_append, size_zeroCells, hz]
          simp only [List.size_toArray]
          rw [hall, ← Nat.add_mul]
          exact Nat.mul_le_mul_right _ (by omega)
        · intro j hj
          rw [← hall] at hj
          rw [Array.getElem?_append_left (by simpa using hj)]
          simp
      · simp [blk] at hx
        exact Or.inr hx

/-- An attribute: its name and its value. -/
abbrev Att := ByteArray × ByteArray

/-- An attribute, as a value. -/
def av (a : Att) : Value := .agg #[.string a.1, .string a.2]

/-- Attributes, cell by cell. -/
def cs : List Att → List Value
  | [] => []
  | a :: l => .string a.1 :: .string a.2 :: cs l

theorem cs_len : ∀ l : List Att, (cs l).length = l.length * 2
  | [] => rfl
  | a :: l => by
    simp only [cs, List.length_cons, cs_len l]
    omega

theorem cs_append : ∀ l m : List Att, cs (l ++ m) = cs l ++ cs m
  | [], m => rfl
  | a :: l, m => by simp only [List.cons_append, cs, cs_append l m]

theorem cs_fst : ∀ (l : List Att) (j : Nat) (h : j < l.length), (cs l)[j * 2]? = some (.string l[j].1)
  | a :: l, 0, _ => rfl
  | a :: l, j + 1, h => by
    rw [show (j + 1) * 2 = j * 2 + 1 + 1 by omega]
    simp only [cs, List.getElem?_cons_succ, List.getElem_cons_succ]
    exact cs_fst l j (by simpa using h)

theorem cs_snd : ∀ (l : List Att) (j : Nat) (h : j < l.length), (cs l)[j * 2 + 1]? = some (.string l[j].2)
  | a :: l, 0, _ => rfl
  | a :: l, j + 1, h => by
    rw [show (j + 1) * 2 + 1 = j * 2 + 1 + 1 + 1 by omega]
    simp only [cs, List.getElem?_cons_succ, List.getElem_cons_succ]
    exact cs_snd l j (by simpa using h)

theorem cs_one : ∀ (l : List Att) u, u ∈ cs l → u.oneCell' = true
  | [], u, h => by simp [cs] at h
  | a :: l, u, h => by
    simp only [cs, List.mem_cons] at h
    rcases h with rfl | rfl | h
    · rfl
    · rfl
    · exact cs_one l u h

theorem cs_inj : ∀ (l m : List Att), cs l = cs m → l = m
  | [], [], _ => rfl
  | [], b :: m, h => by simp [cs] at h
  | a :: l, [], h => by simp [cs] at h
  | a :: l, b :: m, h => by
    simp only [cs, List.cons.injEq, Value.string.injEq] at h
    rw [cs_inj l m h.2.2, Prod.ext h.1 h.2.1]

/-- The slice of n attributes from ao on, with room for c, reads as l. -/
structure Rp (w : World) (ao : Option Addr) (n c : Nat) (l : List Att) : Prop where
  len : n = l.length
  cap : n ≤ c
  at' : ∀ j, j < n * 2 → ∃ b off, ao = some ⟨b, off, none⟩ ∧ w.cell? ⟨b, off + j, none⟩ = (cs l)[j]?

theorem Rp.of_own {w : World} {e : TypeId} {ao : Option Addr} {n m c : Nat} {l : List Att} (h : OwnK 2 w e (.slice ao n c) m (cs l)) : Rp w ao n c l := by
  obtain ⟨h0, h⟩ := h
  rw [cs_len] at h0
  have hm : m = l.length := by omega
  rcases h with ⟨h1, h2⟩ | ⟨g, o, cap, cur, hv, hg, h1, h2, h3, h4⟩
  · simp only [Value.slice.injEq] at h1
    obtain ⟨rfl, rfl, rfl⟩ := h1
    exact ⟨by omega, Nat.le_refl _, fun j hj => by omega⟩
  · simp only [Value.slice.injEq] at hv
    obtain ⟨rfl, rfl, rfl⟩ := hv
    exact ⟨hm, h1, fun j hj => ⟨g, o, rfl, by rw [cell_of hg, h4 j hj]⟩⟩

theorem Rp.keep {w w' : World} {ao : Option Addr} {n c : Nat} {l : List Att} (h : Rp w ao n c l) (hs : ∀ a, (∃ u, w.cell? a = some u) → w'.cell? a = w.cell? a) : Rp w' ao n c l := by
  refine ⟨h.len, h.cap, fun j hj => ?_⟩
  obtain ⟨b, off, h1, h2⟩ := h.at' j hj
  exact ⟨b, off, h1, by rw [hs _ ⟨_, h2.trans (List.getElem?_eq_getElem (by rw [cs_len]; have := h.len; omega))⟩]; exact h2⟩

theorem Rp.kept {w w' : World} {ao : Option Addr} {n c : Nat} {l : List Att} (h : Rp w ao n c l) (k : Kp [] w w') : Rp w' ao n c l :=
  h.keep (fun a ha => by
    obtain ⟨u, hu⟩ := ha
    exact k.cell (block_lt_of_cell hu) (by simp))

/-- What stands at a place. -/
theorem Rp.get {w : World} {ao : Option Addr} {n c : Nat} {l : List Att} (h : Rp w ao n c l) (k : Nat) (hk : k < l.length) :
    ∃ b off, ao = some ⟨b, off, none⟩ ∧ w.cell? ⟨b, off + k * 2, none⟩ = some (.string l[k].1) ∧ w.cell? ⟨b, off + k * 2 + 1, none⟩ = some (.string l[k].2) := by
  have hl := h.len
  obtain ⟨b, off, h1, h2⟩ := h.at' (k * 2) (by omega)
  obtain ⟨b', off', h3, h4⟩ := h.at' (k * 2 + 1) (by omega)
  rw [h1] at h3
  simp only [Option.some.injEq, Addr.mk.injEq] at h3
  obtain ⟨rfl, rfl, _⟩ := h3
  exact ⟨b, off, h1, by rw [h2, cs_fst l k hk], by rw [Nat.add_assoc, h4, cs_snd l k hk]⟩

/-- It may be appended. -/
theorem Rp.src {P : Program} {t e : TypeId} (ht : P.underlying t = some (.slice e)) {w : World} {ao : Option Addr} {n c : Nat} {l : List Att} (h : Rp w ao n c l) : Src P 2 t (.slice ao n c) n (cs l) w := by
  have hl := h.len
  cases ao with
  | none =>
    have h0 : n = 0 := by
      rcases Nat.eq_zero_or_pos n with h1 | h1
      · exact h1
      · obtain ⟨b, off, h2, _⟩ := h.at' 0 (by omega)
        cases h2
    subst h0
    have : l = [] := List.eq_nil_of_length_eq_zero hl.symm
    subst this
    exact Src.ofNil w ht c
  | some a =>
    refine Src.ofSlice w ht a n c (cs l) (by rw [cs_len, hl]) (fun j u hj => ?_) (cs_one l)
    have hjl := (List.getElem?_eq_some_iff.1 hj).1
    rw [cs_len] at hjl
    obtain ⟨b, off, h2, h3⟩ := h.at' j (by omega)
    simp only [Option.some.injEq] at h2
    subst h2
    rw [Addr.add_lit, h3]
    exact hj

/-- The first ones. -/
theorem Rp.take {w : World} {ao : Option Addr} {n c : Nat} {l : List Att} (h : Rp w ao n c l) (k : Nat) (hk : k ≤ n) : Rp w ao k c (l.take k) := by
  have hl := h.len
  refine ⟨by simp; omega, by have := h.cap; omega, fun j hj => ?_⟩
  obtain ⟨b, off, h1, h2⟩ := h.at' j (by omega)
  refine ⟨b, off, h1, ?_⟩
  rw [h2]
  have e1 : cs l = cs (l.take k) ++ cs (l.drop k) := by rw [← cs_append, List.take_append_drop]
  rw [e1, List.getElem?_append_left (by rw [cs_len]; simp; omega)]

/-- A slice of attributes that a call made: it holds l, in blocks that are new since w. -/
def Mp (w w' : World) (ao : Option Addr) (n c : Nat) (l : List Att) : Prop := OwnK 2 w' 36 (.slice ao n c) n (cs l) ∧ Kp [] w w' ∧ ∀ k, k ∈ blk (.slice ao n c) → w.heap.size ≤ k

theorem Mp.nil (w : World) : Mp w w none 0 0 [] := ⟨⟨rfl, Or.inl ⟨rfl, rfl⟩⟩, Kp.refl _ _, fun k hk => by simp [blk] at hk⟩

theorem Mp.len {w w' : World} {ao : Option Addr} {n c : Nat} {l : List Att} (h : Mp w w' ao n c l) : n = l.length := by
  have := h.1.1
  rw [cs_len] at this
  omega

theorem Mp.rp {w w' : World} {ao : Option Addr} {n c : Nat} {l : List Att} (h : Mp w w' ao n c l) : Rp w' ao n c l := Rp.of_own h.1

theorem Mp.kp {w w' : World} {ao : Option Addr} {n c : Nat} {l : List Att} (h : Mp w w' ao n c l) : Kp [] w w' := h.2.1

/-- What a call changes in no block that was there is kept. -/
theorem Mp.kept {w w1 w2 : World} {ao : Option Addr} {n c : Nat} {l : List Att} (h : Mp w w1 ao n c l) (k : Kp [] w1 w2) : Mp w w2 ao n c l :=
  ⟨h.1.keep k (fun _ _ => by simp), h.2.1.trans k (fun x hx => by simp at hx), h.2.2⟩

/-- Seen from further back. -/
theorem Mp.back {w0 w w1 : World} {ao : Option Addr} {n c : Nat} {l : List Att} (k : Kp [] w0 w) (h : Mp w w1 ao n c l) : Mp w0 w1 ao n c l :=
  ⟨h.1, k.trans h.2.1 (fun x hx => by simp at hx), fun x hx => Nat.le_trans k.size (h.2.2 x hx)⟩

theorem info23 : (Try.prog.info? 36).map (fun i => (i.zero, i.size, i.bytes)) = some (some (av (⟨#[]⟩, ⟨#[]⟩)), 2, 32) := by kernel_rfl

/-- More of them behind it: append(x, y...). -/
theorem Mp.app {w w1 : World} {ao : Option Addr} {n c : Nat} {l : List Att} (h : Mp w w1 ao n c l) {src : Value} {m : Nat} {q : List Att} (hs : Src Try.prog 2 24 src m (cs q) w1) (hm : ao = none → 0 < m) (hlen : n + m ≤ 1000000) :
    ∃ ao' n' c' w2, (∀ ty, (Builtin.append_ #[24, 24] ty #[.slice ao n c, src]).run Try.prog w1 = .ok (.slice ao' n' c') w2) ∧ Mp w w2 ao' n' c' (l ++ q) := by
  obtain ⟨h1, h2, h3⟩ := h
  obtain ⟨v', w2, hrun, o2, k2, b2, a2, c2, rfl⟩ := appK Try.underlying24 info23 rfl (by decide) w1 _ _ _ h1 src m (cs q) hs (fun hv => by simp only [Value.slice.injEq] at hv; exact hm hv.1) hlen
  refine ⟨_, _, _, w2, hrun, by rw [cs_append]; exact o2, h2.trans k2 (fun x hx => Or.inr (h3 x hx)), fun k hk => ?_⟩
  rcases b2 k hk with h4 | h4
  · exact h3 k h4
  · have := h2.size
    omega

/-- A literal of attributes. -/
theorem rp_lit (w : World) (cur : Array Value) (l : List Att) (n : Nat) (h : cur = (cs l).toArray) (hn : n = l.length) (hm : n ≤ 1000) : Mp w (w.alloc (.cells cur 36)) (some ⟨w.heap.size, 0, none⟩) n n l := by
  subst h
  exact ⟨ownK_new 2 w 36 _ (cs l) n n (by rw [cs_len, hn]) (Nat.le_refl _) (by unfold maxLen; omega) (by simp [cs_len, hn]) (fun j hj => by simp), (Kp.refl _ _).alloc _, fun k hk => by simp [blk] at hk; omega⟩

/-- append of one, as a call makes it: its slice of one is built ahead of it. -/
theorem Mp.one {w w1 : World} {ao : Option Addr} {n c : Nat} {l : List Att} (h : Mp w w1 ao n c l) (a : Att) (hlen : n + 1 ≤ 1000000) :
    ∃ ao' n' c' w2, (∀ ty, (Builtin.append_ #[24, 24] ty #[.slice ao n c, .slice (some ⟨w1.heap.size, 0, none⟩) 1 1]).run Try.prog (w1.alloc (.cells #[.string a.1, .string a.2] 36)) = .ok (.slice ao' n' c') w2) ∧ Mp w w2 ao' n' c' (l ++ [a]) := by
  have k1 : Kp [] w1 (w1.alloc (.cells #[.string a.1, .string a.2] 36)) := (Kp.refl _ _).alloc _
  have hr := (rp_lit w1 #[.string a.1, .string a.2] [a] 1 rfl rfl (by omega)).rp
  exact (h.kept k1).app (hr.src Try.underlying24) (fun _ => by omega) hlen

end Go.Proofs.Ytfobbgmfbpoigaa
