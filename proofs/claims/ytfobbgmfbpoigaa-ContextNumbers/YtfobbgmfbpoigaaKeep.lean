/-
  Own words on worlds: which blocks a call has left as they were (Kp), and what a slice in a block of its own holds (Own).
-/
import Derived.WalkKit
import Derived.WalkSpells
import Derived.Deep.AppendSrc
import Derived.Deep.Draws
import Derived.Lib.AppendZeros
namespace Go.Proofs.Ytfobbgmfbpoigaa
open Go.RowKit

/-- All blocks of w but those of S are in w' as they were; there may be more. -/
structure Kp (S : List Nat) (w w' : World) : Prop where
  os : w'.os = w.os
  tape : w'.tape = w.tape
  output : w'.output = w.output
  size : w.heap.size ≤ w'.heap.size
  block : ∀ k, k < w.heap.size → k ∉ S → w'.heap[k]? = w.heap[k]?

theorem Kp.refl (S : List Nat) (w : World) : Kp S w w := ⟨rfl, rfl, rfl, Nat.le_refl _, fun _ _ _ => rfl⟩

theorem Kp.trans {S T : List Nat} {a b c : World} (h : Kp S a b) (k : Kp T b c) (hT : ∀ x, x ∈ T → x ∈ S ∨ a.heap.size ≤ x) : Kp S a c :=
  ⟨k.os.trans h.os, k.tape.trans h.tape, k.output.trans h.output, Nat.le_trans h.size k.size, fun i hi hn => by
    have hT' : i ∉ T := fun hx => by
      rcases hT i hx with h1 | h1
      · exact hn h1
      · omega
    exact (k.block i (Nat.lt_of_lt_of_le hi h.size) hT').trans (h.block i hi hn)⟩

theorem Kp.mono {S T : List Nat} {a b : World} (h : Kp S a b) (hT : ∀ x, x ∈ S → x ∈ T ∨ a.heap.size ≤ x) : Kp T a b :=
  (Kp.refl T a).trans h hT

theorem Kp.drew {S : List Nat} {a w : World} (h : Kp S a w) : Kp S a w.drew := ⟨h.os, h.tape, h.output, h.size, h.block⟩

theorem Kp.drewN {S : List Nat} {a w : World} (h : Kp S a w) (n : Nat) : Kp S a (w.drewN n) := by
  obtain ⟨h1, h2, h3, h4, h5⟩ := h
  exact ⟨h1, h2, h3, h4, h5⟩

theorem Kp.alloc {S : List Nat} {a w : World} (h : Kp S a w) (o : Obj) : Kp S a (w.alloc o) :=
  ⟨h.os, h.tape, h.output, by have := h.size; simp; omega, fun k hk hn => by rw [Below.heap_alloc _ _ _ (Nat.lt_of_lt_of_le hk h.size)]; exact h.block k hk hn⟩

theorem Kp.setCell {S : List Nat} {a w : World} (h : Kp S a w) {p : Addr} (hp : p.block ∈ S ∨ a.heap.size ≤ p.block) (u : Value) : Kp S a (w.setCell p u) :=
  ⟨h.os, h.tape, h.output, by have := h.size; simp [World.setCell]; omega, fun k hk hn => by
    rw [Below.heap_setCell _ _ _ _ (fun e => by
      rcases hp with h1 | h1
      · exact hn (e ▸ h1)
      · omega)]
    exact h.block k hk hn⟩

theorem Kp.setCells {S : List Nat} {a : World} (b : Nat) (hp : b ∈ S ∨ a.heap.size ≤ b) : ∀ (vs : List Value) (o : Nat) (w : World), Kp S a w → Kp S a (w.setCells b o vs)
  | [], _, _, h => h
  | v :: r, o, w, h => by
    rw [World.setCells]
    exact Kp.setCells b hp r (o + 1) _ (h.setCell hp v)

theorem Kp.below {S : List Nat} {a w : World} (h : Kp S a w) (B : Nat) (hB : B ≤ a.heap.size) (hS : ∀ x, x ∈ S → B ≤ x) : Below B a w :=
  ⟨h.os, h.tape, h.output, h.size, fun k hk => h.block k (by omega) (fun hx => by have := hS k hx; omega)⟩

/-- The block that a slice lies in. -/
def blk : Value → List Nat
  | .slice (some a) _ _ => [a.block]
  | _ => []

/-- The slice v, of one-cell elements of type e, holds xs, in a block of its own, from some cell on. -/
def Own (w : World) (e : TypeId) (v : Value) (xs : List Value) : Prop :=
  (v = .slice none 0 0 ∧ xs = []) ∨
  ∃ g o cap cur, v = .slice (some ⟨g, o, none⟩) xs.length cap ∧ w.heap[g]? = some (.cells cur e (0, 0)) ∧ xs.length ≤ cap ∧ cap ≤ maxLen ∧ o + cap ≤ cur.size ∧ ∀ j, j < xs.length → cur[o + j]? = xs[j]?

theorem Own.lt {w : World} {e : TypeId} {v : Value} {xs : List Value} (h : Own w e v xs) : ∀ k, k ∈ blk v → k < w.heap.size := by
  intro k hk
  rcases h with ⟨rfl, _⟩ | ⟨g, o, cap, cur, rfl, hg, _⟩
  · simp [blk] at hk
  · simp [blk] at hk
    subst hk
    exact (Array.getElem?_eq_some_iff.1 hg).1

theorem Own.keep {w w' : World} {S : List Nat} {e : TypeId} {v : Value} {xs : List Value} (h : Own w e v xs) (k : Kp S w w') (hn : ∀ x, x ∈ blk v → x ∉ S) : Own w' e v xs := by
  have hl := h.lt
  rcases h with h | ⟨g, o, cap, cur, rfl, hg, r⟩
  · exact Or.inl h
  · have hm : g ∈ blk (Value.slice (some ⟨g, o, none⟩) xs.length cap) := by simp [blk]
    exact Or.inr ⟨g, o, cap, cur, rfl, by rw [k.block g (hl g hm) (hn g hm)]; exact hg, r⟩

theorem cell_of {w : World} {g : Nat} {cur : Array Value} {e : TypeId} (h : w.heap[g]? = some (.cells cur e (0, 0))) (j : Nat) : w.cell? ⟨g, j, none⟩ = cur[j]? := by
  simp [World.cell?, h]

theorem frozen_of {w : World} {g : Nat} {cur : Array Value} {e : TypeId} (h : w.heap[g]? = some (.cells cur e (0, 0))) (j : Nat) : w.frozen? ⟨g, j, none⟩ = false := by
  simp [World.frozen?, h]

/-- Behind stores into a block it is a block of as many cells. -/
theorem setCell_block {w : World} {g : Nat} {cur : Array Value} {e : TypeId} (h : w.heap[g]? = some (.cells cur e (0, 0))) (o : Nat) (u : Value) : (w.setCell ⟨g, o, none⟩ u).heap[g]? = some (.cells (cur.setIfInBounds o u) e (0, 0)) := by
  simp only [World.setCell, Array.getElem?_modify, h]
  simp

theorem setCells_block (g : Nat) (e : TypeId) : ∀ (vs : List Value) (o : Nat) (w : World) (cur : Array Value), w.heap[g]? = some (.cells cur e (0, 0)) → ∃ cur', (w.setCells g o vs).heap[g]? = some (.cells cur' e (0, 0)) ∧ cur'.size = cur.size
  | [], _, _, cur, h => ⟨cur, h, rfl⟩
  | v :: r, o, w, cur, h => by
    obtain ⟨c, h1, h2⟩ := setCells_block g e r (o + 1) _ _ (setCell_block h o v)
    exact ⟨c, h1, by rw [h2]; simp⟩

/-- Where stores begin behind what is held, what is held goes on. -/
theorem setCells_get (g : Nat) (e : TypeId) (vs : List Value) (o : Nat) (w : World) (cur cur' : Array Value) (h : w.heap[g]? = some (.cells cur e (0, 0))) (h' : (w.setCells g o vs).heap[g]? = some (.cells cur' e (0, 0))) (hfit : o + vs.length ≤ cur.size) (k : Nat) :
    cur'[k]? = if o ≤ k ∧ k < o + vs.length then vs[k - o]? else cur[k]? := by
  rw [← cell_of h' k, ← cell_of h k]
  by_cases hk : o ≤ k ∧ k < o + vs.length
  · rw [if_pos hk]
    have := World.cell?_setCells_in g vs o w (fun j hj => by rw [cell_of h, Array.getElem?_eq_getElem (by omega)]; rfl) (k - o) (by omega)
    rw [show o + (k - o) = k by omega] at this
    rw [this, List.getElem?_eq_getElem]
  · rw [if_neg hk]
    exact World.cell?_setCells_out g vs o w ⟨g, k, none⟩ (fun _ _ => by show k < o ∨ o + vs.length ≤ k; omega)

theorem heap_new (w : World) (o : Obj) : (w.alloc o).heap[w.heap.size]? = some o := by
  show (w.heap.push o)[w.heap.size]? = some o
  simp

/-- A slice at the head of a new block. -/
theorem own_new (w : World) (e : TypeId) (cur : Array Value) (xs : List Value) (cap : Nat) (h1 : xs.length ≤ cap) (h2 : cap ≤ maxLen) (h3 : cur.size = cap) (h4 : ∀ j, j < xs.length → cur[j]? = xs[j]?) (n : Nat) (hn : n = xs.length) :
    Own (w.alloc (.cells cur e)) e (.slice (some ⟨w.heap.size, 0, none⟩) n cap) xs := by
  subst hn
  exact Or.inr ⟨w.heap.size, 0, cap, cur, rfl, heap_new w _, h1, h2, by omega, fun j hj => by rw [Nat.zero_add]; exact h4 j hj⟩

theorem zeroCells_size (z : Value) (hz : z.cells = #[z]) (n : Nat) : (Builtin.zeroCells z.cells n).size = n := by
  rw [hz]
  simp [Builtin.zeroCells]

/-- A slice at the head of a new block, with zeros behind it. -/
theorem own_grown (w : World) (e : TypeId) (z : Value) (hz : z.cells = #[z]) (L : List Value) (n G : Nat) (hn : n = L.length) (hG : n ≤ G) (hm : G ≤ maxLen) :
    Own (w.alloc (.cells (L.toArray ++ Builtin.zeroCells z.cells (G - n)) e)) e (.slice (some ⟨w.heap.size, 0, none⟩) n G) L := by
  refine own_new w e _ _ _ (by omega) hm ?_ ?_ _ hn
  · rw [Array.size_append, zeroCells_size z hz]
    simp
    omega
  · intro j hj
    rw [Array.getElem?_append_left (by simpa using hj)]
    simp

/-- append, onto a slice in a block of its own. -/
theorem app_any {P : Program} {t e : TypeId} {z : Value} {bytes : Nat} (ht : P.underlying t = some (.slice e)) (hi : (P.info? e).map (fun i => (i.zero, i.size, i.bytes)) = some (some z, 1, bytes)) (hz : z.cells = #[z]) (hby : bytes ≤ 1024)
    (w : World) (v : Value) (xs : List Value) (h : Own w e v xs) (src : Value) (m : Nat) (news : List Value) (hs : Src P 1 t src m news w) (hm : v = .slice none 0 0 → 0 < m) (hlen : xs.length + m ≤ 1000000) :
    ∃ v' w', (∀ ty, (Builtin.append_ #[t, t] ty #[v, src]).run P w = .ok v' w') ∧ Own w' e v' (xs ++ news) ∧ Kp (blk v) w w' ∧ (∀ k, k ∈ blk v' → k ∈ blk v ∨ k = w.heap.size) ∧ (∃ a c, v' = .slice (some a) (xs.length + m) c) := by
  obtain ⟨i, hi0, hi1, hi2, hi3⟩ := info_parts hi
  have hnl : news.length = m := by simpa using hs.newsLen
  have hs' : Src P i.size t src m news w := by rw [hi2]; exact hs
  have hby2 : (xs.length + m) * bytes ≤ 140737488355328 := Nat.le_trans (Nat.mul_le_mul hlen hby) (by decide)
  rcases h with ⟨rfl, rfl⟩ | ⟨g, o, cap, cur, rfl, hg, hc1, hc2, hc3, hc4⟩
  · have hm0 := hm rfl
    have hr := fun ty => run_append_grow_src (P := P) w t t ty e i z ht hi0 hi1 none 0 0 [] (run_firstCells_none w.drew i.size 0 0 0) src m news hs' (by omega) (by simp at hlen; omega) (by rw [hi3]; exact growslice_fits (by omega) (by simpa using hby2))
    refine ⟨_, _, hr, ?_, (Kp.refl _ _).drew.alloc _, fun k hk => ?_, ⟨_, _, rfl⟩⟩
    · refine own_new w.drew e _ _ _ ?_ ?_ ?_ ?_ _ (by simp [hnl])
      · have := grownCap_ge w (0 + m) 0 e
        simp [hnl]
        simpa using this
      · exact grownCap_le_maxLen w _ _ _ (by unfold maxLen; simp at hlen; omega)
      · have := grownCap_ge w (0 + m) 0 e
        rw [Array.size_append, zeroCells_size z hz]
        simp [hnl] at this ⊢
        omega
      · intro j hj
        simp at hj
        rw [Array.getElem?_append_left (by simpa using hj)]
        simp
    · simp [blk] at hk
      exact Or.inr hk
  · by_cases hroom : xs.length + m ≤ cap
    · have hr := fun ty => run_append_room_src (P := P) w t t ty e i ht hi0 g o xs.length cap src m news hs' hroom
        (fun j hj => by rw [hi2, cell_of hg, Array.getElem?_eq_getElem (by omega)]; rfl) (fun j hj => frozen_of hg _)
      obtain ⟨cur', hg', hsz'⟩ := setCells_block g e news (o + xs.length * i.size) w cur hg
      have hget := setCells_get g e news (o + xs.length * i.size) w cur cur' hg hg' (by rw [hi2]; omega)
      refine ⟨_, _, hr, Or.inr ⟨g, o, cap, cur', by simp [hnl], hg', by simp [hnl]; exact hroom, hc2, by omega, fun j hj => ?_⟩, Kp.setCells g (Or.inl (by simp [blk])) _ _ _ (Kp.refl _ _), fun k hk => Or.inl (by simpa [blk] using hk), ⟨_, _, rfl⟩⟩
      rw [hget (o + j), hi2]
      simp only [Nat.mul_one]
      rw [List.length_append] at hj
      by_cases hjx : j < xs.length
      · rw [if_neg (by omega), List.getElem?_append_left hjx, hc4 j hjx]
      · rw [if_pos (by omega), List.getElem?_append_right (by omega), show o + j - (o + xs.length) = j - xs.length by omega]
    · have hold : (Builtin.firstCells i.size xs.length (.slice (some ⟨g, o, none⟩) xs.length cap)).run P w.drew = .ok xs.toArray w.drew :=
        run_firstCells_some w.drew i.size xs.length ⟨g, o, none⟩ xs.length cap xs (by rw [hi2, Nat.mul_one]) (fun j u hj => by
          rw [Addr.add_lit]
          show w.cell? _ = _
          have hjl := (List.getElem?_eq_some_iff.1 hj).1
          rw [cell_of hg, hc4 j hjl]
          exact hj)
      have hr := fun ty => run_append_grow_src (P := P) w t t ty e i z ht hi0 hi1 (some ⟨g, o, none⟩) xs.length cap xs hold src m news hs' (by omega) (by omega) (by rw [hi3]; exact growslice_fits (by omega) hby2)
      refine ⟨_, _, hr, ?_, (Kp.refl _ _).drew.alloc _, fun k hk => ?_, ⟨_, _, rfl⟩⟩
      · refine own_new w.drew e _ _ _ ?_ ?_ ?_ ?_ _ (by simp [hnl])
        · have := grownCap_ge w (xs.length + m) cap e
          simp [hnl]
          exact this
        · exact grownCap_le_maxLen w _ _ _ (by unfold maxLen; omega)
        · have := grownCap_ge w (xs.length + m) cap e
          rw [Array.size_append, zeroCells_size z hz]
          simp [hnl]
          omega
        · intro j hj
          rw [Array.getElem?_append_left (by simpa using hj)]
          simp
      · simp [blk] at hk
        exact Or.inr hk

theorem heap_new' (w : World) (o : Obj) (n : Nat) (h : n = w.heap.size) : (w.alloc o).heap[n]? = some o := by
  subst h
  exact heap_new w o

theorem own_empty {w : World} {e : TypeId} {q : Nat} (h : w.heap[q]? = some (.cells #[] e (0, 0))) : Own w e (.slice (some ⟨q, 0, none⟩) 0 0) [] :=
  Or.inr ⟨q, 0, 0, #[], rfl, h, Nat.le_refl _, by unfold maxLen; omega, by simp, fun j hj => by simp at hj⟩

/-- What a slice reads as may be appended. -/
theorem src_one {P : Program} {t e : TypeId} (ht : P.underlying t = some (.slice e)) {w : World} {q : Nat} {u : Value} (h : w.heap[q]? = some (.cells #[u] e (0, 0))) (hu : u.oneCell' = true) : Src P 1 t (.slice (some ⟨q, 0, none⟩) 1 1) 1 [u] w :=
  Src.ofSlice _ ht ⟨q, 0, none⟩ 1 1 [u] rfl (fun j y hj => by
    match j, hj with
    | 0, hj =>
      simp at hj
      subst hj
      rw [Addr.add_lit, cell_of h]
      rfl) (fun y hy => by simp at hy; subst hy; exact hu)

/-- append, onto a slice in a block of its own, as one step of a region that draws its order. -/
theorem step_app {P : Program} {ops : Array Oper} {o : Oper} {a : Act} {w : World} {K : Act → World → Prop} {Q : Exit → Act → World → Prop} {E : Prop}
    (hg : o.guard = none) (s x : Operand) (t : TypeId) (hop : o.op = Op.call { callee := Callee.builtin Builtin.append, args := #[s, x], argTypes := #[t, t] })
    {e : TypeId} {z : Value} {bytes : Nat} (ht : P.underlying t = some (.slice e)) (hi : (P.info? e).map (fun i => (i.zero, i.size, i.bytes)) = some (some z, 1, bytes)) (hz : z.cells = #[z]) (hby : bytes ≤ 1024)
    (v u : Value) (hs : a.eval s = v) (hx : a.eval x = u) (xs : List Value) (hown : Own w e v xs) (m : Nat) (news : List Value) (hsrc : Src P 1 t u m news w) (hm : v = .slice none 0 0 → 0 < m) (hlen : xs.length + m ≤ 1000000)
    (hK : ∀ v' w', Own w' e v' (xs ++ news) → Kp (blk v) w w' → (∀ k, k ∈ blk v' → k ∈ blk v ∨ k = w.heap.size) → (∃ a c, v' = .slice (some a) (xs.length + m) c) → K (a.put o.dst v') w') :
    if Region.wanted o (yielded ops a.tmps) = true then Oper.wp P o a w K Q else E := by
  have hw : Region.wanted o (yielded ops a.tmps) = true := by simp [Region.wanted, hg]
  rw [if_pos hw]
  obtain ⟨v', w', hrun, h1, h2, h3, h4⟩ := app_any ht hi hz hby w v xs hown u m news hsrc hm hlen
  have hr := hrun o.type
  unfold Oper.wp
  simp [execOp, hop, resolve, invoke, builtin, hs, hx, hr, Result.andThen]
  exact hK v' w' h1 h2 h3 h4

/-- The slice v reads as xs. -/
def Rd (w : World) (v : Value) (xs : List Value) : Prop :=
  ∃ ao c, v = .slice ao xs.length c ∧ ∀ j, j < xs.length → ∃ b off, ao = some ⟨b, off, none⟩ ∧ w.cell? ⟨b, off + j, none⟩ = xs[j]?

theorem Own.rd {w : World} {e : TypeId} {v : Value} {xs : List Value} (h : Own w e v xs) : Rd w v xs := by
  rcases h with ⟨rfl, rfl⟩ | ⟨g, o, cap, cur, rfl, hg, _, _, _, hc⟩
  · exact ⟨none, 0, rfl, fun j hj => by simp at hj⟩
  · exact ⟨_, cap, rfl, fun j hj => ⟨g, o, rfl, by rw [cell_of hg, hc j hj]⟩⟩

theorem Rd.keep {w w' : World} {v : Value} {xs : List Value} (h : Rd w v xs) (hs : ∀ a, (∃ u, w.cell? a = some u) → w'.cell? a = w.cell? a) : Rd w' v xs := by
  obtain ⟨ao, c, rfl, hc⟩ := h
  refine ⟨ao, c, rfl, fun j hj => ?_⟩
  obtain ⟨b, off, h1, h2⟩ := hc j hj
  exact ⟨b, off, h1, by rw [hs _ ⟨_, h2.trans (List.getElem?_eq_getElem hj)⟩]; exact h2⟩

theorem Kp.cell {w w' : World} {S : List Nat} (k : Kp S w w') {a : Addr} (hl : a.block < w.heap.size) (hn : a.block ∉ S) : w'.cell? a = w.cell? a := World.cell?_of_block (w := w) (k.block a.block hl hn)
theorem Kp.frozen {w w' : World} {S : List Nat} (k : Kp S w w') {a : Addr} (hl : a.block < w.heap.size) (hn : a.block ∉ S) : w'.frozen? a = w.frozen? a := World.frozen?_of_block (w := w) (k.block a.block hl hn)

/-- What reads as xs may be appended. -/
theorem Rd.src {P : Program} {t e : TypeId} (ht : P.underlying t = some (.slice e)) {w : World} {ao : Option Addr} {n c : Nat} {xs : List Value} (h : Rd w (.slice ao n c) xs) (h1 : ∀ u, u ∈ xs → u.oneCell' = true) : Src P 1 t (.slice ao n c) n xs w := by
  obtain ⟨ao', c', he, hcs⟩ := h
  simp only [Value.slice.injEq] at he
  obtain ⟨rfl, rfl, rfl⟩ := he
  cases ao with
  | none =>
    have h0 : xs = [] := by
      cases xs with
      | nil => rfl
      | cons y r =>
        obtain ⟨b, off, h2, _⟩ := hcs 0 (by simp)
        cases h2
    subst h0
    exact Src.ofNil w ht c
  | some a =>
    refine Src.ofSlice w ht a xs.length c xs (by simp) (fun j u hj => ?_) h1
    have hjl := (List.getElem?_eq_some_iff.1 hj).1
    obtain ⟨b, off, h2, h3⟩ := hcs j hjl
    simp only [Option.some.injEq] at h2
    subst h2
    rw [Addr.add_lit, h3]
    exact hj

theorem Rd.kept {w w' : World} {v : Value} {xs : List Value} (h : Rd w v xs) (k : Kp [] w w') : Rd w' v xs :=
  h.keep (fun a ha => by
    obtain ⟨u, hu⟩ := ha
    exact k.cell (block_lt_of_cell hu) (by simp))

/-- All but the first of what is held. -/
theorem Own.tail {w : World} {e : TypeId} {ao : Option Addr} {n cap : Nat} {x : Value} {xs : List Value} (h : Own w e (.slice ao n cap) (x :: xs)) :
    n = xs.length + 1 ∧ n ≤ cap ∧ Own w e (sliced ao 1 n cap 1) xs ∧ blk (sliced ao 1 n cap 1) = blk (.slice ao n cap) := by
  rcases h with ⟨_, h⟩ | ⟨g, o, cap', cur, hv, hg, h1, h2, h3, h4⟩
  · cases h
  · simp only [Value.slice.injEq] at hv
    obtain ⟨rfl, rfl, rfl⟩ := hv
    simp only [List.length_cons] at h1
    refine ⟨rfl, by simpa using h1, ?_, ?_⟩
    · by_cases hc : cap = 1
      · have h0 : xs = [] := List.eq_nil_of_length_eq_zero (by omega)
        subst h0
        subst hc
        exact Or.inr ⟨g, o, 0, cur, by simp [sliced], hg, by simp, by unfold maxLen; omega, by omega, fun j hj => by simp at hj⟩
      · refine Or.inr ⟨g, o + 1, cap - 1, cur, ?_, hg, by omega, by omega, by omega, fun j hj => ?_⟩
        · simp [sliced, hc, Addr.add_lit]
        · have := h4 (j + 1) (by simp; omega)
          rw [show o + 1 + j = o + (j + 1) by omega, this]
          simp
    · by_cases hc : cap = 1
      · simp [sliced, hc, blk]
      · simp [sliced, hc, blk, Addr.add_lit]

/-- Cells that were made, none of them told of yet. -/
theorem own_made (w : World) (e : TypeId) (cur : Array Value) (cap : Nat) (h2 : cap ≤ maxLen) (h3 : cur.size = cap) : Own (w.alloc (.cells cur e)) e (.slice (some ⟨w.heap.size, 0, none⟩) 0 cap) [] :=
  own_new w e cur [] cap (by simp) h2 h3 (fun j hj => by simp at hj) 0 rfl

theorem lt_of {w : World} {k : Nat} {o : Obj} (h : w.heap[k]? = some o) : k < w.heap.size := (Array.getElem?_eq_some_iff.1 h).1

/-- append of one, as a call makes it: its slice of one is built ahead of it. -/
theorem app_one {P : Program} {t e : TypeId} {z : Value} {bytes : Nat} (ht : P.underlying t = some (.slice e)) (hi : (P.info? e).map (fun i => (i.zero, i.size, i.bytes)) = some (some z, 1, bytes)) (hz : z.cells = #[z]) (hby : bytes ≤ 1024)
    (w : World) (v : Value) (xs : List Value) (h : Own w e v xs) (u : Value) (hu : u.oneCell' = true) (hlen : xs.length + 1 ≤ 1000000) :
    ∃ v' w', (∀ ty, (Builtin.append_ #[t, t] ty #[v, .slice (some ⟨w.heap.size, 0, none⟩) 1 1]).run P (w.alloc (.cells #[u] e)) = .ok v' w') ∧ Own w' e v' (xs ++ [u]) ∧ Kp (blk v) w w' ∧ (∀ k, k ∈ blk v' → k ∈ blk v ∨ w.heap.size ≤ k) ∧ (∃ a c, v' = .slice (some a) (xs.length + 1) c) := by
  have hk1 : Kp (blk v) w (w.alloc (.cells #[u] e)) := (Kp.refl _ _).alloc _
  have hown1 : Own (w.alloc (.cells #[u] e)) e v xs := h.keep ((Kp.refl [] w).alloc _) (fun _ _ => by simp)
  have hsrc : Src P 1 t (.slice (some ⟨w.heap.size, 0, none⟩) 1 1) 1 [u] (w.alloc (.cells #[u] e)) := src_one ht (heap_new w _) hu
  obtain ⟨v', w2, hrun, hown2, hk2, hb2, hv2⟩ := app_any ht hi hz hby _ v _ hown1 _ 1 _ hsrc (fun _ => by omega) hlen
  refine ⟨v', w2, hrun, hown2, hk1.trans hk2 (fun x hx => Or.inl hx), fun k hk => ?_, hv2⟩
  rcases hb2 k hk with h1 | h1
  · exact Or.inl h1
  · right
    rw [h1]
    simp

/-- How long a slice is. -/
def slen : Value → Nat
  | .slice _ n _ => n
  | _ => 0

end Go.Proofs.Ytfobbgmfbpoigaa
