/-
  Joined: Keep Utf Base Kinds Low Stand Small Kmp Names Spaces Iter Back.
-/
import Derived.WalkKit
import Derived.WalkSpells
import Derived.Deep.AppendSrc
import Derived.Deep.Draws
import Derived.Lib.AppendZeros
import Derived.Test.YtcfaejbbjmjgpaaGreatDoorRows
import Derived.WalkLawsBesides
import Derived.Laws.BytesArg
import Derived.Lib.ConvBytes
import Derived.Laws.BitsLemmas
import Derived.Laws.RangeAny
import Derived.Lib.Bytes

/-
  Own words on worlds: which blocks a call has left as they were (Kp), and what a slice in a block of its own holds (Own).
-/
namespace Go.Proofs.YtcfaejbbjmjgpaaGreatDoor
open Go.RowKit

/-- All blocks of w but those of S are in w' as they were; there may be more. -/
structure Kp (S : List Nat) (w w' : World) : Prop where
  os : w'.os = w.os
  tape : w'.tape = w.tape
  output : w'.output = w.output
  size : w.heap.size ≤ w'.heap.size
  block : ∀ k, k < w.heap.size → k ∉ S → w'.heap[k]? = w.heap[k]?

theorem Kp.refl (S : List Nat) (w : World) : Kp S w w := ⟨rfl, rfl, rfl, Nat.le_refl _, fun _ _ _ => rfl⟩

theorem Kp.trans {S T : List Nat} {a b c : World} (h : Kp S a b) (k : Kp T b c) (hT : ∀ x, x ∈ T → x ∈ S ∨ a.heap.size ≤ x) : Kp S a c :=
  ⟨k.os.trans h.os, k.tape.trans h.tape, k.output.trans h.output, Nat.le_trans h.size k.size, fun i hi hn => by
    have hT' : i ∉ T := fun hx => by
      rcases hT i hx with h1 | h1
      · exact hn h1
      · omega
    exact (k.block i (Nat.lt_of_lt_of_le hi h.size) hT').trans (h.block i hi hn)⟩

theorem Kp.mono {S T : List Nat} {a b : World} (h : Kp S a b) (hT : ∀ x, x ∈ S → x ∈ T ∨ a.heap.size ≤ x) : Kp T a b :=
  (Kp.refl T a).trans h hT

theorem Kp.drew {S : List Nat} {a w : World} (h : Kp S a w) : Kp S a w.drew := ⟨h.os, h.tape, h.output, h.size, h.block⟩

theorem Kp.drewN {S : List Nat} {a w : World} (h : Kp S a w) (n : Nat) : Kp S a (w.drewN n) := by
  obtain ⟨h1, h2, h3, h4, h5⟩ := h
  exact ⟨h1, h2, h3, h4, h5⟩

theorem Kp.alloc {S : List Nat} {a w : World} (h : Kp S a w) (o : Obj) : Kp S a (w.alloc o) :=
  ⟨h.os, h.tape, h.output, by have := h.size; simp; omega, fun k hk hn => by rw [Below.heap_alloc _ _ _ (Nat.lt_of_lt_of_le hk h.size)]; exact h.block k hk hn⟩

theorem Kp.setCell {S : List Nat} {a w : World} (h : Kp S a w) {p : Addr} (hp : p.block ∈ S ∨ a.heap.size ≤ p.block) (u : Value) : Kp S a (w.setCell p u) :=
  ⟨h.os, h.tape, h.output, by have := h.size; simp [World.setCell]; omega, fun k hk hn => by
    rw [Below.heap_setCell _ _ _ _ (fun e => by
      rcases hp with h1 | h1
      · exact hn (e ▸ h1)
      · omega)]
    exact h.block k hk hn⟩

theorem Kp.setCells {S : List Nat} {a : World} (b : Nat) (hp : b ∈ S ∨ a.heap.size ≤ b) : ∀ (vs : List Value) (o : Nat) (w : World), Kp S a w → Kp S a (w.setCells b o vs)
  | [], _, _, h => h
  | v :: r, o, w, h => by
    rw [World.setCells]
    exact Kp.setCells b hp r (o + 1) _ (h.setCell hp v)

theorem Kp.below {S : List Nat} {a w : World} (h : Kp S a w) (B : Nat) (hB : B ≤ a.heap.size) (hS : ∀ x, x ∈ S → B ≤ x) : Below B a w :=
  ⟨h.os, h.tape, h.output, h.size, fun k hk => h.block k (by omega) (fun hx => by have := hS k hx; omega)⟩

/-- The block that a slice lies in. -/
def blk : Value → List Nat
  | .slice (some a) _ _ => [a.block]
  | _ => []

/-- The slice v, of one-cell elements of type e, holds xs, in a block of its own, from some cell on. -/
def Own (w : World) (e : TypeId) (v : Value) (xs : List Value) : Prop :=
  (v = .slice none 0 0 ∧ xs = []) ∨
  ∃ g o cap cur, v = .slice (some ⟨g, o, none⟩) xs.length cap ∧ w.heap[g]? = some (.cells cur e (0, 0)) ∧ xs.length ≤ cap ∧ cap ≤ maxLen ∧ o + cap ≤ cur.size ∧ ∀ j, j < xs.length → cur[o + j]? = xs[j]?

theorem Own.lt {w : World} {e : TypeId} {v : Value} {xs : List Value} (h : Own w e v xs) : ∀ k, k ∈ blk v → k < w.heap.size := by
  intro k hk
  rcases h with ⟨rfl, _⟩ | ⟨g, o, cap, cur, rfl, hg, _⟩
  · simp [blk] at hk
  · simp [blk] at hk
    subst hk
    exact (Array.getElem?_eq_some_iff.1 hg).1

theorem Own.keep {w w' : World} {S : List Nat} {e : TypeId} {v : Value} {xs : List Value} (h : Own w e v xs) (k : Kp S w w') (hn : ∀ x, x ∈ blk v → x ∉ S) : Own w' e v xs := by
  have hl := h.lt
  rcases h with h | ⟨g, o, cap, cur, rfl, hg, r⟩
  · exact Or.inl h
  · have hm : g ∈ blk (Value.slice (some ⟨g, o, none⟩) xs.length cap) := by simp [blk]
    exact Or.inr ⟨g, o, cap, cur, rfl, by rw [k.block g (hl g hm) (hn g hm)]; exact hg, r⟩

theorem cell_of {w : World} {g : Nat} {cur : Array Value} {e : TypeId} (h : w.heap[g]? = some (.cells cur e (0, 0))) (j : Nat) : w.cell? ⟨g, j, none⟩ = cur[j]? := by
  simp [World.cell?, h]

theorem frozen_of {w : World} {g : Nat} {cur : Array Value} {e : TypeId} (h : w.heap[g]? = some (.cells cur e (0, 0))) (j : Nat) : w.frozen? ⟨g, j, none⟩ = false := by
  simp [World.frozen?, h]

/-- Behind stores into a block it is a block of as many cells. -/
theorem setCell_block {w : World} {g : Nat} {cur : Array Value} {e : TypeId} (h : w.heap[g]? = some (.cells cur e (0, 0))) (o : Nat) (u : Value) : (w.setCell ⟨g, o, none⟩ u).heap[g]? = some (.cells (cur.setIfInBounds o u) e (0, 0)) := by
  simp only [World.setCell, Array.getElem?_modify, h]
  simp

theorem setCells_block (g : Nat) (e : TypeId) : ∀ (vs : List Value) (o : Nat) (w : World) (cur : Array Value), w.heap[g]? = some (.cells cur e (0, 0)) → ∃ cur', (w.setCells g o vs).heap[g]? = some (.cells cur' e (0, 0)) ∧ cur'.size = cur.size
  | [], _, _, cur, h => ⟨cur, h, rfl⟩
  | v :: r, o, w, cur, h => by
    obtain ⟨c, h1, h2⟩ := setCells_block g e r (o + 1) _ _ (setCell_block h o v)
    exact ⟨c, h1, by rw [h2]; simp⟩

/-- Where stores begin behind what is held, what is held goes on. -/
theorem setCells_get (g : Nat) (e : TypeId) (vs : List Value) (o : Nat) (w : World) (cur cur' : Array Value) (h : w.heap[g]? = some (.cells cur e (0, 0))) (h' : (w.setCells g o vs).heap[g]? = some (.cells cur' e (0, 0))) (hfit : o + vs.length ≤ cur.size) (k : Nat) :
    cur'[k]? = if o ≤ k ∧ k < o + vs.length then vs[k - o]? else cur[k]? := by
  rw [← cell_of h' k, ← cell_of h k]
  by_cases hk : o ≤ k ∧ k < o + vs.length
  · rw [if_pos hk]
    have := World.cell?_setCells_in g vs o w (fun j hj => by rw [cell_of h, Array.getElem?_eq_getElem (by omega)]; rfl) (k - o) (by omega)
    rw [show o + (k - o) = k by omega] at this
    rw [this, List.getElem?_eq_getElem]
  · rw [if_neg hk]
    exact World.cell?_setCells_out g vs o w ⟨g, k, none⟩ (fun _ _ => by show k < o ∨ o + vs.length ≤ k; omega)

theorem heap_new (w : World) (o : Obj) : (w.alloc o).heap[w.heap.size]? = some o := by
  show (w.heap.push o)[w.heap.size]? = some o
  simp

/-- A slice at the head of a new block. -/
theorem own_new (w : World) (e : TypeId) (cur : Array Value) (xs : List Value) (cap : Nat) (h1 : xs.length ≤ cap) (h2 : cap ≤ maxLen) (h3 : cur.size = cap) (h4 : ∀ j, j < xs.length → cur[j]? = xs[j]?) (n : Nat) (hn : n = xs.length) :
    Own (w.alloc (.cells cur e)) e (.slice (some ⟨w.heap.size, 0, none⟩) n cap) xs := by
  subst hn
  exact Or.inr ⟨w.heap.size, 0, cap, cur, rfl, heap_new w _, h1, h2, by omega, fun j hj => by rw [Nat.zero_add]; exact h4 j hj⟩

theorem zeroCells_size (z : Value) (hz : z.cells = #[z]) (n : Nat) : (Builtin.zeroCells z.cells n).size = n := by
  rw [hz]
  simp [Builtin.zeroCells]

/-- A slice at the head of a new block, with zeros behind it. -/
theorem own_grown (w : World) (e : TypeId) (z : Value) (hz : z.cells = #[z]) (L : List Value) (n G : Nat) (hn : n = L.length) (hG : n ≤ G) (hm : G ≤ maxLen) :
    Own (w.alloc (.cells (L.toArray ++ Builtin.zeroCells z.cells (G - n)) e)) e (.slice (some ⟨w.heap.size, 0, none⟩) n G) L := by
  refine own_new w e _ _ _ (by omega) hm ?_ ?_ _ hn
  · rw [Array.size_append, zeroCells_size z hz]
    simp
    omega
  · intro j hj
    rw [Array.getElem?_append_left (by simpa using hj)]
    simp

/-- append, onto a slice in a block of its own. -/
theorem app_any {P : Program} {t e : TypeId} {z : Value} {bytes : Nat} (ht : P.underlying t = some (.slice e)) (hi : (P.info? e).map (fun i => (i.zero, i.size, i.bytes)) = some (some z, 1, bytes)) (hz : z.cells = #[z]) (hby : bytes ≤ 1024)
    (w : World) (v : Value) (xs : List Value) (h : Own w e v xs) (src : Value) (m : Nat) (news : List Value) (hs : Src P 1 t src m news w) (hm : v = .slice none 0 0 → 0 < m) (hlen : xs.length + m ≤ 1000000) :
    ∃ v' w', (∀ ty, (Builtin.append_ #[t, t] ty #[v, src]).run P w = .ok v' w') ∧ Own w' e v' (xs ++ news) ∧ Kp (blk v) w w' ∧ (∀ k, k ∈ blk v' → k ∈ blk v ∨ k = w.heap.size) ∧ (∃ a c, v' = .slice (some a) (xs.length + m) c) := by
  obtain ⟨i, hi0, hi1, hi2, hi3⟩ := info_parts hi
  have hnl : news.length = m := by simpa using hs.newsLen
  have hs' : Src P i.size t src m news w := by rw [hi2]; exact hs
  have hby2 : (xs.length + m) * bytes ≤ 140737488355328 := Nat.le_trans (Nat.mul_le_mul hlen hby) (by decide)
  rcases h with ⟨rfl, rfl⟩ | ⟨g, o, cap, cur, rfl, hg, hc1, hc2, hc3, hc4⟩
  · have hm0 := hm rfl
    have hr := fun ty => run_append_grow_src (P := P) w t t ty e i z ht hi0 hi1 none 0 0 [] (run_firstCells_none w.drew i.size 0 0 0) src m news hs' (by omega) (by simp at hlen; omega) (by rw [hi3]; exact growslice_fits (by omega) (by simpa using hby2))
    refine ⟨_, _, hr, ?_, (Kp.refl _ _).drew.alloc _, fun k hk => ?_, ⟨_, _, rfl⟩⟩
    · refine own_new w.drew e _ _ _ ?_ ?_ ?_ ?_ _ (by simp [hnl])
      · have := grownCap_ge w (0 + m) 0 e
        simp [hnl]
        simpa using this
      · exact grownCap_le_maxLen w _ _ _ (by unfold maxLen; simp at hlen; omega)
      · have := grownCap_ge w (0 + m) 0 e
        rw [Array.size_append, zeroCells_size z hz]
        simp [hnl] at this ⊢
        omega
      · intro j hj
        simp at hj
        rw [Array.getElem?_append_left (by simpa using hj)]
        simp
    · simp [blk] at hk
      exact Or.inr hk
  · by_cases hroom : xs.length + m ≤ cap
    · have hr := fun ty => run_append_room_src (P := P) w t t ty e i ht hi0 g o xs.length cap src m news hs' hroom
        (fun j hj => by rw [hi2, cell_of hg, Array.getElem?_eq_getElem (by omega)]; rfl) (fun j hj => frozen_of hg _)
      obtain ⟨cur', hg', hsz'⟩ := setCells_block g e news (o + xs.length * i.size) w cur hg
      have hget := setCells_get g e news (o + xs.length * i.size) w cur cur' hg hg' (by rw [hi2]; omega)
      refine ⟨_, _, hr, Or.inr ⟨g, o, cap, cur', by simp [hnl], hg', by simp [hnl]; exact hroom, hc2, by omega, fun j hj => ?_⟩, Kp.setCells g (Or.inl (by simp [blk])) _ _ _ (Kp.refl _ _), fun k hk => Or.inl (by simpa [blk] using hk), ⟨_, _, rfl⟩⟩
      rw [hget (o + j), hi2]
      simp only [Nat.mul_one]
      rw [List.length_append] at hj
      by_cases hjx : j < xs.length
      · rw [if_neg (by omega), List.getElem?_append_left hjx, hc4 j hjx]
      · rw [if_pos (by omega), List.getElem?_append_right (by omega), show o + j - (o + xs.length) = j - xs.length by omega]
    · have hold : (Builtin.firstCells i.size xs.length (.slice (some ⟨g, o, none⟩) xs.length cap)).run P w.drew = .ok xs.toArray w.drew :=
        run_firstCells_some w.drew i.size xs.length ⟨g, o, none⟩ xs.length cap xs (by rw [hi2, Nat.mul_one]) (fun j u hj => by
          rw [Addr.add_lit]
          show w.cell? _ = _
          have hjl := (List.getElem?_eq_some_iff.1 hj).1
          rw [cell_of hg, hc4 j hjl]
          exact hj)
      have hr := fun ty => run_append_grow_src (P := P) w t t ty e i z ht hi0 hi1 (some ⟨g, o, none⟩) xs.length cap xs hold src m news hs' (by omega) (by omega) (by rw [hi3]; exact growslice_fits (by omega) hby2)
      refine ⟨_, _, hr, ?_, (Kp.refl _ _).drew.alloc _, fun k hk => ?_, ⟨_, _, rfl⟩⟩
      · refine own_new w.drew e _ _ _ ?_ ?_ ?_ ?_ _ (by simp [hnl])
        · have := grownCap_ge w (xs.length + m) cap e
          simp [hnl]
          exact this
        · exact grownCap_le_maxLen w _ _ _ (by unfold maxLen; omega)
        · have := grownCap_ge w (xs.length + m) cap e
          rw [Array.size_append, zeroCells_size z hz]
          simp [hnl]
          omega
        · intro j hj
          rw [Array.getElem?_append_left (by simpa using hj)]
          simp
      · simp [blk] at hk
        exact Or.inr hk

theorem heap_new' (w : World) (o : Obj) (n : Nat) (h : n = w.heap.size) : (w.alloc o).heap[n]? = some o := by
  subst h
  exact heap_new w o

theorem own_empty {w : World} {e : TypeId} {q : Nat} (h : w.heap[q]? = some (.cells #[] e (0, 0))) : Own w e (.slice (some ⟨q, 0, none⟩) 0 0) [] :=
  Or.inr ⟨q, 0, 0, #[], rfl, h, Nat.le_refl _, by unfold maxLen; omega, by simp, fun j hj => by simp at hj⟩

/-- What a slice reads as may be appended. -/
theorem src_one {P : Program} {t e : TypeId} (ht : P.underlying t = some (.slice e)) {w : World} {q : Nat} {u : Value} (h : w.heap[q]? = some (.cells #[u] e (0, 0))) (hu : u.oneCell' = true) : Src P 1 t (.slice (some ⟨q, 0, none⟩) 1 1) 1 [u] w :=
  Src.ofSlice _ ht ⟨q, 0, none⟩ 1 1 [u] rfl (fun j y hj => by
    match j, hj with
    | 0, hj =>
      simp at hj
      subst hj
      rw [Addr.add_lit, cell_of h]
      rfl) (fun y hy => by simp at hy; subst hy; exact hu)

/-- append, onto a slice in a block of its own, as one step of a region that draws its order. -/
theorem step_app {P : Program} {ops : Array Oper} {o : Oper} {a : Act} {w : World} {K : Act → World → Prop} {Q : Exit → Act → World → Prop} {E : Prop}
    (hg : o.guard = none) (s x : Operand) (t : TypeId) (hop : o.op = Op.call { callee := Callee.builtin Builtin.append, args := #[s, x], argTypes := #[t, t] })
    {e : TypeId} {z : Value} {bytes : Nat} (ht : P.underlying t = some (.slice e)) (hi : (P.info? e).map (fun i => (i.zero, i.size, i.bytes)) = some (some z, 1, bytes)) (hz : z.cells = #[z]) (hby : bytes ≤ 1024)
    (v u : Value) (hs : a.eval s = v) (hx : a.eval x = u) (xs : List Value) (hown : Own w e v xs) (m : Nat) (news : List Value) (hsrc : Src P 1 t u m news w) (hm : v = .slice none 0 0 → 0 < m) (hlen : xs.length + m ≤ 1000000)
    (hK : ∀ v' w', Own w' e v' (xs ++ news) → Kp (blk v) w w' → (∀ k, k ∈ blk v' → k ∈ blk v ∨ k = w.heap.size) → (∃ a c, v' = .slice (some a) (xs.length + m) c) → K (a.put o.dst v') w') :
    if Region.wanted o (yielded ops a.tmps) = true then Oper.wp P o a w K Q else E := by
  have hw : Region.wanted o (yielded ops a.tmps) = true := by simp [Region.wanted, hg]
  rw [if_pos hw]
  obtain ⟨v', w', hrun, h1, h2, h3, h4⟩ := app_any ht hi hz hby w v xs hown u m news hsrc hm hlen
  have hr := hrun o.type
  unfold Oper.wp
  simp [execOp, hop, resolve, invoke, builtin, hs, hx, hr, Result.andThen]
  exact hK v' w' h1 h2 h3 h4

/-- The slice v reads as xs. -/
def Rd (w : World) (v : Value) (xs : List Value) : Prop :=
  ∃ ao c, v = .slice ao xs.length c ∧ ∀ j, j < xs.length → ∃ b off, ao = some ⟨b, off, none⟩ ∧ w.cell? ⟨b, off + j, none⟩ = xs[j]?

theorem Own.rd {w : World} {e : TypeId} {v : Value} {xs : List Value} (h : Own w e v xs) : Rd w v xs := by
  rcases h with ⟨rfl, rfl⟩ | ⟨g, o, cap, cur, rfl, hg, _, _, _, hc⟩
  · exact ⟨none, 0, rfl, fun j hj => by simp at hj⟩
  · exact ⟨_, cap, rfl, fun j hj => ⟨g, o, rfl, by rw [cell_of hg, hc j hj]⟩⟩

theorem Rd.keep {w w' : World} {v : Value} {xs : List Value} (h : Rd w v xs) (hs : ∀ a, (∃ u, w.cell? a = some u) → w'.cell? a = w.cell? a) : Rd w' v xs := by
  obtain ⟨ao, c, rfl, hc⟩ := h
  refine ⟨ao, c, rfl, fun j hj => ?_⟩
  obtain ⟨b, off, h1, h2⟩ := hc j hj
  exact ⟨b, off, h1, by rw [hs _ ⟨_, h2.trans (List.getElem?_eq_getElem hj)⟩]; exact h2⟩

theorem Kp.cell {w w' : World} {S : List Nat} (k : Kp S w w') {a : Addr} (hl : a.block < w.heap.size) (hn : a.block ∉ S) : w'.cell? a = w.cell? a := World.cell?_of_block (w := w) (k.block a.block hl hn)
theorem Kp.frozen {w w' : World} {S : List Nat} (k : Kp S w w') {a : Addr} (hl : a.block < w.heap.size) (hn : a.block ∉ S) : w'.frozen? a = w.frozen? a := World.frozen?_of_block (w := w) (k.block a.block hl hn)

/-- What reads as xs may be appended. -/
theorem Rd.src {P : Program} {t e : TypeId} (ht : P.underlying t = some (.slice e)) {w : World} {ao : Option Addr} {n c : Nat} {xs : List Value} (h : Rd w (.slice ao n c) xs) (h1 : ∀ u, u ∈ xs → u.oneCell' = true) : Src P 1 t (.slice ao n c) n xs w := by
  obtain ⟨ao', c', he, hcs⟩ := h
  simp only [Value.slice.injEq] at he
  obtain ⟨rfl, rfl, rfl⟩ := he
  cases ao with
  | none =>
    have h0 : xs = [] := by
      cases xs with
      | nil => rfl
      | cons y r =>
        obtain ⟨b, off, h2, _⟩ := hcs 0 (by simp)
        cases h2
    subst h0
    exact Src.ofNil w ht c
  | some a =>
    refine Src.ofSlice w ht a xs.length c xs (by simp) (fun j u hj => ?_) h1
    have hjl := (List.getElem?_eq_some_iff.1 hj).1
    obtain ⟨b, off, h2, h3⟩ := hcs j hjl
    simp only [Option.some.injEq] at h2
    subst h2
    rw [Addr.add_lit, h3]
    exact hj

theorem Rd.kept {w w' : World} {v : Value} {xs : List Value} (h : Rd w v xs) (k : Kp [] w w') : Rd w' v xs :=
  h.keep (fun a ha => by
    obtain ⟨u, hu⟩ := ha
    exact k.cell (block_lt_of_cell hu) (by simp))

/-- All but the first of what is held. -/
theorem Own.tail {w : World} {e : TypeId} {ao : Option Addr} {n cap : Nat} {x : Value} {xs : List Value} (h : Own w e (.slice ao n cap) (x :: xs)) :
    n = xs.length + 1 ∧ n ≤ cap ∧ Own w e (sliced ao 1 n cap 1) xs ∧ blk (sliced ao 1 n cap 1) = blk (.slice ao n cap) := by
  rcases h with ⟨_, h⟩ | ⟨g, o, cap', cur, hv, hg, h1, h2, h3, h4⟩
  · cases h
  · simp only [Value.slice.injEq] at hv
    obtain ⟨rfl, rfl, rfl⟩ := hv
    simp only [List.length_cons] at h1
    refine ⟨rfl, by simpa using h1, ?_, ?_⟩
    · by_cases hc : cap = 1
      · have h0 : xs = [] := List.eq_nil_of_length_eq_zero (by omega)
        subst h0
        subst hc
        exact Or.inr ⟨g, o, 0, cur, by simp [sliced], hg, by simp, by unfold maxLen; omega, by omega, fun j hj => by simp at hj⟩
      · refine Or.inr ⟨g, o + 1, cap - 1, cur, ?_, hg, by omega, by omega, by omega, fun j hj => ?_⟩
        · simp [sliced, hc, Addr.add_lit]
        · have := h4 (j + 1) (by simp; omega)
          rw [show o + 1 + j = o + (j + 1) by omega, this]
          simp
    · by_cases hc : cap = 1
      · simp [sliced, hc, blk]
      · simp [sliced, hc, blk, Addr.add_lit]

/-- Cells that were made, none of them told of yet. -/
theorem own_made (w : World) (e : TypeId) (cur : Array Value) (cap : Nat) (h2 : cap ≤ maxLen) (h3 : cur.size = cap) : Own (w.alloc (.cells cur e)) e (.slice (some ⟨w.heap.size, 0, none⟩) 0 cap) [] :=
  own_new w e cur [] cap (by simp) h2 h3 (fun j hj => by simp at hj) 0 rfl

theorem lt_of {w : World} {k : Nat} {o : Obj} (h : w.heap[k]? = some o) : k < w.heap.size := (Array.getElem?_eq_some_iff.1 h).1

/-- append of one, as a call makes it: its slice of one is built ahead of it. -/
theorem app_one {P : Program} {t e : TypeId} {z : Value} {bytes : Nat} (ht : P.underlying t = some (.slice e)) (hi : (P.info? e).map (fun i => (i.zero, i.size, i.bytes)) = some (some z, 1, bytes)) (hz : z.cells = #[z]) (hby : bytes ≤ 1024)
    (w : World) (v : Value) (xs : List Value) (h : Own w e v xs) (u : Value) (hu : u.oneCell' = true) (hlen : xs.length + 1 ≤ 1000000) :
    ∃ v' w', (∀ ty, (Builtin.append_ #[t, t] ty #[v, .slice (some ⟨w.heap.size, 0, none⟩) 1 1]).run P (w.alloc (.cells #[u] e)) = .ok v' w') ∧ Own w' e v' (xs ++ [u]) ∧ Kp (blk v) w w' ∧ (∀ k, k ∈ blk v' → k ∈ blk v ∨ w.heap.size ≤ k) ∧ (∃ a c, v' = .slice (some a) (xs.length + 1) c) := by
  have hk1 : Kp (blk v) w (w.alloc (.cells #[u] e)) := (Kp.refl _ _).alloc _
  have hown1 : Own (w.alloc (.cells #[u] e)) e v xs := h.keep ((Kp.refl [] w).alloc _) (fun _ _ => by simp)
  have hsrc : Src P 1 t (.slice (some ⟨w.heap.size, 0, none⟩) 1 1) 1 [u] (w.alloc (.cells #[u] e)) := src_one ht (heap_new w _) hu
  obtain ⟨v', w2, hrun, hown2, hk2, hb2, hv2⟩ := app_any ht hi hz hby _ v _ hown1 _ 1 _ hsrc (fun _ => by omega) hlen
  refine ⟨v', w2, hrun, hown2, hk1.trans hk2 (fun x hx => Or.inl hx), fun k hk => ?_, hv2⟩
  rcases hb2 k hk with h1 | h1
  · exact Or.inl h1
  · right
    rw [h1]
    simp

/-- How long a slice is. -/
def slen : Value → Nat
  | .slice _ n _ => n
  | _ => 0

end Go.Proofs.YtcfaejbbjmjgpaaGreatDoor

/-
  UTF-8 by itself: how bytes are read (dec), how runes are written (enc), how lines are made ready (lines), and what follows; no program is spoken of here.
-/
namespace Go.Proofs.YtcfaejbbjmjgpaaGreatDoor.Utf

/-- What a lead byte asks: how many bytes follow, and the bounds of the first of them. -/
def firstOf (b : Int) : Option (Nat × Int × Int) :=
  if 194 ≤ b ∧ b ≤ 223 then some (1, 128, 191)
  else if b = 224 then some (2, 160, 191)
  else if b = 237 then some (2, 128, 159)
  else if 225 ≤ b ∧ b ≤ 239 then some (2, 128, 191)
  else if b = 240 then some (3, 144, 191)
  else if 241 ≤ b ∧ b ≤ 243 then some (3, 128, 191)
  else if b = 244 then some (3, 128, 143)
  else none

/-- What a lead byte itself brings. -/
def lead : Nat → Int → Int
  | 1, b => b % 32
  | 2, b => b % 16
  | _, b => b % 8

/-- The bytes that follow, as far as they are right: how many are lacking, the number, and what is left. -/
def more : Nat → Int → Int → Int → List Int → Nat × Int × List Int
  | 0, _, _, r, bs => (0, r, bs)
  | n + 1, _, _, r, [] => (n + 1, r, [])
  | n + 1, lo, hi, r, b :: bs => if lo ≤ b ∧ b ≤ hi then more n 128 191 (r * 64 + b % 64) bs else (n + 1, r, b :: bs)

theorem more_len : ∀ (n : Nat) (lo hi r : Int) (bs : List Int), (more n lo hi r bs).2.2.length ≤ bs.length
  | 0, _, _, _, _ => Nat.le_refl _
  | _ + 1, _, _, _, [] => Nat.le_refl _
  | n + 1, lo, hi, r, b :: bs => by
    rw [more]
    split
    · have := more_len n 128 191 (r * 64 + b % 64) bs
      simp only [List.length_cons]
      omega
    · exact Nat.le_refl _

/-- The first rune of some bytes, and what is left. -/
def step (b : Int) (bs : List Int) : Int × List Int :=
  if b < 128 then (b, bs) else
    match firstOf b with
    | none => (65533, bs)
    | some (n, lo, hi) =>
      let m := more n lo hi (lead n b) bs
      (if m.1 = 0 then m.2.1 else 65533, m.2.2)

theorem step_len (b : Int) (bs : List Int) : (step b bs).2.length ≤ bs.length := by
  unfold step
  split
  · exact Nat.le_refl _
  · split
    · exact Nat.le_refl _
    · exact more_len _ _ _ _ _

/-- Bytes, read rune by rune. -/
def decN : Nat → List Int → List Int
  | 0, _ => []
  | _ + 1, [] => []
  | n + 1, b :: bs => (step b bs).1 :: decN n (step b bs).2

theorem decN_any : ∀ (n m : Nat) (l : List Int), l.length ≤ n → l.length ≤ m → decN n l = decN m l
  | 0, 0, _, _, _ => rfl
  | 0, m + 1, l, h, _ => by
    obtain rfl : l = [] := List.eq_nil_of_length_eq_zero (by omega)
    rfl
  | n + 1, 0, l, _, h => by
    obtain rfl : l = [] := List.eq_nil_of_length_eq_zero (by omega)
    rfl
  | n + 1, m + 1, [], _, _ => rfl
  | n + 1, m + 1, b :: bs, h, k => by
    have hl := step_len b bs
    simp only [List.length_cons] at h k
    rw [decN, decN, decN_any n m _ (by omega) (by omega)]

/-- All of them: there are no more rounds than bytes. -/
def dec (l : List Int) : List Int := decN l.length l

theorem dec_nil : dec [] = [] := rfl
theorem dec_cons (b : Int) (bs : List Int) : dec (b :: bs) = (step b bs).1 :: dec (step b bs).2 := by
  have hl := step_len b bs
  show (step b bs).1 :: decN bs.length (step b bs).2 = _
  rw [dec, decN_any bs.length (step b bs).2.length _ hl (Nat.le_refl _)]

/-- A byte below 128 ends whatever stands ahead of it. -/
theorem more_append (c : Int) (hc : c < 128) (b : List Int) : ∀ (n : Nat) (lo hi r : Int) (a : List Int), 128 ≤ lo → more n lo hi r (a ++ c :: b) = ((more n lo hi r a).1, (more n lo hi r a).2.1, (more n lo hi r a).2.2 ++ c :: b)
  | 0, _, _, _, _, _ => rfl
  | n + 1, lo, hi, r, [], h => by
    rw [List.nil_append, more, more, if_neg (by omega)]
    rfl
  | n + 1, lo, hi, r, x :: a, _ => by
    rw [List.cons_append, more, more]
    split
    · exact more_append c hc b n 128 191 _ a (by omega)
    · rfl

theorem firstOf_low {b : Int} {n : Nat} {lo hi : Int} (h : firstOf b = some (n, lo, hi)) : 128 ≤ lo ∧ 1 ≤ n ∧ n ≤ 3 := by
  unfold firstOf at h
  split at h
  · simp at h; omega
  split at h
  · simp at h; omega
  split at h
  · simp at h; omega
  split at h
  · simp at h; omega
  split at h
  · simp at h; omega
  split at h
  · simp at h; omega
  split at h
  · simp at h; omega
  · cases h

theorem step_append (c : Int) (hc : c < 128) (b : List Int) (x : Int) (a : List Int) : step x (a ++ c :: b) = ((step x a).1, (step x a).2 ++ c :: b) := by
  unfold step
  split
  · rfl
  · cases hf : firstOf x with
    | none => rfl
    | some y =>
      obtain ⟨n, lo, hi⟩ := y
      simp only []
      rw [more_append c hc b n lo hi _ a (firstOf_low hf).1]

/-- Behind a byte below 128 reading begins anew. -/
theorem dec_join (c : Int) (hc : c < 128) (b : List Int) : ∀ (m : Nat) (a : List Int), a.length ≤ m → dec (a ++ c :: b) = dec a ++ c :: dec b
  | m, [], _ => by
    rw [List.nil_append, dec_cons, dec_nil]
    unfold step
    rw [if_pos hc]
    rfl
  | 0, x :: a, h => by simp at h
  | m + 1, x :: a, h => by
    have hl := step_len x a
    simp only [List.length_cons] at h
    rw [List.cons_append, dec_cons, step_append c hc, dec_cons, dec_join c hc b m _ (by omega)]
    rfl

theorem dec_len : ∀ (m : Nat) (a : List Int), a.length ≤ m → (dec a).length ≤ a.length
  | _, [], _ => by rw [dec_nil]; exact Nat.le_refl _
  | 0, x :: a, h => by simp at h
  | m + 1, x :: a, h => by
    have hl := step_len x a
    simp only [List.length_cons] at h
    have := dec_len m (step x a).2 (by omega)
    rw [dec_cons]
    simp only [List.length_cons]
    omega

/-- A rune. -/
def good (r : Int) : Prop := (0 ≤ r ∧ r < 55296) ∨ (57344 ≤ r ∧ r ≤ 1114111)

theorem more_bound : ∀ (n : Nat) (lo hi r : Int) (bs : List Int), 0 ≤ r → 128 ≤ lo → hi ≤ 191 → (more n lo hi r bs).1 = 0 → r * 64 ^ n ≤ (more n lo hi r bs).2.1 ∧ (more n lo hi r bs).2.1 < (r + 1) * 64 ^ n
  | 0, _, _, r, bs, h0, _, _, _ => by simp [more]; omega
  | n + 1, _, _, r, [], _, _, _, h => by simp [more] at h
  | n + 1, lo, hi, r, b :: bs, h0, h1, h2, h => by
    rw [more] at h ⊢
    split
    · rename_i hb
      rw [if_pos hb] at h
      have := more_bound n 128 191 (r * 64 + b % 64) bs (by omega) (by omega) (by omega) h
      have hp : (0 : Int) < 64 ^ n := Int.pow_pos (by omega)
      rw [Int.pow_succ]
      have e1 : r * (64 ^ n * 64) = (r * 64) * 64 ^ n := by rw [Int.mul_comm (64 ^ n) 64, Int.mul_assoc]
      have e2 : (r + 1) * (64 ^ n * 64) = (r * 64 + 64) * 64 ^ n := by rw [Int.mul_comm (64 ^ n) 64, ← Int.mul_assoc, Int.add_mul, Int.one_mul]
      rw [e1, e2]
      refine ⟨Int.le_trans ?_ this.1, Int.lt_of_lt_of_le this.2 ?_⟩
      · exact Int.mul_le_mul_of_nonneg_right (by omega) (Int.le_of_lt hp)
      · exact Int.mul_le_mul_of_nonneg_right (by omega) (Int.le_of_lt hp)
    · rename_i hb
      rw [if_neg hb] at h
      simp at h

theorem firstOf_none {b : Int} (h : firstOf b = none) : b < 194 ∨ 244 < b := by
  unfold firstOf at h
  split at h
  · cases h
  split at h
  · cases h
  split at h
  · cases h
  split at h
  · cases h
  split at h
  · cases h
  split at h
  · cases h
  split at h
  · cases h
  · omega

/-- The first of the bytes that follow. -/
theorem more_first {n : Nat} {lo hi r : Int} {bs : List Int} (h0 : 0 ≤ r) (h1 : 128 ≤ lo) (h2 : hi ≤ 191) (h : (more (n + 1) lo hi r bs).1 = 0) : (r * 64 + (lo - 128)) * 64 ^ n ≤ (more (n + 1) lo hi r bs).2.1 ∧ (more (n + 1) lo hi r bs).2.1 < (r * 64 + (hi - 127)) * 64 ^ n := by
  cases bs with
  | nil => simp [more] at h
  | cons b bs =>
    rw [more] at h ⊢
    split
    · rename_i hb
      rw [if_pos hb] at h
      have := more_bound n 128 191 (r * 64 + b % 64) bs (by omega) (by omega) (by omega) h
      have hp : (0 : Int) < 64 ^ n := Int.pow_pos (by omega)
      refine ⟨Int.le_trans ?_ this.1, Int.lt_of_lt_of_le this.2 ?_⟩
      · exact Int.mul_le_mul_of_nonneg_right (by omega) (Int.le_of_lt hp)
      · exact Int.mul_le_mul_of_nonneg_right (by omega) (Int.le_of_lt hp)
    · rename_i hb
      rw [if_neg hb] at h
      simp at h

/-- What is read is a rune. -/
theorem step_good (b : Int) (bs : List Int) (h0 : 0 ≤ b) : good (step b bs).1 := by
  unfold step
  split
  · left
    omega
  · cases hf : firstOf b with
    | none => right; simp
    | some y =>
      obtain ⟨n, lo, hi⟩ := y
      simp only []
      split
      · rename_i hm
        unfold firstOf at hf
        split at hf
        · simp only [Option.some.injEq, Prod.mk.injEq] at hf
          obtain ⟨rfl, rfl, rfl⟩ := hf
          have := more_first (n := 0) (by simp only [lead]; omega) (by omega) (by omega) hm
          simp only [lead, Nat.reduceAdd, Int.reducePow] at this ⊢
          left
          omega
        split at hf
        · simp only [Option.some.injEq, Prod.mk.injEq] at hf
          obtain ⟨rfl, rfl, rfl⟩ := hf
          have := more_first (n := 1) (by simp only [lead]; omega) (by omega) (by omega) hm
          simp only [lead, Nat.reduceAdd, Int.reducePow] at this ⊢
          left
          omega
        split at hf
        · simp only [Option.some.injEq, Prod.mk.injEq] at hf
          obtain ⟨rfl, rfl, rfl⟩ := hf
          have := more_first (n := 1) (by simp only [lead]; omega) (by omega) (by omega) hm
          simp only [lead, Nat.reduceAdd, Int.reducePow] at this ⊢
          left
          omega
        split at hf
        · simp only [Option.some.injEq, Prod.mk.injEq] at hf
          obtain ⟨rfl, rfl, rfl⟩ := hf
          have := more_first (n := 1) (by simp only [lead]; omega) (by omega) (by omega) hm
          simp only [lead, Nat.reduceAdd, Int.reducePow] at this ⊢
          unfold good
          omega
        split at hf
        · simp only [Option.some.injEq, Prod.mk.injEq] at hf
          obtain ⟨rfl, rfl, rfl⟩ := hf
          have := more_first (n := 2) (by simp only [lead]; omega) (by omega) (by omega) hm
          simp only [lead, Nat.reduceAdd, Int.reducePow] at this ⊢
          unfold good
          omega
        split at hf
        · simp only [Option.some.injEq, Prod.mk.injEq] at hf
          obtain ⟨rfl, rfl, rfl⟩ := hf
          have := more_first (n := 2) (by simp only [lead]; omega) (by omega) (by omega) hm
          simp only [lead, Nat.reduceAdd, Int.reducePow] at this ⊢
          unfold good
          omega
        split at hf
        · simp only [Option.some.injEq, Prod.mk.injEq] at hf
          obtain ⟨rfl, rfl, rfl⟩ := hf
          have := more_first (n := 2) (by simp only [lead]; omega) (by omega) (by omega) hm
          simp only [lead, Nat.reduceAdd, Int.reducePow] at this ⊢
          unfold good
          omega
        · cases hf
      · right; omega

theorem more_mem : ∀ (n : Nat) (lo hi r : Int) (bs : List Int) (x : Int), x ∈ (more n lo hi r bs).2.2 → x ∈ bs
  | 0, _, _, _, _, _, h => h
  | _ + 1, _, _, _, [], _, h => h
  | n + 1, lo, hi, r, b :: bs, x, h => by
    rw [more] at h
    split at h
    · exact List.mem_cons_of_mem _ (more_mem n _ _ _ bs x h)
    · exact h

theorem step_mem (b : Int) (bs : List Int) (x : Int) (h : x ∈ (step b bs).2) : x ∈ bs := by
  unfold step at h
  split at h
  · exact h
  · split at h
    · exact h
    · exact more_mem _ _ _ _ _ _ h

theorem dec_good : ∀ (m : Nat) (a : List Int), a.length ≤ m → (∀ x, x ∈ a → 0 ≤ x) → ∀ r, r ∈ dec a → good r
  | _, [], _, _, r, hr => by
    rw [dec_nil] at hr
    cases hr
  | 0, x :: a, h, _, _, _ => by simp at h
  | m + 1, x :: a, h, h0, r, hr => by
    have hl := step_len x a
    simp only [List.length_cons] at h
    rw [dec_cons] at hr
    rcases List.mem_cons.1 hr with rfl | hr
    · exact step_good x a (h0 x (by simp))
    · exact dec_good m (step x a).2 (by omega) (fun y hy => h0 y (List.mem_cons_of_mem _ (step_mem x a y hy))) r hr

/-- The bytes of a text. -/
def bytesOf (s : ByteArray) : List Int := s.data.toList.map (fun u => (u.toNat : Int))
/-- The bytes of a rune. -/
def enc (r : Int) : List Int := bytesOf (Utf8.encode r)
/-- The bytes of some runes. -/
def encs (l : List Int) : List Int := l.flatMap enc

theorem bytesOf_append (s t : ByteArray) : bytesOf (s ++ t) = bytesOf s ++ bytesOf t := by
  simp [bytesOf, ByteArray.data_append]

theorem bytesOf_range (s : ByteArray) : ∀ x, x ∈ bytesOf s → 0 ≤ x ∧ x < 256 := fun x hx => by
  obtain ⟨u, _, rfl⟩ := List.mem_map.1 hx
  have := u.toNat_lt
  omega

theorem valid_of_good {r : Int} (h : good r) : Utf8.valid r = true := by
  unfold Utf8.valid
  unfold good at h
  simp
  omega

theorem enc_good {r : Int} (h : good r) : enc r =
    if r < 128 then [r]
    else if r < 2048 then [192 + r / 64, 128 + r % 64]
    else if r < 65536 then [224 + r / 4096, 128 + r / 64 % 64, 128 + r % 64]
    else [240 + r / 262144, 128 + r / 4096 % 64, 128 + r / 64 % 64, 128 + r % 64] := by
  have hv := valid_of_good h
  unfold good at h
  obtain ⟨n, rfl⟩ : ∃ n : Nat, r = n := ⟨r.toNat, by omega⟩
  unfold enc Utf8.encode
  simp only [hv, if_true, Int.toNat_natCast]
  by_cases h1 : n < 128
  · rw [if_pos h1, if_pos (by omega)]
    simp [bytesOf]
    omega
  rw [if_neg h1, if_neg (show ¬ (n : Int) < 128 by omega)]
  by_cases h2 : n < 2048
  · rw [if_pos h2, if_pos (by omega)]
    simp [bytesOf]
    omega
  rw [if_neg h2, if_neg (show ¬ (n : Int) < 2048 by omega)]
  by_cases h3 : n < 65536
  · rw [if_pos h3, if_pos (by omega)]
    simp [bytesOf]
    omega
  rw [if_neg h3, if_neg (show ¬ (n : Int) < 65536 by omega)]
  simp [bytesOf]
  omega

theorem more1 {lo hi r b1 : Int} {bs : List Int} (h1 : lo ≤ b1 ∧ b1 ≤ hi) : more 1 lo hi r (b1 :: bs) = (0, r * 64 + b1 % 64, bs) := by
  rw [more, if_pos h1, more]
theorem more2 {lo hi r b1 b2 : Int} {bs : List Int} (h1 : lo ≤ b1 ∧ b1 ≤ hi) (h2 : 128 ≤ b2 ∧ b2 ≤ 191) : more 2 lo hi r (b1 :: b2 :: bs) = (0, (r * 64 + b1 % 64) * 64 + b2 % 64, bs) := by
  rw [more, if_pos h1, more1 h2]
theorem more3 {lo hi r b1 b2 b3 : Int} {bs : List Int} (h1 : lo ≤ b1 ∧ b1 ≤ hi) (h2 : 128 ≤ b2 ∧ b2 ≤ 191) (h3 : 128 ≤ b3 ∧ b3 ≤ 191) : more 3 lo hi r (b1 :: b2 :: b3 :: bs) = (0, ((r * 64 + b1 % 64) * 64 + b2 % 64) * 64 + b3 % 64, bs) := by
  rw [more, if_pos h1, more2 h2 h3]

/-- What is written of a rune is read as it. -/
theorem step_enc {r : Int} (h : good r) (bs : List Int) : ∃ b t, enc r = b :: t ∧ step b (t ++ bs) = (r, bs) := by
  rw [enc_good h]
  unfold good at h
  by_cases h1 : r < 128
  · rw [if_pos h1]
    exact ⟨r, [], rfl, by simp [step, h1]⟩
  rw [if_neg h1]
  by_cases h2 : r < 2048
  · rw [if_pos h2]
    refine ⟨_, _, rfl, ?_⟩
    unfold step
    rw [if_neg (by omega), show firstOf (192 + r / 64) = some (1, 128, 191) by unfold firstOf; rw [if_pos (by omega)]]
    simp only [List.cons_append, List.nil_append]
    rw [more1 (by omega)]
    simp only [lead, if_true, Prod.mk.injEq, and_true]
    omega
  rw [if_neg h2]
  by_cases h3 : r < 65536
  · rw [if_pos h3]
    refine ⟨_, _, rfl, ?_⟩
    obtain ⟨lo, hi, hf, hlo, hhi⟩ : ∃ lo hi, firstOf (224 + r / 4096) = some (2, lo, hi) ∧ lo ≤ 128 + r / 64 % 64 ∧ 128 + r / 64 % 64 ≤ hi := by
      unfold firstOf
      rw [if_neg (by omega)]
      by_cases e1 : 224 + r / 4096 = 224
      · rw [if_pos e1]
        exact ⟨_, _, rfl, by omega, by omega⟩
      rw [if_neg e1]
      by_cases e2 : 224 + r / 4096 = 237
      · rw [if_pos e2]
        exact ⟨_, _, rfl, by omega, by omega⟩
      rw [if_neg e2, if_pos (by omega)]
      exact ⟨_, _, rfl, by omega, by omega⟩
    unfold step
    rw [if_neg (by omega), hf]
    simp only [List.cons_append, List.nil_append]
    rw [more2 ⟨hlo, hhi⟩ (by omega)]
    simp only [lead, if_true, Prod.mk.injEq, and_true]
    omega
  rw [if_neg h3]
  refine ⟨_, _, rfl, ?_⟩
  obtain ⟨lo, hi, hf, hlo, hhi⟩ : ∃ lo hi, firstOf (240 + r / 262144) = some (3, lo, hi) ∧ lo ≤ 128 + r / 4096 % 64 ∧ 128 + r / 4096 % 64 ≤ hi := by
    unfold firstOf
    rw [if_neg (by omega), if_neg (by omega), if_neg (by omega), if_neg (by omega)]
    by_cases e1 : 240 + r / 262144 = 240
    · rw [if_pos e1]
      exact ⟨_, _, rfl, by omega, by omega⟩
    rw [if_neg e1]
    by_cases e2 : 241 ≤ 240 + r / 262144 ∧ 240 + r / 262144 ≤ 243
    · rw [if_pos e2]
      exact ⟨_, _, rfl, by omega, by omega⟩
    rw [if_neg e2, if_pos (by omega)]
    exact ⟨_, _, rfl, by omega, by omega⟩
  unfold step
  rw [if_neg (by omega), hf]
  simp only [List.cons_append, List.nil_append]
  rw [more3 ⟨hlo, hhi⟩ (by omega) (by omega)]
  simp only [lead, if_true, Prod.mk.injEq, and_true]
  omega

theorem dec_enc {r : Int} (h : good r) (bs : List Int) : dec (enc r ++ bs) = r :: dec bs := by
  obtain ⟨b, t, h1, h2⟩ := step_enc h bs
  rw [h1, List.cons_append, dec_cons, h2]

/-- What is encoded is decoded again. -/
theorem dec_encs : ∀ (l : List Int), (∀ r, r ∈ l → good r) → dec (encs l) = l
  | [], _ => dec_nil
  | r :: l, h => by
    rw [encs, List.flatMap_cons, dec_enc (h r (by simp))]
    rw [show l.flatMap enc = encs l from rfl, dec_encs l (fun x hx => h x (by simp [hx]))]

/-- What is written of a rune: itself, or bytes from 128 on. -/
theorem enc_mem {r : Int} (h : good r) {x : Int} (hx : x ∈ enc r) : x = r ∨ 128 ≤ x := by
  rw [enc_good h] at hx
  unfold good at h
  split at hx
  · simp at hx; omega
  split at hx
  · simp at hx; omega
  split at hx
  · simp at hx; omega
  · simp at hx; omega

theorem encs_mem {l : List Int} (h : ∀ r, r ∈ l → good r) {x : Int} (hx : x ∈ encs l) : x ∈ l ∨ 128 ≤ x := by
  obtain ⟨r, hr, hx⟩ := List.mem_flatMap.1 hx
  rcases enc_mem (h r hr) hx with rfl | h1
  · exact Or.inl hr
  · exact Or.inr h1

/-- Lines, made ready. -/
def lines : List Int → List Int
  | [] => []
  | r :: rs => if r = 13 then (if rs.head? = some 10 then lines rs else 10 :: lines rs) else if r = 0 then 65533 :: lines rs else r :: lines rs

theorem lines_good : ∀ (l : List Int), (∀ r, r ∈ l → good r) → ∀ r, r ∈ lines l → good r ∧ r ≠ 0 ∧ r ≠ 13
  | [], _, r, hr => by cases hr
  | x :: l, h, r, hr => by
    have ih := lines_good l (fun y hy => h y (by simp [hy])) r
    rw [lines] at hr
    split at hr
    · split at hr
      · exact ih hr
      · rcases List.mem_cons.1 hr with rfl | hr
        · exact ⟨Or.inl (by omega), by omega, by omega⟩
        · exact ih hr
    · split at hr
      · rcases List.mem_cons.1 hr with rfl | hr
        · exact ⟨Or.inr (by omega), by omega, by omega⟩
        · exact ih hr
      · rcases List.mem_cons.1 hr with rfl | hr
        · exact ⟨h _ (by simp), by omega, by omega⟩
        · exact ih hr

theorem lines_same : ∀ (l : List Int), (∀ r, r ∈ l → r ≠ 0 ∧ r ≠ 13) → lines l = l
  | [], _ => rfl
  | x :: l, h => by
    have := h x (by simp)
    rw [lines, if_neg this.2, if_neg this.1, lines_same l (fun y hy => h y (by simp [hy]))]

/-- Without a mark at the beginning. -/
def strip : List Int → List Int
  | 239 :: 187 :: 191 :: bs => bs
  | bs => bs

/-- Bytes, made ready, as runes. -/
def prep (b : List Int) : List Int := lines (dec (strip b))

theorem strip_mem (b : List Int) (x : Int) (h : x ∈ strip b) : x ∈ b := by
  unfold strip at h
  split at h
  · simp [h]
  · exact h

theorem prep_good (b : List Int) (h0 : ∀ x, x ∈ b → 0 ≤ x) : ∀ r, r ∈ prep b → good r ∧ r ≠ 0 ∧ r ≠ 13 :=
  lines_good _ (dec_good _ _ (Nat.le_refl _) (fun x hx => h0 x (strip_mem b x hx)))

/-- Made ready again it is the same, but for a mark. -/
theorem prep_again (b : List Int) (h0 : ∀ x, x ∈ b → 0 ≤ x) (hm : strip (encs (prep b)) = encs (prep b)) : prep (encs (prep b)) = prep b := by
  have hg := prep_good b h0
  have : prep (encs (prep b)) = lines (dec (encs (prep b))) := by
    show lines (dec (strip _)) = _
    rw [hm]
  rw [this, dec_encs _ (fun r hr => (hg r hr).1), lines_same _ (fun r hr => ⟨(hg r hr).2.1, (hg r hr).2.2⟩)]

theorem lines_cons (r : Int) (rs : List Int) : lines (r :: rs) = if r = 13 then (if rs.head? = some 10 then lines rs else 10 :: lines rs) else if r = 0 then 65533 :: lines rs else r :: lines rs := rfl

/-- Lines one behind the other, where no CR LF is torn. -/
theorem lines_append (x : List Int) (hx : x.head? ≠ some 10) : ∀ (a : List Int), lines (a ++ x) = lines a ++ lines x
  | [] => rfl
  | [r] => by
    rw [List.cons_append, List.nil_append, lines, lines, if_neg hx, lines]
    simp only [List.head?_nil, reduceCtorEq, if_false]
    split
    · rfl
    · split <;> rfl
  | r :: t :: a => by
    have ih := lines_append x hx (t :: a)
    have e1 : (t :: a ++ x).head? = (t :: a).head? := rfl
    rw [List.cons_append, lines_cons r (t :: a ++ x), ih, e1, lines_cons r (t :: a)]
    generalize lines (t :: a) = q
    generalize (t :: a).head? = hd
    split
    · split <;> rfl
    · split <;> rfl

/-- A line's end: LF, CR LF, CR. -/
def ends : Nat → List Int
  | 0 => [10]
  | 1 => [13, 10]
  | _ => [13]

theorem lines_ends (e : Nat) : lines (ends e) = [10] := by
  unfold ends
  split <;> simp [lines]

/-- A line of runes that are no NUL, LF or CR, with a sign behind it, and its end. -/
theorem lines_line (l : List Int) (h : ∀ r, r ∈ l → r ≠ 0 ∧ r ≠ 13) (e : Nat) : lines (l ++ [122] ++ ends e) = l ++ [122] ++ [10] := by
  rw [List.append_assoc, show l ++ ([122] ++ ends e) = (l ++ [122]) ++ ends e by simp]
  have hp : ∀ (l : List Int), (∀ r, r ∈ l → r ≠ 0 ∧ r ≠ 13) → ∀ x, lines (l ++ x) = l ++ lines x := by
    intro l
    induction l with
    | nil => intro _ x; rfl
    | cons r l ih =>
      intro h x
      have h1 := h r (by simp)
      rw [List.cons_append, lines, if_neg h1.2, if_neg h1.1, ih (fun y hy => h y (by simp [hy])), List.cons_append]
  rw [hp _ (fun r hr => by
    rcases List.mem_append.1 hr with h1 | h1
    · exact h r h1
    · simp at h1
      omega), lines_ends]

theorem encs_append (a b : List Int) : encs (a ++ b) = encs a ++ encs b := by simp [encs]
theorem encs_one (r : Int) : encs [r] = enc r := by simp [encs]
theorem encs_low {r : Int} (h : 0 ≤ r) (h1 : r < 128) (l : List Int) : encs (r :: l) = r :: encs l := by
  rw [encs, List.flatMap_cons, enc_good (Or.inl ⟨h, by omega⟩), if_pos h1]
  rfl

/-- Bytes that do not begin with a mark. -/
theorem strip_low {b : Int} (h : b ≠ 239) (bs : List Int) : strip (b :: bs) = b :: bs := by
  unfold strip
  split
  · rename_i h1
    simp only [List.cons.injEq] at h1
    exact absurd h1.1 h
  · rfl
theorem strip_mark (bs : List Int) : strip (239 :: 187 :: 191 :: bs) = bs := rfl

/-- What a range over a text tells is a rune. -/
theorem range_good (s : ByteArray) (i : Nat) : good ((Utf8.decode s i).1 : Int) := by
  have he : good (65533 : Int) := Or.inr (by omega)
  have hv : ∀ n : Nat, Utf8.valid (n : Int) = true → good (n : Int) := fun n h => by
    unfold Utf8.valid at h
    simp at h
    unfold good
    omega
  unfold Utf8.decode
  simp only [Utf8.runeError]
  split
  · left
    omega
  split
  · split
    · left
      have h1 : (s.get! i).toNat % 32 ≤ 31 := by omega
      simp only [Nat.add_zero]
      omega
    · exact he
  split
  · split
    · rename_i h
      simp only [Bool.and_eq_true] at h
      exact hv _ h.2
    · exact he
  split
  · split
    · rename_i h
      simp only [Bool.and_eq_true] at h
      exact hv _ h.2
    · exact he
  · exact he

end Go.Proofs.YtcfaejbbjmjgpaaGreatDoor.Utf

/-
  Slices that are only read (Rb) or were made by a call (Made); bytes and texts as values.
-/
namespace Go.Proofs.YtcfaejbbjmjgpaaGreatDoor
open Go.RowKit Utf

theorem info5 : (Tryz.prog.info? 5).map (fun i => (i.zero, i.size, i.bytes)) = some (some (Value.int .u8 0), 1, 1) := by kernel_rfl
theorem info9 : (Tryz.prog.info? 9).map (fun i => (i.zero, i.size, i.bytes)) = some (some (Value.string ⟨#[]⟩), 1, 16) := by kernel_rfl

/-- Bytes, as values. -/
def b8 (l : List Int) : List Value := l.map (Value.int .u8)
/-- Texts, as values. -/
def tx (l : List ByteArray) : List Value := l.map Value.string
theorem b8_len (l : List Int) : (b8 l).length = l.length := by simp [b8]
theorem tx_len (l : List ByteArray) : (tx l).length = l.length := by simp [tx]

/-- Each is a byte. -/
def byt (l : List Int) : Prop := ∀ x, x ∈ l → 0 ≤ x ∧ x < 256

/-- The slice of n cells from ao on, with room for c, reads as xs. -/
structure Rb (w : World) (ao : Option Addr) (n c : Nat) (xs : List Value) : Prop where
  len : n = xs.length
  cap : n ≤ c
  at' : ∀ j, j < n → ∃ b off, ao = some ⟨b, off, none⟩ ∧ w.cell? ⟨b, off + j, none⟩ = xs[j]?

theorem Rb.of_own {w : World} {e : TypeId} {ao : Option Addr} {n c : Nat} {xs : List Value} (h : Own w e (.slice ao n c) xs) : Rb w ao n c xs := by
  rcases h with ⟨h1, rfl⟩ | ⟨g, o, cap, cur, hv, hg, h1, h2, h3, h4⟩
  · simp only [Value.slice.injEq] at h1
    obtain ⟨rfl, rfl, rfl⟩ := h1
    exact ⟨rfl, Nat.le_refl _, fun j hj => by omega⟩
  · simp only [Value.slice.injEq] at hv
    obtain ⟨rfl, rfl, rfl⟩ := hv
    exact ⟨rfl, h1, fun j hj => ⟨g, o, rfl, by rw [cell_of hg, h4 j hj]⟩⟩

theorem Rb.keep {w w' : World} {ao : Option Addr} {n c : Nat} {xs : List Value} (h : Rb w ao n c xs) (hs : ∀ a, (∃ u, w.cell? a = some u) → w'.cell? a = w.cell? a) : Rb w' ao n c xs := by
  refine ⟨h.len, h.cap, fun j hj => ?_⟩
  obtain ⟨b, off, h1, h2⟩ := h.at' j hj
  exact ⟨b, off, h1, by rw [hs _ ⟨_, h2.trans (List.getElem?_eq_getElem (by have := h.len; omega))⟩]; exact h2⟩

theorem Rb.kept {w w' : World} {ao : Option Addr} {n c : Nat} {xs : List Value} (h : Rb w ao n c xs) (k : Kp [] w w') : Rb w' ao n c xs :=
  h.keep (fun a ha => by
    obtain ⟨u, hu⟩ := ha
    exact k.cell (block_lt_of_cell hu) (by simp))

/-- What stands at a place. -/
theorem Rb.tx_at {w : World} {ao : Option Addr} {n c : Nat} {l : List ByteArray} (h : Rb w ao n c (tx l)) (k : Nat) (hk : k < l.length) : ∃ b off, ao = some ⟨b, off, none⟩ ∧ w.cell? ⟨b, off + k, none⟩ = some (Value.string l[k]) := by
  have hl := h.len
  rw [tx_len] at hl
  obtain ⟨b, off, h1, h2⟩ := h.at' k (by omega)
  exact ⟨b, off, h1, by rw [h2]; simp [tx, hk]⟩

/-- A slice that a call made: it holds xs, in blocks that are new since w. -/
def Made (w w' : World) (e : TypeId) (ao : Option Addr) (n c : Nat) (xs : List Value) : Prop := Own w' e (.slice ao n c) xs ∧ Kp [] w w' ∧ ∀ k, k ∈ blk (.slice ao n c) → w.heap.size ≤ k

theorem Made.nil (w : World) (e : TypeId) : Made w w e none 0 0 [] := ⟨Or.inl ⟨rfl, rfl⟩, Kp.refl _ _, fun k hk => by simp [blk] at hk⟩

theorem Made.rb {w w' : World} {e : TypeId} {ao : Option Addr} {n c : Nat} {xs : List Value} (h : Made w w' e ao n c xs) : Rb w' ao n c xs := Rb.of_own h.1

/-- What a call changes in no block that was there is kept. -/
theorem Made.kept {w w1 w2 : World} {e : TypeId} {ao : Option Addr} {n c : Nat} {xs : List Value} (h : Made w w1 e ao n c xs) (k : Kp [] w1 w2) : Made w w2 e ao n c xs :=
  ⟨h.1.keep k (fun _ _ => by simp), h.2.1.trans k (fun x hx => by simp at hx), h.2.2⟩

/-- One more. -/
theorem Made.one {t e : TypeId} {z : Value} {bytes : Nat} (ht : Tryz.prog.underlying t = some (.slice e)) (hi : (Tryz.prog.info? e).map (fun i => (i.zero, i.size, i.bytes)) = some (some z, 1, bytes)) (hz : z.cells = #[z]) (hby : bytes ≤ 1024)
    {w w1 : World} {ao : Option Addr} {n c : Nat} {xs : List Value} (h : Made w w1 e ao n c xs) (u : Value) (hu : u.oneCell' = true) (hlen : xs.length + 1 ≤ 1000000) :
    ∃ ao' n' c' w2, (∀ ty, (Builtin.append_ #[t, t] ty #[.slice ao n c, .slice (some ⟨w1.heap.size, 0, none⟩) 1 1]).run Tryz.prog (w1.alloc (.cells #[u] e)) = .ok (.slice ao' n' c') w2) ∧ Made w w2 e ao' n' c' (xs ++ [u]) := by
  obtain ⟨h1, h2, h3⟩ := h
  obtain ⟨v', w2, hrun, o2, k2, b2, a2, c2, rfl⟩ := app_one ht hi hz hby w1 _ _ h1 u hu hlen
  refine ⟨_, _, _, w2, hrun, o2, h2.trans k2 (fun x hx => Or.inr (h3 x hx)), fun k hk => ?_⟩
  rcases b2 k hk with h4 | h4
  · exact h3 k h4
  · have := h2.size
    omega

/-- What a literal reads as. -/
theorem rb_lit (w : World) (e : TypeId) (cur : Array Value) (xs : List Value) (n : Nat) (h : cur = xs.toArray) (hn : n = xs.length) (hm : n ≤ 1000) : Rb (w.alloc (.cells cur e)) (some ⟨w.heap.size, 0, none⟩) n n xs := by
  subst h
  exact Rb.of_own (own_new w e _ xs n (by omega) (by unfold maxLen; omega) (by simp [hn]) (fun j hj => by simp) n hn)

theorem strs_bytes (s : ByteArray) : strOfNums (bytesOf s) = s := by
  apply ByteArray.ext
  simp [strOfNums, bytesOf, Function.comp_def]

theorem bytes_strs {l : List Int} (h : byt l) : bytesOf (strOfNums l) = l := by
  unfold bytesOf
  rw [strOfNums_data, List.map_map]
  conv => rhs; rw [← List.map_id l]
  refine List.map_congr_left fun x hx => ?_
  have := h x hx
  simp
  omega

theorem bytes_byt (s : ByteArray) : byt (bytesOf s) := bytesOf_range s
theorem bytes_len (s : ByteArray) : (bytesOf s).length = s.size := by simp [bytesOf]

theorem bytes_inj {s t : ByteArray} (h : bytesOf s = bytesOf t) : s = t := by rw [← strs_bytes s, h, strs_bytes]

/-- string(b), of bytes that are read. -/
theorem conv_rb {w : World} {ao : Option Addr} {n c : Nat} {xs : List Int} (h : Rb w ao n c (b8 xs)) : (convert 27 9 (.slice ao n c)).run Tryz.prog w = .ok (.string (strOfNums xs)) w := by
  have hl := h.len
  rw [b8_len] at hl
  by_cases h0 : n = 0
  · have hx : xs = [] := List.eq_nil_of_length_eq_zero (by omega)
    subst hx
    cases ao with
    | none =>
      rw [run_convert_bytes_nil (P := Tryz.prog) w 27 5 Tryz.underlying27 Tryz.underlying5 n c 9 Tryz.underlying9]
      rfl
    | some a =>
      subst h0
      obtain ⟨b, o, p⟩ := a
      have hz : (loadCells ⟨b, o, p⟩ 0).run Tryz.prog w = .ok #[] w := by simpa using run_loadCells_list (P := Tryz.prog) w ⟨b, o, p⟩ [] (by simp)
      simp [convert, run_underlying Tryz.underlying27, run_underlying Tryz.underlying9, run_underlying Tryz.underlying5, Conv.bytesToString, hz, strOfNums]
      rfl
  · obtain ⟨b, off, rfl, _⟩ := h.at' 0 (by omega)
    refine run_convert_bytes_arg (P := Tryz.prog) w 27 5 Tryz.underlying27 Tryz.underlying5 b off n c xs hl.symm (fun i hi => ?_) 9 Tryz.underlying9
    obtain ⟨b', off', h1, h2⟩ := h.at' i hi
    simp only [Option.some.injEq, Addr.mk.injEq] at h1
    obtain ⟨rfl, rfl, _⟩ := h1
    rw [h2]
    simp [b8, show i < xs.length by omega]

end Go.Proofs.YtcfaejbbjmjgpaaGreatDoor

/-
  Kinds of runes: the program's and the document's Space, Letter, Digit and Hex, of any rune.
-/
namespace Go.Proofs.YtcfaejbbjmjgpaaGreatDoor
open Go.RowKit Utf

def isSp (x : Int) : Bool := decide (x = 9 ∨ x = 10 ∨ x = 12 ∨ x = 13 ∨ x = 32)
def isLet (x : Int) : Bool := decide ((97 ≤ x ∧ x ≤ 122) ∨ (65 ≤ x ∧ x ≤ 90))
def isDig (x : Int) : Bool := decide (48 ≤ x ∧ x ≤ 57)
def isHex (x : Int) : Bool := decide ((48 ≤ x ∧ x ≤ 57) ∨ (97 ≤ x ∧ x ≤ 102) ∨ (65 ≤ x ∧ x ≤ 70))
def hexv (x : Int) : Int := if 48 ≤ x ∧ x ≤ 57 then x - 48 else if 97 ≤ x ∧ x ≤ 102 then x - 87 else if 65 ≤ x ∧ x ≤ 70 then x - 55 else 0

/-- A rune, as a number of 32 bits. -/
def int32 (r : Int) : Prop := -2147483648 ≤ r ∧ r ≤ 2147483647



theorem space_any (w : World) (r : Int) : Calls Tryz.prog 109 #[.int .i32 r] w fun e w' => e = .returned (.bool (isSp r)) ∧ w' = w := by
  by_cases h1 : r = 9
  · subst h1
    go_enter Tryz.func109, Tryz.ntmps109
    go_wp2
    go_ret
    exact ⟨rfl, rfl⟩
  by_cases h2 : r = 10
  · subst h2
    go_enter Tryz.func109, Tryz.ntmps109
    go_wp2
    go_ret
    exact ⟨rfl, rfl⟩
  by_cases h3 : r = 12
  · subst h3
    go_enter Tryz.func109, Tryz.ntmps109
    go_wp2
    go_ret
    exact ⟨rfl, rfl⟩
  by_cases h4 : r = 13
  · subst h4
    go_enter Tryz.func109, Tryz.ntmps109
    go_wp2
    go_ret
    exact ⟨rfl, rfl⟩
  by_cases h5 : r = 32
  · subst h5
    go_enter Tryz.func109, Tryz.ntmps109
    go_wp2
    go_ret
    exact ⟨rfl, rfl⟩
  · have hs : isSp r = false := by simp [isSp, h1, h2, h3, h4, h5]
    go_enter Tryz.func109, Tryz.ntmps109
    go_wp2
    go_ret
    exact ⟨by rw [hs]; rfl, rfl⟩

theorem ref_space_any (w : World) (r : Int) : Calls Tryz.prog 64 #[.int .i32 r] w fun e w' => e = .returned (.bool (isSp r)) ∧ w' = w := by
  by_cases h1 : r = 9
  · subst h1
    go_enter Tryz.func64, Tryz.ntmps64
    go_wp2
    go_ret
    exact ⟨rfl, rfl⟩
  by_cases h2 : r = 10
  · subst h2
    go_enter Tryz.func64, Tryz.ntmps64
    go_wp2
    go_ret
    exact ⟨rfl, rfl⟩
  by_cases h3 : r = 12
  · subst h3
    go_enter Tryz.func64, Tryz.ntmps64
    go_wp2
    go_ret
    exact ⟨rfl, rfl⟩
  by_cases h4 : r = 13
  · subst h4
    go_enter Tryz.func64, Tryz.ntmps64
    go_wp2
    go_ret
    exact ⟨rfl, rfl⟩
  by_cases h5 : r = 32
  · subst h5
    go_enter Tryz.func64, Tryz.ntmps64
    go_wp2
    go_ret
    exact ⟨rfl, rfl⟩
  · have hs : isSp r = false := by simp [isSp, h1, h2, h3, h4, h5]
    have b1 : (r == 9) = false := by simpa using h1
    have b2 : (r == 10) = false := by simpa using h2
    have b3 : (r == 12) = false := by simpa using h3
    have b4 : (r == 13) = false := by simpa using h4
    have b5 : (r == 32) = false := by simpa using h5
    clear h1 h2 h3 h4 h5
    go_enter Tryz.func64, Tryz.ntmps64
    go_wp2
    go_ret
    exact ⟨by rw [hs]; rfl, rfl⟩

theorem letter_any (w : World) (r : Int) : Calls Tryz.prog 79 #[.int .i32 r] w fun e w' => e = .returned (.bool (isLet r)) ∧ w' = w := by
  go_enter Tryz.func79, Tryz.ntmps79
  go_wp2
  all_goals
    go_ret
    refine ⟨?_, rfl⟩
    congr 2
    simp [isLet]
    try omega

theorem ref_letter_any (w : World) (r : Int) : Calls Tryz.prog 47 #[.int .i32 r] w fun e w' => e = .returned (.bool (isLet r)) ∧ w' = w := by
  go_enter Tryz.func47, Tryz.ntmps47
  go_wp2
  all_goals
    go_ret
    refine ⟨?_, rfl⟩
    congr 2
    simp [isLet]
    try (first | omega | (rw [Bool.eq_iff_iff]; simp; omega))

theorem digit_any (w : World) (r : Int) : Calls Tryz.prog 118 #[.int .i32 r] w fun e w' => e = .returned (.bool (isDig r)) ∧ w' = w := by
  go_enter Tryz.func118, Tryz.ntmps118
  go_wp2
  all_goals
    go_ret
    refine ⟨?_, rfl⟩
    congr 2
    simp [isDig]
    try omega

theorem ref_digit_any (w : World) (r : Int) : Calls Tryz.prog 72 #[.int .i32 r] w fun e w' => e = .returned (.bool (isDig r)) ∧ w' = w := by
  go_enter Tryz.func72, Tryz.ntmps72
  go_wp2
  all_goals
    go_ret
    refine ⟨?_, rfl⟩
    congr 2
    simp [isDig]
    try omega

theorem hex_dig {r : Int} (h : 48 ≤ r ∧ r ≤ 57) : isHex r = true ∧ hexv r = r - 48 ∧ isDig r = true := by
  simp [isHex, hexv, isDig, h]
theorem hex_low {r : Int} (h : 97 ≤ r ∧ r ≤ 102) : isHex r = true ∧ hexv r = r - 87 ∧ isDig r = false := by
  have : ¬ (48 ≤ r ∧ r ≤ 57) := by omega
  simp [isHex, hexv, isDig, h]
  omega
theorem hex_high {r : Int} (h : 65 ≤ r ∧ r ≤ 70) : isHex r = true ∧ hexv r = r - 55 ∧ isDig r = false := by
  have h1 : ¬ (48 ≤ r ∧ r ≤ 57) := by omega
  have h2 : ¬ (97 ≤ r ∧ r ≤ 102) := by omega
  refine ⟨by simp [isHex, h], by simp only [hexv, if_neg h1, if_neg h2, if_pos h], by simp [isDig]; omega⟩
theorem hex_none {r : Int} (h1 : ¬ (48 ≤ r ∧ r ≤ 57)) (h2 : ¬ (97 ≤ r ∧ r ≤ 102)) (h3 : ¬ (65 ≤ r ∧ r ≤ 70)) : isHex r = false ∧ hexv r = 0 ∧ isDig r = false := by
  refine ⟨by simp [isHex]; omega, by simp only [hexv, if_neg h1, if_neg h2, if_neg h3], by simp [isDig]; omega⟩

theorem hexv_range (r : Int) : 0 ≤ hexv r ∧ hexv r ≤ 15 := by
  unfold hexv
  repeat' split
  all_goals omega

theorem hex_any (w : World) (r : Int) : Calls Tryz.prog 119 #[.int .i32 r] w fun e w' => e = .returned (.tuple #[.int .i64 (hexv r), .bool (isHex r)]) ∧ w' = w := by
  by_cases h1 : 48 ≤ r ∧ r ≤ 57
  · obtain ⟨e1, e2, _⟩ := hex_dig h1
    rw [e1, e2]
    obtain ⟨h3, h4⟩ := h1
    clear e1 e2
    go_enter Tryz.func119, Tryz.ntmps119
    go_wp2
    go_ret2
    exact ⟨rfl, rfl⟩
  by_cases h2 : 97 ≤ r ∧ r ≤ 102
  · obtain ⟨e1, e2, _⟩ := hex_low h2
    rw [e1, e2]
    obtain ⟨h3, h4⟩ := h2
    clear e1 e2 h1
    have h5 : ¬ r ≤ 57 := by omega
    have h6 : 48 ≤ r := by omega
    go_enter Tryz.func119, Tryz.ntmps119
    go_wp2
    go_ret2
    refine ⟨?_, rfl⟩
    rw [show r - 87 = r - 97 + 10 by omega]
    rfl
  by_cases h3 : 65 ≤ r ∧ r ≤ 70
  · obtain ⟨e1, e2, _⟩ := hex_high h3
    rw [e1, e2]
    obtain ⟨h3, h4⟩ := h3
    clear e1 e2 h1 h2
    have h5 : ¬ r ≤ 57 := by omega
    have h6 : 48 ≤ r := by omega
    have h7 : ¬ 97 ≤ r := by omega
    go_enter Tryz.func119, Tryz.ntmps119
    go_wp2
    go_ret2
    refine ⟨?_, rfl⟩
    rw [show r - 55 = r - 65 + 10 by omega]
    rfl
  · obtain ⟨e1, e2, _⟩ := hex_none h1 h2 h3
    rw [e1, e2]
    clear e1 e2
    go_enter Tryz.func119, Tryz.ntmps119
    go_wp2
    all_goals (first | omega | go_ret2)
    all_goals exact ⟨rfl, rfl⟩

theorem ref_hex_any (w : World) (r : Int) : Calls Tryz.prog 94 #[.int .i32 r] w fun e w' => e = .returned (.tuple #[.int .i64 (hexv r), .bool (isHex r)]) ∧ w' = w := by
  have HD := ref_digit_any w r
  by_cases h1 : 48 ≤ r ∧ r ≤ 57
  · obtain ⟨e1, e2, e3⟩ := hex_dig h1
    rw [e3] at HD
    rw [e1, e2]
    obtain ⟨h3, h4⟩ := h1
    clear e1 e2 e3
    go_enter Tryz.func94, Tryz.ntmps94
    go_wp2_with fail
    refine HD.mono ?_
    rintro e w1 ⟨rfl, rfl⟩
    clear HD
    go_wp2
    go_ret2
    exact ⟨rfl, rfl⟩
  by_cases h2 : 97 ≤ r ∧ r ≤ 102
  · obtain ⟨e1, e2, e3⟩ := hex_low h2
    rw [e3] at HD
    rw [e1, e2]
    obtain ⟨h3, h4⟩ := h2
    clear e1 e2 e3 h1
    go_enter Tryz.func94, Tryz.ntmps94
    go_wp2_with fail
    refine HD.mono ?_
    rintro e w1 ⟨rfl, rfl⟩
    clear HD
    go_wp2
    go_ret2
    refine ⟨?_, rfl⟩
    rw [show r - 87 = r - 97 + 10 by omega]
    rfl
  by_cases h3 : 65 ≤ r ∧ r ≤ 70
  · obtain ⟨e1, e2, e3⟩ := hex_high h3
    rw [e3] at HD
    rw [e1, e2]
    obtain ⟨h3, h4⟩ := h3
    clear e1 e2 e3 h1 h2
    have h7 : ¬ 97 ≤ r := by omega
    go_enter Tryz.func94, Tryz.ntmps94
    go_wp2_with fail
    refine HD.mono ?_
    rintro e w1 ⟨rfl, rfl⟩
    clear HD
    go_wp2
    go_ret2
    refine ⟨?_, rfl⟩
    rw [show r - 55 = r - 65 + 10 by omega]
    rfl
  · obtain ⟨e1, e2, e3⟩ := hex_none h1 h2 h3
    rw [e3] at HD
    rw [e1, e2]
    clear e1 e2 e3
    go_enter Tryz.func94, Tryz.ntmps94
    go_wp2_with fail
    refine HD.mono ?_
    rintro e w1 ⟨rfl, rfl⟩
    clear HD
    go_wp2
    all_goals (first | omega | go_ret2)
    all_goals exact ⟨rfl, rfl⟩

end Go.Proofs.YtcfaejbbjmjgpaaGreatDoor

/-
  Small letters: the program's and the document's Lower, and the program's Same, of any text.
-/
namespace Go.Proofs.YtcfaejbbjmjgpaaGreatDoor
open Go.RowKit Utf

/-- A byte as a small letter. -/
def low (x : Int) : Int := if 65 ≤ x ∧ x ≤ 90 then x + 32 else x
/-- A text in small letters. -/
def lower (s : ByteArray) : ByteArray := strOfNums ((bytesOf s).map low)
/-- The first k bytes are small. -/
def half (l : List Int) (k : Nat) : List Int := (l.take k).map low ++ l.drop k

theorem half_len (l : List Int) (k : Nat) (hk : k ≤ l.length) : (half l k).length = l.length := by
  simp [half]
  omega
theorem half_zero (l : List Int) : half l 0 = l := by simp [half]
theorem half_all (l : List Int) : half l l.length = l.map low := by simp [half]
theorem half_at (l : List Int) (k : Nat) (hk : k < l.length) (h : k < (half l k).length) : (half l k)[k] = l[k] := by
  simp [half, Nat.min_eq_left (Nat.le_of_lt hk)]
theorem half_set (l : List Int) (k : Nat) (hk : k < l.length) : (half l k).set k (low l[k]) = half l (k + 1) := by
  unfold half
  rw [List.take_succ_eq_append_getElem hk, List.drop_eq_getElem_cons hk, List.map_append, List.set_append_right _ _ (by simp; omega)]
  simp only [List.length_map, List.length_take, Nat.min_eq_left (Nat.le_of_lt hk), Nat.sub_self, List.set_cons_zero, List.map_cons, List.map_nil, List.append_assoc, List.singleton_append]
theorem half_same (l : List Int) (k : Nat) (hk : k < l.length) (h : low l[k] = l[k]) : half l (k + 1) = half l k := by
  rw [← half_set l k hk, h]
  have h2 : k < (half l k).length := by rw [half_len l k (by omega)]; exact hk
  have := half_at l k hk h2
  rw [← this]
  simp

/-- In block g, made since w, lie the bytes ys. -/
structure Lay (w wr : World) (g : Nat) (ys : List Int) : Prop where
  kp : Kp [] w wr
  new : w.heap.size ≤ g
  at' : ∀ j (h : j < ys.length), wr.cell? ⟨g, j, none⟩ = some (.int .u8 ys[j])
  free : ∀ j, j < ys.length → wr.frozen? ⟨g, j, none⟩ = false

/-- []byte(s). -/
theorem to_bytes (w : World) (s : ByteArray) : ∃ W c, (convert 9 27 (.string s)).run Tryz.prog w = .ok (.slice (some ⟨w.heap.size, 0, none⟩) s.size c) W ∧ s.size ≤ c ∧ Lay w W w.heap.size (bytesOf s) := by
  refine ⟨_, _, Lib.run_convert_string_bytes (P := Tryz.prog) w 9 27 5 s Tryz.underlying9 Tryz.underlying27 Tryz.underlying5, grownCap_ge w s.size 0 5, ⟨⟨rfl, rfl, rfl, ?_, fun k hk _ => Lib.bytesWorld_at_old w 5 s k hk⟩, Nat.le_refl _, fun j hj => ?_, fun j hj => ?_⟩⟩
  · rw [Lib.bytesWorld_size]
    omega
  · rw [bytes_len] at hj
    rw [Lib.bytesWorld_cell w 5 s j hj]
    simp [bytesOf, List.getD, hj]
  · rw [bytes_len] at hj
    simp only [World.frozen?, Lib.bytesWorld_at_new]
    have h2 : s.size ≤ (Lib.bytesCells w 5 s).size := by
      simp [Lib.bytesCells]
    simp
    omega

theorem Lay.set {w wr : World} {g : Nat} {ys : List Int} (h : Lay w wr g ys) (k : Nat) (hk : k < ys.length) (x : Int) : Lay w (wr.setCell ⟨g, k, none⟩ (.int .u8 x)) g (ys.set k x) := by
  refine ⟨h.kp.setCell (Or.inr h.new) _, h.new, fun j hj => ?_, fun j hj => ?_⟩
  · have hj2 : j < ys.length := by simpa using hj
    by_cases he : j = k
    · subst he
      rw [World.cell?_setCell_same _ _ _ (h.at' j hj2)]
      simp
    · rw [World.cell?_setCell_other _ _ _ _ (fun e => he (congrArg Addr.off e).symm), h.at' j hj2, List.getElem_set_ne (fun e => he e.symm)]
  · rw [World.frozen?_setCell]
    exact h.free j (by simpa using hj)

theorem Lay.rb {w wr : World} {g c : Nat} {ys : List Int} (h : Lay w wr g ys) (hc : ys.length ≤ c) : Rb wr (some ⟨g, 0, none⟩) ys.length c (b8 ys) :=
  ⟨(b8_len ys).symm, hc, fun j hj => ⟨g, 0, rfl, by rw [Nat.zero_add, h.at' j hj]; simp [b8, hj]⟩⟩

set_option maxHeartbeats 1000000 in
set_option maxRecDepth 100000 in
theorem lower_any (w : World) (s : ByteArray) (hl : s.size ≤ 100000) : Calls Tryz.prog 76 #[.string s] w fun e w' => e = .returned (.string (lower s)) ∧ Kp [] w w' := by
  obtain ⟨W, c, hcv, hc, lay⟩ := to_bytes w s
  have hbl := bytes_len s
  have hby := bytes_byt s
  have HL : Hid (lower s = strOfNums ((bytesOf s).map low)) := rfl
  generalize bytesOf s = l at lay hbl hby HL
  generalize w.heap.size = g at lay hcv
  obtain ⟨n, hn⟩ : ∃ n, n = s.size := ⟨_, rfl⟩
  rw [← hn] at hcv hc hbl hl
  rw [HL.out]
  clear HL
  go_enter Tryz.func76, Tryz.ntmps76
  go_wp2
  rw [← hn]
  clear hn hcv
  go_loopw [10] (fun i wr => ∃ k : Nat, k ≤ n ∧ i = .int .i64 k ∧ Lay w wr g (half l k)) (fun i _ => n - (intOf i).toNat)
  case atStart => exact ⟨0, Nat.zero_le _, rfl, by rw [half_zero]; exact lay⟩
  case round =>
    obtain ⟨k, hk, rfl, hm⟩ := hrel
    clear lay
    by_cases hlt : k < n
    · have hk2 : k < l.length := by omega
      have hh := half_len l k (by omega)
      have hcell := hm.at' k (by omega)
      have hfree := hm.free k (by omega)
      rw [half_at l k hk2] at hcell
      obtain ⟨x0, x1⟩ := hby l[k] (List.getElem_mem hk2)
      by_cases hx : 65 ≤ l[k] ∧ l[k] ≤ 90
      · have hs : Hid (Lay w (wr.setCell ⟨g, k, none⟩ (.int .u8 (l[k] + 32))) g (half l (k + 1))) := by
          have := hm.set k (by omega) (low l[k])
          rw [half_set l k hk2] at this
          rw [show low l[k] = l[k] + 32 by simp [low, hx]] at this
          exact this
        obtain ⟨hx1, hx2⟩ := hx
        generalize l[k] = x at hcell x0 x1 hx1 hx2 hs
        clear hm hh
        go_wp2
        go_roundw
        case rel => exact ⟨k + 1, by omega, by go_num, hs.out⟩
        case measure => simp [intOf]; omega
      · have hs : Hid (Lay w wr g (half l (k + 1))) := by
          show Lay _ _ _ _
          rw [half_same l k hk2 (by simp [low, hx])]
          exact hm
        generalize l[k] = x at hcell x0 x1 hx hs
        clear hm hh
        rcases (show ¬ 65 ≤ x ∨ (65 ≤ x ∧ ¬ x ≤ 90) by omega) with d1 | ⟨d1, d2⟩
        all_goals
          clear hx
          go_wp2
          go_roundw
          case rel => exact ⟨k + 1, by omega, by go_num, hs.out⟩
          case measure => simp [intOf]; omega
    · obtain rfl : k = n := by omega
      rw [← hbl, half_all] at hm
      have hrb := hm.rb (c := c) (by simp; omega)
      rw [List.length_map, hbl] at hrb
      have hcv := conv_rb hrb
      have hk := hm.kp
      clear hm hrb
      go_wp2
      go_ret
      exact ⟨rfl, hk⟩

set_option maxHeartbeats 1000000 in
set_option maxRecDepth 100000 in
theorem ref_lower_any (w : World) (s : ByteArray) (hl : s.size ≤ 100000) : Calls Tryz.prog 53 #[.string s] w fun e w' => e = .returned (.string (lower s)) ∧ Kp [] w w' := by
  obtain ⟨W, c, hcv, hc, lay⟩ := to_bytes w s
  have hbl := bytes_len s
  have hby := bytes_byt s
  have HL : Hid (lower s = strOfNums ((bytesOf s).map low)) := rfl
  generalize bytesOf s = l at lay hbl hby HL
  generalize w.heap.size = g at lay hcv
  obtain ⟨n, hn⟩ : ∃ n, n = s.size := ⟨_, rfl⟩
  rw [← hn] at hcv hc hbl hl
  rw [HL.out]
  clear HL
  go_enter Tryz.func53, Tryz.ntmps53
  go_wp2
  rw [← hn]
  clear hn hcv
  go_loopw [4] (fun i wr => ∃ k : Nat, k ≤ n ∧ i = .int .i64 k ∧ Lay w wr g (half l k)) (fun i _ => n - (intOf i).toNat)
  case atStart => exact ⟨0, Nat.zero_le _, rfl, by rw [half_zero]; exact lay⟩
  case round =>
    obtain ⟨k, hk, rfl, hm⟩ := hrel
    clear lay
    by_cases hlt : k < n
    · have hk2 : k < l.length := by omega
      have hh := half_len l k (by omega)
      have hcell := hm.at' k (by omega)
      have hfree := hm.free k (by omega)
      rw [half_at l k hk2] at hcell
      obtain ⟨x0, x1⟩ := hby l[k] (List.getElem_mem hk2)
      by_cases hx : 65 ≤ l[k] ∧ l[k] ≤ 90
      · have hs : Hid (Lay w (wr.setCell ⟨g, k, none⟩ (.int .u8 (l[k] + 32))) g (half l (k + 1))) := by
          have := hm.set k (by omega) (low l[k])
          rw [half_set l k hk2] at this
          rw [show low l[k] = l[k] + 32 by simp [low, hx]] at this
          exact this
        obtain ⟨hx1, hx2⟩ := hx
        generalize l[k] = x at hcell x0 x1 hx1 hx2 hs
        clear hm hh
        go_wp2
        go_roundw
        case rel => exact ⟨k + 1, by omega, by go_num, hs.out⟩
        case measure => simp [intOf]; omega
      · have hs : Hid (Lay w wr g (half l (k + 1))) := by
          show Lay _ _ _ _
          rw [half_same l k hk2 (by simp [low, hx])]
          exact hm
        generalize l[k] = x at hcell x0 x1 hx hs
        clear hm hh
        rcases (show ¬ 65 ≤ x ∨ (65 ≤ x ∧ ¬ x ≤ 90) by omega) with d1 | ⟨d1, d2⟩
        all_goals
          clear hx
          go_wp2
          go_roundw
          case rel => exact ⟨k + 1, by omega, by go_num, hs.out⟩
          case measure => simp [intOf]; omega
    · obtain rfl : k = n := by omega
      rw [← hbl, half_all] at hm
      have hrb := hm.rb (c := c) (by simp; omega)
      rw [List.length_map, hbl] at hrb
      have hcv := conv_rb hrb
      have hk := hm.kp
      clear hm hrb
      go_wp2
      go_ret
      exact ⟨rfl, hk⟩

theorem low_low (x : Int) : low (low x) = low x := by
  unfold low
  repeat' split
  all_goals omega

theorem low_byt {l : List Int} (h : byt l) : byt (l.map low) := fun x hx => by
  obtain ⟨y, hy, rfl⟩ := List.mem_map.1 hx
  have := h y hy
  unfold low
  split <;> omega

theorem lower_bytes (s : ByteArray) : bytesOf (lower s) = (bytesOf s).map low := bytes_strs (low_byt (bytes_byt s))
theorem lower_size (s : ByteArray) : (lower s).size = s.size := by rw [← bytes_len, lower_bytes, List.length_map, bytes_len]
theorem lower_lower (s : ByteArray) : lower (lower s) = lower s := by
  refine bytes_inj ?_
  rw [lower_bytes, lower_bytes, List.map_map]
  exact List.map_congr_left fun x _ => low_low x

theorem list_eq (s t : ByteArray) : (s.toList == t.toList) = decide (s = t) := by
  by_cases h : s = t
  · subst h
    simp
  · have : s.toList ≠ t.toList := fun e => h (by
      rw [Lib.toList_data, Lib.toList_data] at e
      exact ByteArray.ext (Array.toList_inj.1 e))
    simp [h, this]

end Go.Proofs.YtcfaejbbjmjgpaaGreatDoor

/-
  Places of a text, and what stands there: no program.
-/
namespace Go.Proofs.YtcfaejbbjmjgpaaGreatDoor
open Go.RowKit Utf

/-- The byte at a place; 0 behind the end. -/
def bt (s : ByteArray) (j : Nat) : Int := (bytesOf s).getD j 0

theorem bt_at (s : ByteArray) (j : Nat) (h : j < s.size) : bt s j = ((s[j]'h).toNat : Int) := by
  have h1 : j < (bytesOf s).length := by rw [bytes_len]; exact h
  unfold bt
  rw [List.getD_eq_getElem?_getD, List.getElem?_eq_getElem h1, Option.getD_some]
  simp [bytesOf]
  rfl

theorem bt_range (s : ByteArray) (j : Nat) : 0 ≤ bt s j ∧ bt s j < 256 := by
  by_cases h : j < s.size
  · rw [bt_at s j h]
    have := (s[j]'h).toNat_lt
    omega
  · unfold bt
    rw [List.getD_eq_getElem?_getD, List.getElem?_eq_none (by rw [bytes_len]; omega)]
    simp

theorem index_at (s : ByteArray) (i : Int) (j : Nat) (hi : i = j) (h : j < s.size) (W : World) : (Instr.index 9 (.string s) (.int .i64 i)).run Tryz.prog W = .ok (.int .u8 (bt s j)) W := by
  subst hi
  rw [run_index_string W 9 s .i64 j Tryz.underlying9, bt_at s j h]
  simp [h]

/-- The same bytes, the same text. -/
theorem bt_ext {s t : ByteArray} (h : s.size = t.size) (hb : ∀ j, j < s.size → bt s j = bt t j) : s = t := by
  refine bytes_inj (List.ext_getElem (by rw [bytes_len, bytes_len, h]) fun j h1 h2 => ?_)
  have := hb j (by rw [bytes_len] at h1; exact h1)
  unfold bt at this
  rw [List.getD_eq_getElem?_getD, List.getD_eq_getElem?_getD, List.getElem?_eq_getElem h1, List.getElem?_eq_getElem h2] at this
  exact this

theorem bt_cut (s : ByteArray) (p q j : Nat) (h : p + j < q) (hq : q ≤ s.size) : bt (s.extract p q) j = bt s (p + j) := by
  have h1 : j < (s.extract p q).size := by simp; omega
  rw [bt_at _ j h1, bt_at s (p + j) (by omega)]
  simp [ByteArray.getElem_extract]

theorem bt_low (s : ByteArray) (j : Nat) : bt (lower s) j = low (bt s j) := by
  unfold bt
  rw [lower_bytes, List.getD_eq_getElem?_getD, List.getD_eq_getElem?_getD, List.getElem?_map]
  cases (bytesOf s)[j]? with
  | none => rfl
  | some x => rfl

/-- The place of a text of n bytes that a number means. -/
def pl (n : Nat) (p : Int) : Nat := if p < 0 then 0 else if (n : Int) < p then n else p.toNat
theorem pl_le (n : Nat) (p : Int) : pl n p ≤ n := by
  unfold pl
  split
  · omega
  · split <;> omega
theorem pl_of {n p : Nat} (h : p ≤ n) : pl n (p : Int) = p := by
  unfold pl
  split
  · omega
  · split <;> omega
theorem pl_lo {n : Nat} {p : Int} (h : p < 0) : pl n p = 0 := by unfold pl; rw [if_pos h]
theorem pl_hi {n : Nat} {p : Int} (h : (n : Int) < p) : pl n p = n := by unfold pl; rw [if_neg (by omega), if_pos h]
theorem pl_in {n : Nat} {p : Int} (h : ¬ p < 0) (h2 : ¬ (n : Int) < p) : (pl n p : Int) = p := by unfold pl; rw [if_neg h, if_neg h2]; omega

/-- Does sub stand at p? -/
def st (s : ByteArray) (p : Nat) (sub : ByteArray) : Bool := decide (p + sub.size ≤ s.size ∧ ∀ j, j < sub.size → bt s (p + j) = bt sub j)
/-- So, where capitals are as small letters. -/
def fo (s : ByteArray) (p : Nat) (sub : ByteArray) : Bool := decide (p + sub.size ≤ s.size ∧ ∀ j, j < sub.size → low (bt s (p + j)) = low (bt sub j))

theorem st_true {s : ByteArray} {p : Nat} {sub : ByteArray} (h1 : p + sub.size ≤ s.size) (h2 : ∀ j, j < sub.size → bt s (p + j) = bt sub j) : st s p sub = true := decide_eq_true ⟨h1, h2⟩
theorem st_long {s : ByteArray} {p : Nat} {sub : ByteArray} (h1 : ¬ p + sub.size ≤ s.size) : st s p sub = false := decide_eq_false (fun h => h1 h.1)
theorem st_not {s : ByteArray} {p : Nat} {sub : ByteArray} (j : Nat) (hj : j < sub.size) (h2 : ¬ bt s (p + j) = bt sub j) : st s p sub = false := decide_eq_false (fun h => h2 (h.2 j hj))
theorem fo_true {s : ByteArray} {p : Nat} {sub : ByteArray} (h1 : p + sub.size ≤ s.size) (h2 : ∀ j, j < sub.size → low (bt s (p + j)) = low (bt sub j)) : fo s p sub = true := decide_eq_true ⟨h1, h2⟩
theorem fo_long {s : ByteArray} {p : Nat} {sub : ByteArray} (h1 : ¬ p + sub.size ≤ s.size) : fo s p sub = false := decide_eq_false (fun h => h1 h.1)
theorem fo_not {s : ByteArray} {p : Nat} {sub : ByteArray} (j : Nat) (hj : j < sub.size) (h2 : ¬ low (bt s (p + j)) = low (bt sub j)) : fo s p sub = false := decide_eq_false (fun h => h2 (h.2 j hj))

theorem st_lower (s : ByteArray) (p : Nat) (sub : ByteArray) : st (lower s) p (lower sub) = fo s p sub := by
  unfold st fo
  simp only [lower_size, bt_low]

theorem st_cut {s : ByteArray} {p : Nat} {sub : ByteArray} (h : p + sub.size ≤ s.size) : st s p sub = decide (s.extract p (p + sub.size) = sub) := by
  have hz : (s.extract p (p + sub.size)).size = sub.size := by simp; omega
  by_cases h1 : s.extract p (p + sub.size) = sub
  · rw [decide_eq_true h1]
    refine st_true h fun j hj => ?_
    rw [← bt_cut s p (p + sub.size) j (by omega) h, h1]
  · rw [decide_eq_false h1]
    refine decide_eq_false fun h2 => h1 (bt_ext hz fun j hj => ?_)
    rw [hz] at hj
    rw [bt_cut s p (p + sub.size) j (by omega) h]
    exact h2.2 j hj

/-- r is the first place from p on where f holds; n, if it does nowhere. -/
structure Fs (f : Nat → Bool) (p n r : Nat) : Prop where
  lo : p ≤ r
  hi : r ≤ n
  no : ∀ j, p ≤ j → j < r → f j = false
  at' : r < n → f r = true

def seek (f : Nat → Bool) : Nat → Nat → Nat
  | 0, p => p
  | k + 1, p => if f p then p else seek f k (p + 1)
/-- The first place from p on where f holds; n, if it does nowhere. -/
def fs (f : Nat → Bool) (p n : Nat) : Nat := seek f (n - p) p

theorem seek_is (f : Nat → Bool) : ∀ k p, Fs f p (p + k) (seek f k p)
  | 0, p => ⟨Nat.le_refl _, Nat.le_refl _, fun j h1 h2 => by simp only [seek] at h2; omega, fun h => by simp only [seek] at h; omega⟩
  | k + 1, p => by
    unfold seek
    cases hf : f p with
    | true =>
      simp only [if_true]
      exact ⟨Nat.le_refl _, by omega, fun j h1 h2 => by omega, fun _ => hf⟩
    | false =>
      simp only [Bool.false_eq_true, if_false]
      obtain ⟨h1, h2, h3, h4⟩ := seek_is f k (p + 1)
      refine ⟨by omega, by omega, fun j g1 g2 => ?_, fun h => h4 (by omega)⟩
      by_cases hj : j = p
      · rw [hj]; exact hf
      · exact h3 j (by omega) g2

theorem fs_is (f : Nat → Bool) {p n : Nat} (h : p ≤ n) : Fs f p n (fs f p n) := by
  have := seek_is f (n - p) p
  rw [show p + (n - p) = n by omega] at this
  exact this

theorem Fs.eq {f : Nat → Bool} {p n r r' : Nat} (h : Fs f p n r) (h' : Fs f p n r') : r = r' := by
  rcases Nat.lt_trichotomy r r' with g | g | g
  · have := h'.no r h.lo g
    rw [h.at' (by have := h'.hi; omega)] at this
    cases this
  · exact g
  · have := h.no r' h'.lo g
    rw [h'.at' (by have := h.hi; omega)] at this
    cases this

theorem fs_eq {f : Nat → Bool} {p n r : Nat} (h : Fs f p n r) : fs f p n = r := (fs_is f (Nat.le_trans h.lo h.hi)).eq h

/-- Is x one of these bytes? -/
def inS (set : ByteArray) (x : Int) : Bool := decide (∃ j, j < set.size ∧ bt set j = x)
/-- Does a name end there? -/
def enN (x : Int) : Bool := isSp x || (x == 47) || (x == 62)

def findF (s sub : ByteArray) (p : Nat) : Nat := fs (fun i => st s i sub) p s.size
def untilF (s set : ByteArray) (p : Nat) : Nat := fs (fun i => inS set (bt s i)) p s.size
def skipF (s : ByteArray) (p : Nat) : Nat := fs (fun i => !isSp (bt s i)) p s.size
def nameF (s : ByteArray) (p : Nat) : Nat := fs (fun i => enN (bt s i)) p s.size

theorem fs_congr {f g : Nat → Bool} (h : ∀ i, f i = g i) (p n : Nat) : fs f p n = fs g p n := by rw [show f = g from funext h]

/-- The signs that end a name, as a text. -/
def ENDS : ByteArray := { data := #[9, 10, 12, 13, 32, 47, 62] }
theorem ends_in (x : Int) : inS ENDS x = enN x := by
  rw [Bool.eq_iff_iff]
  unfold inS enN isSp
  simp only [decide_eq_true_eq, Bool.or_eq_true, beq_iff_eq]
  constructor
  · rintro ⟨j, hj, rfl⟩
    have h7 : j < 7 := hj
    rcases (show j = 0 ∨ j = 1 ∨ j = 2 ∨ j = 3 ∨ j = 4 ∨ j = 5 ∨ j = 6 by omega) with rfl | rfl | rfl | rfl | rfl | rfl | rfl
    all_goals decide
  · rintro (((rfl | rfl | rfl | rfl | rfl) | rfl) | rfl)
    · exact ⟨0, by decide, by decide⟩
    · exact ⟨1, by decide, by decide⟩
    · exact ⟨2, by decide, by decide⟩
    · exact ⟨3, by decide, by decide⟩
    · exact ⟨4, by decide, by decide⟩
    · exact ⟨5, by decide, by decide⟩
    · exact ⟨6, by decide, by decide⟩

theorem name_until (s : ByteArray) (p : Nat) : untilF s ENDS p = nameF s p := fs_congr (fun _ => ends_in _) _ _

end Go.Proofs.YtcfaejbbjmjgpaaGreatDoor

/-
  The program's small calls: place, fits, small, space, endsName; the document's Place and has; Head and Within.
-/
namespace Go.Proofs.YtcfaejbbjmjgpaaGreatDoor
open Go.RowKit Utf

theorem place_any (w : World) (s : ByteArray) (p : Int) : Calls Tryz.prog 84 #[.string s, .int .i64 p] w fun e w' => e = .returned (.int .i64 (pl s.size p : Int)) ∧ w' = w := by
  by_cases h : p < 0
  · rw [pl_lo h]
    go_enter Tryz.func84, Tryz.ntmps84
    go_wp2
    go_ret
    exact ⟨rfl, rfl⟩
  · by_cases h2 : (s.size : Int) < p
    · rw [pl_hi h2]
      go_enter Tryz.func84, Tryz.ntmps84
      go_wp2
      go_ret
      exact ⟨rfl, rfl⟩
    · rw [pl_in h h2]
      go_enter Tryz.func84, Tryz.ntmps84
      go_wp2
      go_ret
      exact ⟨rfl, rfl⟩

theorem fits_any (w : World) (s sub : ByteArray) (p : Nat) (hp : p ≤ s.size) (hs : s.size ≤ 100000) : Calls Tryz.prog 85 #[.string s, .int .i64 p, .string sub] w fun e w' => e = .returned (.bool (decide (p + sub.size ≤ s.size))) ∧ w' = w := by
  go_enter Tryz.func85, Tryz.ntmps85
  go_wp2
  go_ret
  refine ⟨?_, rfl⟩
  show Ending.returned (.bool (decide _)) = _
  congr 2
  rw [decide_eq_decide]
  omega

theorem small_any (w : World) (x : Int) : Calls Tryz.prog 87 #[.int .u8 x] w fun e w' => e = .returned (.int .u8 (low x)) ∧ w' = w := by
  by_cases hx : 65 ≤ x ∧ x ≤ 90
  · rw [show low x = x + 32 by unfold low; rw [if_pos hx]]
    obtain ⟨d1, d2⟩ := hx
    go_enter Tryz.func87, Tryz.ntmps87
    go_wp2
    go_ret
    exact ⟨rfl, rfl⟩
  · rw [show low x = x by unfold low; rw [if_neg hx]]
    rcases (show ¬ 65 ≤ x ∨ (65 ≤ x ∧ ¬ x ≤ 90) by omega) with d1 | ⟨d1, d2⟩
    all_goals
      clear hx
      go_enter Tryz.func87, Tryz.ntmps87
      go_wp2
      go_ret
      exact ⟨rfl, rfl⟩

theorem bspace_any (w : World) (x : Int) (h : 0 ≤ x ∧ x < 256) : Calls Tryz.prog 101 #[.int .u8 x] w fun e w' => e = .returned (.bool (isSp x)) ∧ w' = w := by
  obtain ⟨h1, h2⟩ := h
  have HS := space_any w x
  go_enter Tryz.func101, Tryz.ntmps101
  go_wp2_with fail
  refine HS.mono ?_
  rintro e w1 ⟨rfl, rfl⟩
  clear HS
  go_wp2
  go_ret
  exact ⟨rfl, rfl⟩

theorem ends_any (w : World) (x : Int) (h : 0 ≤ x ∧ x < 256) : Calls Tryz.prog 86 #[.int .u8 x] w fun e w' => e = .returned (.bool (enN x)) ∧ w' = w := by
  have HS := bspace_any w x h
  by_cases h1 : x = 47
  · subst h1
    clear HS
    go_enter Tryz.func86, Tryz.ntmps86
    go_wp2
    go_ret
    exact ⟨rfl, rfl⟩
  by_cases h2 : x = 62
  · subst h2
    clear HS
    go_enter Tryz.func86, Tryz.ntmps86
    go_wp2
    go_ret
    exact ⟨rfl, rfl⟩
  · have b1 : (x == 47) = false := by simpa using h1
    have b2 : (x == 62) = false := by simpa using h2
    rw [show enN x = isSp x by unfold enN; rw [b1, b2]; simp]
    clear h1 h2
    go_enter Tryz.func86, Tryz.ntmps86
    go_wp2_with fail
    refine HS.mono ?_
    rintro e w1 ⟨rfl, rfl⟩
    clear HS
    go_wp2
    go_ret
    exact ⟨rfl, rfl⟩

theorem ref_place_any (w : World) (s : ByteArray) (p : Int) : Calls Tryz.prog 73 #[.string s, .int .i64 p] w fun e w' => e = .returned (.int .i64 (pl s.size p : Int)) ∧ w' = w := by
  by_cases h : p < 0
  · rw [pl_lo h]
    go_enter Tryz.func73, Tryz.ntmps73
    go_wp2
    go_ret
    exact ⟨rfl, rfl⟩
  · by_cases h2 : (s.size : Int) < p
    · rw [pl_hi h2]
      go_enter Tryz.func73, Tryz.ntmps73
      go_wp2
      go_ret
      exact ⟨rfl, rfl⟩
    · rw [pl_in h h2]
      go_enter Tryz.func73, Tryz.ntmps73
      go_wp2
      go_ret
      exact ⟨rfl, rfl⟩

/-- No more of a text than m bytes. -/
theorem cut_any (w : World) (s : ByteArray) (m : Nat) (hm : m ≤ 1000) : Calls Tryz.prog 8 #[.string s, .int .i64 (m : Int)] w fun e w' => e = .returned (.string (if m < s.size then s.extract 0 m else s)) ∧ w' = w := by
  by_cases h : m < s.size
  · rw [if_pos h]
    go_enter Tryz.func8, Tryz.ntmps8
    go_wp2
    go_ret
    exact ⟨rfl, rfl⟩
  · rw [if_neg h]
    go_enter Tryz.func8, Tryz.ntmps8
    go_wp2
    go_ret
    exact ⟨rfl, rfl⟩

theorem cut_size (s : ByteArray) (m : Nat) : (if m < s.size then s.extract 0 m else s).size ≤ m := by
  split
  · simp
    omega
  · omega

/-- A number brought into the range from 0 to m. -/
def wi (n : Int) (m : Nat) : Nat := (if n.tmod ((m : Int) + 1) < 0 then n.tmod ((m : Int) + 1) + ((m : Int) + 1) else n.tmod ((m : Int) + 1)).toNat

theorem wi_le (n : Int) (m : Nat) : wi n m ≤ m := by
  have t1 : n.tmod ((m : Int) + 1) < (m : Int) + 1 := Int.tmod_lt_of_pos n (by omega)
  have t2 : -((m : Int) + 1) < n.tmod ((m : Int) + 1) := Int.lt_tmod_of_pos n (by omega)
  unfold wi
  split <;> omega

/-- Within, of any range of places. -/
theorem within_any (w : World) (n : Int) (lo hi : Nat) (hl : lo ≤ hi) (hm : hi ≤ 1099511627776) : Calls Tryz.prog 22 #[.int .i64 n, .int .i64 (lo : Int), .int .i64 (hi : Int)] w fun e w' => e = .returned (.int .i64 ((lo + wi n (hi - lo) : Nat) : Int)) ∧ w' = w := by
  have e1 : (hi : Int) - (lo : Int) + 1 = ((hi - lo : Nat) : Int) + 1 := by omega
  have t1 : n.tmod ((hi : Int) - lo + 1) < (hi : Int) - lo + 1 := Int.tmod_lt_of_pos n (by omega)
  have t2 : -((hi : Int) - lo + 1) < n.tmod ((hi : Int) - lo + 1) := Int.lt_tmod_of_pos n (by omega)
  by_cases h : n.tmod ((hi : Int) - lo + 1) < 0
  · have hw : ((lo + wi n (hi - lo) : Nat) : Int) = hi + 1 + n.tmod ((hi : Int) - lo + 1) := by
      unfold wi
      rw [← e1, if_pos h]
      omega
    rw [hw]
    clear hw e1
    go_enter Tryz.func22, Tryz.ntmps22
    go_wp2
    go_ret
    refine ⟨?_, rfl⟩
    show Ending.returned (.int .i64 _) = _
    congr 2
    omega
  · have hw : ((lo + wi n (hi - lo) : Nat) : Int) = lo + n.tmod ((hi : Int) - lo + 1) := by
      unfold wi
      rw [← e1, if_neg h]
      omega
    rw [hw]
    clear hw e1
    go_enter Tryz.func22, Tryz.ntmps22
    go_wp2
    go_ret
    exact ⟨rfl, rfl⟩

end Go.Proofs.YtcfaejbbjmjgpaaGreatDoor

/-
  Beginnings of a pattern that stand at an end: what Find keeps as it goes. No program.
-/
namespace Go.Proofs.YtcfaejbbjmjgpaaGreatDoor

/-- The first j of P are the last j of P's first q. -/
def Suf (P : Nat → Int) (q j : Nat) : Prop := j ≤ q ∧ ∀ i, i < j → P i = P (q - j + i)

theorem Suf.refl (P : Nat → Int) (q : Nat) : Suf P q q := ⟨Nat.le_refl _, fun i _ => by rw [Nat.sub_self, Nat.zero_add]⟩
theorem Suf.zero (P : Nat → Int) (q : Nat) : Suf P q 0 := ⟨Nat.zero_le _, fun i h => by omega⟩
theorem Suf.trans {P : Nat → Int} {a b c : Nat} (h : Suf P a b) (k : Suf P b c) : Suf P a c := by
  obtain ⟨h1, h2⟩ := h
  obtain ⟨k1, k2⟩ := k
  refine ⟨by omega, fun i hi => ?_⟩
  rw [k2 i hi, h2 (b - c + i) (by omega)]
  congr 1
  omega
theorem Suf.down {P : Nat → Int} {a b c : Nat} (h : Suf P a b) (k : Suf P a c) (hc : c ≤ b) : Suf P b c := by
  obtain ⟨h1, h2⟩ := h
  obtain ⟨k1, k2⟩ := k
  refine ⟨hc, fun i hi => ?_⟩
  rw [k2 i hi, h2 (b - c + i) (by omega)]
  congr 1
  omega

/-- f is the longest shorter beginning that the first k end in. -/
structure Fl (P : Nat → Int) (k f : Nat) : Prop where
  lt : f < k
  suf : Suf P k f
  most : ∀ j, j < k → Suf P k j → j ≤ f

/-- r of P stand at the end, where q did and x is the next; no more do. -/
structure Nx (P : Nat → Int) (q : Nat) (x : Int) (r : Nat) : Prop where
  is : r = 0 ∨ ∃ r', r = r' + 1 ∧ Suf P q r' ∧ P r' = x
  most : ∀ j, Suf P q j → P j = x → j + 1 ≤ r

/-- What longer holds in each round. -/
structure Mid (P : Nat → Int) (q : Nat) (x : Int) (h : Nat) : Prop where
  suf : Suf P q h
  most : ∀ j, Suf P q j → P j = x → j ≤ h

theorem Mid.start (P : Nat → Int) (q : Nat) (x : Int) : Mid P q x q := ⟨Suf.refl P q, fun _ h _ => h.1⟩

theorem Mid.step {P : Nat → Int} {q : Nat} {x : Int} {h f : Nat} (m : Mid P q x h) (hx : ¬ P h = x) (hf : Fl P h f) : Mid P q x f := by
  refine ⟨m.suf.trans hf.suf, fun j hj hp => ?_⟩
  have h1 := m.most j hj hp
  have h2 : j ≠ h := fun e => hx (e ▸ hp)
  exact hf.most j (by omega) (m.suf.down hj h1)

theorem Mid.yes {P : Nat → Int} {q : Nat} {x : Int} {h : Nat} (m : Mid P q x h) (hx : P h = x) : Nx P q x (h + 1) :=
  ⟨Or.inr ⟨h, rfl, m.suf, hx⟩, fun j hj hp => by have := m.most j hj hp; omega⟩

theorem Mid.no {P : Nat → Int} {q : Nat} {x : Int} (m : Mid P q x 0) (hx : ¬ P 0 = x) : Nx P q x 0 :=
  ⟨Or.inl rfl, fun j hj hp => by
    have h := m.most j hj hp
    obtain rfl : j = 0 := by omega
    exact absurd hp hx⟩

theorem Nx.le {P : Nat → Int} {q : Nat} {x : Int} {r : Nat} (h : Nx P q x r) : r ≤ q + 1 := by
  rcases h.is with rfl | ⟨r', rfl, h1, _⟩
  · omega
  · have := h1.1
    omega

theorem Fl.one (P : Nat → Int) : Fl P 1 0 := ⟨by omega, Suf.zero P 1, fun j h _ => by omega⟩

theorem Fl.next {P : Nat → Int} {i q r : Nat} (h : Fl P i q) (n : Nx P q (P i) r) : Fl P (i + 1) r := by
  have hl := h.lt
  have hr := n.le
  refine ⟨by omega, ?_, fun j hj hs => ?_⟩
  · rcases n.is with rfl | ⟨r', rfl, h1, h2⟩
    · exact Suf.zero _ _
    · obtain ⟨g1, g2⟩ := h.suf.trans h1
      refine ⟨by omega, fun t ht => ?_⟩
      by_cases he : t = r'
      · rw [he, h2]
        congr 1
        omega
      · rw [g2 t (by omega)]
        congr 1
        omega
  · cases j with
    | zero => omega
    | succ j' =>
      obtain ⟨g1, g2⟩ := hs
      have hs' : Suf P i j' := ⟨by omega, fun t ht => by rw [g2 t (by omega)]; congr 1; omega⟩
      have hp : P j' = P i := by rw [g2 j' (by omega)]; congr 1; omega
      have hq : j' ≤ q := h.most j' (by omega) hs'
      exact n.most j' (h.suf.down hs' hq) hp

/-- The first q of sub stand in s just ahead of a, and not ahead of p; no more of it do. -/
structure Sx (s sub : ByteArray) (p a q : Nat) : Prop where
  fit : p + q ≤ a
  is : ∀ i, i < q → bt sub i = bt s (a - q + i)

/-- What Find holds in each round. -/
structure Fi (s sub : ByteArray) (p a q : Nat) : Prop where
  sx : Sx s sub p a q
  lt : q < sub.size
  most : ∀ j, j ≤ sub.size → Sx s sub p a j → j ≤ q
  no : ∀ i, p ≤ i → i + sub.size ≤ a → st s i sub = false

theorem Fi.start {s sub : ByteArray} {p : Nat} (h : 0 < sub.size) : Fi s sub p p 0 :=
  ⟨⟨by omega, fun i hi => by omega⟩, h, fun j _ hj => by have := hj.fit; omega, fun i h1 h2 => by omega⟩

theorem Sx.suf {s sub : ByteArray} {p a q j : Nat} (h : Sx s sub p a q) (k : Sx s sub p a j) (hj : j ≤ q) : Suf (bt sub) q j := by
  refine ⟨hj, fun i hi => ?_⟩
  have hf := h.fit
  rw [k.is i hi, h.is (q - j + i) (by omega)]
  congr 1
  omega

theorem Sx.of_suf {s sub : ByteArray} {p a q j : Nat} (h : Sx s sub p a q) (k : Suf (bt sub) q j) : Sx s sub p a j := by
  obtain ⟨k1, k2⟩ := k
  have hf := h.fit
  refine ⟨by omega, fun i hi => ?_⟩
  rw [k2 i hi, h.is (q - j + i) (by omega)]
  congr 1
  omega

theorem Sx.more {s sub : ByteArray} {p a j : Nat} (h : Sx s sub p a j) (hx : bt sub j = bt s a) : Sx s sub p (a + 1) (j + 1) := by
  have hf := h.fit
  refine ⟨by omega, fun i hi => ?_⟩
  by_cases he : i = j
  · rw [he, hx]
    congr 1
    omega
  · rw [h.is i (by omega)]
    congr 1
    omega

theorem Sx.less {s sub : ByteArray} {p a j : Nat} (h : Sx s sub p (a + 1) (j + 1)) : Sx s sub p a j ∧ bt sub j = bt s a := by
  have hf := h.fit
  refine ⟨⟨by omega, fun i hi => ?_⟩, ?_⟩
  · rw [h.is i (by omega)]
    congr 1
    omega
  · rw [h.is j (by omega)]
    congr 1
    omega

theorem Fi.sx_next {s sub : ByteArray} {p a q r : Nat} (h : Fi s sub p a q) (hp : p ≤ a) (n : Nx (bt sub) q (bt s a) r) : Sx s sub p (a + 1) r := by
  rcases n.is with rfl | ⟨r', rfl, h1, h2⟩
  · exact ⟨by omega, fun i hi => by omega⟩
  · exact (h.sx.of_suf h1).more h2

theorem Fi.most_next {s sub : ByteArray} {p a q r : Nat} (h : Fi s sub p a q) (n : Nx (bt sub) q (bt s a) r) (j : Nat) (hj : j ≤ sub.size) (hs : Sx s sub p (a + 1) j) : j ≤ r := by
  cases j with
  | zero => omega
  | succ j' =>
    obtain ⟨h1, h2⟩ := hs.less
    have hq := h.most j' (by omega) h1
    exact n.most j' (h.sx.suf h1 hq) h2

theorem st_sx {s sub : ByteArray} {p i : Nat} (hp : p ≤ i) (h : st s i sub = true) : Sx s sub p (i + sub.size) sub.size := by
  obtain ⟨h1, h2⟩ := of_decide_eq_true h
  refine ⟨by omega, fun j hj => ?_⟩
  rw [← h2 j hj]
  congr 1
  omega

theorem Fi.next {s sub : ByteArray} {p a q r : Nat} (h : Fi s sub p a q) (hp : p ≤ a) (n : Nx (bt sub) q (bt s a) r) (hr : ¬ r = sub.size) : Fi s sub p (a + 1) r := by
  have hl := n.le
  have hq := h.lt
  refine ⟨h.sx_next hp n, by omega, h.most_next n, fun i h1 h2 => ?_⟩
  by_cases he : i + sub.size = a + 1
  · cases hst : st s i sub with
    | false => rfl
    | true =>
      have := h.most_next n sub.size (Nat.le_refl _) (he ▸ st_sx h1 hst)
      omega
  · exact h.no i h1 (by omega)

theorem Fi.found {s sub : ByteArray} {p a q r : Nat} (h : Fi s sub p a q) (hp : p ≤ a) (ha : a < s.size) (n : Nx (bt sub) q (bt s a) r) (hr : r = sub.size) : findF s sub p = a + 1 - sub.size := by
  have hx := h.sx_next hp n
  subst hr
  have hf := hx.fit
  refine fs_eq ⟨by omega, by omega, fun j h1 h2 => h.no j h1 (by omega), fun _ => st_true (by omega) fun j hj => ?_⟩
  exact (hx.is j hj).symm

theorem Fi.none {s sub : ByteArray} {p q : Nat} (h : Fi s sub p s.size q) (hp : p ≤ s.size) : findF s sub p = s.size := by
  refine fs_eq ⟨hp, Nat.le_refl _, fun j h1 h2 => ?_, fun h => by omega⟩
  by_cases hj : j + sub.size ≤ s.size
  · exact h.no j h1 hj
  · exact st_long hj

theorem find_long {s sub : ByteArray} {p : Nat} (hp : p ≤ s.size) (h : ¬ p + sub.size ≤ s.size) : findF s sub p = s.size :=
  fs_eq ⟨hp, Nat.le_refl _, fun j h1 h2 => st_long (by omega), fun h => by omega⟩

theorem find_empty {s sub : ByteArray} {p : Nat} (hp : p ≤ s.size) (h : sub.size = 0) : findF s sub p = p :=
  fs_eq ⟨Nat.le_refl _, hp, fun j h1 h2 => by omega, fun _ => st_true (by omega) fun j hj => by omega⟩

end Go.Proofs.YtcfaejbbjmjgpaaGreatDoor

/-
  Names of characters, as lists; what the program and the document find of them is the same: no program is spoken of here.
-/
namespace Go.Proofs.YtcfaejbbjmjgpaaGreatDoor
open Go.RowKit Utf

/-- The names, rising. -/
def NM : List ByteArray := [⟨#[65, 77, 80]⟩, ⟨#[65, 77, 80, 59]⟩, ⟨#[67, 79, 80, 89]⟩, ⟨#[67, 79, 80, 89, 59]⟩, ⟨#[71, 84]⟩, ⟨#[71, 84, 59]⟩, ⟨#[76, 84]⟩, ⟨#[76, 84, 59]⟩, ⟨#[78, 111, 116, 69, 113, 117, 97, 108, 84, 105, 108, 100, 101, 59]⟩, ⟨#[81, 85, 79, 84]⟩, ⟨#[81, 85, 79, 84, 59]⟩, ⟨#[97, 109, 112]⟩, ⟨#[97, 109, 112, 59]⟩, ⟨#[97, 112, 111, 115, 59]⟩, ⟨#[99, 101, 110, 116, 59]⟩, ⟨#[99, 111, 112, 121]⟩, ⟨#[99, 111, 112, 121, 59]⟩, ⟨#[100, 101, 103]⟩, ⟨#[100, 101, 103, 59]⟩, ⟨#[101, 97, 99, 117, 116, 101]⟩, ⟨#[101, 97, 99, 117, 116, 101, 59]⟩, ⟨#[103, 116]⟩, ⟨#[103, 116, 59]⟩, ⟨#[104, 101, 108, 108, 105, 112, 59]⟩, ⟨#[108, 97, 113, 117, 111]⟩, ⟨#[108, 97, 113, 117, 111, 59]⟩, ⟨#[108, 116]⟩, ⟨#[108, 116, 59]⟩, ⟨#[109, 100, 97, 115, 104, 59]⟩, ⟨#[110, 98, 115, 112]⟩, ⟨#[110, 98, 115, 112, 59]⟩, ⟨#[110, 100, 97, 115, 104, 59]⟩, ⟨#[110, 111, 116]⟩, ⟨#[110, 111, 116, 59]⟩, ⟨#[110, 111, 116, 105, 110, 59]⟩, ⟨#[111, 117, 109, 108]⟩, ⟨#[111, 117, 109, 108, 59]⟩, ⟨#[113, 117, 111, 116]⟩, ⟨#[113, 117, 111, 116, 59]⟩, ⟨#[114, 97, 113, 117, 111]⟩, ⟨#[114, 97, 113, 117, 111, 59]⟩, ⟨#[114, 101, 103]⟩, ⟨#[114, 101, 103, 59]⟩, ⟨#[115, 122, 108, 105, 103]⟩, ⟨#[115, 122, 108, 105, 103, 59]⟩, ⟨#[116, 105, 109, 101, 115]⟩, ⟨#[116, 105, 109, 101, 115, 59]⟩, ⟨#[117, 117, 109, 108]⟩, ⟨#[117, 117, 109, 108, 59]⟩, ⟨#[121, 101, 110]⟩, ⟨#[121, 101, 110, 59]⟩]
/-- What each stands for. -/
def MN : List ByteArray := [⟨#[38]⟩, ⟨#[38]⟩, ⟨#[194, 169]⟩, ⟨#[194, 169]⟩, ⟨#[62]⟩, ⟨#[62]⟩, ⟨#[60]⟩, ⟨#[60]⟩, ⟨#[226, 137, 130, 204, 184]⟩, ⟨#[34]⟩, ⟨#[34]⟩, ⟨#[38]⟩, ⟨#[38]⟩, ⟨#[39]⟩, ⟨#[194, 162]⟩, ⟨#[194, 169]⟩, ⟨#[194, 169]⟩, ⟨#[194, 176]⟩, ⟨#[194, 176]⟩, ⟨#[195, 169]⟩, ⟨#[195, 169]⟩, ⟨#[62]⟩, ⟨#[62]⟩, ⟨#[226, 128, 166]⟩, ⟨#[194, 171]⟩, ⟨#[194, 171]⟩, ⟨#[60]⟩, ⟨#[60]⟩, ⟨#[226, 128, 148]⟩, ⟨#[194, 160]⟩, ⟨#[194, 160]⟩, ⟨#[226, 128, 147]⟩, ⟨#[194, 172]⟩, ⟨#[194, 172]⟩, ⟨#[226, 136, 137]⟩, ⟨#[195, 182]⟩, ⟨#[195, 182]⟩, ⟨#[34]⟩, ⟨#[34]⟩, ⟨#[194, 187]⟩, ⟨#[194, 187]⟩, ⟨#[194, 174]⟩, ⟨#[194, 174]⟩, ⟨#[195, 159]⟩, ⟨#[195, 159]⟩, ⟨#[195, 151]⟩, ⟨#[195, 151]⟩, ⟨#[195, 188]⟩, ⟨#[195, 188]⟩, ⟨#[194, 165]⟩, ⟨#[194, 165]⟩]
/-- The document's table: each name, and what it stands for. -/
def TB : List ByteArray := [⟨#[65, 77, 80]⟩, ⟨#[38]⟩, ⟨#[65, 77, 80, 59]⟩, ⟨#[38]⟩, ⟨#[67, 79, 80, 89]⟩, ⟨#[194, 169]⟩, ⟨#[67, 79, 80, 89, 59]⟩, ⟨#[194, 169]⟩, ⟨#[71, 84]⟩, ⟨#[62]⟩, ⟨#[71, 84, 59]⟩, ⟨#[62]⟩, ⟨#[76, 84]⟩, ⟨#[60]⟩, ⟨#[76, 84, 59]⟩, ⟨#[60]⟩, ⟨#[78, 111, 116, 69, 113, 117, 97, 108, 84, 105, 108, 100, 101, 59]⟩, ⟨#[226, 137, 130, 204, 184]⟩, ⟨#[81, 85, 79, 84]⟩, ⟨#[34]⟩, ⟨#[81, 85, 79, 84, 59]⟩, ⟨#[34]⟩, ⟨#[97, 109, 112]⟩, ⟨#[38]⟩, ⟨#[97, 109, 112, 59]⟩, ⟨#[38]⟩, ⟨#[97, 112, 111, 115, 59]⟩, ⟨#[39]⟩, ⟨#[99, 101, 110, 116, 59]⟩, ⟨#[194, 162]⟩, ⟨#[99, 111, 112, 121]⟩, ⟨#[194, 169]⟩, ⟨#[99, 111, 112, 121, 59]⟩, ⟨#[194, 169]⟩, ⟨#[100, 101, 103]⟩, ⟨#[194, 176]⟩, ⟨#[100, 101, 103, 59]⟩, ⟨#[194, 176]⟩, ⟨#[101, 97, 99, 117, 116, 101]⟩, ⟨#[195, 169]⟩, ⟨#[101, 97, 99, 117, 116, 101, 59]⟩, ⟨#[195, 169]⟩, ⟨#[103, 116]⟩, ⟨#[62]⟩, ⟨#[103, 116, 59]⟩, ⟨#[62]⟩, ⟨#[104, 101, 108, 108, 105, 112, 59]⟩, ⟨#[226, 128, 166]⟩, ⟨#[108, 97, 113, 117, 111]⟩, ⟨#[194, 171]⟩, ⟨#[108, 97, 113, 117, 111, 59]⟩, ⟨#[194, 171]⟩, ⟨#[108, 116]⟩, ⟨#[60]⟩, ⟨#[108, 116, 59]⟩, ⟨#[60]⟩, ⟨#[109, 100, 97, 115, 104, 59]⟩, ⟨#[226, 128, 148]⟩, ⟨#[110, 98, 115, 112]⟩, ⟨#[194, 160]⟩, ⟨#[110, 98, 115, 112, 59]⟩, ⟨#[194, 160]⟩, ⟨#[110, 100, 97, 115, 104, 59]⟩, ⟨#[226, 128, 147]⟩, ⟨#[110, 111, 116]⟩, ⟨#[194, 172]⟩, ⟨#[110, 111, 116, 59]⟩, ⟨#[194, 172]⟩, ⟨#[110, 111, 116, 105, 110, 59]⟩, ⟨#[226, 136, 137]⟩, ⟨#[111, 117, 109, 108]⟩, ⟨#[195, 182]⟩, ⟨#[111, 117, 109, 108, 59]⟩, ⟨#[195, 182]⟩, ⟨#[113, 117, 111, 116]⟩, ⟨#[34]⟩, ⟨#[113, 117, 111, 116, 59]⟩, ⟨#[34]⟩, ⟨#[114, 97, 113, 117, 111]⟩, ⟨#[194, 187]⟩, ⟨#[114, 97, 113, 117, 111, 59]⟩, ⟨#[194, 187]⟩, ⟨#[114, 101, 103]⟩, ⟨#[194, 174]⟩, ⟨#[114, 101, 103, 59]⟩, ⟨#[194, 174]⟩, ⟨#[115, 122, 108, 105, 103]⟩, ⟨#[195, 159]⟩, ⟨#[115, 122, 108, 105, 103, 59]⟩, ⟨#[195, 159]⟩, ⟨#[116, 105, 109, 101, 115]⟩, ⟨#[195, 151]⟩, ⟨#[116, 105, 109, 101, 115, 59]⟩, ⟨#[195, 151]⟩, ⟨#[117, 117, 109, 108]⟩, ⟨#[195, 188]⟩, ⟨#[117, 117, 109, 108, 59]⟩, ⟨#[195, 188]⟩, ⟨#[121, 101, 110]⟩, ⟨#[194, 165]⟩, ⟨#[121, 101, 110, 59]⟩, ⟨#[194, 165]⟩]
/-- What stands for the numbers from 128 to 159. -/
def INS : List Int := [8364, 129, 8218, 402, 8222, 8230, 8224, 8225, 710, 8240, 352, 8249, 338, 141, 381, 143, 144, 8216, 8217, 8220, 8221, 8226, 8211, 8212, 732, 8482, 353, 8250, 339, 157, 382, 376]
/-- The document's list of these: 0 where a number stands for itself. -/
def INZ : List Int := [8364, 0, 8218, 402, 8222, 8230, 8224, 8225, 710, 8240, 352, 8249, 338, 0, 381, 0, 0, 8216, 8217, 8220, 8221, 8226, 8211, 8212, 732, 8482, 353, 8250, 339, 0, 382, 376]

/-- The text x is the beginning of s. -/
def pre (x s : ByteArray) : Bool := decide (x.size ≤ s.size) && ((s.extract 0 x.size).toList == x.toList)
/-- The text s stands ahead of x. -/
def less (s x : ByteArray) : Bool := Op.bytesLess s.toList x.toList

theorem pre_iff (x s : ByteArray) : pre x s = true ↔ x.data.toList <+: s.data.toList := by
  unfold pre
  rw [ByteArray.toList_eq, ByteArray.toList_eq, Bool.and_eq_true, decide_eq_true_eq, beq_iff_eq]
  have he : (s.extract 0 x.size).data.toList = s.data.toList.take x.size := by simp
  rw [he]
  have hl : x.size = x.data.toList.length := by simp
  constructor
  · rintro ⟨_, h⟩
    rw [← h]
    exact List.take_prefix _ _
  · intro h
    refine ⟨?_, ?_⟩
    · have := h.length_le
      simpa using this
    · rw [hl]
      exact (List.prefix_iff_eq_take.1 h).symm

theorem not_less_prefix : ∀ {x s : List UInt8}, x <+: s → Op.bytesLess s x = false
  | [], s, _ => by cases s <;> rfl
  | a :: x, [], h => by simp at h
  | a :: x, b :: s, h => by
    rw [List.cons_prefix_cons] at h
    obtain ⟨rfl, h⟩ := h
    simp [Op.bytesLess, not_less_prefix h]

theorem less_trans : ∀ {x y z : List UInt8}, Op.bytesLess x y = true → Op.bytesLess y z = true → Op.bytesLess x z = true
  | _, [], _, h, _ => by simp [Op.bytesLess] at h
  | _, _ :: _, [], _, h => by simp [Op.bytesLess] at h
  | [], _ :: _, _ :: _, _, _ => by simp [Op.bytesLess]
  | a :: x, b :: y, c :: z, h, k => by
    simp only [Op.bytesLess, Bool.or_eq_true, decide_eq_true_eq, Bool.and_eq_true, beq_iff_eq] at h k ⊢
    rcases h with h | ⟨rfl, h⟩
    · rcases k with k | ⟨rfl, k⟩
      · exact Or.inl (UInt8.lt_trans h k)
      · exact Or.inl h
    · rcases k with k | ⟨rfl, k⟩
      · exact Or.inl k
      · exact Or.inr ⟨rfl, less_trans h k⟩

theorem pre_not_less {x s : ByteArray} (h : pre x s = true) : less s x = false := by
  rw [pre_iff] at h
  unfold less
  rw [ByteArray.toList_eq, ByteArray.toList_eq]
  exact not_less_prefix h

theorem less_tr {x y z : ByteArray} (h : less x y = true) (k : less y z = true) : less x z = true := less_trans h k

/-- Of two texts that s begins with the one ahead is the shorter one. -/
theorem pre_less {x y s : ByteArray} (h : pre x s = true) (k : pre y s = true) (hl : less x y = true) : x.size < y.size := by
  rw [pre_iff] at h k
  have hl' := hl
  unfold less at hl'
  rw [ByteArray.toList_eq, ByteArray.toList_eq] at hl'
  rcases List.prefix_or_prefix_of_prefix h k with h1 | h1
  · have h2 := h1.length_le
    by_cases he : x.data.toList.length = y.data.toList.length
    · have := h1.eq_of_length he
      rw [this, not_less_prefix (List.prefix_refl _)] at hl'
      cases hl'
    · simp at he h2
      have e1 : x.size = x.data.size := rfl
      have e2 : y.size = y.data.size := rfl
      omega
  · rw [not_less_prefix h1] at hl'
    cases hl'

/-- The program's search, from some name on: what was found last stands in b. -/
def pn (s : ByteArray) : List ByteArray → ByteArray → ByteArray
  | [], b => b
  | x :: r, b => if less s x then b else pn s r (if pre x s then x else b)

/-- The document's. -/
def rn (s : ByteArray) : List (ByteArray × ByteArray) → ByteArray × Nat → ByteArray × Nat
  | [], p => p
  | x :: r, p => rn s r (if p.2 < x.1.size ∧ pre x.1 s = true then (x.2, x.1.size) else p)

/-- What a name stands for. -/
def mean (x : ByteArray) : ByteArray := ((NM.zip MN).lookup x).getD ⟨#[]⟩

theorem rn_none (s : ByteArray) : ∀ (l : List (ByteArray × ByteArray)) (p : ByteArray × Nat), (∀ x, x ∈ l → pre x.1 s = false) → rn s l p = p
  | [], _, _ => rfl
  | x :: r, p, h => by
    rw [rn, if_neg (by rw [h x (List.mem_cons_self)]; simp)]
    exact rn_none s r p (fun y hy => h y (List.mem_cons_of_mem _ hy))

theorem rn_pn (s : ByteArray) : ∀ (l : List (ByteArray × ByteArray)) (b : ByteArray), (l.map Prod.fst).Pairwise (fun x y => less x y = true) → (∀ x, x ∈ l → mean x.1 = x.2) → pre b s = true → (∀ x, x ∈ l → less b x.1 = true) →
    rn s l (mean b, b.size) = (mean (pn s (l.map Prod.fst) b), (pn s (l.map Prod.fst) b).size)
  | [], _, _, _, _, _ => rfl
  | x :: r, b, hs, hm, hb, hl => by
    rw [List.map_cons, List.pairwise_cons] at hs
    rw [List.map_cons, pn]
    by_cases h1 : less s x.1 = true
    · rw [if_pos h1, rn_none]
      intro y hy
      rcases List.mem_cons.1 hy with rfl | hy
      · cases hp : pre y.1 s
        · rfl
        · rw [pre_not_less hp] at h1
          cases h1
      · cases hp : pre y.1 s
        · rfl
        · have := less_tr h1 (hs.1 y.1 (List.mem_map_of_mem hy))
          rw [pre_not_less hp] at this
          cases this
    · rw [if_neg h1, rn]
      have hm' := fun y hy => hm y (List.mem_cons_of_mem x hy)
      by_cases h2 : pre x.1 s = true
      · have h3 := pre_less hb h2 (hl x List.mem_cons_self)
        rw [if_pos ⟨h3, h2⟩, if_pos h2, ← hm x List.mem_cons_self]
        exact rn_pn s r x.1 hs.2 hm' h2 (fun y hy => hs.1 y.1 (List.mem_map_of_mem hy))
      · rw [if_neg (fun h => h2 h.2), if_neg h2]
        exact rn_pn s r b hs.2 hm' hb (fun y hy => hl y (List.mem_cons_of_mem _ hy))

/-- What the search finds: a beginning of s, as long as any. -/
theorem pn_longest (s : ByteArray) : ∀ (l : List ByteArray) (b : ByteArray), l.Pairwise (fun x y => less x y = true) → pre b s = true → (∀ x, x ∈ l → less b x = true) →
    pre (pn s l b) s = true ∧ (pn s l b = b ∨ pn s l b ∈ l) ∧ b.size ≤ (pn s l b).size ∧ ∀ x, x ∈ l → pre x s = true → x.size ≤ (pn s l b).size
  | [], _, _, hb, _ => ⟨hb, Or.inl rfl, Nat.le_refl _, fun x hx => by cases hx⟩
  | x :: r, b, hs, hb, hl => by
    rw [List.pairwise_cons] at hs
    rw [pn]
    by_cases h1 : less s x = true
    · rw [if_pos h1]
      refine ⟨hb, Or.inl rfl, Nat.le_refl _, fun y hy hp => ?_⟩
      rcases List.mem_cons.1 hy with rfl | hy
      · rw [pre_not_less hp] at h1
        cases h1
      · have := less_tr h1 (hs.1 y hy)
        rw [pre_not_less hp] at this
        cases this
    · rw [if_neg h1]
      by_cases h2 : pre x s = true
      · rw [if_pos h2]
        have h3 := pre_less hb h2 (hl x List.mem_cons_self)
        obtain ⟨g1, g2, g3, g4⟩ := pn_longest s r x hs.2 h2 hs.1
        refine ⟨g1, Or.inr ?_, by omega, fun y hy hp => ?_⟩
        · rcases g2 with g2 | g2
          · rw [g2]
            exact List.mem_cons_self
          · exact List.mem_cons_of_mem _ g2
        · rcases List.mem_cons.1 hy with rfl | hy
          · exact g3
          · exact g4 y hy hp
      · rw [if_neg h2]
        obtain ⟨g1, g2, g3, g4⟩ := pn_longest s r b hs.2 hb (fun y hy => hl y (List.mem_cons_of_mem _ hy))
        refine ⟨g1, ?_, g3, fun y hy hp => ?_⟩
        · rcases g2 with g2 | g2
          · exact Or.inl g2
          · exact Or.inr (List.mem_cons_of_mem _ g2)
        · rcases List.mem_cons.1 hy with rfl | hy
          · exact absurd hp h2
          · exact g4 y hy hp

theorem nm_len : NM.length = 51 := by kernel_rfl
theorem mn_len : MN.length = 51 := by kernel_rfl
theorem tb_len : TB.length = 102 := by kernel_rfl
theorem ins_len : INS.length = 32 := by kernel_rfl
theorem inz_len : INZ.length = 32 := by kernel_rfl

theorem nm_rising : NM.Pairwise (fun x y => less x y = true) := by decide +kernel
theorem nm_empty : ∀ x, x ∈ NM → less ⟨#[]⟩ x = true := by decide +kernel
theorem nm_size : ∀ x, x ∈ NM → 2 ≤ x.size ∧ x.size ≤ 14 := by decide +kernel
theorem nm_mean : ∀ x, x ∈ NM.zip MN → mean x.1 = x.2 := by decide +kernel
theorem mean_some : ∀ x, x ∈ NM → mean x ≠ ⟨#[]⟩ := by decide +kernel
theorem zip_fst : (NM.zip MN).map Prod.fst = NM := by kernel_rfl
theorem tb_even : ∀ k, k < 51 → TB[2 * k]? = NM[k]? := by decide +kernel
theorem tb_odd : ∀ k, k < 51 → TB[2 * k + 1]? = MN[k]? := by decide +kernel
theorem ins_inz : ∀ k, k < 32 → INS[k]? = some (if INZ.getD k 0 = 0 then 128 + (k : Int) else INZ.getD k 0) := by decide +kernel
theorem ins_good : ∀ k, k < 32 → 128 ≤ INS.getD k 0 ∧ INS.getD k 0 < 55296 := by decide +kernel

/-- The name that is found of s. -/
def found (s : ByteArray) : ByteArray := pn s NM ⟨#[]⟩

theorem pre_empty (s : ByteArray) : pre ⟨#[]⟩ s = true := by
  rw [pre_iff]
  exact List.nil_prefix

theorem both (s : ByteArray) : rn s (NM.zip MN) (⟨#[]⟩, 0) = (mean (found s), (found s).size) := by
  have h := rn_pn s (NM.zip MN) ⟨#[]⟩ (by rw [zip_fst]; exact nm_rising) nm_mean (pre_empty s) (fun x hx => nm_empty x.1 (by rw [← zip_fst]; exact List.mem_map_of_mem hx))
  rw [zip_fst] at h
  exact h

theorem longest (s : ByteArray) : pre (found s) s = true ∧ (found s = ⟨#[]⟩ ∨ found s ∈ NM) ∧ ∀ x, x ∈ NM → pre x s = true → x.size ≤ (found s).size := by
  obtain ⟨h1, h2, _, h4⟩ := pn_longest s NM ⟨#[]⟩ nm_rising (pre_empty s) nm_empty
  exact ⟨h1, h2, h4⟩

end Go.Proofs.YtcfaejbbjmjgpaaGreatDoor

/-
  Texts rune by rune and byte by byte: what a range tells of kinds; the program's and the document's Spaces, of any text.
-/
namespace Go.Proofs.YtcfaejbbjmjgpaaGreatDoor
open Go.RowKit Utf

/-- Are all bytes Spaces? -/
def spaces (s : ByteArray) : Bool := (bytesOf s).all isSp

theorem get_is (s : ByteArray) (j : Nat) (h : j < s.size) : s.get! j = s[j] := get_at s j h

/-- What a range tells: a byte below 128, or some that are not. -/
theorem decode_parts (s : ByteArray) (i : Nat) (h : i < s.size) :
    (((s[i]'h).toNat < 128 ∧ Utf8.decode s i = ((s[i]'h).toNat, 1)) ∨
     (128 ≤ (s[i]'h).toNat ∧ 128 ≤ (Utf8.decode s i).1 ∧ 1 ≤ (Utf8.decode s i).2 ∧ i + (Utf8.decode s i).2 ≤ s.size ∧ ∀ j (hj : j < s.size), i ≤ j → j < i + (Utf8.decode s i).2 → 128 ≤ (s[j]'hj).toNat)) := by
  by_cases h0 : (s[i]'h).toNat < 128
  · left
    refine ⟨h0, ?_⟩
    simp only [Utf8.decode, get_at s i h, h0, if_true]
  · right
    have hh := decode_high s i h (by omega)
    refine ⟨by omega, hh.1, hh.2, ?_⟩
    clear hh
    have key : ∀ k, (decide (i + k < s.size) && ((s.get! (i + k)).toNat / 64 == 2)) = true → i + k < s.size ∧ ∀ hj : i + k < s.size, 128 ≤ (s[i + k]'hj).toNat := fun k hk => by
      simp at hk
      refine ⟨hk.1, fun hj => ?_⟩
      have := hk.2
      rw [get_is s (i + k) hj] at this
      omega
    have one : i + 1 ≤ s.size ∧ ∀ j (hj : j < s.size), i ≤ j → j < i + 1 → 128 ≤ (s[j]'hj).toNat := ⟨by omega, fun j hj a b => by
      obtain rfl : j = i := by omega
      omega⟩
    simp only [Utf8.decode, get_at s i h, h0, if_false]
    split
    · rename_i hc
      simp only [Bool.and_eq_true] at hc
      have k1 := key 1 (by simpa using hc.2)
      split
      · refine ⟨by omega, fun j hj a b => ?_⟩
        rcases (show j = i ∨ j = i + 1 by simp only [] at b; omega) with rfl | rfl
        · omega
        · exact k1.2 hj
      · exact one
    split
    · rename_i hc
      simp only [Bool.and_eq_true] at hc
      have k1 := key 1 (by simpa using hc.1.2)
      have k2 := key 2 (by simpa using hc.2)
      split
      · refine ⟨by omega, fun j hj a b => ?_⟩
        rcases (show j = i ∨ j = i + 1 ∨ j = i + 2 by simp only [] at b; omega) with rfl | rfl | rfl
        · omega
        · exact k1.2 hj
        · exact k2.2 hj
      · exact one
    split
    · rename_i hc
      simp only [Bool.and_eq_true] at hc
      have k1 := key 1 (by simpa using hc.1.1.2)
      have k2 := key 2 (by simpa using hc.1.2)
      have k3 := key 3 (by simpa using hc.2)
      split
      · refine ⟨by omega, fun j hj a b => ?_⟩
        rcases (show j = i ∨ j = i + 1 ∨ j = i + 2 ∨ j = i + 3 by simp only [] at b; omega) with rfl | rfl | rfl | rfl
        · omega
        · exact k1.2 hj
        · exact k2.2 hj
        · exact k3.2 hj
      · exact one
    · exact one

theorem bytes_at (s : ByteArray) (j : Nat) (h : j < s.size) (h' : j < (bytesOf s).length) : (bytesOf s)[j] = ((s[j]'h).toNat : Int) := by
  simp [bytesOf]
  rfl

theorem isSp_high {x : Int} (h : 128 ≤ x) : isSp x = false := by
  simp [isSp]
  omega

/-- The kind at a place. -/
def kind (s : ByteArray) (j : Nat) : Bool := isSp ((bytesOf s).getD j 0)

theorem kind_at (s : ByteArray) (j : Nat) (h : j < s.size) : kind s j = isSp ((s[j]'h).toNat : Int) := by
  unfold kind
  rw [List.getD_eq_getElem?_getD, List.getElem?_eq_getElem (by rw [bytes_len]; exact h), Option.getD_some, bytes_at s j h]

/-- What a range tells of kinds: that of the rune is that of each of its bytes. -/
theorem decode_kind (s : ByteArray) (i : Nat) (h : i < s.size) :
    1 ≤ (Utf8.decode s i).2 ∧ i + (Utf8.decode s i).2 ≤ s.size ∧ ∀ j, i ≤ j → j < i + (Utf8.decode s i).2 → kind s j = isSp ((Utf8.decode s i).1 : Int) := by
  rcases decode_parts s i h with ⟨h1, h2⟩ | ⟨h1, h2, h3, h4, h5⟩
  · rw [h2]
    refine ⟨Nat.le_refl _, h, fun j a b => ?_⟩
    obtain rfl : j = i := by simp only [] at b; omega
    exact kind_at s j h
  · refine ⟨h3, h4, fun j a b => ?_⟩
    rw [kind_at s j (by omega), isSp_high (by have := h5 j (by omega) a b; omega), isSp_high (by omega)]

theorem spaces_iff (s : ByteArray) : spaces s = true ↔ ∀ j, j < s.size → kind s j = true := by
  unfold spaces
  rw [List.all_eq_true]
  constructor
  · intro h j hj
    rw [kind_at s j hj]
    exact h _ (by rw [← bytes_at s j hj (by rw [bytes_len]; exact hj)]; exact List.getElem_mem _)
  · intro h x hx
    obtain ⟨j, hj, rfl⟩ := List.getElem_of_mem hx
    rw [bytes_len] at hj
    rw [bytes_at s j hj, ← kind_at]
    exact h j hj

theorem spaces_no (s : ByteArray) (j : Nat) (hj : j < s.size) (h : kind s j = false) : spaces s = false := by
  cases hs : spaces s with
  | false => rfl
  | true =>
    rw [(spaces_iff s).1 hs j hj] at h
    cases h


end Go.Proofs.YtcfaejbbjmjgpaaGreatDoor

/-
  A range over a text, in the midst of other memory: where it stands, and what its next step tells.
-/
namespace Go.Proofs.YtcfaejbbjmjgpaaGreatDoor
open Go.RowKit Utf

/-- The range that lies in block g goes to p. -/
def tick (W : World) (g : Nat) (s : ByteArray) (p : Nat) : World := { W with heap := W.heap.setIfInBounds g (.stringIter s p) }

theorem iter_at {w W : World} {s : ByteArray} {pos : Nat} (k : Kp [] (w.iter s pos) W) : W.heap[w.heap.size]? = some (.stringIter s pos) := by
  rw [k.block w.heap.size (by simp [World.iter]) (by simp)]
  exact World.iter_heap w s pos

theorem iter_pos {w W : World} {s : ByteArray} {pos : Nat} (k : Kp [] (w.iter s pos) W) : W.iterPos w.heap.size = pos := by
  simp [World.iterPos, iter_at k]

theorem iter_kp {w W : World} {s : ByteArray} {pos : Nat} (k : Kp [] (w.iter s pos) W) : Kp [] w W :=
  ((Kp.refl [] w).alloc (.stringIter s pos)).trans k (fun x hx => by simp at hx)

theorem tick_size (W : World) (g : Nat) (s : ByteArray) (p : Nat) : (tick W g s p).heap.size = W.heap.size := by simp [tick]

theorem tick_other (W : World) (g : Nat) (s : ByteArray) (p k : Nat) (h : k ≠ g) : (tick W g s p).heap[k]? = W.heap[k]? := by
  simp only [tick]
  rw [Array.getElem?_setIfInBounds_ne (by omega)]

theorem tick_kp {w W : World} {s : ByteArray} {pos : Nat} (k : Kp [] (w.iter s pos) W) (p : Nat) : Kp [] (w.iter s p) (tick W w.heap.size s p) := by
  have hs := k.size
  have h0 : ∀ q, (w.iter s q).heap.size = w.heap.size + 1 := fun q => by simp [World.iter]
  rw [h0] at hs
  refine ⟨k.os, k.tape, k.output, by rw [h0, tick_size]; exact hs, fun i hi _ => ?_⟩
  rw [h0] at hi
  by_cases he : i = w.heap.size
  · subst he
    rw [World.iter_heap]
    simp only [tick]
    rw [Array.getElem?_setIfInBounds_self]
    simp
    omega
  · rw [tick_other _ _ _ _ _ he, k.block i (by rw [h0]; exact hi) (by simp)]
    simp only [World.iter]
    rw [Below.heap_alloc _ _ _ (by omega), Below.heap_alloc _ _ _ (by omega)]

/-- The next step of a range. -/
theorem next_at {w W : World} {s : ByteArray} {pos : Nat} (k : Kp [] (w.iter s pos) W) (h : pos < s.size) (ty : TypeId) :
    (Instr.next (.pointer (some ⟨w.heap.size, 0, none⟩)) true ty).run Tryz.prog W = .ok (.tuple #[.bool true, .int .i64 pos, .int .i32 (Utf8.decode s pos).1]) (tick W w.heap.size s (pos + (Utf8.decode s pos).2)) := by
  have hg := iter_at k
  simp only [Instr.next, getObj, setObj, Sem.run_bind, Sem.run, hg, Result.andThen, h, if_true]
  simp [goInt, tick]

/-- Its end. -/
theorem next_end {w W : World} {s : ByteArray} {pos : Nat} (k : Kp [] (w.iter s pos) W) (h : ¬ pos < s.size) (ty : TypeId) :
    (Instr.next (.pointer (some ⟨w.heap.size, 0, none⟩)) true ty).run Tryz.prog W = .ok (.tuple #[.bool false]) W := by
  have hg := iter_at k
  simp [Instr.next, getObj, Sem.run, hg, h]

theorem Made.tick {w W : World} {s : ByteArray} {pos : Nat} {e : TypeId} {ao : Option Addr} {n c : Nat} {xs : List Value} (h : Made (w.iter s pos) W e ao n c xs) (p : Nat) : Made (w.iter s p) (tick W w.heap.size s p) e ao n c xs := by
  obtain ⟨h1, h2, h3⟩ := h
  have h0 : ∀ q, (w.iter s q).heap.size = w.heap.size + 1 := fun q => by simp [World.iter]
  refine ⟨?_, tick_kp h2 p, fun k hk => by rw [h0]; have := h3 k hk; rw [h0] at this; exact this⟩
  rcases h1 with h1 | ⟨g, o, cap, cur, hv, hg, r⟩
  · exact Or.inl h1
  · refine Or.inr ⟨g, o, cap, cur, hv, ?_, r⟩
    rw [tick_other, hg]
    have := h3 g (by rw [hv]; simp [blk])
    rw [h0] at this
    omega

/-- What was read ahead of a range is read in it. -/
theorem Rb.tick {w W : World} {s : ByteArray} {pos : Nat} {ao : Option Addr} {n c : Nat} {xs : List Value} (h : Rb W ao n c xs) (k : Kp [] (w.iter s pos) W) (p : Nat) : Rb (tick W w.heap.size s p) ao n c xs :=
  h.keep (fun a ha => by
    obtain ⟨u, hu⟩ := ha
    refine World.cell?_of_block (tick_other _ _ _ _ _ (fun he => ?_))
    have hg := iter_at k
    simp [World.cell?, he, hg] at hu)

end Go.Proofs.YtcfaejbbjmjgpaaGreatDoor

/-
  Calls that turn nothing, and what came of a call, seen from further back.
-/
namespace Go.Proofs.YtcfaejbbjmjgpaaGreatDoor
open Go.RowKit Utf

/-- A call that turns nothing. -/
theorem still {f : FuncId} {args : Array Value} {E : Ending} {w : World} (h : Calls Tryz.prog f args w fun e w' => e = E ∧ w' = w) : Calls Tryz.prog f args w fun e w' => e = E ∧ Kp [] w w' :=
  h.mono fun _ _ x => ⟨x.1, by rw [x.2]; exact Kp.refl _ _⟩

/-- What came of a call, seen from further back. -/
theorem from_back {f : FuncId} {args : Array Value} {E : Ending} {w0 w1 : World} (h : Calls Tryz.prog f args w1 fun e w' => e = E ∧ Kp [] w1 w') (k : Kp [] w0 w1) : Calls Tryz.prog f args w1 fun e w' => e = E ∧ Kp [] w0 w' :=
  h.mono fun _ _ x => ⟨x.1, k.trans x.2 (fun y hy => by simp at hy)⟩

end Go.Proofs.YtcfaejbbjmjgpaaGreatDoor
