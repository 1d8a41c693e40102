/-
  Joined: Six Mem Puz.
-/
import Derived.Test.YtgjkfpmhgidpaaaGreatGP
import Derived.Test.YtgjkfpmhgidpaaaGreatGT
import Derived.Test.YtgjkfpmhgidpaaaGreatGC
import Derived.Lib.ConvBytes

/-
  A node's block: six cells that are written and read at once. No program.
-/
namespace Go.Proofs.YtgjkfpmhgidpaaaGreat
open Go.RowKit
set_option linter.unusedVariables false

/-- Block g holds these cells. -/
def At (w : World) (g : Nat) (cur : Array Value) (e : TypeId) : Prop := w.heap[g]? = some (.cells cur e (0, 0))

theorem At.lt {w : World} {g : Nat} {cur : Array Value} {e : TypeId} (h : At w g cur e) : g < w.heap.size := (Array.getElem?_eq_some_iff.1 h).1

theorem At.kept {w w' : World} {g : Nat} {cur : Array Value} {e : TypeId} {S : List Nat} (h : At w g cur e) (k : Kp S w w') (hg : g ∉ S) : At w' g cur e := by
  unfold At
  rw [k.block g h.lt hg]
  exact h

theorem At.set {w : World} {g : Nat} {cur : Array Value} {e : TypeId} (h : At w g cur e) (o : Nat) (u : Value) : At (w.setCell ⟨g, o, none⟩ u) g (cur.setIfInBounds o u) e := setCell_block h o u

theorem At.new (w : World) (cur : Array Value) (e : TypeId) : At (w.alloc (.cells cur e)) w.heap.size cur e := heap_new w _
theorem At.new' (w : World) (cur : Array Value) (e : TypeId) (n : Nat) (h : n = w.heap.size) : At (w.alloc (.cells cur e)) n cur e := heap_new' w _ n h

theorem At.cell {w : World} {g : Nat} {cur : Array Value} {e : TypeId} (h : At w g cur e) (j : Nat) : w.cell? ⟨g, j, none⟩ = cur[j]? := cell_of h j

theorem At.free {w : World} {g : Nat} {cur : Array Value} {e : TypeId} (h : At w g cur e) (j : Nat) : w.frozen? ⟨g, j, none⟩ = false := frozen_of h j

/-- Six cells are written, from o on. -/
def put6 (w : World) (g o : Nat) (v0 v1 v2 v3 v4 v5 : Value) : World := (((((w.setCell ⟨g, o, none⟩ v0).setCell ⟨g, o + 1, none⟩ v1).setCell ⟨g, o + 2, none⟩ v2).setCell ⟨g, o + 3, none⟩ v3).setCell ⟨g, o + 4, none⟩ v4).setCell ⟨g, o + 5, none⟩ v5

/-- Six cells of a block are written, from its head on. -/
def putZ (w : World) (g : Nat) (v0 v1 v2 v3 v4 v5 : Value) : World := (((((w.setCell ⟨g, 0, none⟩ v0).setCell ⟨g, 1, none⟩ v1).setCell ⟨g, 2, none⟩ v2).setCell ⟨g, 3, none⟩ v3).setCell ⟨g, 4, none⟩ v4).setCell ⟨g, 5, none⟩ v5

theorem Kp.put6 {S : List Nat} {a w : World} (h : Kp S a w) {g : Nat} (hg : g ∈ S ∨ a.heap.size ≤ g) (o : Nat) (v0 v1 v2 v3 v4 v5 : Value) : Kp S a (put6 w g o v0 v1 v2 v3 v4 v5) :=
  (((((h.setCell hg v0).setCell hg v1).setCell hg v2).setCell hg v3).setCell hg v4).setCell hg v5

theorem Kp.putZ {S : List Nat} {a w : World} (h : Kp S a w) {g : Nat} (hg : g ∈ S ∨ a.heap.size ≤ g) (v0 v1 v2 v3 v4 v5 : Value) : Kp S a (putZ w g v0 v1 v2 v3 v4 v5) :=
  (((((h.setCell hg v0).setCell hg v1).setCell hg v2).setCell hg v3).setCell hg v4).setCell hg v5

theorem At.putZ {w : World} {g : Nat} {e : TypeId} {u0 u1 u2 u3 u4 u5 : Value} (h : At w g #[u0, u1, u2, u3, u4, u5] e) (v0 v1 v2 v3 v4 v5 : Value) : At (putZ w g v0 v1 v2 v3 v4 v5) g #[v0, v1, v2, v3, v4, v5] e :=
  (((((h.set 0 v0).set 1 v1).set 2 v2).set 3 v3).set 4 v4).set 5 v5

theorem At.six {w : World} {g : Nat} {e : TypeId} {v0 v1 v2 v3 v4 v5 : Value} (h : At w g #[v0, v1, v2, v3, v4, v5] e) : w.cell? ⟨g, 0, none⟩ = some v0 ∧ w.cell? ⟨g, 1, none⟩ = some v1 ∧ w.cell? ⟨g, 2, none⟩ = some v2 ∧ w.cell? ⟨g, 3, none⟩ = some v3 ∧ w.cell? ⟨g, 4, none⟩ = some v4 ∧ w.cell? ⟨g, 5, none⟩ = some v5 :=
  ⟨h.cell 0, h.cell 1, h.cell 2, h.cell 3, h.cell 4, h.cell 5⟩

theorem put6_eq (w : World) (g o : Nat) (v0 v1 v2 v3 v4 v5 : Value) : put6 w g o v0 v1 v2 v3 v4 v5 = w.setCells g o [v0, v1, v2, v3, v4, v5] := rfl

/-- Once the result is laid. -/
theorem laid6 {w W : World} {g : Nat} {e : TypeId} {u0 u1 u2 u3 u4 u5 : Value} (k : Kp [] w W) (r : At W g #[u0, u1, u2, u3, u4, u5] e) (hg : w.heap.size ≤ g) (v0 v1 v2 v3 v4 v5 : Value) :
    Hid ((putZ W g v0 v1 v2 v3 v4 v5).cell? ⟨g, 0, none⟩ = some v0 ∧ (putZ W g v0 v1 v2 v3 v4 v5).cell? ⟨g, 1, none⟩ = some v1 ∧ (putZ W g v0 v1 v2 v3 v4 v5).cell? ⟨g, 2, none⟩ = some v2 ∧ (putZ W g v0 v1 v2 v3 v4 v5).cell? ⟨g, 3, none⟩ = some v3 ∧ (putZ W g v0 v1 v2 v3 v4 v5).cell? ⟨g, 4, none⟩ = some v4 ∧ (putZ W g v0 v1 v2 v3 v4 v5).cell? ⟨g, 5, none⟩ = some v5 ∧ Kp [] w (putZ W g v0 v1 v2 v3 v4 v5)) :=
  ⟨(r.putZ v0 v1 v2 v3 v4 v5).cell 0, (r.putZ v0 v1 v2 v3 v4 v5).cell 1, (r.putZ v0 v1 v2 v3 v4 v5).cell 2, (r.putZ v0 v1 v2 v3 v4 v5).cell 3, (r.putZ v0 v1 v2 v3 v4 v5).cell 4, (r.putZ v0 v1 v2 v3 v4 v5).cell 5, k.putZ (Or.inr hg) _ _ _ _ _ _⟩

/-- Ints as values. -/
def iv (l : List Nat) : List Value := l.map (fun n : Nat => Value.int .i64 (n : Int))
theorem iv_len (l : List Nat) : (iv l).length = l.length := by simp [iv]

end Go.Proofs.YtgjkfpmhgidpaaaGreat

/-
  The program's arena as it lies in memory: eleven cells a node, and each node's own lists; which block is whose (tag).
-/
namespace Go.Proofs.YtgjkfpmhgidpaaaGreat
open Go.RowKit Go.Maps Utf
set_option linter.unusedVariables false
set_option linter.unusedSimpArgs false

/-- Where a node's own lists lie: its attributes, the table of their names, its text. -/
structure Np where
  ao : Option Addr
  an : Nat
  ac : Nat
  nm : Option Nat
  to : Option Addr
  tn : Nat
  tc : Nat

/-- The cells of a node. -/
def el (x : Pn) (p : Np) : List Value := [.int .i64 x.lb.kind, .int .i64 x.lb.ns, .string x.lb.name, .slice p.ao p.an p.ac, .map p.nm, .slice p.to p.tn p.tc, .int .i64 x.up, .int .i64 x.fi, .int .i64 x.la, .int .i64 x.ah, .int .i64 x.be]

theorem el_len (x : Pn) (p : Np) : (el x p).length = 11 := rfl

/-- Block b is a table of the names of l. -/
def Nt (w : World) (b : Nat) (l : List Att) : Prop := ∃ (D : DataW Unit) (k : Nat), w.ownsMap Tryz.prog 9 unitElem b k D ∧ k ≤ l.length ∧ ∀ x, Maps.has D (kl x) = hasN l x

theorem Nt.lt {w : World} {b : Nat} {l : List Att} (h : Nt w b l) : b < w.heap.size := by
  obtain ⟨D, k, h, _⟩ := h
  exact h.lt
theorem Nt.same {w w' : World} {b : Nat} {l : List Att} (h : Nt w b l) (hb : w'.heap[b]? = w.heap[b]?) : Nt w' b l := by
  obtain ⟨D, k, ⟨es, clock, h1, r⟩, r2⟩ := h
  exact ⟨D, k, ⟨es, clock, by rw [hb]; exact h1, r⟩, r2⟩

theorem cell_ofF {w : World} {g : Nat} {cur : Array Value} {e : TypeId} {fz : Nat × Nat} (h : w.heap[g]? = some (.cells cur e fz)) (j : Nat) : w.cell? ⟨g, j, none⟩ = cur[j]? := by
  simp [World.cell?, h]
theorem setCell_blockF {w : World} {g : Nat} {cur : Array Value} {e : TypeId} {fz : Nat × Nat} (h : w.heap[g]? = some (.cells cur e fz)) (o : Nat) (u : Value) : (w.setCell ⟨g, o, none⟩ u).heap[g]? = some (.cells (cur.setIfInBounds o u) e fz) := by
  simp only [World.setCell, Array.getElem?_modify, h]
  simp
theorem setCells_blockF (g : Nat) (e : TypeId) (fz : Nat × Nat) : ∀ (vs : List Value) (o : Nat) (w : World) (cur : Array Value), w.heap[g]? = some (.cells cur e fz) → ∃ cur', (w.setCells g o vs).heap[g]? = some (.cells cur' e fz) ∧ cur'.size = cur.size
  | [], _, _, cur, h => ⟨cur, h, rfl⟩
  | v :: r, o, w, cur, h => by
    obtain ⟨c, h1, h2⟩ := setCells_blockF g e fz r (o + 1) _ _ (setCell_blockF h o v)
    exact ⟨c, h1, by rw [h2]; simp⟩
theorem setCells_getF (g : Nat) (e : TypeId) (fz : Nat × Nat) (vs : List Value) (o : Nat) (w : World) (cur cur' : Array Value) (h : w.heap[g]? = some (.cells cur e fz)) (h' : (w.setCells g o vs).heap[g]? = some (.cells cur' e fz)) (hfit : o + vs.length ≤ cur.size) (k : Nat) :
    cur'[k]? = if o ≤ k ∧ k < o + vs.length then vs[k - o]? else cur[k]? := by
  rw [← cell_ofF h' k, ← cell_ofF h k]
  by_cases hk : o ≤ k ∧ k < o + vs.length
  · rw [if_pos hk]
    have := World.cell?_setCells_in g vs o w (fun j hj => by rw [cell_ofF h, Array.getElem?_eq_getElem (by omega)]; rfl) (k - o) (by omega)
    rw [show o + (k - o) = k by omega] at this
    rw [this, List.getElem?_eq_getElem]
  · rw [if_neg hk]
    exact World.cell?_setCells_out g vs o w ⟨g, k, none⟩ (fun _ _ => by show k < o ∨ o + vs.length ≤ k; omega)

/-- The bytes of a text in a block of its own; a cell behind them all may be frozen. -/
def OwT (w : World) (v : Value) (s : ByteArray) : Prop :=
  (v = .slice none 0 0 ∧ s.size = 0) ∨
  ∃ g c cur lo hi, v = .slice (some ⟨g, 0, none⟩) s.size c ∧ w.heap[g]? = some (.cells cur 5 (lo, hi)) ∧ s.size ≤ c ∧ c ≤ maxLen ∧ c ≤ cur.size ∧ ((lo = 0 ∧ hi = 0) ∨ c ≤ lo) ∧ ∀ j, j < s.size → cur[j]? = (byteCells s)[j]?

theorem OwT.lt {w : World} {v : Value} {s : ByteArray} (h : OwT w v s) : ∀ x, x ∈ blk v → x < w.heap.size := by
  intro x hx
  rcases h with ⟨rfl, _⟩ | ⟨g, c, cur, lo, hi, rfl, hg, _⟩
  · simp [blk] at hx
  · simp [blk] at hx
    subst hx
    exact lt_of hg
theorem OwT.keep {S : List Nat} {w w' : World} {v : Value} {s : ByteArray} (h : OwT w v s) (k : Kp S w w') (hn : ∀ x, x ∈ blk v → x ∉ S) : OwT w' v s := by
  have hl := h.lt
  rcases h with h | ⟨g, c, cur, lo, hi, rfl, hg, r⟩
  · exact Or.inl h
  · have hm : g ∈ blk (Value.slice (some ⟨g, 0, none⟩) s.size c) := by simp [blk]
    exact Or.inr ⟨g, c, cur, lo, hi, rfl, by rw [k.block g (hl g hm) (hn g hm)]; exact hg, r⟩
theorem OwT.nil (w : World) : OwT w (.slice none 0 0) ⟨#[]⟩ := Or.inl ⟨rfl, rfl⟩

theorem byteCells_b8 (s : ByteArray) : byteCells s = b8 (bytesOf s) := by simp [byteCells, b8, bytesOf, Function.comp_def]

theorem OwT.rb {w : World} {ao : Option Addr} {n c : Nat} {s : ByteArray} (h : OwT w (.slice ao n c) s) : Rb w ao n c (b8 (bytesOf s)) := by
  rw [← byteCells_b8]
  rcases h with ⟨h1, h2⟩ | ⟨g, c', cur, lo, hi, hv, hg, h1, h2, h3, h4, h5⟩
  · simp only [Value.slice.injEq] at h1
    obtain ⟨rfl, rfl, rfl⟩ := h1
    exact ⟨by rw [byteCells_length, h2], Nat.le_refl _, fun j hj => by omega⟩
  · simp only [Value.slice.injEq] at hv
    obtain ⟨rfl, rfl, rfl⟩ := hv
    exact ⟨(byteCells_length s).symm, h1, fun j hj => ⟨g, 0, rfl, by rw [Nat.zero_add, cell_ofF hg, h5 j hj]⟩⟩

theorem byteCells_app (s t : ByteArray) : byteCells (s ++ t) = byteCells s ++ byteCells t := by simp [byteCells, ByteArray.data_append]

/-- []byte(s). -/
theorem to_text (w : World) (s : ByteArray) (hs : s.size ≤ 1000000) : ∃ W c, (convert 9 54 (.string s)).run Tryz.prog w = .ok (.slice (some ⟨w.heap.size, 0, none⟩) s.size c) W ∧ OwT W (.slice (some ⟨w.heap.size, 0, none⟩) s.size c) s ∧ Kp [] w W := by
  refine ⟨_, _, Lib.run_convert_string_bytes (P := Tryz.prog) w 9 54 5 s Tryz.underlying9 Tryz.underlying54 Tryz.underlying5, Or.inr ⟨w.heap.size, _, _, _, _, rfl, Lib.bytesWorld_at_new w 5 s, grownCap_ge w s.size 0 5, grownCap_le_maxLen w _ _ _ (by unfold maxLen; omega), ?_, Or.inr ?_, fun j hj => ?_⟩, ⟨rfl, rfl, rfl, by rw [Lib.bytesWorld_size]; omega, fun k hk _ => Lib.bytesWorld_at_old w 5 s k hk⟩⟩
  · have := grownCap_ge w s.size 0 5
    simp [Lib.bytesCells]
    omega
  · have := grownCap_ge w s.size 0 5
    simp [Lib.bytesCells]
    omega
  · have := Lib.bytesWorld_cell w 5 s j hj
    rw [cell_ofF (Lib.bytesWorld_at_new w 5 s)] at this
    rw [this]
    simp [byteCells, List.getD, hj]

theorem infoB : (Tryz.prog.info? 5).map (fun i => (i.zero, i.size, i.bytes)) = some (some (.int .u8 0), 1, 1) := by kernel_rfl

/-- append, of a text onto bytes. -/
theorem OwT.app {w : World} {v : Value} {s : ByteArray} (h : OwT w v s) (t : ByteArray) (ht0 : 0 < t.size) (hlen : s.size + t.size ≤ 1000000) :
    ∃ v' w', (∀ ty, (Builtin.append_ #[54, 9] ty #[v, .string t]).run Tryz.prog w = .ok v' w') ∧ OwT w' v' (s ++ t) ∧ Kp (blk v) w w' ∧ (∀ k, k ∈ blk v' → k ∈ blk v ∨ k = w.heap.size) ∧ ∃ ao c, v' = .slice ao (s.size + t.size) c := by
  obtain ⟨i, hi0, hi1, hi2, hi3⟩ := info_parts infoB
  have ht := Tryz.underlying54
  have hs : Src Tryz.prog 1 9 (.string t) t.size (byteCells t) w := Src.ofString w Tryz.underlying9 t
  have hs' : Src Tryz.prog i.size 9 (.string t) t.size (byteCells t) w := by rw [hi2]; exact hs
  have hsz : (s ++ t).size = s.size + t.size := ByteArray.size_append
  have hbl := byteCells_length t
  have hbs := byteCells_length s
  have new : ∀ (z : Nat) (olds : List Value), olds = byteCells s → OwT (w.drew.alloc (.cells ((olds ++ byteCells t).toArray ++ Builtin.zeroCells (Value.int .u8 0).cells (grownCap w (s.size + t.size) z 5 - (s.size + t.size))) 5)) (.slice (some ⟨w.drew.heap.size, 0, none⟩) (s.size + t.size) (grownCap w (s.size + t.size) z 5)) (s ++ t) := fun z olds ho => by
    have hge := grownCap_ge w (s.size + t.size) z 5
    refine Or.inr ⟨w.drew.heap.size, _, _, 0, 0, by rw [hsz], heap_new w.drew _, by rw [hsz]; exact hge, grownCap_le_maxLen w _ _ _ (by unfold maxLen; omega), ?_, Or.inl ⟨rfl, rfl⟩, fun j hj => ?_⟩
    · rw [Array.size_append, zeroCells_size _ rfl, ho]
      simp [hbl, hbs]
      omega
    · rw [hsz] at hj
      rw [Array.getElem?_append_left (by rw [ho]; simp [hbl, hbs]; omega), byteCells_app, ho]
      simp
  rcases h with ⟨rfl, h0⟩ | ⟨g, cap, cur, lo, hi, rfl, hg, hc1, hc2, hc3, hc4, hc5⟩
  · have hr := fun ty => run_append_grow_src (P := Tryz.prog) w 54 9 ty 5 i (.int .u8 0) ht hi0 hi1 none 0 0 [] (run_firstCells_none w.drew i.size 0 0 0) (.string t) t.size (byteCells t) hs' (by omega) (by omega) (by rw [hi3]; exact growslice_fits (by omega) (by omega))
    have hn := new 0 [] (List.eq_nil_of_length_eq_zero (by omega)).symm
    rw [h0] at hn
    refine ⟨_, _, hr, hn, (Kp.refl _ _).drew.alloc _, fun k hk => ?_, ⟨_, _, by rw [h0]⟩⟩
    simp [blk] at hk
    exact Or.inr hk
  · by_cases hroom : s.size + t.size ≤ cap
    · have hr := fun ty => run_append_room_src (P := Tryz.prog) w 54 9 ty 5 i ht hi0 g 0 s.size cap (.string t) t.size (byteCells t) hs' hroom
        (fun j hj => by rw [hi2, cell_ofF hg, Array.getElem?_eq_getElem (by omega)]; rfl) (fun j hj => by
          simp only [World.frozen?, hg]
          rw [hi2]
          simp
          omega)
      obtain ⟨cur', hg', hsz'⟩ := setCells_blockF g 5 (lo, hi) (byteCells t) (0 + s.size * i.size) w cur hg
      have hget := setCells_getF g 5 (lo, hi) (byteCells t) (0 + s.size * i.size) w cur cur' hg hg' (by rw [hi2]; omega)
      refine ⟨_, _, hr, Or.inr ⟨g, cap, cur', lo, hi, by rw [hsz], hg', by rw [hsz]; exact hroom, hc2, by omega, hc4, fun j hj => ?_⟩, Kp.setCells g (Or.inl (by simp [blk])) _ _ _ (Kp.refl _ _), fun k hk => Or.inl (by simpa [blk] using hk), ⟨_, _, rfl⟩⟩
      rw [hget j, hi2, byteCells_app]
      simp only [Nat.mul_one, Nat.zero_add]
      rw [hsz] at hj
      by_cases hjx : j < s.size
      · rw [if_neg (by omega), List.getElem?_append_left (by omega), hc5 j hjx]
      · rw [if_pos (by omega), List.getElem?_append_right (by omega), hbs]
    · have hold : (Builtin.firstCells i.size s.size (.slice (some ⟨g, 0, none⟩) s.size cap)).run Tryz.prog w.drew = .ok (byteCells s).toArray w.drew :=
        run_firstCells_some w.drew i.size s.size ⟨g, 0, none⟩ s.size cap (byteCells s) (by rw [hi2, Nat.mul_one, hbs]) (fun j u hj => by
          rw [Addr.add_lit]
          show w.cell? _ = _
          have hjl := (List.getElem?_eq_some_iff.1 hj).1
          rw [Nat.zero_add, cell_ofF hg, hc5 j (by omega)]
          exact hj)
      have hr := fun ty => run_append_grow_src (P := Tryz.prog) w 54 9 ty 5 i (.int .u8 0) ht hi0 hi1 (some ⟨g, 0, none⟩) s.size cap (byteCells s) hold (.string t) t.size (byteCells t) hs' (by omega) (by omega) (by rw [hi3]; exact growslice_fits (by omega) (by omega))
      refine ⟨_, _, hr, new cap _ rfl, (Kp.refl _ _).drew.alloc _, fun k hk => ?_, ⟨_, _, rfl⟩⟩
      simp [blk] at hk
      exact Or.inr hk

/-- What a node has beside its cells. -/
structure Sd (tag : Nat → Nat) (w : World) (i : Nat) (l : Lb) (p : Np) : Prop where
  at' : OwnK 2 w 30 (.slice p.ao p.an p.ac) p.an (cs l.attrs)
  atT : ∀ x, x ∈ blk (.slice p.ao p.an p.ac) → tag x = 8 + 3 * i
  tx : OwT w (.slice p.to p.tn p.tc) l.text
  txT : ∀ x, x ∈ blk (.slice p.to p.tn p.tc) → tag x = 10 + 3 * i
  nm : ∀ b, p.nm = some b → Nt w b l.attrs ∧ tag b = 9 + 3 * i

theorem Sd.keep {tag tag' : Nat → Nat} {S : List Nat} {w w' : World} {i : Nat} {l : Lb} {p : Np} (h : Sd tag w i l p) (k : Kp S w w') (hS : ∀ x, x ∈ S → x < w.heap.size → tag x ≠ 8 + 3 * i ∧ tag x ≠ 9 + 3 * i ∧ tag x ≠ 10 + 3 * i) (ht : ∀ x, x < w.heap.size → tag' x = tag x) : Sd tag' w' i l p := by
  refine ⟨h.at'.keep k (fun x hx hs => ?_), fun x hx => ?_, h.tx.keep k (fun x hx hs => ?_), fun x hx => ?_, fun b hb => ?_⟩
  · exact (hS x hs (h.at'.lt x hx)).1 (h.atT x hx)
  · rw [ht x (h.at'.lt x hx)]; exact h.atT x hx
  · exact (hS x hs (h.tx.lt x hx)).2.2 (h.txT x hx)
  · rw [ht x (h.tx.lt x hx)]; exact h.txT x hx
  · obtain ⟨h1, h2⟩ := h.nm b hb
    exact ⟨h1.same (k.block b h1.lt (fun hs => (hS b hs h1.lt).2.1 h2)), by rw [ht b h1.lt]; exact h2⟩

/-- The arena in block b, whose n nodes lie in block g from cell o on, with room for c. -/
structure Rw (tag : Nat → Nat) (w : World) (b g o c : Nat) (q : Bool) (n : Nat) (N : Nat → Pn) (pl : Nat → Np) : Prop where
  hd : At w b #[.slice (some ⟨g, o, none⟩) n c, .bool q] 51
  tb : tag b = 1
  cap : n ≤ c
  max : c ≤ maxLen
  body : ∃ cur, At w g cur 56 ∧ o + c * 11 ≤ cur.size ∧ ∀ i, i < n → ∀ k, k < 11 → cur[o + i * 11 + k]? = (el (N i) (pl i))[k]?
  tg : tag g = 2
  side : ∀ i, i < n → Sd tag w i (N i).lb (pl i)

/-- The marks of the program's arena. -/
def isP (t : Nat) : Prop := t = 1 ∨ t = 2 ∨ 8 ≤ t

theorem Rw.ne {tag : Nat → Nat} {w : World} {b g o c : Nat} {q : Bool} {n : Nat} {N : Nat → Pn} {pl : Nat → Np} (h : Rw tag w b g o c q n N pl) : b ≠ g := fun e => by
  have h1 := h.tb
  rw [e, h.tg] at h1
  cases h1

theorem Rw.lt {tag : Nat → Nat} {w : World} {b g o c : Nat} {q : Bool} {n : Nat} {N : Nat → Pn} {pl : Nat → Np} (h : Rw tag w b g o c q n N pl) : b < w.heap.size ∧ g < w.heap.size := by
  obtain ⟨cur, h1, _⟩ := h.body
  exact ⟨h.hd.lt, h1.lt⟩

theorem Rw.keep {tag tag' : Nat → Nat} {S : List Nat} {w w' : World} {b g o c : Nat} {q : Bool} {n : Nat} {N : Nat → Pn} {pl : Nat → Np} (h : Rw tag w b g o c q n N pl) (k : Kp S w w') (hS : ∀ x, x ∈ S → x < w.heap.size → ¬ isP (tag x)) (ht : ∀ x, x < w.heap.size → tag' x = tag x) : Rw tag' w' b g o c q n N pl := by
  obtain ⟨lb, lg⟩ := h.lt
  obtain ⟨cur, h1, h2, h3⟩ := h.body
  refine ⟨h.hd.kept k (fun hs => hS b hs lb (.inl h.tb)), by rw [ht b lb]; exact h.tb, h.cap, h.max, ⟨cur, h1.kept k (fun hs => hS g hs lg (.inr (.inl h.tg))), h2, h3⟩, by rw [ht g lg]; exact h.tg, fun i hi => (h.side i hi).keep k (fun x hs hx => ?_) ht⟩
  have := hS x hs hx
  unfold isP at this
  omega

theorem Rw.kept {tag : Nat → Nat} {w w' : World} {b g o c : Nat} {q : Bool} {n : Nat} {N : Nat → Pn} {pl : Nat → Np} (h : Rw tag w b g o c q n N pl) (k : Kp [] w w') : Rw tag w' b g o c q n N pl :=
  h.keep k (fun x hx => absurd hx (by simp)) (fun _ _ => rfl)

/-- The arena's own two cells. -/
theorem Rw.head {tag : Nat → Nat} {w : World} {b g o c : Nat} {q : Bool} {n : Nat} {N : Nat → Pn} {pl : Nat → Np} (h : Rw tag w b g o c q n N pl) :
    w.cell? ⟨b, 0, none⟩ = some (.slice (some ⟨g, o, none⟩) n c) ∧ w.cell? ⟨b, 1, none⟩ = some (.bool q) := ⟨h.hd.cell 0, h.hd.cell 1⟩

/-- A node's cell. -/
theorem Rw.at {tag : Nat → Nat} {w : World} {b g o c : Nat} {q : Bool} {n : Nat} {N : Nat → Pn} {pl : Nat → Np} (h : Rw tag w b g o c q n N pl) {i : Nat} (hi : i < n) {k : Nat} (hk : k < 11) : w.cell? ⟨g, o + i * 11 + k, none⟩ = (el (N i) (pl i))[k]? := by
  obtain ⟨cur, h1, h2, h3⟩ := h.body
  rw [h1.cell, h3 i hi k hk]

theorem Rw.free {tag : Nat → Nat} {w : World} {b g o c : Nat} {q : Bool} {n : Nat} {N : Nat → Pn} {pl : Nat → Np} (h : Rw tag w b g o c q n N pl) (j : Nat) : w.frozen? ⟨g, j, none⟩ = false := by
  obtain ⟨cur, h1, h2, h3⟩ := h.body
  exact h1.free j

theorem Rw.freeb {tag : Nat → Nat} {w : World} {b g o c : Nat} {q : Bool} {n : Nat} {N : Nat → Pn} {pl : Nat → Np} (h : Rw tag w b g o c q n N pl) (j : Nat) : w.frozen? ⟨b, j, none⟩ = false := h.hd.free j

theorem idx11 {i j k l : Nat} (hk : k < 11) (hl : l < 11) : i * 11 + k = j * 11 + l ↔ i = j ∧ k = l := by omega

/-- A cell of a node is written. -/
theorem Rw.set {tag : Nat → Nat} {w : World} {b g o c : Nat} {q : Bool} {n : Nat} {N N' : Nat → Pn} {pl pl' : Nat → Np} (h : Rw tag w b g o c q n N pl) {i k : Nat} (hi : i < n) (hk : k < 11) (u : Value) (he : el (N' i) (pl' i) = (el (N i) (pl i)).set k u) (hN : ∀ j, j < n → j ≠ i → N' j = N j ∧ pl' j = pl j) (hs : Sd tag w i (N' i).lb (pl' i)) :
    Rw tag (w.setCell ⟨g, o + i * 11 + k, none⟩ u) b g o c q n N' pl' := by
  have hne := h.ne
  obtain ⟨cur, h1, h2, h3⟩ := h.body
  have k1 : Kp [g] w (w.setCell ⟨g, o + i * 11 + k, none⟩ u) := (Kp.refl _ _).setCell (Or.inl (by simp)) _
  refine ⟨h.hd.kept k1 (by simpa using hne), h.tb, h.cap, h.max, ⟨_, h1.set _ u, by simpa using h2, fun j hj l hl => ?_⟩, h.tg, fun j hj => ?_⟩
  · rw [Array.getElem?_setIfInBounds]
    have hcap := h.cap
    have hm : i * 11 + 11 ≤ c * 11 := by omega
    by_cases hjl : o + i * 11 + k = o + j * 11 + l
    · obtain ⟨rfl, rfl⟩ := (idx11 (i := i) (j := j) hk hl).1 (by omega)
      rw [if_pos rfl, if_pos (by omega), he, List.getElem?_set_self (by rw [el_len]; exact hk)]
    · rw [if_neg hjl]
      by_cases hji : j = i
      · subst hji
        rw [he, List.getElem?_set_ne (fun e => hjl (by rw [e])), h3 j hj l hl]
      · rw [(hN j hj hji).1, (hN j hj hji).2, h3 j hj l hl]
  · have hT : ∀ x, x ∈ [g] → x < w.heap.size → tag x ≠ 8 + 3 * j ∧ tag x ≠ 9 + 3 * j ∧ tag x ≠ 10 + 3 * j := fun x hx _ => by
      rw [List.mem_singleton.1 hx, h.tg]; omega
    by_cases hji : j = i
    · subst hji; exact hs.keep k1 hT (fun _ _ => rfl)
    · rw [(hN j hj hji).1, (hN j hj hji).2]; exact (h.side j hj).keep k1 hT (fun _ _ => rfl)

section
variable {tag : Nat → Nat} {w : World} {b g o c : Nat} {q : Bool} {n : Nat} {N : Nat → Pn} {pl : Nat → Np}

theorem Rw.sUp (h : Rw tag w b g o c q n N pl) {i : Nat} (hi : i < n) (v : Int) : Rw tag (w.setCell ⟨g, o + i * 11 + 6, none⟩ (.int .i64 v)) b g o c q n (sUp N i v) pl :=
  h.set hi (by omega) _ (by simp [Go.Proofs.YtgjkfpmhgidpaaaGreat.sUp, el]) (fun j _ hj => ⟨by simp [Go.Proofs.YtgjkfpmhgidpaaaGreat.sUp, hj], rfl⟩) (by simp only [Go.Proofs.YtgjkfpmhgidpaaaGreat.sUp, if_pos]; exact h.side i hi)
theorem Rw.sFi (h : Rw tag w b g o c q n N pl) {i : Nat} (hi : i < n) (v : Int) : Rw tag (w.setCell ⟨g, o + i * 11 + 7, none⟩ (.int .i64 v)) b g o c q n (sFi N i v) pl :=
  h.set hi (by omega) _ (by simp [Go.Proofs.YtgjkfpmhgidpaaaGreat.sFi, el]) (fun j _ hj => ⟨by simp [Go.Proofs.YtgjkfpmhgidpaaaGreat.sFi, hj], rfl⟩) (by simp only [Go.Proofs.YtgjkfpmhgidpaaaGreat.sFi, if_pos]; exact h.side i hi)
theorem Rw.sLa (h : Rw tag w b g o c q n N pl) {i : Nat} (hi : i < n) (v : Int) : Rw tag (w.setCell ⟨g, o + i * 11 + 8, none⟩ (.int .i64 v)) b g o c q n (sLa N i v) pl :=
  h.set hi (by omega) _ (by simp [Go.Proofs.YtgjkfpmhgidpaaaGreat.sLa, el]) (fun j _ hj => ⟨by simp [Go.Proofs.YtgjkfpmhgidpaaaGreat.sLa, hj], rfl⟩) (by simp only [Go.Proofs.YtgjkfpmhgidpaaaGreat.sLa, if_pos]; exact h.side i hi)
theorem Rw.sAh (h : Rw tag w b g o c q n N pl) {i : Nat} (hi : i < n) (v : Int) : Rw tag (w.setCell ⟨g, o + i * 11 + 9, none⟩ (.int .i64 v)) b g o c q n (sAh N i v) pl :=
  h.set hi (by omega) _ (by simp [Go.Proofs.YtgjkfpmhgidpaaaGreat.sAh, el]) (fun j _ hj => ⟨by simp [Go.Proofs.YtgjkfpmhgidpaaaGreat.sAh, hj], rfl⟩) (by simp only [Go.Proofs.YtgjkfpmhgidpaaaGreat.sAh, if_pos]; exact h.side i hi)
theorem Rw.sBe (h : Rw tag w b g o c q n N pl) {i : Nat} (hi : i < n) (v : Int) : Rw tag (w.setCell ⟨g, o + i * 11 + 10, none⟩ (.int .i64 v)) b g o c q n (sBe N i v) pl :=
  h.set hi (by omega) _ (by simp [Go.Proofs.YtgjkfpmhgidpaaaGreat.sBe, el]) (fun j _ hj => ⟨by simp [Go.Proofs.YtgjkfpmhgidpaaaGreat.sBe, hj], rfl⟩) (by simp only [Go.Proofs.YtgjkfpmhgidpaaaGreat.sBe, if_pos]; exact h.side i hi)

/-- A node's link cells. -/
theorem Rw.links (h : Rw tag w b g o c q n N pl) {i : Nat} (hi : i < n) : w.cell? ⟨g, o + i * 11 + 6, none⟩ = some (.int .i64 (N i).up) ∧ w.cell? ⟨g, o + i * 11 + 7, none⟩ = some (.int .i64 (N i).fi) ∧ w.cell? ⟨g, o + i * 11 + 8, none⟩ = some (.int .i64 (N i).la) ∧ w.cell? ⟨g, o + i * 11 + 9, none⟩ = some (.int .i64 (N i).ah) ∧ w.cell? ⟨g, o + i * 11 + 10, none⟩ = some (.int .i64 (N i).be) :=
  ⟨h.at hi (by omega), h.at hi (by omega), h.at hi (by omega), h.at hi (by omega), h.at hi (by omega)⟩
theorem Rw.fields (h : Rw tag w b g o c q n N pl) {i : Nat} (hi : i < n) : w.cell? ⟨g, o + i * 11, none⟩ = some (.int .i64 (N i).lb.kind) ∧ w.cell? ⟨g, o + i * 11 + 1, none⟩ = some (.int .i64 (N i).lb.ns) ∧ w.cell? ⟨g, o + i * 11 + 2, none⟩ = some (.string (N i).lb.name) ∧ w.cell? ⟨g, o + i * 11 + 3, none⟩ = some (.slice (pl i).ao (pl i).an (pl i).ac) ∧ w.cell? ⟨g, o + i * 11 + 4, none⟩ = some (.map (pl i).nm) ∧ w.cell? ⟨g, o + i * 11 + 5, none⟩ = some (.slice (pl i).to (pl i).tn (pl i).tc) :=
  ⟨h.at (k := 0) hi (by omega), h.at hi (by omega), h.at hi (by omega), h.at hi (by omega), h.at hi (by omega), h.at hi (by omega)⟩

end

end Go.Proofs.YtgjkfpmhgidpaaaGreat

/-
  A tree that is told of an arena, under way: which nodes have their cells already, which their kids: no program.
-/
namespace Go.Proofs.YtgjkfpmhgidpaaaGreat
open Go.RowKit Go.Maps Utf
set_option linter.unusedVariables false
set_option linter.unusedSimpArgs false

namespace Ar
def par (A : Ar) (x : Nat) : Nat := (A.up x).getD 0
theorem par_eq {A : Ar} {x p : Nat} (h : A.up x = some p) : A.par x = p := by unfold par; rw [h]; rfl
/-- In which block a node's cells lie, and where there. -/
def abk (A : Ar) (x0 gT : Nat) (B : Nat → Nat) (x : Nat) : Nat := if x = x0 then gT else B (A.par x)
def aof (A : Ar) (x0 x : Nat) : Nat := if x = x0 then 0 else A.place (A.par x) x * 6
/-- Where its kids lie. -/
def kdV (A : Ar) (B : Nat → Nat) (K : Nat → Bool) (x : Nat) : Option Addr × Nat × Nat := if K x = true then (some ⟨B x, 0, none⟩, (A.kids x).length, (A.kids x).length) else (none, 0, 0)

theorem place_at {A : Ar} (ok : A.Ok) {p j : Nat} (hj : j < (A.kids p).length) : A.place p (A.kids p)[j] = j := by
  unfold place
  exact (ok.one p).idxOf_getElem j hj

theorem place_lt {A : Ar} (ok : A.Ok) {p x : Nat} (hu : A.up x = some p) : A.place p x < (A.kids p).length ∧ (A.kids p)[A.place p x]? = some x := by
  have hm := (ok.link p x).2 hu
  have hl : A.place p x < (A.kids p).length := List.idxOf_lt_length_of_mem hm
  refine ⟨hl, ?_⟩
  rw [List.getElem?_eq_getElem hl]
  congr 1
  exact List.getElem_idxOf hl
end Ar

structure Cs (A : Ar) (w wr : World) (x0 gT : Nat) (τ : Nat → Nat) (B : Nat → Nat) (M : Nat → Prop) (K : Nat → Bool) : Prop where
  kp : Kp [] w wr
  top : ∃ cur, At wr gT cur 38 ∧ 6 ≤ cur.size
  topN : w.heap.size ≤ gT ∧ τ gT = 2
  bks : ∀ p, K p = true → (∃ cur, At wr (B p) cur 38 ∧ (A.kids p).length * 6 = cur.size) ∧ w.heap.size ≤ B p ∧ τ (B p) = 2 ∧ B p ≠ gT
  inj : ∀ p p', K p = true → K p' = true → B p = B p' → p = p'
  mkd : ∀ x, M x → x ≠ x0 → ∃ p, A.up x = some p ∧ K p = true
  mx : M x0
  cl : ∀ x, M x → ∃ pa : Option Addr × Nat × Nat, Cl wr (A.abk x0 gT B x) (A.aof x0 x) (A.lb x) (pa, A.kdV B K x) ∧ Rk (fun b => w.heap.size ≤ b ∧ τ b = 1) 2 wr pa.1 pa.2.1 pa.2.2 (cs (A.lb x).attrs)

section
variable {A : Ar} {w wr : World} {x0 gT : Nat} {τ : Nat → Nat} {B : Nat → Nat} {M : Nat → Prop} {K : Nat → Bool}

theorem Cs.blk2 (h : Cs A w wr x0 gT τ B M K) {x : Nat} (hx : M x) : τ (A.abk x0 gT B x) = 2 ∧ w.heap.size ≤ A.abk x0 gT B x ∧ A.abk x0 gT B x < wr.heap.size := by
  obtain ⟨cur, h1, _⟩ := h.top
  unfold Ar.abk
  by_cases e : x = x0
  · rw [if_pos e]; exact ⟨h.topN.2, h.topN.1, h1.lt⟩
  · rw [if_neg e]
    obtain ⟨p, hu, hk⟩ := h.mkd x hx e
    rw [Ar.par_eq hu]
    obtain ⟨⟨cur, h2, _⟩, h3, h4, _⟩ := h.bks p hk
    exact ⟨h4, h3, h2.lt⟩

/-- Two nodes' cells lie apart. -/
theorem Cs.sep (h : Cs A w wr x0 gT τ B M K) (ok : A.Ok) {x y : Nat} (hx : M x) (hy : M y) (hne : x ≠ y) : A.abk x0 gT B x ≠ A.abk x0 gT B y ∨ A.aof x0 x + 6 ≤ A.aof x0 y ∨ A.aof x0 y + 6 ≤ A.aof x0 x := by
  unfold Ar.abk Ar.aof
  by_cases e : x = x0
  · have e2 : y ≠ x0 := fun e3 => hne (e.trans e3.symm)
    obtain ⟨p, hu, hk⟩ := h.mkd y hy e2
    rw [if_pos e, if_neg e2, Ar.par_eq hu]
    exact .inl (Ne.symm (h.bks p hk).2.2.2)
  · obtain ⟨p, hu, hk⟩ := h.mkd x hx e
    rw [if_neg e, Ar.par_eq hu]
    by_cases e2 : y = x0
    · rw [if_pos e2]
      exact .inl (h.bks p hk).2.2.2
    · obtain ⟨p', hu', hk'⟩ := h.mkd y hy e2
      rw [if_neg e2, Ar.par_eq hu', if_neg e, if_neg e2]
      by_cases e3 : B p = B p'
      · obtain rfl := h.inj p p' hk hk' e3
        refine .inr ?_
        obtain ⟨_, h1⟩ := Ar.place_lt ok hu
        obtain ⟨_, h2⟩ := Ar.place_lt ok hu'
        have : A.place p x ≠ A.place p y := fun e4 => by
          rw [e4, h2] at h1
          exact hne (Option.some.inj h1).symm
        omega
      · exact .inl e3

theorem Cl.of_block {w w' : World} {b off : Nat} {l : Lb} {p : Pl} (h : Cl w b off l p) (e : w'.heap[b]? = w.heap[b]?) : Cl w' b off l p := by
  obtain ⟨cur, t, h1, h2⟩ := h
  exact ⟨cur, t, by rw [e]; exact h1, h2⟩

/-- A cell that is not the node's is written. -/
theorem Cl.other {w : World} {b off b2 j : Nat} {l : Lb} {p : Pl} (h : Cl w b off l p) (u : Value) (hd : b ≠ b2 ∨ j < off ∨ off + 6 ≤ j) : Cl (w.setCell ⟨b2, j, none⟩ u) b off l p := by
  obtain ⟨cur, t, h1, h2⟩ := h
  by_cases e : b = b2
  · subst e
    refine ⟨_, t, setCell_block h1 j u, fun i hi => ?_⟩
    rw [Array.getElem?_setIfInBounds, if_neg (by omega)]
    exact h2 i hi
  · exact ⟨cur, t, by rw [Below.heap_setCell _ _ _ _ (fun e2 => e (by simpa using e2))]; exact h1, h2⟩

theorem Cs.keep {S : List Nat} {w2 : World} {τ' : Nat → Nat} (h : Cs A w wr x0 gT τ B M K) (k : Kp S wr w2) (hS : ∀ x, x ∈ S → w.heap.size ≤ x ∧ (x < wr.heap.size → τ x ≠ 1 ∧ τ x ≠ 2)) (ht : ∀ x, x < wr.heap.size → τ' x = τ x) : Cs A w w2 x0 gT τ' B M K := by
  obtain ⟨cur0, t0, t1⟩ := h.top
  have hT := t0.lt
  have no2 : ∀ x, x < wr.heap.size → τ x = 2 → x ∉ S := fun x h1 h2 hs => ((hS x hs).2 h1).2 h2
  refine ⟨h.kp.trans k (fun x hx => Or.inr (hS x hx).1), ⟨cur0, t0.kept k (no2 gT hT h.topN.2), t1⟩, ⟨h.topN.1, by rw [ht gT hT]; exact h.topN.2⟩, fun p hp => ?_, h.inj, h.mkd, h.mx, fun x hx => ?_⟩
  · obtain ⟨⟨cur, h1, h2⟩, h3, h4, h5⟩ := h.bks p hp
    exact ⟨⟨cur, h1.kept k (no2 _ h1.lt h4), h2⟩, h3, by rw [ht _ h1.lt]; exact h4, h5⟩
  · obtain ⟨pa, h1, h2⟩ := h.cl x hx
    obtain ⟨b1, b2, b3⟩ := h.blk2 hx
    refine ⟨pa, h1.of_block (k.block _ b3 (no2 _ b3 b1)), ?_⟩
    refine ⟨h2.len, h2.cap, fun hn => ?_⟩
    obtain ⟨b, off, cur, e, hq, e1, e2, e3⟩ := h2.at' hn
    have hl := lt_of e2
    exact ⟨b, off, cur, e, ⟨hq.1, by rw [ht b hl]; exact hq.2⟩, e1, by rw [k.block b hl (fun hs => ((hS b hs).2 hl).1 hq.2)]; exact e2, e3⟩

theorem Cs.congr {M' : Nat → Prop} {K' : Nat → Bool} (h : Cs A w wr x0 gT τ B M K) (hM : ∀ x, M' x ↔ M x) (hK : ∀ x, K' x = K x) : Cs A w wr x0 gT τ B M' K' := by
  obtain rfl : M' = M := funext fun x => propext (hM x)
  obtain rfl : K' = K := funext hK
  exact h

/-- The cell of a node's kids. -/
theorem Cs.kidCell (h : Cs A w wr x0 gT τ B M K) {y : Nat} (hy : M y) : wr.cell? ⟨A.abk x0 gT B y, A.aof x0 y + 5, none⟩ = some (.slice (A.kdV B K y).1 (A.kdV B K y).2.1 (A.kdV B K y).2.2) ∧ wr.frozen? ⟨A.abk x0 gT B y, A.aof x0 y + 5, none⟩ = false := by
  obtain ⟨pa, h1, _⟩ := h.cl y hy
  refine ⟨h1.cells.2.2.2.2.2, ?_⟩
  obtain ⟨cur, t, h2, _⟩ := h1
  exact frozen_of h2 _

/-- A node gets room for its kids. -/
theorem Cs.kids {w1 : World} {cur : Array Value} (h : Cs A w wr x0 gT τ B M K) (ok : A.Ok) {y gK : Nat} (hy : M y) (hk : K y = false) (hg : wr.heap.size ≤ gK) (k : Kp [] wr w1) (hc : At w1 gK cur 38) (hsz : (A.kids y).length * 6 = cur.size) :
    Cs A w (w1.setCell ⟨A.abk x0 gT B y, A.aof x0 y + 5, none⟩ (.slice (some ⟨gK, 0, none⟩) (A.kids y).length (A.kids y).length)) x0 gT (fun b => if b < wr.heap.size then τ b else if b = gK then 2 else 0) (fun p => if p = y then gK else B p) M (fun p => if p = y then true else K p) := by
  obtain ⟨T, hT⟩ : ∃ T : Nat → Nat, T = fun b => if b < wr.heap.size then τ b else if b = gK then 2 else 0 := ⟨_, rfl⟩
  have T0 : ∀ x, x < wr.heap.size → T x = τ x := fun x hx => by rw [hT]; simp only [if_pos hx]
  have hw1 : Cs A w w1 x0 gT T B M K := h.keep k (fun x hx => by simp at hx) T0
  rw [← hT]
  obtain ⟨y1, y2, y3⟩ := h.blk2 hy
  have hyg : A.abk x0 gT B y ≠ gK := by omega
  have k5 : Kp [A.abk x0 gT B y] w1 (w1.setCell ⟨A.abk x0 gT B y, A.aof x0 y + 5, none⟩ (.slice (some ⟨gK, 0, none⟩) (A.kids y).length (A.kids y).length)) := (Kp.refl _ _).setCell (Or.inl (by simp)) _
  have hab : ∀ x, M x → A.abk x0 gT (fun p => if p = y then gK else B p) x = A.abk x0 gT B x := fun x hx => by
    unfold Ar.abk
    by_cases e : x = x0
    · rw [if_pos e, if_pos e]
    · obtain ⟨p, hu, hkp⟩ := h.mkd x hx e
      rw [if_neg e, if_neg e, Ar.par_eq hu]
      exact if_neg (fun e2 => by rw [e2, hk] at hkp; cases hkp)
  have hbl : ∀ (g : Nat) (cu : Array Value), At w1 g cu 38 → ∃ cu', At (w1.setCell ⟨A.abk x0 gT B y, A.aof x0 y + 5, none⟩ (.slice (some ⟨gK, 0, none⟩) (A.kids y).length (A.kids y).length)) g cu' 38 ∧ cu'.size = cu.size := fun g cu hg => by
    by_cases e : g = A.abk x0 gT B y
    · subst e; exact ⟨_, hg.set _ _, by simp⟩
    · exact ⟨cu, hg.kept k5 (by simpa using e), rfl⟩
  refine ⟨hw1.kp.trans k5 (fun x hx => Or.inr (by rw [List.mem_singleton.1 hx]; exact y2)), ?_, hw1.topN, fun p hp => ?_, fun p p' hp hp' e => ?_, fun x hx e => ?_, h.mx, fun x hx => ?_⟩
  · obtain ⟨cu, t1, t2⟩ := hw1.top
    obtain ⟨cu', u1, u2⟩ := hbl gT cu t1
    exact ⟨cu', u1, by omega⟩
  · by_cases e : p = y
    · subst e
      simp only [if_pos]
      obtain ⟨cu', u1, u2⟩ := hbl gK cur hc
      have hgt := (h.top.choose_spec.1).lt
      exact ⟨⟨cu', u1, by omega⟩, by have := h.kp.size; omega, by rw [hT]; simp only [if_neg (show ¬ gK < wr.heap.size by omega), if_pos], by omega⟩
    · simp only [if_neg e] at hp ⊢
      obtain ⟨⟨cu, t1, t2⟩, t3, t4, t5⟩ := hw1.bks p hp
      obtain ⟨cu', u1, u2⟩ := hbl (B p) cu t1
      exact ⟨⟨cu', u1, by omega⟩, t3, t4, t5⟩
  · by_cases e1 : p = y
    · by_cases e2 : p' = y
      · rw [e1, e2]
      · simp only [if_pos e1, if_neg e2] at e hp'
        have := (h.bks p' hp').1.choose_spec.1.lt
        omega
    · by_cases e2 : p' = y
      · simp only [if_neg e1, if_pos e2] at e hp
        have := (h.bks p hp).1.choose_spec.1.lt
        omega
      · simp only [if_neg e1, if_neg e2] at e hp hp'
        exact h.inj p p' hp hp' e
  · obtain ⟨p, hu, hkp⟩ := h.mkd x hx e
    exact ⟨p, hu, by by_cases e1 : p = y <;> simp [e1]; exact hkp⟩
  · obtain ⟨pa, c1, c2⟩ := hw1.cl x hx
    refine ⟨pa, ?_, c2.keep (fun z hz hzl => k5.block z hzl (fun hs => by
      rw [List.mem_singleton.1 hs] at hz
      have := hz.2
      rw [T0 _ y3, y1] at this
      cases this))⟩
    rw [hab x hx]
    by_cases e : x = y
    · subst e
      obtain ⟨cu, t, t1, t2⟩ := c1
      refine ⟨_, t, setCell_block t1 _ _, fun i hi => ?_⟩
      rw [Array.getElem?_setIfInBounds]
      have e5 : A.kdV (fun p => if p = x then gK else B p) (fun p => if p = x then true else K p) x = (some ⟨gK, 0, none⟩, (A.kids x).length, (A.kids x).length) := by unfold Ar.kdV; simp
      rw [e5]
      by_cases hi5 : i = 5
      · subst hi5
        have h5 := t2 5 (by omega)
        have hlt : A.aof x0 x + 5 < cu.size := by
          have : (cu[A.aof x0 x + 5]?).isSome = true := by rw [h5]; rfl
          simpa using this
        rw [if_pos rfl, if_pos hlt]
        rfl
      · rw [if_neg (by omega), t2 i hi]
        unfold six
        obtain rfl | rfl | rfl | rfl | rfl : i = 0 ∨ i = 1 ∨ i = 2 ∨ i = 3 ∨ i = 4 := by omega
        all_goals rfl
    · have e5 : A.kdV (fun p => if p = y then gK else B p) (fun p => if p = y then true else K p) x = A.kdV B K x := by unfold Ar.kdV; simp [e]
      rw [e5]
      refine c1.other _ ?_
      rcases h.sep ok hx hy e with s1 | s1 | s1
      · exact .inl s1
      · exact .inr (.inr (by omega))
      · exact .inr (.inl (by omega))

theorem kp_put6 {g : Nat} {a w : World} (h : Kp [g] a w) (o : Nat) (v0 v1 v2 v3 v4 v5 : Value) : Kp [g] a (put6 w g o v0 v1 v2 v3 v4 v5) := h.put6 (Or.inl (by simp)) _ _ _ _ _ _ _

/-- A kid's cells are written. -/
theorem Cs.kid {V : World} {pa : Option Addr × Nat × Nat} (h : Cs A w wr x0 gT τ B M K) (ok : A.Ok) {y j c : Nat} (hk : K y = true) (hj : j < (A.kids y).length) (hc : (A.kids y)[j] = c) (hcM : ¬ M c) (hcK : K c = false) (hc0 : c ≠ x0) (k : Kp [] wr V) (hat : Rk (fun b => wr.heap.size ≤ b) 2 V pa.1 pa.2.1 pa.2.2 (cs (A.lb c).attrs)) :
    Cs A w (put6 V (B y) (j * 6) (.int .i64 (A.lb c).kind) (.int .i64 (A.lb c).ns) (.string (A.lb c).name) (.slice pa.1 pa.2.1 pa.2.2) (.string (A.lb c).text) (.slice none 0 0)) x0 gT (fun b => if b < wr.heap.size then τ b else 1) B (fun x => M x ∨ x = c) K := by
  obtain ⟨T, hT⟩ : ∃ T : Nat → Nat, T = fun b => if b < wr.heap.size then τ b else 1 := ⟨_, rfl⟩
  have T0 : ∀ x, x < wr.heap.size → T x = τ x := fun x hx => by rw [hT]; simp only [if_pos hx]
  have hw1 : Cs A w V x0 gT T B M K := h.keep k (fun x hx => by simp at hx) T0
  rw [← hT]
  have huc : A.up c = some y := (ok.link y c).1 (by rw [← hc]; exact List.getElem_mem hj)
  have hplace : A.place y c = j := by rw [← hc]; exact Ar.place_at ok hj
  have habc : A.abk x0 gT B c = B y := by unfold Ar.abk; rw [if_neg hc0, Ar.par_eq huc]
  have haoc : A.aof x0 c = j * 6 := by unfold Ar.aof; rw [if_neg hc0, Ar.par_eq huc, hplace]
  obtain ⟨⟨cuy, y1, y2⟩, y3, y4, y5⟩ := hw1.bks y hk
  have hby : B y < wr.heap.size := (h.bks y hk).1.choose_spec.1.lt
  have k6 : Kp [B y] V (put6 V (B y) (j * 6) (.int .i64 (A.lb c).kind) (.int .i64 (A.lb c).ns) (.string (A.lb c).name) (.slice pa.1 pa.2.1 pa.2.2) (.string (A.lb c).text) (.slice none 0 0)) := kp_put6 (Kp.refl [B y] V) _ _ _ _ _ _ _
  have e6 := put6_eq V (B y) (j * 6) (.int .i64 (A.lb c).kind) (.int .i64 (A.lb c).ns) (.string (A.lb c).name) (.slice pa.1 pa.2.1 pa.2.2) (.string (A.lb c).text) (.slice none 0 0)
  obtain ⟨cur', g1, g2⟩ := setCells_block (B y) 38 [.int .i64 (A.lb c).kind, .int .i64 (A.lb c).ns, .string (A.lb c).name, .slice pa.1 pa.2.1 pa.2.2, .string (A.lb c).text, .slice none 0 0] (j * 6) V cuy y1
  have hget := setCells_get (B y) 38 [.int .i64 (A.lb c).kind, .int .i64 (A.lb c).ns, .string (A.lb c).name, .slice pa.1 pa.2.1 pa.2.2, .string (A.lb c).text, .slice none 0 0] (j * 6) V cuy cur' y1 g1 (by simp; omega)
  rw [← e6] at g1
  generalize put6 V (B y) (j * 6) (.int .i64 (A.lb c).kind) (.int .i64 (A.lb c).ns) (.string (A.lb c).name) (.slice pa.1 pa.2.1 pa.2.2) (.string (A.lb c).text) (.slice none 0 0) = W at g1 k6 ⊢
  have hbl : ∀ (g : Nat) (cu : Array Value), At V g cu 38 → ∃ cu', At W g cu' 38 ∧ cu'.size = cu.size := fun g cu hg => by
    by_cases e : g = B y
    · subst e
      have : cu = cuy := by
        unfold At at hg y1
        rw [y1] at hg
        simp only [Option.some.injEq, Obj.cells.injEq, and_true] at hg
        exact hg.symm
      exact ⟨cur', g1, by rw [this]; exact g2⟩
    · exact ⟨cu, hg.kept k6 (by simpa using e), rfl⟩
  refine ⟨hw1.kp.trans k6 (fun x hx => Or.inr (by rw [List.mem_singleton.1 hx]; exact y3)), ?_, hw1.topN, fun p hp => ?_, h.inj, fun x hx e => ?_, .inl h.mx, fun x hx => ?_⟩
  · obtain ⟨cu, t1, t2⟩ := hw1.top
    obtain ⟨cu', u1, u2⟩ := hbl gT cu t1
    exact ⟨cu', u1, by omega⟩
  · obtain ⟨⟨cu, t1, t2⟩, t3, t4, t5⟩ := hw1.bks p hp
    obtain ⟨cu', u1, u2⟩ := hbl (B p) cu t1
    exact ⟨⟨cu', u1, by omega⟩, t3, t4, t5⟩
  · rcases hx with hx | rfl
    · exact h.mkd x hx e
    · exact ⟨y, huc, hk⟩
  · by_cases e : x = c
    · subst e
      refine ⟨pa, ?_, ?_⟩
      · rw [habc, haoc]
        refine ⟨cur', _, g1, fun i hi => ?_⟩
        rw [hget, if_pos (by simp; omega), show j * 6 + i - j * 6 = i by omega]
        have e5 : A.kdV B K x = (none, 0, 0) := by unfold Ar.kdV; rw [if_neg (by rw [hcK]; simp)]
        rw [e5]
        rfl
      · refine ⟨hat.len, hat.cap, fun hn => ?_⟩
        obtain ⟨b, off, cu, t, hq, q1, q2, q3⟩ := hat.at' hn
        have hl := lt_of q2
        exact ⟨b, off, cu, t, ⟨by have := h.kp.size; omega, by rw [hT]; simp only [if_neg (show ¬ b < wr.heap.size by omega)]⟩, q1, by rw [k6.block b hl (by simp; omega)]; exact q2, q3⟩
    · have hx' : M x := hx.resolve_right e
      obtain ⟨pb, c1, c2⟩ := hw1.cl x hx'
      refine ⟨pb, ?_, c2.keep (fun z hz hzl => k6.block z hzl (fun hs => by
        rw [List.mem_singleton.1 hs] at hz
        have := hz.2
        rw [y4] at this
        cases this))⟩
      by_cases eb : A.abk x0 gT B x = B y
      · rw [eb] at c1 ⊢
        obtain ⟨cu, t, t1, t2⟩ := c1
        have hcu : cu = cuy ∧ t = 38 := by
          unfold At at y1
          rw [y1] at t1
          simp only [Option.some.injEq, Obj.cells.injEq, and_true] at t1
          exact ⟨t1.1.symm, t1.2.symm⟩
        obtain ⟨rfl, rfl⟩ := hcu
        refine ⟨cur', _, g1, fun i hi => ?_⟩
        have hap : A.aof x0 x + 6 ≤ j * 6 ∨ j * 6 + 6 ≤ A.aof x0 x := by
          have e0 : x ≠ x0 := fun e0 => by
            unfold Ar.abk at eb
            rw [if_pos e0] at eb
            exact y5 eb.symm
          obtain ⟨p, hu, hkp⟩ := h.mkd x hx' e0
          unfold Ar.abk at eb
          rw [if_neg e0, Ar.par_eq hu] at eb
          obtain rfl := h.inj p y hkp hk eb
          obtain ⟨_, h1⟩ := Ar.place_lt ok hu
          have : A.place p x ≠ j := fun e4 => by
            rw [e4, List.getElem?_eq_getElem hj, hc] at h1
            exact e (Option.some.inj h1).symm
          unfold Ar.aof
          rw [if_neg e0, Ar.par_eq hu]
          omega
        rw [hget, if_neg (by simp; omega)]
        exact t2 i hi
      · exact c1.of_block (k6.block _ (Nat.lt_of_lt_of_le (h.blk2 hx').2.2 k.size) (by simpa using eb))

/-- Once all is told. -/
theorem Cs.nd (h : Cs A w wr x0 gT τ B M K) (ok : A.Ok) (hM : ∀ x, A.Wn x x0 → M x) (hK : ∀ x, A.Wn x x0 → A.kids x ≠ [] → K x = true) (hK2 : ∀ x, A.kids x = [] → K x = false) (hx0 : x0 < A.n) :
    ∃ p, Cl wr gT 0 (A.lb x0) p ∧ Nd (fun b => w.heap.size ≤ b ∧ τ b ≠ 0) wr (A.lb x0) (A.below x0) p := by
  have key : ∀ m k x, x < A.n → A.anc k x = some x0 → A.n ≤ m + k → ∃ p, Cl wr (A.abk x0 gT B x) (A.aof x0 x) (A.lb x) p ∧ Nd (fun b => w.heap.size ≤ b ∧ τ b ≠ 0) wr (A.lb x) (A.below x) p := by
    intro m
    induction m with
    | zero => intro k x hx e hm; exact absurd (ok.anc_lt hx e) (by omega)
    | succ m ih =>
      intro k x hx e hm
      have hwn : A.Wn x x0 := ⟨k, e⟩
      obtain ⟨pa, c1, c2⟩ := h.cl x (hM x hwn)
      refine ⟨(pa, A.kdV B K x), c1, c2.mono (fun z _ hz => ⟨hz.1, by rw [hz.2]; omega⟩), ?_⟩
      rw [ok.below_kids]
      by_cases hks : A.kids x = []
      · have e5 : A.kdV B K x = (none, 0, 0) := by unfold Ar.kdV; rw [if_neg (by rw [hK2 x hks]; simp)]
        rw [e5, hks]
        exact Rt.nil _ _ _ _
      · have hkx := hK x hwn hks
        have e5 : A.kdV B K x = (some ⟨B x, 0, none⟩, (A.kids x).length, (A.kids x).length) := by unfold Ar.kdV; rw [if_pos hkx]
        rw [e5]
        obtain ⟨⟨cur, g1, g2⟩, g3, g4, _⟩ := h.bks x hkx
        refine ⟨cur.toList, ⟨by simp; omega, Nat.le_refl _, fun _ => ⟨B x, 0, cur, _, ⟨g3, by rw [g4]; omega⟩, rfl, g1, fun j hj => by simp⟩⟩, ?_⟩
        have row : ∀ (r : List Nat) (i : Nat), (A.kids x).drop i = r → Lf (fun b => w.heap.size ≤ b ∧ τ b ≠ 0) wr (r.foldr (fun c r => Fo.cons (A.lb c) (A.below c) r) .nil) (cur.toList.drop (i * 6)) := by
          intro r
          induction r with
          | nil =>
            intro i hi
            have hil : (A.kids x).length ≤ i := by
              have := congrArg List.length hi
              simp at this
              omega
            rw [List.foldr_nil]
            exact List.drop_eq_nil_of_le (by simp; omega)
          | cons c r ihr =>
            intro i hi
            have hil : i < (A.kids x).length := by
              have := congrArg List.length hi
              simp at this
              omega
            have hc : (A.kids x)[i] = c ∧ (A.kids x).drop (i + 1) = r := by
              rw [List.drop_eq_getElem_cons hil] at hi
              exact List.cons.inj hi
            have huc : A.up c = some x := (ok.link x c).1 (by rw [← hc.1]; exact List.getElem_mem hil)
            have hc0 : c ≠ x0 := fun e0 => by
              have := ok.not_up huc
              rw [e0] at this
              exact this hwn
            obtain ⟨p, d1, d2⟩ := ih (k + 1) c (ok.lt huc).1 (by simp only [Ar.anc, huc, Option.bind_some, e]) (by omega)
            have hab : A.abk x0 gT B c = B x := by unfold Ar.abk; rw [if_neg hc0, Ar.par_eq huc]
            have hao : A.aof x0 c = i * 6 := by unfold Ar.aof; rw [if_neg hc0, Ar.par_eq huc, ← hc.1, Ar.place_at ok hil]
            rw [hab, hao] at d1
            rw [List.foldr_cons]
            refine Lf.cons_iff.2 ⟨p, cur.toList.drop ((i + 1) * 6), ?_, d2, ihr (i + 1) hc.2⟩
            obtain ⟨cu, t, t1, t2⟩ := d1
            have hcu : cu = cur := by
              unfold At at g1
              rw [g1] at t1
              simp only [Option.some.injEq, Obj.cells.injEq, and_true] at t1
              exact t1.1.symm
            subst hcu
            apply List.ext_getElem?
            intro z
            rw [List.getElem?_drop]
            by_cases hz : z < 6
            · rw [List.getElem?_append_left (by rw [six_len]; exact hz), ← t2 z hz]; simp
            · rw [List.getElem?_append_right (by rw [six_len]; omega), six_len, List.getElem?_drop]
              congr 1
              omega
        have := row (A.kids x) 0 (List.drop_zero)
        rw [Nat.zero_mul, List.drop_zero] at this
        exact this
  obtain ⟨p, h1, h2⟩ := key A.n 0 x0 hx0 rfl (by omega)
  unfold Ar.abk Ar.aof at h1
  rw [if_pos rfl, if_pos rfl] at h1
  exact ⟨p, h1, h2⟩

end

end Go.Proofs.YtgjkfpmhgidpaaaGreat
