/-
  Joined: Mem PrA.
-/
import Derived.Test.YtpkppobkagdhkaaGreatJ9
import Derived.Test.YtpkppobkagdhkaaGreatJ11
import Derived.Test.YtpkppobkagdhkaaGreatJ3
import Derived.Lib.ConvBytes
import Derived.Deep.RegionHeld3
import Derived.BigQuiet

/-
  The program's arena as it lies in memory: eleven cells a node, and each node's own lists; which block is whose (tag).
-/
namespace Go.Proofs.YtpkppobkagdhkaaGreat
open Go.RowKit Go.Maps Utf
set_option linter.unusedVariables false
set_option linter.unusedSimpArgs false

/-- Where a node's own lists lie: its attributes, the table of their names, its text. -/
structure Np where
  ao : Option Addr
  an : Nat
  ac : Nat
  nm : Option Nat
  to : Option Addr
  tn : Nat
  tc : Nat

/-- The cells of a node. -/
def el (x : Pn) (p : Np) : List Value := [.int .i64 x.lb.kind, .int .i64 x.lb.ns, .string x.lb.name, .slice p.ao p.an p.ac, .map p.nm, .slice p.to p.tn p.tc, .int .i64 x.up, .int .i64 x.fi, .int .i64 x.la, .int .i64 x.ah, .int .i64 x.be]

theorem el_len (x : Pn) (p : Np) : (el x p).length = 11 := rfl

/-- Block b is a table of the names of l. -/
def Nt (w : World) (b : Nat) (l : List Att) : Prop := ∃ (D : DataW Unit) (k : Nat), w.ownsMap Tryz.prog 9 unitElem b k D ∧ k ≤ l.length ∧ ∀ x, Maps.has D (kl x) = hasN l x

theorem Nt.lt {w : World} {b : Nat} {l : List Att} (h : Nt w b l) : b < w.heap.size := by
  obtain ⟨D, k, h, _⟩ := h
  exact h.lt
theorem Nt.same {w w' : World} {b : Nat} {l : List Att} (h : Nt w b l) (hb : w'.heap[b]? = w.heap[b]?) : Nt w' b l := by
  obtain ⟨D, k, ⟨es, clock, h1, r⟩, r2⟩ := h
  exact ⟨D, k, ⟨es, clock, by rw [hb]; exact h1, r⟩, r2⟩

theorem cell_ofF {w : World} {g : Nat} {cur : Array Value} {e : TypeId} {fz : Nat × Nat} (h : w.heap[g]? = some (.cells cur e fz)) (j : Nat) : w.cell? ⟨g, j, none⟩ = cur[j]? := by
  simp [World.cell?, h]
theorem setCell_blockF {w : World} {g : Nat} {cur : Array Value} {e : TypeId} {fz : Nat × Nat} (h : w.heap[g]? = some (.cells cur e fz)) (o : Nat) (u : Value) : (w.setCell ⟨g, o, none⟩ u).heap[g]? = some (.cells (cur.setIfInBounds o u) e fz) := by
  simp only [World.setCell, Array.getElem?_modify, h]
  simp
theorem setCells_blockF (g : Nat) (e : TypeId) (fz : Nat × Nat) : ∀ (vs : List Value) (o : Nat) (w : World) (cur : Array Value), w.heap[g]? = some (.cells cur e fz) → ∃ cur', (w.setCells g o vs).heap[g]? = some (.cells cur' e fz) ∧ cur'.size = cur.size
  | [], _, _, cur, h => ⟨cur, h, rfl⟩
  | v :: r, o, w, cur, h => by
    obtain ⟨c, h1, h2⟩ := setCells_blockF g e fz r (o + 1) _ _ (setCell_blockF h o v)
    exact ⟨c, h1, by rw [h2]; simp⟩
theorem setCells_getF (g : Nat) (e : TypeId) (fz : Nat × Nat) (vs : List Value) (o : Nat) (w : World) (cur cur' : Array Value) (h : w.heap[g]? = some (.cells cur e fz)) (h' : (w.setCells g o vs).heap[g]? = some (.cells cur' e fz)) (hfit : o + vs.length ≤ cur.size) (k : Nat) :
    cur'[k]? = if o ≤ k ∧ k < o + vs.length then vs[k - o]? else cur[k]? := by
  rw [← cell_ofF h' k, ← cell_ofF h k]
  by_cases hk : o ≤ k ∧ k < o + vs.length
  · rw [if_pos hk]
    have := World.cell?_setCells_in g vs o w (fun j hj => by rw [cell_ofF h, Array.getElem?_eq_getElem (by omega)]; rfl) (k - o) (by omega)
    rw [show o + (k - o) = k by omega] at this
    rw [this, List.getElem?_eq_getElem]
  · rw [if_neg hk]
    exact World.cell?_setCells_out g vs o w ⟨g, k, none⟩ (fun _ _ => by show k < o ∨ o + vs.length ≤ k; omega)

/-- The bytes of a text in a block of its own; a cell behind them all may be frozen. -/
def OwT (w : World) (v : Value) (s : ByteArray) : Prop :=
  (v = .slice none 0 0 ∧ s.size = 0) ∨
  ∃ g c cur lo hi, v = .slice (some ⟨g, 0, none⟩) s.size c ∧ w.heap[g]? = some (.cells cur 5 (lo, hi)) ∧ s.size ≤ c ∧ c ≤ maxLen ∧ c ≤ cur.size ∧ ((lo = 0 ∧ hi = 0) ∨ c ≤ lo) ∧ ∀ j, j < s.size → cur[j]? = (byteCells s)[j]?

theorem OwT.lt {w : World} {v : Value} {s : ByteArray} (h : OwT w v s) : ∀ x, x ∈ blk v → x < w.heap.size := by
  intro x hx
  rcases h with ⟨rfl, _⟩ | ⟨g, c, cur, lo, hi, rfl, hg, _⟩
  · simp [blk] at hx
  · simp [blk] at hx
    subst hx
    exact lt_of hg
theorem OwT.keep {S : List Nat} {w w' : World} {v : Value} {s : ByteArray} (h : OwT w v s) (k : Kp S w w') (hn : ∀ x, x ∈ blk v → x ∉ S) : OwT w' v s := by
  have hl := h.lt
  rcases h with h | ⟨g, c, cur, lo, hi, rfl, hg, r⟩
  · exact Or.inl h
  · have hm : g ∈ blk (Value.slice (some ⟨g, 0, none⟩) s.size c) := by simp [blk]
    exact Or.inr ⟨g, c, cur, lo, hi, rfl, by rw [k.block g (hl g hm) (hn g hm)]; exact hg, r⟩
theorem OwT.nil (w : World) : OwT w (.slice none 0 0) ⟨#[]⟩ := Or.inl ⟨rfl, rfl⟩

theorem byteCells_b8 (s : ByteArray) : byteCells s = b8 (bytesOf s) := by simp [byteCells, b8, bytesOf, Function.comp_def]

theorem OwT.rb {w : World} {ao : Option Addr} {n c : Nat} {s : ByteArray} (h : OwT w (.slice ao n c) s) : Rb w ao n c (b8 (bytesOf s)) := by
  rw [← byteCells_b8]
  rcases h with ⟨h1, h2⟩ | ⟨g, c', cur, lo, hi, hv, hg, h1, h2, h3, h4, h5⟩
  · simp only [Value.slice.injEq] at h1
    obtain ⟨rfl, rfl, rfl⟩ := h1
    exact ⟨by rw [byteCells_length, h2], Nat.le_refl _, fun j hj => by omega⟩
  · simp only [Value.slice.injEq] at hv
    obtain ⟨rfl, rfl, rfl⟩ := hv
    exact ⟨(byteCells_length s).symm, h1, fun j hj => ⟨g, 0, rfl, by rw [Nat.zero_add, cell_ofF hg, h5 j hj]⟩⟩

theorem byteCells_app (s t : ByteArray) : byteCells (s ++ t) = byteCells s ++ byteCells t := by simp [byteCells, ByteArray.data_append]

/-- []byte(s). -/
theorem to_text (w : World) (s : ByteArray) (hs : s.size ≤ 1000000) : ∃ W c, (convert 9 49 (.string s)).run Tryz.prog w = .ok (.slice (some ⟨w.heap.size, 0, none⟩) s.size c) W ∧ OwT W (.slice (some ⟨w.heap.size, 0, none⟩) s.size c) s ∧ Kp [] w W := by
  refine ⟨_, _, Lib.run_convert_string_bytes (P := Tryz.prog) w 9 49 5 s Tryz.underlying9 Tryz.underlying49 Tryz.underlying5, Or.inr ⟨w.heap.size, _, _, _, _, rfl, Lib.bytesWorld_at_new w 5 s, grownCap_ge w s.size 0 5, grownCap_le_maxLen w _ _ _ (by unfold maxLen; omega), ?_, Or.inr ?_, fun j hj => ?_⟩, ⟨rfl, rfl, rfl, by rw [Lib.bytesWorld_size]; omega, fun k hk _ => Lib.bytesWorld_at_old w 5 s k hk⟩⟩
  · have := grownCap_ge w s.size 0 5
    simp [Lib.bytesCells]
    omega
  · have := grownCap_ge w s.size 0 5
    simp [Lib.bytesCells]
    omega
  · have := Lib.bytesWorld_cell w 5 s j hj
    rw [cell_ofF (Lib.bytesWorld_at_new w 5 s)] at this
    rw [this]
    simp [byteCells, List.getD, hj]

theorem infoB : (Tryz.prog.info? 5).map (fun i => (i.zero, i.size, i.bytes)) = some (some (.int .u8 0), 1, 1) := by kernel_rfl

/-- append, of a text onto bytes. -/
theorem OwT.app {w : World} {v : Value} {s : ByteArray} (h : OwT w v s) (t : ByteArray) (ht0 : 0 < t.size) (hlen : s.size + t.size ≤ 1000000) :
    ∃ v' w', (∀ ty, (Builtin.append_ #[49, 9] ty #[v, .string t]).run Tryz.prog w = .ok v' w') ∧ OwT w' v' (s ++ t) ∧ Kp (blk v) w w' ∧ (∀ k, k ∈ blk v' → k ∈ blk v ∨ k = w.heap.size) ∧ ∃ ao c, v' = .slice ao (s.size + t.size) c := by
  obtain ⟨i, hi0, hi1, hi2, hi3⟩ := info_parts infoB
  have ht := Tryz.underlying49
  have hs : Src Tryz.prog 1 9 (.string t) t.size (byteCells t) w := Src.ofString w Tryz.underlying9 t
  have hs' : Src Tryz.prog i.size 9 (.string t) t.size (byteCells t) w := by rw [hi2]; exact hs
  have hsz : (s ++ t).size = s.size + t.size := ByteArray.size_append
  have hbl := byteCells_length t
  have hbs := byteCells_length s
  have new : ∀ (z : Nat) (olds : List Value), olds = byteCells s → OwT (w.drew.alloc (.cells ((olds ++ byteCells t).toArray ++ Builtin.zeroCells (Value.int .u8 0).cells (grownCap w (s.size + t.size) z 5 - (s.size + t.size))) 5)) (.slice (some ⟨w.drew.heap.size, 0, none⟩) (s.size + t.size) (grownCap w (s.size + t.size) z 5)) (s ++ t) := fun z olds ho => by
    have hge := grownCap_ge w (s.size + t.size) z 5
    refine Or.inr ⟨w.drew.heap.size, _, _, 0, 0, by rw [hsz], heap_new w.drew _, by rw [hsz]; exact hge, grownCap_le_maxLen w _ _ _ (by unfold maxLen; omega), ?_, Or.inl ⟨rfl, rfl⟩, fun j hj => ?_⟩
    · rw [Array.size_append, zeroCells_size _ rfl, ho]
      simp [hbl, hbs]
      omega
    · rw [hsz] at hj
      rw [Array.getElem?_append_left (by rw [ho]; simp [hbl, hbs]; omega), byteCells_app, ho]
      simp
  rcases h with ⟨rfl, h0⟩ | ⟨g, cap, cur, lo, hi, rfl, hg, hc1, hc2, hc3, hc4, hc5⟩
  · have hr := fun ty => run_append_grow_src (P := Tryz.prog) w 49 9 ty 5 i (.int .u8 0) ht hi0 hi1 none 0 0 [] (run_firstCells_none w.drew i.size 0 0 0) (.string t) t.size (byteCells t) hs' (by omega) (by omega) (by rw [hi3]; exact growslice_fits (by omega) (by omega))
    have hn := new 0 [] (List.eq_nil_of_length_eq_zero (by omega)).symm
    rw [h0] at hn
    refine ⟨_, _, hr, hn, (Kp.refl _ _).drew.alloc _, fun k hk => ?_, ⟨_, _, by rw [h0]⟩⟩
    simp [blk] at hk
    exact Or.inr hk
  · by_cases hroom : s.size + t.size ≤ cap
    · have hr := fun ty => run_append_room_src (P := Tryz.prog) w 49 9 ty 5 i ht hi0 g 0 s.size cap (.string t) t.size (byteCells t) hs' hroom
        (fun j hj => by rw [hi2, cell_ofF hg, Array.getElem?_eq_getElem (by omega)]; rfl) (fun j hj => by
          simp only [World.frozen?, hg]
          rw [hi2]
          simp
          omega)
      obtain ⟨cur', hg', hsz'⟩ := setCells_blockF g 5 (lo, hi) (byteCells t) (0 + s.size * i.size) w cur hg
      have hget := setCells_getF g 5 (lo, hi) (byteCells t) (0 + s.size * i.size) w cur cur' hg hg' (by rw [hi2]; omega)
      refine ⟨_, _, hr, Or.inr ⟨g, cap, cur', lo, hi, by rw [hsz], hg', by rw [hsz]; exact hroom, hc2, by omega, hc4, fun j hj => ?_⟩, Kp.setCells g (Or.inl (by simp [blk])) _ _ _ (Kp.refl _ _), fun k hk => Or.inl (by simpa [blk] using hk), ⟨_, _, rfl⟩⟩
      rw [hget j, hi2, byteCells_app]
      simp only [Nat.mul_one, Nat.zero_add]
      rw [hsz] at hj
      by_cases hjx : j < s.size
      · rw [if_neg (by omega), List.getElem?_append_left (by omega), hc5 j hjx]
      · rw [if_pos (by omega), List.getElem?_append_right (by omega), hbs]
    · have hold : (Builtin.firstCells i.size s.size (.slice (some ⟨g, 0, none⟩) s.size cap)).run Tryz.prog w.drew = .ok (byteCells s).toArray w.drew :=
        run_firstCells_some w.drew i.size s.size ⟨g, 0, none⟩ s.size cap (byteCells s) (by rw [hi2, Nat.mul_one, hbs]) (fun j u hj => by
          rw [Addr.add_lit]
          show w.cell? _ = _
          have hjl := (List.getElem?_eq_some_iff.1 hj).1
          rw [Nat.zero_add, cell_ofF hg, hc5 j (by omega)]
          exact hj)
      have hr := fun ty => run_append_grow_src (P := Tryz.prog) w 49 9 ty 5 i (.int .u8 0) ht hi0 hi1 (some ⟨g, 0, none⟩) s.size cap (byteCells s) hold (.string t) t.size (byteCells t) hs' (by omega) (by omega) (by rw [hi3]; exact growslice_fits (by omega) (by omega))
      refine ⟨_, _, hr, new cap _ rfl, (Kp.refl _ _).drew.alloc _, fun k hk => ?_, ⟨_, _, rfl⟩⟩
      simp [blk] at hk
      exact Or.inr hk

/-- What a node has beside its cells. -/
structure Sd (tag : Nat → Nat) (w : World) (i : Nat) (l : Lb) (p : Np) : Prop where
  at' : OwnK 2 w 102 (.slice p.ao p.an p.ac) p.an (cs l.attrs)
  atT : ∀ x, x ∈ blk (.slice p.ao p.an p.ac) → tag x = 8 + 3 * i
  tx : OwT w (.slice p.to p.tn p.tc) l.text
  txT : ∀ x, x ∈ blk (.slice p.to p.tn p.tc) → tag x = 10 + 3 * i
  nm : ∀ b, p.nm = some b → Nt w b l.attrs ∧ tag b = 9 + 3 * i

theorem Sd.keep {tag tag' : Nat → Nat} {S : List Nat} {w w' : World} {i : Nat} {l : Lb} {p : Np} (h : Sd tag w i l p) (k : Kp S w w') (hS : ∀ x, x ∈ S → x < w.heap.size → tag x ≠ 8 + 3 * i ∧ tag x ≠ 9 + 3 * i ∧ tag x ≠ 10 + 3 * i) (ht : ∀ x, x < w.heap.size → tag' x = tag x) : Sd tag' w' i l p := by
  refine ⟨h.at'.keep k (fun x hx hs => ?_), fun x hx => ?_, h.tx.keep k (fun x hx hs => ?_), fun x hx => ?_, fun b hb => ?_⟩
  · exact (hS x hs (h.at'.lt x hx)).1 (h.atT x hx)
  · rw [ht x (h.at'.lt x hx)]; exact h.atT x hx
  · exact (hS x hs (h.tx.lt x hx)).2.2 (h.txT x hx)
  · rw [ht x (h.tx.lt x hx)]; exact h.txT x hx
  · obtain ⟨h1, h2⟩ := h.nm b hb
    exact ⟨h1.same (k.block b h1.lt (fun hs => (hS b hs h1.lt).2.1 h2)), by rw [ht b h1.lt]; exact h2⟩

/-- The arena in block b, whose n nodes lie in block g from cell o on, with room for c. -/
structure Rw (tag : Nat → Nat) (w : World) (b g o c : Nat) (q : Bool) (n : Nat) (N : Nat → Pn) (pl : Nat → Np) : Prop where
  hd : At w b #[.slice (some ⟨g, o, none⟩) n c, .bool q] 88
  tb : tag b = 1
  cap : n ≤ c
  max : c ≤ maxLen
  body : ∃ cur, At w g cur 109 ∧ o + c * 11 ≤ cur.size ∧ ∀ i, i < n → ∀ k, k < 11 → cur[o + i * 11 + k]? = (el (N i) (pl i))[k]?
  tg : tag g = 2
  side : ∀ i, i < n → Sd tag w i (N i).lb (pl i)

/-- The marks of the program's arena. -/
def isP (t : Nat) : Prop := t = 1 ∨ t = 2 ∨ 8 ≤ t

theorem Rw.ne {tag : Nat → Nat} {w : World} {b g o c : Nat} {q : Bool} {n : Nat} {N : Nat → Pn} {pl : Nat → Np} (h : Rw tag w b g o c q n N pl) : b ≠ g := fun e => by
  have h1 := h.tb
  rw [e, h.tg] at h1
  cases h1

theorem Rw.lt {tag : Nat → Nat} {w : World} {b g o c : Nat} {q : Bool} {n : Nat} {N : Nat → Pn} {pl : Nat → Np} (h : Rw tag w b g o c q n N pl) : b < w.heap.size ∧ g < w.heap.size := by
  obtain ⟨cur, h1, _⟩ := h.body
  exact ⟨h.hd.lt, h1.lt⟩

theorem Rw.keep {tag tag' : Nat → Nat} {S : List Nat} {w w' : World} {b g o c : Nat} {q : Bool} {n : Nat} {N : Nat → Pn} {pl : Nat → Np} (h : Rw tag w b g o c q n N pl) (k : Kp S w w') (hS : ∀ x, x ∈ S → x < w.heap.size → ¬ isP (tag x)) (ht : ∀ x, x < w.heap.size → tag' x = tag x) : Rw tag' w' b g o c q n N pl := by
  obtain ⟨lb, lg⟩ := h.lt
  obtain ⟨cur, h1, h2, h3⟩ := h.body
  refine ⟨h.hd.kept k (fun hs => hS b hs lb (.inl h.tb)), by rw [ht b lb]; exact h.tb, h.cap, h.max, ⟨cur, h1.kept k (fun hs => hS g hs lg (.inr (.inl h.tg))), h2, h3⟩, by rw [ht g lg]; exact h.tg, fun i hi => (h.side i hi).keep k (fun x hs hx => ?_) ht⟩
  have := hS x hs hx
  unfold isP at this
  omega

theorem Rw.kept {tag : Nat → Nat} {w w' : World} {b g o c : Nat} {q : Bool} {n : Nat} {N : Nat → Pn} {pl : Nat → Np} (h : Rw tag w b g o c q n N pl) (k : Kp [] w w') : Rw tag w' b g o c q n N pl :=
  h.keep k (fun x hx => absurd hx (by simp)) (fun _ _ => rfl)

/-- The arena's own two cells. -/
theorem Rw.head {tag : Nat → Nat} {w : World} {b g o c : Nat} {q : Bool} {n : Nat} {N : Nat → Pn} {pl : Nat → Np} (h : Rw tag w b g o c q n N pl) :
    w.cell? ⟨b, 0, none⟩ = some (.slice (some ⟨g, o, none⟩) n c) ∧ w.cell? ⟨b, 1, none⟩ = some (.bool q) := ⟨h.hd.cell 0, h.hd.cell 1⟩

/-- A node's cell. -/
theorem Rw.at {tag : Nat → Nat} {w : World} {b g o c : Nat} {q : Bool} {n : Nat} {N : Nat → Pn} {pl : Nat → Np} (h : Rw tag w b g o c q n N pl) {i : Nat} (hi : i < n) {k : Nat} (hk : k < 11) : w.cell? ⟨g, o + i * 11 + k, none⟩ = (el (N i) (pl i))[k]? := by
  obtain ⟨cur, h1, h2, h3⟩ := h.body
  rw [h1.cell, h3 i hi k hk]

theorem Rw.free {tag : Nat → Nat} {w : World} {b g o c : Nat} {q : Bool} {n : Nat} {N : Nat → Pn} {pl : Nat → Np} (h : Rw tag w b g o c q n N pl) (j : Nat) : w.frozen? ⟨g, j, none⟩ = false := by
  obtain ⟨cur, h1, h2, h3⟩ := h.body
  exact h1.free j

theorem Rw.freeb {tag : Nat → Nat} {w : World} {b g o c : Nat} {q : Bool} {n : Nat} {N : Nat → Pn} {pl : Nat → Np} (h : Rw tag w b g o c q n N pl) (j : Nat) : w.frozen? ⟨b, j, none⟩ = false := h.hd.free j

theorem idx11 {i j k l : Nat} (hk : k < 11) (hl : l < 11) : i * 11 + k = j * 11 + l ↔ i = j ∧ k = l := by omega

/-- A cell of a node is written. -/
theorem Rw.set {tag : Nat → Nat} {w : World} {b g o c : Nat} {q : Bool} {n : Nat} {N N' : Nat → Pn} {pl pl' : Nat → Np} (h : Rw tag w b g o c q n N pl) {i k : Nat} (hi : i < n) (hk : k < 11) (u : Value) (he : el (N' i) (pl' i) = (el (N i) (pl i)).set k u) (hN : ∀ j, j < n → j ≠ i → N' j = N j ∧ pl' j = pl j) (hs : Sd tag w i (N' i).lb (pl' i)) :
    Rw tag (w.setCell ⟨g, o + i * 11 + k, none⟩ u) b g o c q n N' pl' := by
  have hne := h.ne
  obtain ⟨cur, h1, h2, h3⟩ := h.body
  have k1 : Kp [g] w (w.setCell ⟨g, o + i * 11 + k, none⟩ u) := (Kp.refl _ _).setCell (Or.inl (by simp)) _
  refine ⟨h.hd.kept k1 (by simpa using hne), h.tb, h.cap, h.max, ⟨_, h1.set _ u, by simpa using h2, fun j hj l hl => ?_⟩, h.tg, fun j hj => ?_⟩
  · rw [Array.getElem?_setIfInBounds]
    have hcap := h.cap
    have hm : i * 11 + 11 ≤ c * 11 := by omega
    by_cases hjl : o + i * 11 + k = o + j * 11 + l
    · obtain ⟨rfl, rfl⟩ := (idx11 (i := i) (j := j) hk hl).1 (by omega)
      rw [if_pos rfl, if_pos (by omega), he, List.getElem?_set_self (by rw [el_len]; exact hk)]
    · rw [if_neg hjl]
      by_cases hji : j = i
      · subst hji
        rw [he, List.getElem?_set_ne (fun e => hjl (by rw [e])), h3 j hj l hl]
      · rw [(hN j hj hji).1, (hN j hj hji).2, h3 j hj l hl]
  · have hT : ∀ x, x ∈ [g] → x < w.heap.size → tag x ≠ 8 + 3 * j ∧ tag x ≠ 9 + 3 * j ∧ tag x ≠ 10 + 3 * j := fun x hx _ => by
      rw [List.mem_singleton.1 hx, h.tg]; omega
    by_cases hji : j = i
    · subst hji; exact hs.keep k1 hT (fun _ _ => rfl)
    · rw [(hN j hj hji).1, (hN j hj hji).2]; exact (h.side j hj).keep k1 hT (fun _ _ => rfl)

section
variable {tag : Nat → Nat} {w : World} {b g o c : Nat} {q : Bool} {n : Nat} {N : Nat → Pn} {pl : Nat → Np}

theorem Rw.sUp (h : Rw tag w b g o c q n N pl) {i : Nat} (hi : i < n) (v : Int) : Rw tag (w.setCell ⟨g, o + i * 11 + 6, none⟩ (.int .i64 v)) b g o c q n (sUp N i v) pl :=
  h.set hi (by omega) _ (by simp [Go.Proofs.YtpkppobkagdhkaaGreat.sUp, el]) (fun j _ hj => ⟨by simp [Go.Proofs.YtpkppobkagdhkaaGreat.sUp, hj], rfl⟩) (by simp only [Go.Proofs.YtpkppobkagdhkaaGreat.sUp, if_pos]; exact h.side i hi)
theorem Rw.sFi (h : Rw tag w b g o c q n N pl) {i : Nat} (hi : i < n) (v : Int) : Rw tag (w.setCell ⟨g, o + i * 11 + 7, none⟩ (.int .i64 v)) b g o c q n (sFi N i v) pl :=
  h.set hi (by omega) _ (by simp [Go.Proofs.YtpkppobkagdhkaaGreat.sFi, el]) (fun j _ hj => ⟨by simp [Go.Proofs.YtpkppobkagdhkaaGreat.sFi, hj], rfl⟩) (by simp only [Go.Proofs.YtpkppobkagdhkaaGreat.sFi, if_pos]; exact h.side i hi)
theorem Rw.sLa (h : Rw tag w b g o c q n N pl) {i : Nat} (hi : i < n) (v : Int) : Rw tag (w.setCell ⟨g, o + i * 11 + 8, none⟩ (.int .i64 v)) b g o c q n (sLa N i v) pl :=
  h.set hi (by omega) _ (by simp [Go.Proofs.YtpkppobkagdhkaaGreat.sLa, el]) (fun j _ hj => ⟨by simp [Go.Proofs.YtpkppobkagdhkaaGreat.sLa, hj], rfl⟩) (by simp only [Go.Proofs.YtpkppobkagdhkaaGreat.sLa, if_pos]; exact h.side i hi)
theorem Rw.sAh (h : Rw tag w b g o c q n N pl) {i : Nat} (hi : i < n) (v : Int) : Rw tag (w.setCell ⟨g, o + i * 11 + 9, none⟩ (.int .i64 v)) b g o c q n (sAh N i v) pl :=
  h.set hi (by omega) _ (by simp [Go.Proofs.YtpkppobkagdhkaaGreat.sAh, el]) (fun j _ hj => ⟨by simp [Go.Proofs.YtpkppobkagdhkaaGreat.sAh, hj], rfl⟩) (by simp only [Go.Proofs.YtpkppobkagdhkaaGreat.sAh, if_pos]; exact h.side i hi)
theorem Rw.sBe (h : Rw tag w b g o c q n N pl) {i : Nat} (hi : i < n) (v : Int) : Rw tag (w.setCell ⟨g, o + i * 11 + 10, none⟩ (.int .i64 v)) b g o c q n (sBe N i v) pl :=
  h.set hi (by omega) _ (by simp [Go.Proofs.YtpkppobkagdhkaaGreat.sBe, el]) (fun j _ hj => ⟨by simp [Go.Proofs.YtpkppobkagdhkaaGreat.sBe, hj], rfl⟩) (by simp only [Go.Proofs.YtpkppobkagdhkaaGreat.sBe, if_pos]; exact h.side i hi)

/-- A node's link cells. -/
theorem Rw.links (h : Rw tag w b g o c q n N pl) {i : Nat} (hi : i < n) : w.cell? ⟨g, o + i * 11 + 6, none⟩ = some (.int .i64 (N i).up) ∧ w.cell? ⟨g, o + i * 11 + 7, none⟩ = some (.int .i64 (N i).fi) ∧ w.cell? ⟨g, o + i * 11 + 8, none⟩ = some (.int .i64 (N i).la) ∧ w.cell? ⟨g, o + i * 11 + 9, none⟩ = some (.int .i64 (N i).ah) ∧ w.cell? ⟨g, o + i * 11 + 10, none⟩ = some (.int .i64 (N i).be) :=
  ⟨h.at hi (by omega), h.at hi (by omega), h.at hi (by omega), h.at hi (by omega), h.at hi (by omega)⟩
theorem Rw.fields (h : Rw tag w b g o c q n N pl) {i : Nat} (hi : i < n) : w.cell? ⟨g, o + i * 11, none⟩ = some (.int .i64 (N i).lb.kind) ∧ w.cell? ⟨g, o + i * 11 + 1, none⟩ = some (.int .i64 (N i).lb.ns) ∧ w.cell? ⟨g, o + i * 11 + 2, none⟩ = some (.string (N i).lb.name) ∧ w.cell? ⟨g, o + i * 11 + 3, none⟩ = some (.slice (pl i).ao (pl i).an (pl i).ac) ∧ w.cell? ⟨g, o + i * 11 + 4, none⟩ = some (.map (pl i).nm) ∧ w.cell? ⟨g, o + i * 11 + 5, none⟩ = some (.slice (pl i).to (pl i).tn (pl i).tc) :=
  ⟨h.at (k := 0) hi (by omega), h.at hi (by omega), h.at hi (by omega), h.at hi (by omega), h.at hi (by omega), h.at hi (by omega)⟩

end

end Go.Proofs.YtpkppobkagdhkaaGreat

/-
  The program's arena: has, join, aheadOf, link, unlink; what a node may be.
-/
namespace Go.Proofs.YtpkppobkagdhkaaGreat
open Go.RowKit Go.Maps Utf
set_option linter.unusedVariables false
set_option linter.unusedSimpArgs false

/-- A node, or none. -/
def Nn (n : Nat) (z : Int) : Prop := z = -1 ∨ ∃ x : Nat, z = (x : Int) ∧ x < n

section
variable {tag : Nat → Nat} {w : World} {b g o c : Nat} {q : Bool} {n : Nat} {N : Nat → Pn} {pl : Nat → Np}

theorem has_any (h : Rw tag w b g o c q n N pl) (hn : n < 100000) (z : Int) :
    Calls Tryz.prog 33 #[.pointer (some ⟨b, 0, none⟩), .int .i64 z] w fun e w' => e = .returned (.bool (decide (0 ≤ z ∧ z < n))) ∧ w' = w := by
  obtain ⟨c0, _⟩ := h.head
  clear h
  by_cases h1 : 0 ≤ z
  · by_cases h2 : z < n
    · rw [decide_eq_true ⟨h1, h2⟩]
      go_enter Tryz.func33, Tryz.ntmps33
      go_wp2
      go_ret
      exact ⟨rfl, rfl⟩
    · rw [decide_eq_false (fun e => h2 e.2)]
      go_enter Tryz.func33, Tryz.ntmps33
      go_wp2
      go_ret
      exact ⟨rfl, rfl⟩
  · rw [decide_eq_false (fun e => h1 e.1)]
    go_enter Tryz.func33, Tryz.ntmps33
    go_wp2
    go_ret
    exact ⟨rfl, rfl⟩

theorem kpg {g : Nat} {a w : World} (h : Kp [g] a w) (j : Nat) (u : Value) : Kp [g] a (w.setCell ⟨g, j, none⟩ u) := h.setCell (Or.inl (by simp)) u

/-- The arena in w, whose nodes' block alone has turned since w0. -/
def Rz (w0 : World) (tag : Nat → Nat) (w : World) (b g o c : Nat) (q : Bool) (n : Nat) (N : Nat → Pn) (pl : Nat → Np) : Prop := Rw tag w b g o c q n N pl ∧ Kp [g] w0 w

theorem Rz.mk {w0 : World} (h : Rw tag w b g o c q n N pl) (k : Kp [g] w0 w) : Rz w0 tag w b g o c q n N pl := ⟨h, k⟩
theorem Rz.sUp {w0 : World} (h : Rz w0 tag w b g o c q n N pl) {i : Nat} (hi : i < n) (v : Int) : Rz w0 tag (w.setCell ⟨g, o + i * 11 + 6, none⟩ (.int .i64 v)) b g o c q n (sUp N i v) pl := ⟨h.1.sUp hi v, kpg h.2 _ _⟩
theorem Rz.sFi {w0 : World} (h : Rz w0 tag w b g o c q n N pl) {i : Nat} (hi : i < n) (v : Int) : Rz w0 tag (w.setCell ⟨g, o + i * 11 + 7, none⟩ (.int .i64 v)) b g o c q n (sFi N i v) pl := ⟨h.1.sFi hi v, kpg h.2 _ _⟩
theorem Rz.sLa {w0 : World} (h : Rz w0 tag w b g o c q n N pl) {i : Nat} (hi : i < n) (v : Int) : Rz w0 tag (w.setCell ⟨g, o + i * 11 + 8, none⟩ (.int .i64 v)) b g o c q n (sLa N i v) pl := ⟨h.1.sLa hi v, kpg h.2 _ _⟩
theorem Rz.sAh {w0 : World} (h : Rz w0 tag w b g o c q n N pl) {i : Nat} (hi : i < n) (v : Int) : Rz w0 tag (w.setCell ⟨g, o + i * 11 + 9, none⟩ (.int .i64 v)) b g o c q n (sAh N i v) pl := ⟨h.1.sAh hi v, kpg h.2 _ _⟩
theorem Rz.sBe {w0 : World} (h : Rz w0 tag w b g o c q n N pl) {i : Nat} (hi : i < n) (v : Int) : Rz w0 tag (w.setCell ⟨g, o + i * 11 + 10, none⟩ (.int .i64 v)) b g o c q n (sBe N i v) pl := ⟨h.1.sBe hi v, kpg h.2 _ _⟩

set_option maxHeartbeats 1000000 in
theorem join_any (h : Rw tag w b g o c q n N pl) (hn : n < 100000) (p : Nat) (hp : p < n) (a z : Int) (ha : Nn n a) (hz : Nn n z) :
    Calls Tryz.prog 128 #[.pointer (some ⟨b, 0, none⟩), .int .i64 p, .int .i64 a, .int .i64 z] w fun e w' => e = .returned (.tuple #[]) ∧ Rz w tag w' b g o c q n (joinF N p a z) pl := by
  have hne := h.ne
  have hp0 : (0 : Int) ≤ (p : Int) := by omega
  have hp1 : (p : Int) < (n : Int) := by omega
  have hN : ∀ y : Nat, ¬ ((y : Int) = -1) := fun y => by omega
  rcases ha with rfl | ⟨x, rfl, hx⟩
  · have h1 := h.sFi hp z
    have z1 := (Rz.mk h (Kp.refl [g] w)).sFi hp z
    rcases hz with rfl | ⟨y, rfl, hy⟩
    · have hfin : Hid (Rz w tag _ b g o c q n (joinF N p (-1) (-1)) pl) := z1.sLa hp (-1)
      obtain ⟨c0, _⟩ := h.head
      obtain ⟨_, l1, l2, _⟩ := h.links hp
      obtain ⟨c1, _⟩ := h1.head
      obtain ⟨_, _, m2, _⟩ := h1.links hp
      have f0 := h.free
      have f1 := h1.free
      clear h h1 z1
      go_enter Tryz.func128, Tryz.ntmps128
      go_wp2
      go_end0
      exact ⟨rfl, hfin.out⟩
    · have e : joinF N p (-1) (y : Int) = sAh (sFi N p y) y (-1) := by unfold joinF joinA joinB; rw [if_pos rfl, if_neg (hN y), Int.toNat_natCast]
      have hf := z1.sAh hy (-1)
      rw [← e] at hf
      have hfin : Hid (Rz w tag _ b g o c q n (joinF N p (-1) (y : Int)) pl) := hf
      clear hf
      have hy0 : (0 : Int) ≤ (y : Int) := by omega
      have hy1 : (y : Int) < (n : Int) := by omega
      have t1 : ((y : Int) == -1) = false := beq_false_of_ne (by omega)
      obtain ⟨c0, _⟩ := h.head
      obtain ⟨_, l1, l2, _⟩ := h.links hp
      obtain ⟨c1, _⟩ := h1.head
      obtain ⟨_, _, _, m2, _⟩ := h1.links hy
      have f0 := h.free
      have f1 := h1.free
      clear h h1 z1
      go_enter Tryz.func128, Tryz.ntmps128
      go_wp2
      go_end0
      exact ⟨rfl, hfin.out⟩
  · have h1 := h.sBe hx z
    have z1 := (Rz.mk h (Kp.refl [g] w)).sBe hx z
    have hx0 : (0 : Int) ≤ (x : Int) := by omega
    have hx1 : (x : Int) < (n : Int) := by omega
    have t2 : ((x : Int) == -1) = false := beq_false_of_ne (by omega)
    rcases hz with rfl | ⟨y, rfl, hy⟩
    · have e : joinF N p (x : Int) (-1) = sLa (sBe N x (-1)) p x := by unfold joinF joinA joinB; rw [if_neg (hN x), if_pos rfl, Int.toNat_natCast]
      have hf := z1.sLa hp x
      rw [← e] at hf
      have hfin : Hid (Rz w tag _ b g o c q n (joinF N p (x : Int) (-1)) pl) := hf
      clear hf
      obtain ⟨c0, _⟩ := h.head
      obtain ⟨_, _, _, _, l1⟩ := h.links hx
      obtain ⟨c1, _⟩ := h1.head
      obtain ⟨_, _, m2, _⟩ := h1.links hp
      have f0 := h.free
      have f1 := h1.free
      clear h h1 z1
      go_enter Tryz.func128, Tryz.ntmps128
      go_wp2
      go_end0
      exact ⟨rfl, hfin.out⟩
    · have e : joinF N p (x : Int) (y : Int) = sAh (sBe N x y) y x := by unfold joinF joinA joinB; rw [if_neg (hN x), if_neg (hN y), Int.toNat_natCast, Int.toNat_natCast]
      have hf := z1.sAh hy x
      rw [← e] at hf
      have hfin : Hid (Rz w tag _ b g o c q n (joinF N p (x : Int) (y : Int)) pl) := hf
      clear hf
      have hy0 : (0 : Int) ≤ (y : Int) := by omega
      have hy1 : (y : Int) < (n : Int) := by omega
      have t1 : ((y : Int) == -1) = false := beq_false_of_ne (by omega)
      obtain ⟨c0, _⟩ := h.head
      obtain ⟨_, _, _, _, l1⟩ := h.links hx
      obtain ⟨c1, _⟩ := h1.head
      obtain ⟨_, _, _, m2, _⟩ := h1.links hy
      have f0 := h.free
      have f1 := h1.free
      clear h h1 z1
      go_enter Tryz.func128, Tryz.ntmps128
      go_wp2
      go_end0
      exact ⟨rfl, hfin.out⟩

theorem ahead_any (h : Rw tag w b g o c q n N pl) (hn : n < 100000) (p : Nat) (hp : p < n) (z : Int) (hz : Nn n z) :
    Calls Tryz.prog 127 #[.pointer (some ⟨b, 0, none⟩), .int .i64 p, .int .i64 z] w fun e w' => e = .returned (.int .i64 (aheadF N p z)) ∧ w' = w := by
  have hp0 : (0 : Int) ≤ (p : Int) := by omega
  have hp1 : (p : Int) < (n : Int) := by omega
  obtain ⟨c0, _⟩ := h.head
  rcases hz with rfl | ⟨y, rfl, hy⟩
  · obtain ⟨_, _, l1, _⟩ := h.links hp
    clear h
    show Calls _ _ _ _ fun e w' => e = .returned (.int .i64 (N p).la) ∧ w' = w
    go_enter Tryz.func127, Tryz.ntmps127
    go_wp2
    go_ret
    exact ⟨rfl, rfl⟩
  · obtain ⟨_, _, _, l1, _⟩ := h.links hy
    clear h
    have t1 : ((y : Int) == -1) = false := beq_false_of_ne (by omega)
    have hy0 : (0 : Int) ≤ (y : Int) := by omega
    have hy1 : (y : Int) < (n : Int) := by omega
    have e : aheadF N p (y : Int) = (N y).ah := by unfold aheadF; rw [if_neg (by omega), Int.toNat_natCast]
    rw [e]
    go_enter Tryz.func127, Tryz.ntmps127
    go_wp2
    go_ret
    exact ⟨rfl, rfl⟩

theorem aheadF_nn (hN : ∀ i, i < n → Nn n (N i).la ∧ Nn n (N i).ah) {p : Nat} (hp : p < n) {z : Int} (hz : Nn n z) : Nn n (aheadF N p z) := by
  unfold aheadF
  rcases hz with rfl | ⟨y, rfl, hy⟩
  · rw [if_pos rfl]; exact (hN p hp).1
  · rw [if_neg (by omega), Int.toNat_natCast]; exact (hN y hy).2

set_option maxHeartbeats 1000000 in
theorem link_any (h : Rw tag w b g o c q n N pl) (hn : n < 100000) (p : Nat) (hp : p < n) (z : Int) (hz : Nn n z) (x : Nat) (hx : x < n) (ha : Nn n (aheadF N p z)) :
    Calls Tryz.prog 108 #[.pointer (some ⟨b, 0, none⟩), .int .i64 p, .int .i64 z, .int .i64 x] w fun e w' => e = .returned (.tuple #[]) ∧ Rz w tag w' b g o c q n (linkF N p z x) pl := by
  have HA := ahead_any h hn p hp z hz
  have h1 := h.sUp hx (p : Int)
  have k1 : Kp [g] w (w.setCell ⟨g, o + x * 11 + 6, none⟩ (.int .i64 (p : Int))) := kpg (Kp.refl [g] w) _ _
  have HJ := join_any h1 hn p hp (aheadF N p z) (x : Int) ha (.inr ⟨x, rfl, hx⟩)
  have HK : Hid (∀ V, Rw tag V b g o c q n (joinF (sUp N x p) p (aheadF N p z) x) pl → Calls Tryz.prog 128 #[.pointer (some ⟨b, 0, none⟩), .int .i64 p, .int .i64 x, .int .i64 z] V fun e w' => e = .returned (.tuple #[]) ∧ Rz V tag w' b g o c q n (linkF N p z x) pl) := fun V hV => join_any hV hn p hp (x : Int) z (.inr ⟨x, rfl, hx⟩) hz
  obtain ⟨c0, _⟩ := h.head
  obtain ⟨l1, _⟩ := h.links hx
  have f0 := h.free
  have hx0 : (0 : Int) ≤ (x : Int) := by omega
  have hx1 : (x : Int) < (n : Int) := by omega
  generalize aheadF N p z = y at HA HJ HK
  clear h h1
  go_enter Tryz.func108, Tryz.ntmps108
  go_wp2_with (go_at_call 127; refine HA.mono ?_; rintro e w2 ⟨rfl, hw⟩; have hw2 := hw.symm; clear hw; subst hw2)
  refine HJ.mono ?_
  rintro e w2 ⟨rfl, r2, k2⟩
  have HK2 := HK.out _ r2
  have K2 : Hid (Kp [g] w w2) := k1.trans k2 (fun x hx => Or.inl hx)
  clear HA HJ k1 HK r2 k2
  go_wp2_with fail
  refine HK2.mono ?_
  rintro e w3 ⟨rfl, r3, k3⟩
  go_wp2
  go_end0
  exact ⟨rfl, r3, K2.out.trans k3 (fun x hx => Or.inl hx)⟩

set_option maxRecDepth 100000 in
set_option maxHeartbeats 1000000 in
theorem unlink_any (h : Rw tag w b g o c q n N pl) (hn : n < 100000) (p : Nat) (hp : p < n) (x : Nat) (hx : x < n) (hu : (N x).up = p) (ha : Nn n (N x).ah) (hb : Nn n (N x).be) (hna : (N x).ah ≠ x) (hnb : (N x).be ≠ x) :
    Calls Tryz.prog 113 #[.pointer (some ⟨b, 0, none⟩), .int .i64 x] w fun e w' => e = .returned (.tuple #[]) ∧ Rz w tag w' b g o c q n (unlinkF N p x) pl := by
  have HJ : Hid (∀ V, Kp [] w V → Calls Tryz.prog 128 #[.pointer (some ⟨b, 0, none⟩), .int .i64 p, .int .i64 (N x).ah, .int .i64 (N x).be] V fun e w' => e = .returned (.tuple #[]) ∧ Rz V tag w' b g o c q n (joinF N p (N x).ah (N x).be) pl) := fun V kV => join_any (h.kept kV) hn p hp _ _ ha hb
  have e1 : (joinF N p (N x).ah (N x).be x).up = p := by rw [joinF_up]; exact hu
  have e2 : (joinF N p (N x).ah (N x).be x).ah = (N x).ah := by rw [joinF_ah, if_neg]; rintro ⟨h1, h2⟩; exact hnb (by rcases hb with h3 | ⟨y, h3, _⟩ <;> omega)
  have e3 : (joinF N p (N x).ah (N x).be x).be = (N x).be := by rw [joinF_be, if_neg]; rintro ⟨h1, h2⟩; exact hna (by rcases ha with h3 | ⟨y, h3, _⟩ <;> omega)
  have C1 : Hid (∀ V, Rw tag V b g o c q n (joinF N p (N x).ah (N x).be) pl → V.cell? ⟨g, o + x * 11 + 6, none⟩ = some (.int .i64 p) ∧ V.cell? ⟨g, o + x * 11 + 9, none⟩ = some (.int .i64 (N x).ah) ∧ V.cell? ⟨g, o + x * 11 + 10, none⟩ = some (.int .i64 (N x).be)) := fun V hV => by
    obtain ⟨m1, _, _, m2, m3⟩ := hV.links hx
    rw [e1] at m1; rw [e2] at m2; rw [e3] at m3
    exact ⟨m1, m2, m3⟩
  have HF : Hid (∀ V, Rz w tag V b g o c q n (joinF N p (N x).ah (N x).be) pl → Rz w tag (((V.setCell ⟨g, o + x * 11 + 6, none⟩ (.int .i64 (-1))).setCell ⟨g, o + x * 11 + 9, none⟩ (.int .i64 (-1))).setCell ⟨g, o + x * 11 + 10, none⟩ (.int .i64 (-1))) b g o c q n (unlinkF N p x) pl) := fun V hV => ((hV.sUp hx (-1)).sAh hx (-1)).sBe hx (-1)
  have HC : Hid (∀ V, Rw tag V b g o c q n (joinF N p (N x).ah (N x).be) pl → (∃ u, V.cell? ⟨g, o + x * 11 + 6, none⟩ = some u) ∧ (∀ j, V.frozen? ⟨g, j, none⟩ = false) ∧ (∃ u, (V.setCell ⟨g, o + x * 11 + 6, none⟩ (.int .i64 (-1))).cell? ⟨g, o + x * 11 + 9, none⟩ = some u) ∧ (∃ u, ((V.setCell ⟨g, o + x * 11 + 6, none⟩ (.int .i64 (-1))).setCell ⟨g, o + x * 11 + 9, none⟩ (.int .i64 (-1))).cell? ⟨g, o + x * 11 + 10, none⟩ = some u)) := fun V hV => ⟨⟨_, (hV.links hx).1⟩, hV.free, ⟨_, ((hV.sUp hx (-1)).links hx).2.2.2.1⟩, ⟨_, (((hV.sUp hx (-1)).sAh hx (-1)).links hx).2.2.2.2⟩⟩
  obtain ⟨c0, _⟩ := h.head
  obtain ⟨l1, _, _, l2, l3⟩ := h.links hx
  rw [hu] at l1
  have hx0 : (0 : Int) ≤ (x : Int) := by omega
  have hx1 : (x : Int) < (n : Int) := by omega
  have hsx : g < w.heap.size := h.lt.2
  generalize (N x).ah = ah at HJ C1 HF HC l2
  generalize (N x).be = be at HJ C1 HF HC l3
  clear h ha hb hna hnb e1 e2 e3 hu
  go_enter Tryz.func113, Tryz.ntmps113
  go_wp2_with fail
  go_region_held3 (fun V => V.cell? ⟨g, o + x * 11 + 6, none⟩ = some (.int .i64 p) ∧ V.cell? ⟨g, o + x * 11 + 9, none⟩ = some (.int .i64 ah) ∧ V.cell? ⟨g, o + x * 11 + 10, none⟩ = some (.int .i64 be))
    (first | exact C1.out _ r2.1 | exact ⟨l1, l2, l3⟩)
    (first | (go_at_call 128; refine (HJ.out _ (Kp.refl _ _).drew).mono ?_; rintro e w2 ⟨rfl, r2⟩))
  have z2 := HF.out _ (Rz.mk r2.1 ((Kp.refl [g] w).drew.trans r2.2 (fun x hx => Or.inl hx)))
  obtain ⟨⟨u1, d1⟩, d2, ⟨u3, d3⟩, ⟨u4, d4⟩⟩ := HC.out _ r2.1
  have hfin : Hid (Rz w tag _ b g o c q n (unlinkF N p x) pl) := z2
  clear HF HC z2 r2 C1 HJ l1 l2 l3 c0
  go_wp2
  go_end0
  exact ⟨rfl, hfin.out⟩

theorem tmpl_list : TMPL.toList = [116, 101, 109, 112, 108, 97, 116, 101] := by rw [ByteArray.toList_eq]; rfl

theorem tmpl_any (h : Rw tag w b g o c q n N pl) (hn : n < 100000) (x : Nat) (hx : x < n) :
    Calls Tryz.prog 123 #[.pointer (some ⟨b, 0, none⟩), .int .i64 x] w fun e w' => e = .returned (.bool (tmplF (N x).lb)) ∧ w' = w := by
  obtain ⟨c0, _⟩ := h.head
  obtain ⟨f1, f2, f3, _⟩ := h.fields hx
  have hx0 : (0 : Int) ≤ (x : Int) := by omega
  have hx1 : (x : Int) < (n : Int) := by omega
  clear h
  generalize (N x).lb = l at f1 f2 f3 ⊢
  by_cases h1 : l.kind = 3
  · by_cases h2 : l.ns = 1
    · have t1 : (l.kind == 3) = true := by rw [h1]; rfl
      have t2 : (l.ns == 1) = true := by rw [h2]; rfl
      by_cases h3 : l.name = TMPL
      · have e : tmplF l = true := decide_eq_true ⟨h1, h2, h3⟩
        rw [e]
        have t3 : (l.name.toList == [116, 101, 109, 112, 108, 97, 116, 101]) = true := by rw [h3, tmpl_list]; rfl
        clear h1 h2 h3
        go_enter Tryz.func123, Tryz.ntmps123
        go_wp2
        go_ret
        exact ⟨rfl, rfl⟩
      · have e : tmplF l = false := decide_eq_false (fun hh => h3 hh.2.2)
        rw [e]
        have t3 : (l.name.toList == [116, 101, 109, 112, 108, 97, 116, 101]) = false := beq_false_of_ne (fun hh => h3 (eqs_iff.1 (by unfold eqs; rw [hh, tmpl_list]; rfl)))
        clear h1 h2 h3
        go_enter Tryz.func123, Tryz.ntmps123
        go_wp2
        go_ret
        exact ⟨rfl, rfl⟩
    · have e : tmplF l = false := decide_eq_false (fun hh => h2 hh.2.1)
      rw [e]
      have t1 : (l.kind == 3) = true := by rw [h1]; rfl
      have t2 : (l.ns == 1) = false := beq_false_of_ne h2
      clear h1 h2
      go_enter Tryz.func123, Tryz.ntmps123
      go_wp2
      go_ret
      exact ⟨rfl, rfl⟩
  · have e : tmplF l = false := decide_eq_false (fun hh => h1 hh.1)
    rw [e]
    have t1 : (l.kind == 3) = false := beq_false_of_ne h1
    clear h1
    go_enter Tryz.func123, Tryz.ntmps123
    go_wp2
    go_ret
    exact ⟨rfl, rfl⟩

theorem may_any (h : Rw tag w b g o c q n N pl) (hn : n < 100000) (x : Nat) (hx : x < n) :
    Calls Tryz.prog 105 #[.pointer (some ⟨b, 0, none⟩), .int .i64 x] w fun e w' => e = .returned (.bool (Ar.hld (N x).lb)) ∧ w' = w := by
  obtain ⟨c0, _⟩ := h.head
  obtain ⟨f1, _⟩ := h.fields hx
  have hx0 : (0 : Int) ≤ (x : Int) := by omega
  have hx1 : (x : Int) < (n : Int) := by omega
  clear h
  generalize (N x).lb = l at f1 ⊢
  unfold Ar.hld
  generalize l.kind = k at f1 ⊢
  by_cases h1 : k = 1
  · subst h1
    go_enter Tryz.func105, Tryz.ntmps105
    go_wp2
    go_ret
    exact ⟨rfl, rfl⟩
  · by_cases h3 : k = 3
    · subst h3
      go_enter Tryz.func105, Tryz.ntmps105
      go_wp2
      go_ret
      exact ⟨rfl, rfl⟩
    · by_cases h6 : k = 6
      · subst h6
        go_enter Tryz.func105, Tryz.ntmps105
        go_wp2
        go_ret
        exact ⟨rfl, rfl⟩
      · rw [decide_eq_false h1, decide_eq_false h3, decide_eq_false h6]
        have t1 : (k == 1) = false := beq_false_of_ne h1
        have t3 : (k == 3) = false := beq_false_of_ne h3
        have t6 : (k == 6) = false := beq_false_of_ne h6
        clear h1 h3 h6
        go_enter Tryz.func105, Tryz.ntmps105
        go_wp2
        go_ret
        exact ⟨rfl, rfl⟩

theorem fixed_any (h : Rw tag w b g o c q n N pl) (hn : n < 100000) (x : Nat) (hx : x < n) :
    Calls Tryz.prog 106 #[.pointer (some ⟨b, 0, none⟩), .int .i64 x] w fun e w' => e = .returned (.bool (Ar.fix (N x).lb)) ∧ w' = w := by
  obtain ⟨c0, _⟩ := h.head
  obtain ⟨f1, _⟩ := h.fields hx
  have hx0 : (0 : Int) ≤ (x : Int) := by omega
  have hx1 : (x : Int) < (n : Int) := by omega
  clear h
  generalize (N x).lb = l at f1 ⊢
  unfold Ar.fix
  generalize l.kind = k at f1 ⊢
  by_cases h1 : k = 1
  · subst h1
    go_enter Tryz.func106, Tryz.ntmps106
    go_wp2
    go_ret
    exact ⟨rfl, rfl⟩
  · by_cases h6 : k = 6
    · subst h6
      go_enter Tryz.func106, Tryz.ntmps106
      go_wp2
      go_ret
      exact ⟨rfl, rfl⟩
    · rw [decide_eq_false h1, decide_eq_false h6]
      have t1 : (k == 1) = false := beq_false_of_ne h1
      have t6 : (k == 6) = false := beq_false_of_ne h6
      clear h1 h6
      go_enter Tryz.func106, Tryz.ntmps106
      go_wp2
      go_ret
      exact ⟨rfl, rfl⟩

theorem follow_any (h : Rw tag w b g o c q n N pl) (hn : n < 100000) (x : Nat) (hx : x < n) :
    Calls Tryz.prog 109 #[.pointer (some ⟨b, 0, none⟩), .int .i64 x] w fun e w' => e = .returned (.bool (!Ar.fix (N x).lb && decide ((N x).up ≠ -1))) ∧ w' = w := by
  have HF := fixed_any h hn x hx
  obtain ⟨c0, _⟩ := h.head
  obtain ⟨f1, _⟩ := h.links hx
  have hx0 : (0 : Int) ≤ (x : Int) := by omega
  have hx1 : (x : Int) < (n : Int) := by omega
  clear h
  generalize Ar.fix (N x).lb = k at HF ⊢
  generalize (N x).up = u at f1 ⊢
  cases k with
  | true =>
    go_enter Tryz.func109, Tryz.ntmps109
    go_wp2_with (go_at_call 106; refine HF.mono ?_; rintro e w2 ⟨rfl, hw⟩; have hw2 := hw.symm; clear hw; subst hw2)
    go_ret
    exact ⟨rfl, rfl⟩
  | false =>
    by_cases hu : u = -1
    · subst hu
      go_enter Tryz.func109, Tryz.ntmps109
      go_wp2_with (go_at_call 106; refine HF.mono ?_; rintro e w2 ⟨rfl, hw⟩; have hw2 := hw.symm; clear hw; subst hw2)
      go_ret
      exact ⟨rfl, rfl⟩
    · rw [decide_eq_true hu]
      have t1 : (u != -1) = true := bne_iff_ne.2 hu
      clear hu
      go_enter Tryz.func109, Tryz.ntmps109
      go_wp2_with (go_at_call 106; refine HF.mono ?_; rintro e w2 ⟨rfl, hw⟩; have hw2 := hw.symm; clear hw; subst hw2)
      go_ret
      exact ⟨rfl, rfl⟩

end

end Go.Proofs.YtpkppobkagdhkaaGreat
