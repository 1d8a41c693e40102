/-
  Joined: Mem.
-/
import Derived.Test.YtpkppobkagdhkaaJ16
import Derived.Test.YtpkppobkagdhkaaJ19
import Derived.Test.YtpkppobkagdhkaaJ7
import Derived.Lib.ConvBytes

/-
  The program's arena as it lies in memory: eleven cells a node, and each node's own lists; which block is whose (tag).
-/
namespace Go.Proofs.Ytpkppobkagdhkaa
open Go.RowKit Go.Maps Utf
set_option linter.unusedVariables false
set_option linter.unusedSimpArgs false

/-- Where a node's own lists lie: its attributes, the table of their names, its text. -/
structure Np where
  ao : Option Addr
  an : Nat
  ac : Nat
  nm : Option Nat
  to : Option Addr
  tn : Nat
  tc : Nat

/-- The cells of a node. -/
def el (x : Pn) (p : Np) : List Value := [.int .i64 x.lb.kind, .int .i64 x.lb.ns, .string x.lb.name, .slice p.ao p.an p.ac, .map p.nm, .slice p.to p.tn p.tc, .int .i64 x.up, .int .i64 x.fi, .int .i64 x.la, .int .i64 x.ah, .int .i64 x.be]

theorem el_len (x : Pn) (p : Np) : (el x p).length = 11 := rfl

/-- Block b is a table of the names of l. -/
def Nt (w : World) (b : Nat) (l : List Att) : Prop := ∃ (D : DataW Unit) (k : Nat), w.ownsMap Try.prog 9 unitElem b k D ∧ k ≤ l.length ∧ ∀ x, Maps.has D (kl x) = hasN l x

theorem Nt.lt {w : World} {b : Nat} {l : List Att} (h : Nt w b l) : b < w.heap.size := by
  obtain ⟨D, k, h, _⟩ := h
  exact h.lt
theorem Nt.same {w w' : World} {b : Nat} {l : List Att} (h : Nt w b l) (hb : w'.heap[b]? = w.heap[b]?) : Nt w' b l := by
  obtain ⟨D, k, ⟨es, clock, h1, r⟩, r2⟩ := h
  exact ⟨D, k, ⟨es, clock, by rw [hb]; exact h1, r⟩, r2⟩

theorem cell_ofF {w : World} {g : Nat} {cur : Array Value} {e : TypeId} {fz : Nat × Nat} (h : w.heap[g]? = some (.cells cur e fz)) (j : Nat) : w.cell? ⟨g, j, none⟩ = cur[j]? := by
  simp [World.cell?, h]
theorem setCell_blockF {w : World} {g : Nat} {cur : Array Value} {e : TypeId} {fz : Nat × Nat} (h : w.heap[g]? = some (.cells cur e fz)) (o : Nat) (u : Value) : (w.setCell ⟨g, o, none⟩ u).heap[g]? = some (.cells (cur.setIfInBounds o u) e fz) := by
  simp only [World.setCell, Array.getElem?_modify, h]
  simp
theorem setCells_blockF (g : Nat) (e : TypeId) (fz : Nat × Nat) : ∀ (vs : List Value) (o : Nat) (w : World) (cur : Array Value), w.heap[g]? = some (.cells cur e fz) → ∃ cur', (w.setCells g o vs).heap[g]? = some (.cells cur' e fz) ∧ cur'.size = cur.size
  | [], _, _, cur, h => ⟨cur, h, rfl⟩
  | v :: r, o, w, cur, h => by
    obtain ⟨c, h1, h2⟩ := setCells_blockF g e fz r (o + 1) _ _ (setCell_blockF h o v)
    exact ⟨c, h1, by rw [h2]; simp⟩
theorem setCells_getF (g : Nat) (e : TypeId) (fz : Nat × Nat) (vs : List Value) (o : Nat) (w : World) (cur cur' : Array Value) (h : w.heap[g]? = some (.cells cur e fz)) (h' : (w.setCells g o vs).heap[g]? = some (.cells cur' e fz)) (hfit : o + vs.length ≤ cur.size) (k : Nat) :
    cur'[k]? = if o ≤ k ∧ k < o + vs.length then vs[k - o]? else cur[k]? := by
  rw [← cell_ofF h' k, ← cell_ofF h k]
  by_cases hk : o ≤ k ∧ k < o + vs.length
  · rw [if_pos hk]
    have := World.cell?_setCells_in g vs o w (fun j hj => by rw [cell_ofF h, Array.getElem?_eq_getElem (by omega)]; rfl) (k - o) (by omega)
    rw [show o + (k - o) = k by omega] at this
    rw [this, List.getElem?_eq_getElem]
  · rw [if_neg hk]
    exact World.cell?_setCells_out g vs o w ⟨g, k, none⟩ (fun _ _ => by show k < o ∨ o + vs.length ≤ k; omega)

/-- The bytes of a text in a block of its own; a cell behind them all may be frozen. -/
def OwT (w : World) (v : Value) (s : ByteArray) : Prop :=
  (v = .slice none 0 0 ∧ s.size = 0) ∨
  ∃ g c cur lo hi, v = .slice (some ⟨g, 0, none⟩) s.size c ∧ w.heap[g]? = some (.cells cur 5 (lo, hi)) ∧ s.size ≤ c ∧ c ≤ maxLen ∧ c ≤ cur.size ∧ ((lo = 0 ∧ hi = 0) ∨ c ≤ lo) ∧ ∀ j, j < s.size → cur[j]? = (byteCells s)[j]?

theorem OwT.lt {w : World} {v : Value} {s : ByteArray} (h : OwT w v s) : ∀ x, x ∈ blk v → x < w.heap.size := by
  intro x hx
  rcases h with ⟨rfl, _⟩ | ⟨g, c, cur, lo, hi, rfl, hg, _⟩
  · simp [blk] at hx
  · simp [blk] at hx
    subst hx
    exact lt_of hg
theorem OwT.keep {S : List Nat} {w w' : World} {v : Value} {s : ByteArray} (h : OwT w v s) (k : Kp S w w') (hn : ∀ x, x ∈ blk v → x ∉ S) : OwT w' v s := by
  have hl := h.lt
  rcases h with h | ⟨g, c, cur, lo, hi, rfl, hg, r⟩
  · exact Or.inl h
  · have hm : g ∈ blk (Value.slice (some ⟨g, 0, none⟩) s.size c) := by simp [blk]
    exact Or.inr ⟨g, c, cur, lo, hi, rfl, by rw [k.block g (hl g hm) (hn g hm)]; exact hg, r⟩
theorem OwT.nil (w : World) : OwT w (.slice none 0 0) ⟨#[]⟩ := Or.inl ⟨rfl, rfl⟩

theorem byteCells_b8 (s : ByteArray) : byteCells s = b8 (bytesOf s) := by simp [byteCells, b8, bytesOf, Function.comp_def]

theorem OwT.rb {w : World} {ao : Option Addr} {n c : Nat} {s : ByteArray} (h : OwT w (.slice ao n c) s) : Rb w ao n c (b8 (bytesOf s)) := by
  rw [← byteCells_b8]
  rcases h with ⟨h1, h2⟩ | ⟨g, c', cur, lo, hi, hv, hg, h1, h2, h3, h4, h5⟩
  · simp only [Value.slice.injEq] at h1
    obtain ⟨rfl, rfl, rfl⟩ := h1
    exact ⟨by rw [byteCells_length, h2], Nat.le_refl _, fun j hj => by omega⟩
  · simp only [Value.slice.injEq] at hv
    obtain ⟨rfl, rfl, rfl⟩ := hv
    exact ⟨(byteCells_length s).symm, h1, fun j hj => ⟨g, 0, rfl, by rw [Nat.zero_add, cell_ofF hg, h5 j hj]⟩⟩

theorem byteCells_app (s t : ByteArray) : byteCells (s ++ t) = byteCells s ++ byteCells t := by simp [byteCells, ByteArray.data_append]

/-- []byte(s). -/
theorem to_text (w : World) (s : ByteArray) (hs : s.size ≤ 1000000) : ∃ W c, (convert 9 65 (.string s)).run Try.prog w = .ok (.slice (some ⟨w.heap.size, 0, none⟩) s.size c) W ∧ OwT W (.slice (some ⟨w.heap.size, 0, none⟩) s.size c) s ∧ Kp [] w W := by
  refine ⟨_, _, Lib.run_convert_string_bytes (P := Try.prog) w 9 65 5 s Try.underlying9 Try.underlying65 Try.underlying5, Or.inr ⟨w.heap.size, _, _, _, _, rfl, Lib.bytesWorld_at_new w 5 s, grownCap_ge w s.size 0 5, grownCap_le_maxLen w _ _ _ (by unfold maxLen; omega), ?_, Or.inr ?_, fun j hj => ?_⟩, ⟨rfl, rfl, rfl, by rw [Lib.bytesWorld_size]; omega, fun k hk _ => Lib.bytesWorld_at_old w 5 s k hk⟩⟩
  · have := grownCap_ge w s.size 0 5
    simp [Lib.bytesCells]
    omega
  · have := grownCap_ge w s.size 0 5
    simp [Lib.bytesCells]
    omega
  · have := Lib.bytesWorld_cell w 5 s j hj
    rw [cell_ofF (Lib.bytesWorld_at_new w 5 s)] at this
    rw [this]
    simp [byteCells, List.getD, hj]

theorem infoB : (Try.prog.info? 5).map (fun i => (i.zero, i.size, i.bytes)) = some (some (.int .u8 0), 1, 1) := by kernel_rfl

/-- append, of a text onto bytes. -/
theorem OwT.app {w : World} {v : Value} {s : ByteArray} (h : OwT w v s) (t : ByteArray) (ht0 : 0 < t.size) (hlen : s.size + t.size ≤ 1000000) :
    ∃ v' w', (∀ ty, (Builtin.append_ #[65, 9] ty #[v, .string t]).run Try.prog w = .ok v' w') ∧ OwT w' v' (s ++ t) ∧ Kp (blk v) w w' ∧ (∀ k, k ∈ blk v' → k ∈ blk v ∨ k = w.heap.size) ∧ ∃ ao c, v' = .slice ao (s.size + t.size) c := by
  obtain ⟨i, hi0, hi1, hi2, hi3⟩ := info_parts infoB
  have ht := Try.underlying65
  have hs : Src Try.prog 1 9 (.string t) t.size (byteCells t) w := Src.ofString w Try.underlying9 t
  have hs' : Src Try.prog i.size 9 (.string t) t.size (byteCells t) w := by rw [hi2]; exact hs
  have hsz : (s ++ t).size = s.size + t.size := ByteArray.size_append
  have hbl := byteCells_length t
  have hbs := byteCells_length s
  have new : ∀ (z : Nat) (olds : List Value), olds = byteCells s → OwT (w.drew.alloc (.cells ((olds ++ byteCells t).toArray ++ Builtin.zeroCells (Value.int .u8 0).cells (grownCap w (s.size + t.size) z 5 - (s.size + t.size))) 5)) (.slice (some ⟨w.drew.heap.size, 0, none⟩) (s.size + t.size) (grownCap w (s.size + t.size) z 5)) (s ++ t) := fun z olds ho => by
    have hge := grownCap_ge w (s.size + t.size) z 5
    refine Or.inr ⟨w.drew.heap.size, _, _, 0, 0, by rw [hsz], heap_new w.drew _, by rw [hsz]; exact hge, grownCap_le_maxLen w _ _ _ (by unfold maxLen; omega), ?_, Or.inl ⟨rfl, rfl⟩, fun j hj => ?_⟩
    · rw [Array.size_append, zeroCells_size _ rfl, ho]
      simp [hbl, hbs]
      omega
    · rw [hsz] at hj
      rw [Array.getElem?_append_left (by rw [ho]; simp [hbl, hbs]; omega), byteCells_app, ho]
      simp
  rcases h with ⟨rfl, h0⟩ | ⟨g, cap, cur, lo, hi, rfl, hg, hc1, hc2, hc3, hc4, hc5⟩
  · have hr := fun ty => run_append_grow_src (P := Try.prog) w 65 9 ty 5 i (.int .u8 0) ht hi0 hi1 none 0 0 [] (run_firstCells_none w.drew i.size 0 0 0) (.string t) t.size (byteCells t) hs' (by omega) (by omega) (by rw [hi3]; exact growslice_fits (by omega) (by omega))
    have hn := new 0 [] (List.eq_nil_of_length_eq_zero (by omega)).symm
    rw [h0] at hn
    refine ⟨_, _, hr, hn, (Kp.refl _ _).drew.alloc _, fun k hk => ?_, ⟨_, _, by rw [h0]⟩⟩
    simp [blk] at hk
    exact Or.inr hk
  · by_cases hroom : s.size + t.size ≤ cap
    · have hr := fun ty => run_append_room_src (P := Try.prog) w 65 9 ty 5 i ht hi0 g 0 s.size cap (.string t) t.size (byteCells t) hs' hroom
        (fun j hj => by rw [hi2, cell_ofF hg, Array.getElem?_eq_getElem (by omega)]; rfl) (fun j hj => by
          simp only [World.frozen?, hg]
          rw [hi2]
          simp
          omega)
      obtain ⟨cur', hg', hsz'⟩ := setCells_blockF g 5 (lo, hi) (byteCells t) (0 + s.size * i.size) w cur hg
      have hget := setCells_getF g 5 (lo, hi) (byteCells t) (0 + s.size * i.size) w cur cur' hg hg' (by rw [hi2]; omega)
      refine ⟨_, _, hr, Or.inr ⟨g, cap, cur', lo, hi, by rw [hsz], hg', by rw [hsz]; exact hroom, hc2, by omega, hc4, fun j hj => ?_⟩, Kp.setCells g (Or.inl (by simp [blk])) _ _ _ (Kp.refl _ _), fun k hk => Or.inl (by simpa [blk] using hk), ⟨_, _, rfl⟩⟩
      rw [hget j, hi2, byteCells_app]
      simp only [Nat.mul_one, Nat.zero_add]
      rw [hsz] at hj
      by_cases hjx : j < s.size
      · rw [if_neg (by omega), List.getElem?_append_left (by omega), hc5 j hjx]
      · rw [if_pos (by omega), List.getElem?_append_right (by omega), hbs]
    · have hold : (Builtin.firstCells i.size s.size (.slice (some ⟨g, 0, none⟩) s.size cap)).run Try.prog w.drew = .ok (byteCells s).toArray w.drew :=
        run_firstCells_some w.drew i.size s.size ⟨g, 0, none⟩ s.size cap (byteCells s) (by rw [hi2, Nat.mul_one, hbs]) (fun j u hj => by
          rw [Addr.add_lit]
          show w.cell? _ = _
          have hjl := (List.getElem?_eq_some_iff.1 hj).1
          rw [Nat.zero_add, cell_ofF hg, hc5 j (by omega)]
          exact hj)
      have hr := fun ty => run_append_grow_src (P := Try.prog) w 65 9 ty 5 i (.int .u8 0) ht hi0 hi1 (some ⟨g, 0, none⟩) s.size cap (byteCells s) hold (.string t) t.size (byteCells t) hs' (by omega) (by omega) (by rw [hi3]; exact growslice_fits (by omega) (by omega))
      refine ⟨_, _, hr, new cap _ rfl, (Kp.refl _ _).drew.alloc _, fun k hk => ?_, ⟨_, _, rfl⟩⟩
      simp [blk] at hk
      exact Or.inr hk

/-- What a node has beside its cells. -/
structure Sd (tag : Nat → Nat) (w : World) (i : Nat) (l : Lb) (p : Np) : Prop where
  at' : OwnK 2 w 70 (.slice p.ao p.an p.ac) p.an (cs l.attrs)
  atT : ∀ x, x ∈ blk (.slice p.ao p.an p.ac) → tag x = 8 + 3 * i
  tx : OwT w (.slice p.to p.tn p.tc) l.text
  txT : ∀ x, x ∈ blk (.slice p.to p.tn p.tc) → tag x = 10 + 3 * i
  nm : ∀ b, p.nm = some b → Nt w b l.attrs ∧ tag b = 9 + 3 * i

theorem Sd.keep {tag tag' : Nat → Nat} {S : List Nat} {w w' : World} {i : Nat} {l : Lb} {p : Np} (h : Sd tag w i l p) (k : Kp S w w') (hS : ∀ x, x ∈ S → x < w.heap.size → tag x ≠ 8 + 3 * i ∧ tag x ≠ 9 + 3 * i ∧ tag x ≠ 10 + 3 * i) (ht : ∀ x, x < w.heap.size → tag' x = tag x) : Sd tag' w' i l p := by
  refine ⟨h.at'.keep k (fun x hx hs => ?_), fun x hx => ?_, h.tx.keep k (fun x hx hs => ?_), fun x hx => ?_, fun b hb => ?_⟩
  · exact (hS x hs (h.at'.lt x hx)).1 (h.atT x hx)
  · rw [ht x (h.at'.lt x hx)]; exact h.atT x hx
  · exact (hS x hs (h.tx.lt x hx)).2.2 (h.txT x hx)
  · rw [ht x (h.tx.lt x hx)]; exact h.txT x hx
  · obtain ⟨h1, h2⟩ := h.nm b hb
    exact ⟨h1.same (k.block b h1.lt (fun hs => (hS b hs h1.lt).2.1 h2)), by rw [ht b h1.lt]; exact h2⟩

/-- The arena in block b, whose n nodes lie in block g from cell o on, with room for c. -/
structure Rw (tag : Nat → Nat) (w : World) (b g o c : Nat) (q : Bool) (n : Nat) (N : Nat → Pn) (pl : Nat → Np) : Prop where
  hd : At w b #[.slice (some ⟨g, o, none⟩) n c, .bool q] 62
  tb : tag b = 1
  cap : n ≤ c
  max : c ≤ maxLen
  body : ∃ cur, At w g cur 67 ∧ o + c * 11 ≤ cur.size ∧ ∀ i, i < n → ∀ k, k < 11 → cur[o + i * 11 + k]? = (el (N i) (pl i))[k]?
  tg : tag g = 2
  side : ∀ i, i < n → Sd tag w i (N i).lb (pl i)

/-- The marks of the program's arena. -/
def isP (t : Nat) : Prop := t = 1 ∨ t = 2 ∨ 8 ≤ t

theorem Rw.ne {tag : Nat → Nat} {w : World} {b g o c : Nat} {q : Bool} {n : Nat} {N : Nat → Pn} {pl : Nat → Np} (h : Rw tag w b g o c q n N pl) : b ≠ g := fun e => by
  have h1 := h.tb
  rw [e, h.tg] at h1
  cases h1

theorem Rw.lt {tag : Nat → Nat} {w : World} {b g o c : Nat} {q : Bool} {n : Nat} {N : Nat → Pn} {pl : Nat → Np} (h : Rw tag w b g o c q n N pl) : b < w.heap.size ∧ g < w.heap.size := by
  obtain ⟨cur, h1, _⟩ := h.body
  exact ⟨h.hd.lt, h1.lt⟩

theorem Rw.keep {tag tag' : Nat → Nat} {S : List Nat} {w w' : World} {b g o c : Nat} {q : Bool} {n : Nat} {N : Nat → Pn} {pl : Nat → Np} (h : Rw tag w b g o c q n N pl) (k : Kp S w w') (hS : ∀ x, x ∈ S → x < w.heap.size → ¬ isP (tag x)) (ht : ∀ x, x < w.heap.size → tag' x = tag x) : Rw tag' w' b g o c q n N pl := by
  obtain ⟨lb, lg⟩ := h.lt
  obtain ⟨cur, h1, h2, h3⟩ := h.body
  refine ⟨h.hd.kept k (fun hs => hS b hs lb (.inl h.tb)), by rw [ht b lb]; exact h.tb, h.cap, h.max, ⟨cur, h1.kept k (fun hs => hS g hs lg (.inr (.inl h.tg))), h2, h3⟩, by rw [ht g lg]; exact h.tg, fun i hi => (h.side i hi).keep k (fun x hs hx => ?_) ht⟩
  have := hS x hs hx
  unfold isP at this
  omega

theorem Rw.kept {tag : Nat → Nat} {w w' : World} {b g o c : Nat} {q : Bool} {n : Nat} {N : Nat → Pn} {pl : Nat → Np} (h : Rw tag w b g o c q n N pl) (k : Kp [] w w') : Rw tag w' b g o c q n N pl :=
  h.keep k (fun x hx => absurd hx (by simp)) (fun _ _ => rfl)

/-- The arena's own two cells. -/
theorem Rw.head {tag : Nat → Nat} {w : World} {b g o c : Nat} {q : Bool} {n : Nat} {N : Nat → Pn} {pl : Nat → Np} (h : Rw tag w b g o c q n N pl) :
    w.cell? ⟨b, 0, none⟩ = some (.slice (some ⟨g, o, none⟩) n c) ∧ w.cell? ⟨b, 1, none⟩ = some (.bool q) := ⟨h.hd.cell 0, h.hd.cell 1⟩

/-- A node's cell. -/
theorem Rw.at {tag : Nat → Nat} {w : World} {b g o c : Nat} {q : Bool} {n : Nat} {N : Nat → Pn} {pl : Nat → Np} (h : Rw tag w b g o c q n N pl) {i : Nat} (hi : i < n) {k : Nat} (hk : k < 11) : w.cell? ⟨g, o + i * 11 + k, none⟩ = (el (N i) (pl i))[k]? := by
  obtain ⟨cur, h1, h2, h3⟩ := h.body
  rw [h1.cell, h3 i hi k hk]

theorem Rw.free {tag : Nat → Nat} {w : World} {b g o c : Nat} {q : Bool} {n : Nat} {N : Nat → Pn} {pl : Nat → Np} (h : Rw tag w b g o c q n N pl) (j : Nat) : w.frozen? ⟨g, j, none⟩ = false := by
  obtain ⟨cur, h1, h2, h3⟩ := h.body
  exact h1.free j

theorem Rw.freeb {tag : Nat → Nat} {w : World} {b g o c : Nat} {q : Bool} {n : Nat} {N : Nat → Pn} {pl : Nat → Np} (h : Rw tag w b g o c q n N pl) (j : Nat) : w.frozen? ⟨b, j, none⟩ = false := h.hd.free j

theorem idx11 {i j k l : Nat} (hk : k < 11) (hl : l < 11) : i * 11 + k = j * 11 + l ↔ i = j ∧ k = l := by omega

/-- A cell of a node is written. -/
theorem Rw.set {tag : Nat → Nat} {w : World} {b g o c : Nat} {q : Bool} {n : Nat} {N N' : Nat → Pn} {pl pl' : Nat → Np} (h : Rw tag w b g o c q n N pl) {i k : Nat} (hi : i < n) (hk : k < 11) (u : Value) (he : el (N' i) (pl' i) = (el (N i) (pl i)).set k u) (hN : ∀ j, j < n → j ≠ i → N' j = N j ∧ pl' j = pl j) (hs : Sd tag w i (N' i).lb (pl' i)) :
    Rw tag (w.setCell ⟨g, o + i * 11 + k, none⟩ u) b g o c q n N' pl' := by
  have hne := h.ne
  obtain ⟨cur, h1, h2, h3⟩ := h.body
  have k1 : Kp [g] w (w.setCell ⟨g, o + i * 11 + k, none⟩ u) := (Kp.refl _ _).setCell (Or.inl (by simp)) _
  refine ⟨h.hd.kept k1 (by simpa using hne), h.tb, h.cap, h.max, ⟨_, h1.set _ u, by simpa using h2, fun j hj l hl => ?_⟩, h.tg, fun j hj => ?_⟩
  · rw [Array.getElem?_setIfInBounds]
    have hcap := h.cap
    have hm : i * 11 + 11 ≤ c * 11 := by omega
    by_cases hjl : o + i * 11 + k = o + j * 11 + l
    · obtain ⟨rfl, rfl⟩ := (idx11 (i := i) (j := j) hk hl).1 (by omega)
      rw [if_pos rfl, if_pos (by omega), he, List.getElem?_set_self (by rw [el_len]; exact hk)]
    · rw [if_neg hjl]
      by_cases hji : j = i
      · subst hji
        rw [he, List.getElem?_set_ne (fun e => hjl (by rw [e])), h3 j hj l hl]
      · rw [(hN j hj hji).1, (hN j hj hji).2, h3 j hj l hl]
  · have hT : ∀ x, x ∈ [g] → x < w.heap.size → tag x ≠ 8 + 3 * j ∧ tag x ≠ 9 + 3 * j ∧ tag x ≠ 10 + 3 * j := fun x hx _ => by
      rw [List.mem_singleton.1 hx, h.tg]; omega
    by_cases hji : j = i
    · subst hji; exact hs.keep k1 hT (fun _ _ => rfl)
    · rw [(hN j hj hji).1, (hN j hj hji).2]; exact (h.side j hj).keep k1 hT (fun _ _ => rfl)

section
variable {tag : Nat → Nat} {w : World} {b g o c : Nat} {q : Bool} {n : Nat} {N : Nat → Pn} {pl : Nat → Np}

theorem Rw.sUp (h : Rw tag w b g o c q n N pl) {i : Nat} (hi : i < n) (v : Int) : Rw tag (w.setCell ⟨g, o + i * 11 + 6, none⟩ (.int .i64 v)) b g o c q n (sUp N i v) pl :=
  h.set hi (by omega) _ (by simp [Go.Proofs.Ytpkppobkagdhkaa.sUp, el]) (fun j _ hj => ⟨by simp [Go.Proofs.Ytpkppobkagdhkaa.sUp, hj], rfl⟩) (by simp only [Go.Proofs.Ytpkppobkagdhkaa.sUp, if_pos]; exact h.side i hi)
theorem Rw.sFi (h : Rw tag w b g o c q n N pl) {i : Nat} (hi : i < n) (v : Int) : Rw tag (w.setCell ⟨g, o + i * 11 + 7, none⟩ (.int .i64 v)) b g o c q n (sFi N i v) pl :=
  h.set hi (by omega) _ (by simp [Go.Proofs.Ytpkppobkagdhkaa.sFi, el]) (fun j _ hj => ⟨by simp [Go.Proofs.Ytpkppobkagdhkaa.sFi, hj], rfl⟩) (by simp only [Go.Proofs.Ytpkppobkagdhkaa.sFi, if_pos]; exact h.side i hi)
theorem Rw.sLa (h : Rw tag w b g o c q n N pl) {i : Nat} (hi : i < n) (v : Int) : Rw tag (w.setCell ⟨g, o + i * 11 + 8, none⟩ (.int .i64 v)) b g o c q n (sLa N i v) pl :=
  h.set hi (by omega) _ (by simp [Go.Proofs.Ytpkppobkagdhkaa.sLa, el]) (fun j _ hj => ⟨by simp [Go.Proofs.Ytpkppobkagdhkaa.sLa, hj], rfl⟩) (by simp only [Go.Proofs.Ytpkppobkagdhkaa.sLa, if_pos]; exact h.side i hi)
theorem Rw.sAh (h : Rw tag w b g o c q n N pl) {i : Nat} (hi : i < n) (v : Int) : Rw tag (w.setCell ⟨g, o + i * 11 + 9, none⟩ (.int .i64 v)) b g o c q n (sAh N i v) pl :=
  h.set hi (by omega) _ (by simp [Go.Proofs.Ytpkppobkagdhkaa.sAh, el]) (fun j _ hj => ⟨by simp [Go.Proofs.Ytpkppobkagdhkaa.sAh, hj], rfl⟩) (by simp only [Go.Proofs.Ytpkppobkagdhkaa.sAh, if_pos]; exact h.side i hi)
theorem Rw.sBe (h : Rw tag w b g o c q n N pl) {i : Nat} (hi : i < n) (v : Int) : Rw tag (w.setCell ⟨g, o + i * 11 + 10, none⟩ (.int .i64 v)) b g o c q n (sBe N i v) pl :=
  h.set hi (by omega) _ (by simp [Go.Proofs.Ytpkppobkagdhkaa.sBe, el]) (fun j _ hj => ⟨by simp [Go.Proofs.Ytpkppobkagdhkaa.sBe, hj], rfl⟩) (by simp only [Go.Proofs.Ytpkppobkagdhkaa.sBe, if_pos]; exact h.side i hi)

/-- A node's link cells. -/
theorem Rw.links (h : Rw tag w b g o c q n N pl) {i : Nat} (hi : i < n) : w.cell? ⟨g, o + i * 11 + 6, none⟩ = some (.int .i64 (N i).up) ∧ w.cell? ⟨g, o + i * 11 + 7, none⟩ = some (.int .i64 (N i).fi) ∧ w.cell? ⟨g, o + i * 11 + 8, none⟩ = some (.int .i64 (N i).la) ∧ w.cell? ⟨g, o + i * 11 + 9, none⟩ = some (.int .i64 (N i).ah) ∧ w.cell? ⟨g, o + i * 11 + 10, none⟩ = some (.int .i64 (N i).be) :=
  ⟨h.at hi (by omega), h.at hi (by omega), h.at hi (by omega), h.at hi (by omega), h.at hi (by omega)⟩
theorem Rw.fields (h : Rw tag w b g o c q n N pl) {i : Nat} (hi : i < n) : w.cell? ⟨g, o + i * 11, none⟩ = some (.int .i64 (N i).lb.kind) ∧ w.cell? ⟨g, o + i * 11 + 1, none⟩ = some (.int .i64 (N i).lb.ns) ∧ w.cell? ⟨g, o + i * 11 + 2, none⟩ = some (.string (N i).lb.name) ∧ w.cell? ⟨g, o + i * 11 + 3, none⟩ = some (.slice (pl i).ao (pl i).an (pl i).ac) ∧ w.cell? ⟨g, o + i * 11 + 4, none⟩ = some (.map (pl i).nm) ∧ w.cell? ⟨g, o + i * 11 + 5, none⟩ = some (.slice (pl i).to (pl i).tn (pl i).tc) :=
  ⟨h.at (k := 0) hi (by omega), h.at hi (by omega), h.at hi (by omega), h.at hi (by omega), h.at hi (by omega), h.at hi (by omega)⟩

end

end Go.Proofs.Ytpkppobkagdhkaa
