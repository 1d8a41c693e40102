/-
  A list of active formatting in memory (Li), and what a call on it may turn (Ev, Nx).
-/
import Derived.Test.YtadcpkdnpfmphaaEnt
import Derived.Test.YtadcpkdnpfmphaaPd
import Derived.BigQuiet
namespace Go.Proofs.Ytadcpkdnpfmphaa.Ints
open Go.RowKit
set_option linter.unusedSimpArgs false

/-- The types of piles and of their rows. -/
def pil (t : TypeId) : Prop := t = 75 ∨ t = 51

/-- All that was there at w0, and all blocks of other types than piles, entries among B left out, are in w' as they were in w. -/
structure Ev (w0 : World) (B : List Nat) (w w' : World) : Prop where
  os : w'.os = w.os
  tape : w'.tape = w.tape
  output : w'.output = w.output
  size : w.heap.size ≤ w'.heap.size
  old : ∀ k, k < w.heap.size → k < w0.heap.size → w'.heap[k]? = w.heap[k]?
  cells : ∀ (k : Nat) (cur : Array Value) (t : TypeId), w.heap[k]? = some (Obj.cells cur t (0, 0)) → ¬ pil t → (t = 40 → k ∉ B) → w'.heap[k]? = some (Obj.cells cur t (0, 0))

theorem Ev.refl (w0 : World) (B : List Nat) (w : World) : Ev w0 B w w := ⟨rfl, rfl, rfl, Nat.le_refl _, fun _ _ _ => rfl, fun _ _ _ h _ _ => h⟩

theorem Ev.trans {w0 a b c : World} {B B' : List Nat} (h : Ev w0 B a b) (k : Ev w0 B' b c) (hB : ∀ x, x ∈ B' → x ∈ B ∨ a.heap.size ≤ x) : Ev w0 B a c :=
  ⟨k.os.trans h.os, k.tape.trans h.tape, k.output.trans h.output, Nat.le_trans h.size k.size,
    fun i h1 h2 => (k.old i (Nat.lt_of_lt_of_le h1 h.size) h2).trans (h.old i h1 h2), fun i cur t h1 h2 h3 => k.cells i cur t (h.cells i cur t h1 h2 h3) h2 (fun e hx => by
      rcases hB i hx with h4 | h4
      · exact h3 e h4
      · have := lt_of h1; omega)⟩

theorem Ev.of_kp {w0 w w' : World} {B : List Nat} (k : Kp [] w w') : Ev w0 B w w' :=
  ⟨k.os, k.tape, k.output, k.size, fun i h1 _ => k.block i h1 (by simp), fun i cur t h1 _ _ => by rw [k.block i (lt_of h1) (by simp)]; exact h1⟩

/-- What turns piles alone, and entries among B. -/
theorem Ev.of_pil {w0 w w' : World} {S B : List Nat} (k : Kp S w w') (hS : ∀ x, x ∈ S → w0.heap.size ≤ x ∧ ∀ (cur : Array Value) (t : TypeId), w.heap[x]? = some (Obj.cells cur t (0, 0)) → pil t ∨ (t = 40 ∧ x ∈ B)) : Ev w0 B w w' :=
  ⟨k.os, k.tape, k.output, k.size, fun i h1 h2 => k.block i h1 (fun hx => by have := (hS i hx).1; omega),
    fun i cur t h1 h2 h3 => by
      rw [k.block i (lt_of h1) (fun hx => by
        rcases (hS i hx).2 cur t h1 with h4 | ⟨h4, h5⟩
        · exact h2 h4
        · exact h3 h4 h5)]
      exact h1⟩

/-- What w0 had is as it was. -/
theorem Ev.kp {w0 w w' : World} {B : List Nat} (h : Ev w0 B w w') (k : Kp [] w0 w) : Kp [] w0 w' :=
  ⟨h.os.trans k.os, h.tape.trans k.tape, h.output.trans k.output, Nat.le_trans k.size h.size,
    fun i h1 h2 => (h.old i (Nat.lt_of_lt_of_le h1 k.size) h1).trans (k.block i h1 h2)⟩

theorem Ev.back {w0 w w1 w2 : World} {B : List Nat} (h : Ev w0 B w w1) (k : Kp [] w1 w2) : Ev w0 B w w2 := h.trans (Ev.of_kp (B := []) k) (fun x hx => by simp at hx)

theorem Ev.ahead {w0 w w1 w2 : World} {B : List Nat} (k : Kp [] w w1) (h : Ev w0 B w1 w2) : Ev w0 B w w2 := (Ev.of_kp k).trans h (fun _ hx => Or.inl hx)

theorem not_pil_item : ¬ pil 40 := by unfold pil; decide
theorem not_pil_list : ¬ pil 53 := by unfold pil; decide
theorem not_pil_ask : ¬ pil 29 := by unfold pil; decide
theorem not_pil_attr : ¬ pil 31 := by unfold pil; decide
theorem not_pil_int : ¬ pil 3 := by unfold pil; decide
theorem attr_item : 31 ≠ 40 := by decide

/-- The slice of n attributes from ao on, with room for c, reads as l; it lies in a block of attributes. -/
structure Rz (w : World) (ao : Option Addr) (n c : Nat) (l : List Att) : Prop where
  len : n = l.length
  cap : n ≤ c
  at' : n = 0 ∨ ∃ b off cur, ao = some ⟨b, off, none⟩ ∧ w.heap[b]? = some (Obj.cells cur 31 (0, 0)) ∧ ∀ j, j < n * 2 → cur[off + j]? = (cs l)[j]?

theorem Rz.rp {w : World} {ao : Option Addr} {n c : Nat} {l : List Att} (h : Rz w ao n c l) : Rp w ao n c l := by
  refine ⟨h.len, h.cap, fun j hj => ?_⟩
  rcases h.at' with h1 | ⟨b, off, cur, h1, h2, h3⟩
  · omega
  · exact ⟨b, off, h1, by rw [cell_of h2, h3 j hj]⟩

theorem Rz.ev {w0 w w' : World} {B : List Nat} {ao : Option Addr} {n c : Nat} {l : List Att} (h : Rz w ao n c l) (k : Ev w0 B w w') : Rz w' ao n c l := by
  refine ⟨h.len, h.cap, ?_⟩
  rcases h.at' with h1 | ⟨b, off, cur, h1, h2, h3⟩
  · exact Or.inl h1
  · exact Or.inr ⟨b, off, cur, h1, k.cells _ _ _ h2 not_pil_attr (fun e => absurd e attr_item), h3⟩

theorem Rz.kept {w w' : World} {ao : Option Addr} {n c : Nat} {l : List Att} (h : Rz w ao n c l) (k : Kp [] w w') : Rz w' ao n c l := h.ev (Ev.of_kp (w0 := w) (B := []) k)

theorem Rz.of_own {w : World} {ao : Option Addr} {n m c : Nat} {l : List Att} (h : OwnK 2 w 31 (.slice ao n c) m (cs l)) : Rz w ao n c l := by
  obtain ⟨h0, h⟩ := h
  rw [cs_len] at h0
  rcases h with ⟨h1, h2⟩ | ⟨g, o, cap, cur, hv, hg, h1, h2, h3, h4⟩
  · simp only [Value.slice.injEq] at h1
    obtain ⟨rfl, rfl, rfl⟩ := h1
    exact ⟨by omega, Nat.le_refl _, Or.inl rfl⟩
  · simp only [Value.slice.injEq] at hv
    obtain ⟨rfl, rfl, rfl⟩ := hv
    exact ⟨by omega, h1, Or.inr ⟨g, o, cur, rfl, hg, h4⟩⟩

theorem Rz.of_mp {w w' : World} {ao : Option Addr} {n c : Nat} {l : List Att} (h : Mp w w' ao n c l) : Rz w' ao n c l := Rz.of_own h.1

theorem Rz.nil (w : World) : Rz w none 0 0 [] := ⟨rfl, Nat.le_refl _, Or.inl rfl⟩

/-- An entry as its cells hold it: marker, handle, name, and its attributes' slice. -/
abbrev Raw := Bool × Int × ByteArray × Option Addr × Nat × Nat
def rc (r : Raw) : Array Value := #[.bool r.1, .int .i64 r.2.1, .string r.2.2.1, .slice r.2.2.2.1 r.2.2.2.2.1 r.2.2.2.2.2]
def rv (r : Raw) : Value := .agg #[.bool r.1, .int .i64 r.2.1, .string r.2.2.1, .slice r.2.2.2.1 r.2.2.2.2.1 r.2.2.2.2.2]
def r0 : Raw := (false, 0, ⟨#[]⟩, none, 0, 0)

/-- The entry x, held by these cells. -/
def Sm (w : World) (r : Raw) (x : Ent) : Prop := r.1 = x.1 ∧ r.2.1 = x.2.1 ∧ r.2.2.1 = x.2.2.1 ∧ Rz w r.2.2.2.1 r.2.2.2.2.1 r.2.2.2.2.2 x.2.2.2 ∧ Few x

theorem Sm.ev {w0 w w' : World} {B : List Nat} {r : Raw} {x : Ent} (h : Sm w r x) (k : Ev w0 B w w') : Sm w' r x := ⟨h.1, h.2.1, h.2.2.1, h.2.2.2.1.ev k, h.2.2.2.2⟩
theorem Sm.kept {w w' : World} {r : Raw} {x : Ent} (h : Sm w r x) (k : Kp [] w w') : Sm w' r x := h.ev (Ev.of_kp (w0 := w) (B := []) k)
theorem few_nil (m : Bool) (h : Int) (nm : ByteArray) : Few (m, h, nm, []) := ⟨Nat.zero_le _, fun a ha => by simp at ha⟩
theorem sm_none (w : World) : Sm w r0 e0 := ⟨rfl, rfl, rfl, Rz.nil w, few_nil _ _ _⟩
theorem sm_mark (w : World) : Sm w (true, 0, ⟨#[]⟩, none, 0, 0) emk := ⟨rfl, rfl, rfl, Rz.nil w, few_nil _ _ _⟩

/-- The entry x lies in a block of its own, to which b points. -/
def Bx (w : World) (b : Option Addr) (x : Ent) : Prop := ∃ g r, b = some ⟨g, 0, none⟩ ∧ w.heap[g]? = some (.cells (rc r) 40 (0, 0)) ∧ Sm w r x

/-- .. and is none of B. -/
theorem Bx.ev {w0 w w' : World} {B : List Nat} {b : Option Addr} {x : Ent} (h : Bx w b x) (k : Ev w0 B w w') (hB : ∀ g, b = some ⟨g, 0, none⟩ → g ∉ B) : Bx w' b x := by
  obtain ⟨g, r, h1, h2, h3⟩ := h
  exact ⟨g, r, h1, k.cells _ _ _ h2 not_pil_item (fun _ => hB g h1), h3.ev k⟩

theorem Bx.kept {w w' : World} {b : Option Addr} {x : Ent} (h : Bx w b x) (k : Kp [] w w') : Bx w' b x := h.ev (Ev.of_kp (w0 := w) (B := []) k) (fun _ _ => by simp)

/-- What the walks want of an entry's block. -/
theorem Bx.out {w : World} {b : Option Addr} {x : Ent} (h : Bx w b x) : ∃ g ao n c, b = some ⟨g, 0, none⟩ ∧ w.cell? ⟨g, 0, none⟩ = some (.bool x.1) ∧ w.cell? ⟨g, 1, none⟩ = some (.int .i64 x.2.1) ∧ w.cell? ⟨g, 2, none⟩ = some (.string x.2.2.1) ∧ w.cell? ⟨g, 3, none⟩ = some (.slice ao n c) ∧ w.frozen? ⟨g, 1, none⟩ = false ∧ Rz w ao n c x.2.2.2 ∧ Few x ∧ Sm w (x.1, x.2.1, x.2.2.1, ao, n, c) x ∧ w.heap[g]? = some (.cells (rc (x.1, x.2.1, x.2.2.1, ao, n, c)) 40 (0, 0)) := by
  obtain ⟨g, ⟨m, hd, nm, ao, n, c⟩, h1, h2, h3⟩ := h
  obtain ⟨e1, e2, e3, e4, e5⟩ := h3
  simp only at e1 e2 e3 e4
  subst e1 e2 e3
  exact ⟨g, ao, n, c, h1, cell_of h2 0, cell_of h2 1, cell_of h2 2, cell_of h2 3, frozen_of h2 1, e4, e5, ⟨rfl, rfl, rfl, e4, e5⟩, h2⟩

/-- The list in block q, made since w0, holds zs: the pile in block p, its slice v, the entries' addresses bs. -/
structure Lx (w0 w : World) (q p : Nat) (v : Value) (bs : List (Option Addr)) (zs : List Ent) : Prop where
  head : w.heap[q]? = some (.cells #[.pointer (some ⟨p, 0, none⟩)] 53 (0, 0))
  px : PX w p v bs
  len : bs.length = zs.length
  box : ∀ i (h1 : i < bs.length) (h2 : i < zs.length), Bx w bs[i] zs[i]
  new1 : w0.heap.size ≤ p
  new2 : ∀ k, k ∈ blk v → w0.heap.size ≤ k
  new3 : ∀ g, some ⟨g, 0, none⟩ ∈ bs → w0.heap.size ≤ g
  nd : bs.Nodup

/-- .. its entries' blocks are among B. -/
def Li (w0 w : World) (q : Nat) (B : List Nat) (zs : List Ent) : Prop := (∃ p v bs, Lx w0 w q p v bs zs ∧ ∀ g, some ⟨g, 0, none⟩ ∈ bs → g ∈ B) ∧ ∀ k, k ∈ B → k < w.heap.size

/-- The list holds zs now; nothing else has turned. -/
def Nx (w0 w : World) (q : Nat) (B : List Nat) (zs : List Ent) (w' : World) : Prop := (∃ B', Li w0 w' q B' zs ∧ ∀ k, k ∈ B' → k ∈ B ∨ w.heap.size ≤ k) ∧ Ev w0 B w w'

theorem Lx.cell {w0 w : World} {q p : Nat} {v : Value} {bs : List (Option Addr)} {zs : List Ent} (h : Lx w0 w q p v bs zs) : w.cell? ⟨q, 0, none⟩ = some (.pointer (some ⟨p, 0, none⟩)) := cell_of h.head 0

theorem list_item : 53 ≠ 40 := by decide
theorem ask_item : 29 ≠ 40 := by decide

theorem Lx.pil {w0 w : World} {q p : Nat} {v : Value} {bs : List (Option Addr)} {zs : List Ent} (h : Lx w0 w q p v bs zs) (B : List Nat) : ∀ x, x ∈ p :: blk v → w0.heap.size ≤ x ∧ ∀ (cur : Array Value) (t : TypeId), w.heap[x]? = some (Obj.cells cur t (0, 0)) → Ints.pil t ∨ (t = 40 ∧ x ∈ B) := by
  intro x hx
  rcases List.mem_cons.1 hx with rfl | h1
  · refine ⟨h.new1, fun cur t h2 => Or.inl ?_⟩
    rw [h.px.1] at h2
    simp only [Option.some.injEq, Obj.cells.injEq] at h2
    unfold Ints.pil
    rw [← h2.2.1]
    decide
  · refine ⟨h.new2 x h1, fun cur t h2 => Or.inl ?_⟩
    rcases h.px.2.1 with ⟨h3, _⟩ | ⟨g, cap, cur', h3, h4, _⟩
    · rw [h3] at h1
      simp [blk] at h1
    · rw [h3] at h1
      simp [blk] at h1
      subst h1
      rw [h4] at h2
      simp only [Option.some.injEq, Obj.cells.injEq] at h2
      unfold Ints.pil
      rw [← h2.2.1]
      decide

/-- The pile holds other entries now. -/
theorem Lx.turned {w0 w w' : World} {q p : Nat} {v : Value} {bs bs' : List (Option Addr)} {zs zs' : List Ent} (h : Lx w0 w q p v bs zs) (t : TX w w' p v bs') (hl : bs'.length = zs'.length)
    (hb : ∀ i (h1 : i < bs'.length) (h2 : i < zs'.length), Bx w bs'[i] zs'[i]) (h3 : ∀ g, some ⟨g, 0, none⟩ ∈ bs' → w0.heap.size ≤ g) (hn : bs'.Nodup) : (∃ v', Lx w0 w' q p v' bs' zs') ∧ Ev w0 [] w w' := by
  obtain ⟨v', t1, t2, t3⟩ := t
  have k : Ev w0 [] w w' := Ev.of_pil t2 (h.pil [])
  refine ⟨⟨v', ⟨k.cells _ _ _ h.head not_pil_list (fun e => absurd e list_item), t1, hl, fun i h1 h2 => (hb i h1 h2).ev k (fun _ _ => by simp), h.new1, fun x hx => ?_, h3, hn⟩⟩, k⟩
  have hw0 : w0.heap.size ≤ w.heap.size := by
    have := (Array.getElem?_eq_some_iff.1 h.px.1).1
    have := h.new1
    omega
  rcases t3 x hx with h5 | h5
  · exact h.new2 x h5
  · omega

theorem Ev.wide {w0 w w' : World} {B : List Nat} (h : Ev w0 [] w w') : Ev w0 B w w' := ⟨h.os, h.tape, h.output, h.size, h.old, fun k cur t h1 h2 _ => h.cells k cur t h1 h2 (fun _ => by simp)⟩

theorem Lx.kept {w0 w w' : World} {q p : Nat} {v : Value} {bs : List (Option Addr)} {zs : List Ent} (h : Lx w0 w q p v bs zs) (k : Kp [] w w') : Lx w0 w' q p v bs zs :=
  ⟨by rw [k.block q (lt_of h.head) (by simp)]; exact h.head, ⟨by rw [k.block p (lt_of h.px.1) (by simp)]; exact h.px.1, h.px.2.1.keep k (fun _ _ => by simp), h.px.2.2⟩, h.len, fun i h1 h2 => (h.box i h1 h2).kept k, h.new1, h.new2, h.new3, h.nd⟩

theorem Li.kept {w0 w w' : World} {q : Nat} {B : List Nat} {zs : List Ent} (h : Li w0 w q B zs) (k : Kp [] w w') : Li w0 w' q B zs := by
  obtain ⟨⟨p, v, bs, h, h2⟩, h3⟩ := h
  exact ⟨⟨p, v, bs, h.kept k, h2⟩, fun x hx => Nat.lt_of_lt_of_le (h3 x hx) k.size⟩

theorem Lx.get {w0 w : World} {q p : Nat} {v : Value} {bs : List (Option Addr)} {zs : List Ent} (h : Lx w0 w q p v bs zs) (i : Nat) (hi : i < zs.length) : ∃ b, bs[i]? = some b ∧ Bx w b zs[i] := by
  have h1 : i < bs.length := by rw [h.len]; exact hi
  exact ⟨bs[i], List.getElem?_eq_getElem h1, h.box i h1 hi⟩

/-- A call that turned nothing of it. -/
theorem Li.nx {w0 w w' : World} {q : Nat} {B : List Nat} {zs : List Ent} (h : Li w0 w q B zs) (k : Kp [] w w') : Nx w0 w q B zs w' := ⟨⟨B, h.kept k, fun _ hx => Or.inl hx⟩, Ev.of_kp k⟩

theorem Nx.back {w0 w w1 w2 : World} {q : Nat} {B : List Nat} {zs : List Ent} (h : Nx w0 w q B zs w1) (k : Kp [] w1 w2) : Nx w0 w q B zs w2 := by
  obtain ⟨⟨B', h1, h2⟩, h3⟩ := h
  exact ⟨⟨B', h1.kept k, h2⟩, h3.back k⟩

theorem Nx.ahead {w0 w w1 w2 : World} {q : Nat} {B : List Nat} {zs : List Ent} (k : Kp [] w w1) (h : Nx w0 w1 q B zs w2) : Nx w0 w q B zs w2 := by
  obtain ⟨⟨B', h1, h2⟩, h3⟩ := h
  exact ⟨⟨B', h1, fun x hx => (h2 x hx).imp_right (fun h => Nat.le_trans k.size h)⟩, Ev.ahead k h3⟩

theorem Nx.trans {w0 w w1 w2 : World} {q : Nat} {B : List Nat} {zs ys : List Ent} (h : Nx w0 w q B zs w1) (f : ∀ B', Li w0 w1 q B' zs → Nx w0 w1 q B' ys w2) : Nx w0 w q B ys w2 := by
  obtain ⟨⟨B', h1, h2⟩, h3⟩ := h
  obtain ⟨⟨B2, g1, g2⟩, g3⟩ := f B' h1
  refine ⟨⟨B2, g1, fun x hx => ?_⟩, h3.trans g3 h2⟩
  rcases g2 x hx with h4 | h4
  · exact h2 x h4
  · exact Or.inr (Nat.le_trans h3.size h4)

/-- The pile of a list is turned: some of its entries, perhaps a new one. -/
theorem Lx.turn {w0 w w' : World} {q p : Nat} {B : List Nat} {v : Value} {bs bs' : List (Option Addr)} {zs zs' : List Ent} (h : Lx w0 w q p v bs zs) (hB : ∀ g, some ⟨g, 0, none⟩ ∈ bs → g ∈ B) (hB2 : ∀ k, k ∈ B → k < w.heap.size) (t : TX w w' p v bs') (hl : bs'.length = zs'.length)
    (hb : ∀ i (h1 : i < bs'.length) (h2 : i < zs'.length), Bx w bs'[i] zs'[i]) (N : List Nat) (hN : ∀ k, k ∈ N → w0.heap.size ≤ k ∧ k < w.heap.size) (hm : ∀ g, some ⟨g, 0, none⟩ ∈ bs' → some ⟨g, 0, none⟩ ∈ bs ∨ g ∈ N) (hn : bs'.Nodup) : Li w0 w' q (B ++ N) zs' ∧ Ev w0 [] w w' := by
  obtain ⟨⟨v', h1⟩, h2⟩ := h.turned t hl hb (fun g hg => by
    rcases hm g hg with h4 | h4
    · exact h.new3 g h4
    · exact (hN g h4).1) hn
  refine ⟨⟨⟨p, v', bs', h1, fun g hg => ?_⟩, fun k hk => ?_⟩, h2⟩
  · rcases hm g hg with h4 | h4
    · exact List.mem_append_left _ (hB g h4)
    · exact List.mem_append_right _ h4
  · rcases List.mem_append.1 hk with h4 | h4
    · exact Nat.lt_of_lt_of_le (hB2 k h4) h2.size
    · exact Nat.lt_of_lt_of_le (hN k h4).2 h2.size

/-- A pile's slice with something taken out at a place. -/
theorem Lx.cut {w0 w w' : World} {q p : Nat} {B : List Nat} {v : Value} {bs : List (Option Addr)} {zs : List Ent} (h : Lx w0 w q p v bs zs) (hB : ∀ g, some ⟨g, 0, none⟩ ∈ bs → g ∈ B) (hB2 : ∀ k, k ∈ B → k < w.heap.size) (k : Nat) (hk : k < zs.length) (t : TX w w' p v (bs.take k ++ bs.drop (k + 1))) : Li w0 w' q B (zs.take k ++ zs.drop (k + 1)) ∧ Ev w0 [] w w' := by
  have hlen := h.len
  have hsub : List.Sublist (bs.take k ++ bs.drop (k + 1)) bs := by
    conv => rhs; rw [← List.take_append_drop k bs]
    exact List.Sublist.append (List.Sublist.refl _) (by rw [← List.drop_drop]; exact List.drop_sublist 1 _)
  have R := h.turn (zs' := zs.take k ++ zs.drop (k + 1)) hB hB2 t (by simp [hlen]) (fun i i1 i2 => ?_) [] (by simp) (fun g hg => Or.inl (hsub.subset hg)) (List.Pairwise.sublist hsub h.nd)
  · rw [List.append_nil] at R
    exact R
  by_cases hi : i < k
  · have e1 : (bs.take k ++ bs.drop (k + 1))[i] = bs[i]'(by omega) := by
      rw [List.getElem_append_left (by simp; omega), List.getElem_take]
    have e2 : (zs.take k ++ zs.drop (k + 1))[i] = zs[i]'(by omega) := by
      rw [List.getElem_append_left (by simp; omega), List.getElem_take]
    rw [e1, e2]
    exact h.box i _ _
  · simp at i1
    have e1 : (bs.take k ++ bs.drop (k + 1))[i] = bs[i + 1]'(by omega) := by
      rw [List.getElem_append_right (by simp; omega), List.getElem_drop]
      congr 1
      simp
      omega
    have e2 : (zs.take k ++ zs.drop (k + 1))[i] = zs[i + 1]'(by omega) := by
      rw [List.getElem_append_right (by simp; omega), List.getElem_drop]
      congr 1
      simp
      omega
    rw [e1, e2]
    exact h.box (i + 1) _ _

/-- .. with something put in at a place. -/
theorem Lx.put {w0 w w' : World} {q p : Nat} {B : List Nat} {v : Value} {bs : List (Option Addr)} {zs : List Ent} (h : Lx w0 w q p v bs zs) (hB : ∀ g, some ⟨g, 0, none⟩ ∈ bs → g ∈ B) (hB2 : ∀ k, k ∈ B → k < w.heap.size) (k : Nat) (hk : k ≤ zs.length) (g0 : Nat) (x : Ent) (hb : Bx w (some ⟨g0, 0, none⟩) x) (hg0 : w0.heap.size ≤ g0) (hg1 : some ⟨g0, 0, none⟩ ∉ bs)
    (t : TX w w' p v (bs.take k ++ some ⟨g0, 0, none⟩ :: bs.drop k)) : Li w0 w' q (B ++ [g0]) (zs.take k ++ x :: zs.drop k) ∧ Ev w0 [] w w' := by
  have hlen := h.len
  have hgl : g0 < w.heap.size := by
    obtain ⟨g, r, e1, e2, _⟩ := hb
    simp only [Option.some.injEq, Addr.mk.injEq, and_true] at e1
    subst e1
    exact lt_of e2
  have hnd : (bs.take k ++ some ⟨g0, 0, none⟩ :: bs.drop k).Nodup := by
    have h1 := h.nd
    rw [← List.take_append_drop k bs] at h1 hg1
    unfold List.Nodup at h1 ⊢
    rw [List.pairwise_append] at h1 ⊢
    rw [List.pairwise_cons]
    refine ⟨h1.1, ⟨fun a ha e => hg1 (List.mem_append_right _ (by rw [e]; exact ha)), h1.2.1⟩, fun a ha b hb => ?_⟩
    rcases List.mem_cons.1 hb with rfl | hb
    · intro e
      exact hg1 (List.mem_append_left _ (by rw [← e]; exact ha))
    · exact h1.2.2 a ha b hb
  refine h.turn hB hB2 t (by simp [hlen]) (fun i i1 i2 => ?_) [g0] (fun y hy => by simp at hy; subst hy; exact ⟨hg0, hgl⟩) (fun g hg => ?_) hnd
  · by_cases hi : i < k
    · have e1 : (bs.take k ++ some ⟨g0, 0, none⟩ :: bs.drop k)[i] = bs[i]'(by omega) := by
        rw [List.getElem_append_left (by simp; omega), List.getElem_take]
      have e2 : (zs.take k ++ x :: zs.drop k)[i] = zs[i]'(by omega) := by
        rw [List.getElem_append_left (by simp; omega), List.getElem_take]
      rw [e1, e2]
      exact h.box i _ _
    · simp at i1
      by_cases hj : i = k
      · subst hj
        have e1 : (bs.take i ++ some ⟨g0, 0, none⟩ :: bs.drop i)[i] = some ⟨g0, 0, none⟩ := by
          rw [List.getElem_append_right (by simp; omega)]
          simp [Nat.min_eq_left (show i ≤ bs.length by omega)]
        have e2 : (zs.take i ++ x :: zs.drop i)[i] = x := by
          rw [List.getElem_append_right (by simp; omega)]
          simp [Nat.min_eq_left (show i ≤ zs.length by omega)]
        rw [e1, e2]
        exact hb
      · obtain ⟨j, rfl⟩ : ∃ j, i = j + 1 := ⟨i - 1, by omega⟩
        have e1 : (bs.take k ++ some ⟨g0, 0, none⟩ :: bs.drop k)[j + 1] = bs[j]'(by omega) := by
          rw [List.getElem_append_right (by simp; omega)]
          simp only [List.length_take, Nat.min_eq_left (show k ≤ bs.length by omega), show j + 1 - k = (j - k) + 1 by omega, List.getElem_cons_succ, List.getElem_drop]
          congr 1
          omega
        have e2 : (zs.take k ++ x :: zs.drop k)[j + 1] = zs[j]'(by omega) := by
          rw [List.getElem_append_right (by simp; omega)]
          simp only [List.length_take, Nat.min_eq_left (show k ≤ zs.length by omega), show j + 1 - k = (j - k) + 1 by omega, List.getElem_cons_succ, List.getElem_drop]
          congr 1
          omega
        rw [e1, e2]
        exact h.box j _ _
  · rcases List.mem_append.1 hg with h4 | h4
    · exact Or.inl (List.mem_of_mem_take h4)
    · rcases List.mem_cons.1 h4 with h5 | h5
      · right
        simp only [Option.some.injEq, Addr.mk.injEq, and_true] at h5
        simp [h5]
      · exact Or.inl (List.mem_of_mem_drop h5)

/-- A handle in an entry's block is written. -/
theorem Lx.wrote {w0 w : World} {q p : Nat} {B : List Nat} {v : Value} {bs : List (Option Addr)} {zs : List Ent} (h : Lx w0 w q p v bs zs) (hB : ∀ g, some ⟨g, 0, none⟩ ∈ bs → g ∈ B) (hB2 : ∀ k, k ∈ B → k < w.heap.size) (k : Nat) (hk : k < zs.length) (g : Nat) (hg : bs[k]? = some (some ⟨g, 0, none⟩)) (hd : Int) :
    Li w0 (w.setCell ⟨g, 1, none⟩ (.int .i64 hd)) q B (zs.modify k (hnd hd)) ∧ Ev w0 B w (w.setCell ⟨g, 1, none⟩ (.int .i64 hd)) := by
  have hlen := h.len
  have hgm : some ⟨g, 0, none⟩ ∈ bs := List.mem_of_getElem? hg
  have hkb : k < bs.length := by omega
  have hgk : bs[k] = some ⟨g, 0, none⟩ := by rw [List.getElem?_eq_getElem hkb] at hg; simpa using hg
  obtain ⟨g', r, e1, e2, e3⟩ := h.box k hkb hk
  rw [hgk] at e1
  simp only [Option.some.injEq, Addr.mk.injEq, and_true] at e1
  subst e1
  have K : Kp [g] w (w.setCell ⟨g, 1, none⟩ (.int .i64 hd)) := Kp.setCell (Kp.refl _ _) (Or.inl (by simp)) _
  have E : Ev w0 B w (w.setCell ⟨g, 1, none⟩ (.int .i64 hd)) := Ev.of_pil K (fun x hx => by
    simp at hx
    subst hx
    refine ⟨h.new3 _ hgm, fun cur t h2 => Or.inr ⟨?_, hB _ hgm⟩⟩
    rw [e2] at h2
    simp only [Option.some.injEq, Obj.cells.injEq] at h2
    exact h2.2.1.symm)
  have ne : ∀ x c t, w.heap[x]? = some (Obj.cells c t (0, 0)) → t ≠ 40 → x ∉ [g] := fun x c t h1 h2 h3 => by
    simp at h3
    subst h3
    rw [e2] at h1
    simp only [Option.some.injEq, Obj.cells.injEq] at h1
    exact h2 h1.2.1.symm
  have hs := setCell_block e2 1 (.int .i64 hd)
  have hA : ∀ ao n c l, Rz w ao n c l → Rz (w.setCell ⟨g, 1, none⟩ (.int .i64 hd)) ao n c l := fun ao n c l hz => hz.ev E
  refine ⟨⟨⟨p, v, bs, ⟨?_, ⟨?_, h.px.2.1.keep K (fun x hx => ?_), h.px.2.2⟩, by simp [hlen], fun i h1 h2 => ?_, h.new1, h.new2, h.new3, h.nd⟩, hB⟩, fun x hx => by rw [World.size_setCell]; exact hB2 x hx⟩, E⟩
  · rw [K.block q (lt_of h.head) (ne _ _ _ h.head list_item)]
    exact h.head
  · rw [K.block p (lt_of h.px.1) (ne _ _ _ h.px.1 (by decide))]
    exact h.px.1
  · rcases h.px.2.1 with ⟨h3, _⟩ | ⟨g, cap, cur', h3, h4, _⟩
    · rw [h3] at hx
      simp [blk] at hx
    · rw [h3] at hx
      simp [blk] at hx
      subst hx
      exact ne _ _ _ h4 (by decide)
  · have h2' : i < zs.length := by simpa using h2
    by_cases hik : i = k
    · subst hik
      rw [List.getElem_modify, if_pos rfl]
      obtain ⟨a1, a2, a3, a4, a5⟩ := e3
      exact ⟨g, (r.1, hd, r.2.2), hgk, by rw [hs]; rfl, a1, rfl, a3, hA _ _ _ _ a4, a5⟩
    · rw [List.getElem_modify, if_neg (fun e => hik e.symm)]
      obtain ⟨g2, r2, b1, b2, b3, b4, b5, b6, b7⟩ := h.box i h1 h2'
      refine ⟨g2, r2, b1, ?_, b3, b4, b5, hA _ _ _ _ b6, b7⟩
      rw [K.block g2 (lt_of b2) (fun hx => ?_)]
      · exact b2
      · simp at hx
        subst hx
        have := (List.getElem_inj (h₀ := h1) (h₁ := hkb) h.nd).1 (by rw [b1, hgk])
        exact hik this

end Go.Proofs.Ytadcpkdnpfmphaa.Ints
