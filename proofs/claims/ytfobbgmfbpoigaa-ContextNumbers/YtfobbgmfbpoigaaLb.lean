/-
  A list of open elements of ints as handles, in memory (Li), and what New, Push, Len, Pop, Top, At, is and isOf do to the world.
-/
import Derived.Test.YtfobbgmfbpoigaaEvv
import Derived.Test.YtfobbgmfbpoigaaPa
import Derived.Test.YtfobbgmfbpoigaaPa
import Derived.BigQuiet
namespace Go.Proofs.Ytfobbgmfbpoigaa.Ints
open Go.RowKit

abbrev It := Itm (Int)

/-- An element's cells. -/
def ic (x : It) : Array Value := #[Value.int .i64 x.1, .int .i64 x.2.1, .string x.2.2, .slice none 0 0]
/-- An element, as a value. -/
def iv (x : It) : Value := .agg #[Value.int .i64 x.1, .int .i64 x.2.1, .string x.2.2, .slice none 0 0]

/-- The element x lies in a block of its own, to which b points. -/
def Bx (w : World) (b : Option Addr) (x : It) : Prop := ∃ g, b = some ⟨g, 0, none⟩ ∧ w.heap[g]? = some (.cells (ic x) 51 (0, 0))

theorem Bx.ev {w0 w w' : World} {b : Option Addr} {x : It} (h : Bx w b x) (k : Ev w0 w w') : Bx w' b x := by
  obtain ⟨g, h1, h2⟩ := h
  exact ⟨g, h1, k.cells _ _ _ h2 not_pil_item⟩

theorem Bx.kept {w w' : World} {b : Option Addr} {x : It} (h : Bx w b x) (k : Kp [] w w') : Bx w' b x := h.ev (Ev.of_kp (w0 := w) k)

/-- What the walks want of an element's block. -/
theorem Bx.out {w : World} {b : Option Addr} {h : Int} {ns : Int} {nm : ByteArray} (x : Bx w b (h, ns, nm)) : ∃ g, b = some ⟨g, 0, none⟩ ∧ w.cell? ⟨g, 0, none⟩ = some (Value.int .i64 h) ∧ w.cell? ⟨g, 1, none⟩ = some (.int .i64 ns) ∧ w.cell? ⟨g, 2, none⟩ = some (.string nm) ∧ w.cell? ⟨g, 3, none⟩ = some (.slice none 0 0) := by
  obtain ⟨g, h1, h2⟩ := x
  exact ⟨g, h1, cell_of h2 0, cell_of h2 1, cell_of h2 2, cell_of h2 3⟩

/-- The list in block q, made since w0, holds zs: the pile in block p, its slice v, the elements' addresses bs. -/
structure Lx (w0 w : World) (q p : Nat) (v : Value) (bs : List (Option Addr)) (zs : List It) : Prop where
  head : w.heap[q]? = some (.cells #[.pointer (some ⟨p, 0, none⟩)] 69 (0, 0))
  px : PX w p v bs
  len : bs.length = zs.length
  box : ∀ i (h1 : i < bs.length) (h2 : i < zs.length), Bx w bs[i] zs[i]
  new1 : w0.heap.size ≤ p
  new2 : ∀ k, k ∈ blk v → w0.heap.size ≤ k

def Li (w0 w : World) (q : Nat) (zs : List It) : Prop := ∃ p v bs, Lx w0 w q p v bs zs

theorem Lx.cell {w0 w : World} {q p : Nat} {v : Value} {bs : List (Option Addr)} {zs : List It} (h : Lx w0 w q p v bs zs) : w.cell? ⟨q, 0, none⟩ = some (.pointer (some ⟨p, 0, none⟩)) := cell_of h.head 0

theorem Lx.pil {w0 w : World} {q p : Nat} {v : Value} {bs : List (Option Addr)} {zs : List It} (h : Lx w0 w q p v bs zs) : ∀ x, x ∈ p :: blk v → w0.heap.size ≤ x ∧ ∀ (cur : Array Value) (t : TypeId), w.heap[x]? = some (Obj.cells cur t (0, 0)) → pil t := by
  intro x hx
  rcases List.mem_cons.1 hx with rfl | h1
  · refine ⟨h.new1, fun cur t h2 => ?_⟩
    rw [h.px.1] at h2
    simp only [Option.some.injEq, Obj.cells.injEq] at h2
    unfold Ytfobbgmfbpoigaa.pil
    rw [← h2.2.1]
    decide
  · refine ⟨h.new2 x h1, fun cur t h2 => ?_⟩
    rcases h.px.2.1 with ⟨h3, _⟩ | ⟨g, cap, cur', h3, h4, _⟩
    · rw [h3] at h1
      simp [blk] at h1
    · rw [h3] at h1
      simp [blk] at h1
      subst h1
      rw [h4] at h2
      simp only [Option.some.injEq, Obj.cells.injEq] at h2
      unfold Ytfobbgmfbpoigaa.pil
      rw [← h2.2.1]
      decide

/-- The pile holds other elements now. -/
theorem Lx.turned {w0 w w' : World} {q p : Nat} {v : Value} {bs bs' : List (Option Addr)} {zs zs' : List It} (h : Lx w0 w q p v bs zs) (t : TX w w' p v bs') (hl : bs'.length = zs'.length)
    (hb : ∀ i (h1 : i < bs'.length) (h2 : i < zs'.length), Bx w bs'[i] zs'[i]) : (∃ v', Lx w0 w' q p v' bs' zs') ∧ Ev w0 w w' := by
  obtain ⟨v', t1, t2, t3⟩ := t
  have k : Ev w0 w w' := Ev.of_pil t2 h.pil
  refine ⟨⟨v', ⟨k.cells _ _ _ h.head not_pil_list, t1, hl, fun i h1 h2 => (hb i h1 h2).ev k, h.new1, fun x hx => ?_⟩⟩, k⟩
  have hw0 : w0.heap.size ≤ w.heap.size := by
    have := (Array.getElem?_eq_some_iff.1 h.px.1).1
    have := h.new1
    omega
  rcases t3 x hx with h5 | h5
  · exact h.new2 x h5
  · omega

theorem Lx.turn {w0 w w' : World} {q p : Nat} {v : Value} {bs bs' : List (Option Addr)} {zs zs' : List It} (h : Lx w0 w q p v bs zs) (t : TX w w' p v bs') (hl : bs'.length = zs'.length)
    (hb : ∀ i (h1 : i < bs'.length) (h2 : i < zs'.length), Bx w bs'[i] zs'[i]) : Li w0 w' q zs' ∧ Ev w0 w w' := by
  obtain ⟨⟨v', h1⟩, h2⟩ := h.turned t hl hb
  exact ⟨⟨p, v', bs', h1⟩, h2⟩

theorem Ev.result {w0 w w2 W : World} {r : Nat} (h : Ev w0 w w2) (k : Kp [r] w2 W) (hr : w.heap.size ≤ r) : Ev w0 w W :=
  ⟨k.os.trans h.os, k.tape.trans h.tape, k.output.trans h.output, Nat.le_trans h.size k.size,
    fun i h1 h2 => (k.block i (Nat.lt_of_lt_of_le h1 h.size) (by simp; omega)).trans (h.old i h1 h2),
    fun i cur t h1 h2 => by have h3 := lt_of h1; rw [k.block i (Nat.lt_of_lt_of_le h3 h.size) (by simp; omega)]; exact h.cells i cur t h1 h2⟩

/-- A block of an element that is none of its own is written. -/
theorem Lx.result {w0 w2 W : World} {q p r : Nat} {v : Value} {bs : List (Option Addr)} {zs : List It} {cur : Array Value} (h : Lx w0 w2 q p v bs zs) (hr : w2.heap[r]? = some (.cells cur 51 (0, 0)))
    (hb : ∀ i (h1 : i < bs.length) g, bs[i] = some ⟨g, 0, none⟩ → g < r) (k : Kp [r] w2 W) : Lx w0 W q p v bs zs := by
  have ne : ∀ x c t, w2.heap[x]? = some (Obj.cells c t (0, 0)) → t ≠ 51 → x ∉ [r] := fun x c t h1 h2 h3 => by
    simp at h3
    subst h3
    rw [hr] at h1
    simp only [Option.some.injEq, Obj.cells.injEq] at h1
    exact h2 h1.2.1.symm
  refine ⟨?_, ⟨?_, h.px.2.1.keep k (fun x hx => ?_), h.px.2.2⟩, h.len, fun i h1 h2 => ?_, h.new1, h.new2⟩
  · rw [k.block q (lt_of h.head) (ne _ _ _ h.head (by decide))]
    exact h.head
  · rw [k.block p (lt_of h.px.1) (ne _ _ _ h.px.1 (by decide))]
    exact h.px.1
  · rcases h.px.2.1 with ⟨h3, _⟩ | ⟨g, cap, cur', h3, h4, _⟩
    · rw [h3] at hx
      simp [blk] at hx
    · rw [h3] at hx
      simp [blk] at hx
      subst hx
      exact ne _ _ _ h4 (by decide)
  · obtain ⟨g, h3, h4⟩ := h.box i h1 h2
    refine ⟨g, h3, ?_⟩
    rw [k.block g (lt_of h4) (by have := hb i h1 g h3; simp; omega)]
    exact h4

theorem Lx.kept {w0 w w' : World} {q p : Nat} {v : Value} {bs : List (Option Addr)} {zs : List It} (h : Lx w0 w q p v bs zs) (k : Kp [] w w') : Lx w0 w' q p v bs zs :=
  ⟨by rw [k.block q (lt_of h.head) (by simp)]; exact h.head, ⟨by rw [k.block p (lt_of h.px.1) (by simp)]; exact h.px.1, h.px.2.1.keep k (fun _ _ => by simp), h.px.2.2⟩, h.len, fun i h1 h2 => (h.box i h1 h2).kept k, h.new1, h.new2⟩

theorem Li.kept {w0 w w' : World} {q : Nat} {zs : List It} (h : Li w0 w q zs) (k : Kp [] w w') : Li w0 w' q zs := by
  obtain ⟨p, v, bs, h⟩ := h
  exact ⟨p, v, bs, h.kept k⟩

/-- The list's head is no pointer to nothing. -/
theorem Lx.get {w0 w : World} {q p : Nat} {v : Value} {bs : List (Option Addr)} {zs : List It} (h : Lx w0 w q p v bs zs) (i : Nat) (hi : i < zs.length) : ∃ b, bs[i]? = some b ∧ Bx w b zs[i] := by
  have h1 : i < bs.length := by rw [h.len]; exact hi
  exact ⟨bs[i], List.getElem?_eq_getElem h1, h.box i h1 hi⟩

theorem new_list (w0 w : World) (hw : w0.heap.size ≤ w.heap.size) : Calls Try.prog 29 #[] w fun e w' => ∃ q, e = .returned (.pointer (some ⟨q, 0, none⟩)) ∧ Li w0 w' q [] ∧ Kp [] w w' := by
  have H := new_any w
  have HF : Hid (Lx w0 ((w.alloc (.cells #[.slice none 0 0] 79)).alloc (.cells #[.pointer (some ⟨w.heap.size, 0, none⟩)] 69)) (w.heap.size + 1) w.heap.size (.slice none 0 0) [] []) := by
    refine ⟨heap_new' _ _ _ (by simp), ⟨?_, Or.inl ⟨rfl, rfl⟩, by simp [blk]⟩, rfl, fun i h1 h2 => by simp at h2, hw, fun k hk => by simp [blk] at hk⟩
    rw [Below.heap_alloc _ _ _ (by simp)]
    exact heap_new _ _
  have HK : Hid (Kp [] w ((w.alloc (.cells #[.slice none 0 0] 79)).alloc (.cells #[.pointer (some ⟨w.heap.size, 0, none⟩)] 69))) := ((Kp.refl _ _).alloc _).alloc _
  go_enter Try.func29, Try.ntmps29
  go_wp2_with fail
  refine H.mono ?_
  rintro e w2 ⟨rfl, rfl⟩
  go_wp2
  go_ret
  refine ⟨w.heap.size + 1, ?_, ⟨_, _, _, HF.out⟩, HK.out⟩
  simp

theorem len_list (w0 w : World) (q : Nat) (zs : List It) (h : Li w0 w q zs) : Calls Try.prog 38 #[.pointer (some ⟨q, 0, none⟩)] w fun e w' => e = .returned (.int .i64 zs.length) ∧ w' = w := by
  obtain ⟨p, v, bs, h⟩ := h
  have H := len_any w p v bs h.px
  rw [h.len] at H
  have hc := h.cell
  clear h
  go_enter Try.func38, Try.ntmps38
  go_wp2_with fail
  refine H.mono ?_
  rintro e w2 ⟨rfl, rfl⟩
  go_wp2
  go_ret
  exact ⟨rfl, rfl⟩

set_option maxHeartbeats 1000000 in
theorem push_list (w0 w : World) (q : Nat) (zs : List It) (x : It) (h : Li w0 w q zs) (hl : zs.length < 100000) :
    Calls Try.prog 30 #[.pointer (some ⟨q, 0, none⟩), iv x] w fun e w' => e = .returned (.tuple #[]) ∧ Li w0 w' q (zs ++ [x]) ∧ Ev w0 w w' := by
  obtain ⟨p, v, bs, h⟩ := h
  have k1 : Kp [] w (w.alloc (.cells (ic x) 51)) := (Kp.refl _ _).alloc _
  have h1 := h.kept k1
  have hb := h.len
  have H := push_any (w.alloc (.cells (ic x) 51)) p v bs (some ⟨w.heap.size, 0, none⟩) h1.px (by omega)
  have hc := h1.cell
  have HF : Hid (∀ w', TX (w.alloc (.cells (ic x) 51)) w' p v (bs ++ [some ⟨w.heap.size, 0, none⟩]) → Li w0 w' q (zs ++ [x]) ∧ Ev w0 w w') := fun w' t => by
    obtain ⟨r1, r2⟩ := h1.turn (zs' := zs ++ [x]) t (by simp [hb]) (fun i i1 i2 => by
      by_cases hi : i < zs.length
      · rw [List.getElem_append_left (by omega), List.getElem_append_left hi]
        exact h1.box i (by omega) hi
      · have e1 : i = zs.length := by simp at i2; omega
        subst e1
        rw [List.getElem_append_right (by omega), List.getElem_append_right (by omega)]
        simp only [List.getElem_singleton]
        exact ⟨_, rfl, heap_new _ _⟩)
    exact ⟨r1, (Ev.of_kp k1).trans r2⟩
  clear h h1 hb k1
  obtain ⟨h, ns, nm⟩ := x
  unfold ic at H hc HF
  unfold iv
  go_enter Try.func30, Try.ntmps30
  go_wp2_with fail
  refine H.mono ?_
  rintro e w2 ⟨rfl, t⟩
  have R := HF.out w2 t
  clear HF H t
  go_wp2
  go_end0
  exact ⟨rfl, R⟩

end Go.Proofs.Ytfobbgmfbpoigaa.Ints
