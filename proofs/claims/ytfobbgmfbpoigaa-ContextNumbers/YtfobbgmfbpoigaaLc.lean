/-
  is and isOf of an element of ints as handles; plain, At, Top and Pop.
-/
import Derived.Test.YtfobbgmfbpoigaaLb
namespace Go.Proofs.Ytfobbgmfbpoigaa.Ints
open Go.RowKit
set_option linter.unusedSimpArgs false

/-- An element that is none. -/
def z0 : It := (0, 0, ⟨#[]⟩)

/-- A new block of zeros ahead of it. -/
theorem Bx.zero {w : World} {b : Option Addr} {x : It} (h : Bx w b x) : Bx (w.alloc (.cells #[.int .i64 0, .int .i64 0, .string ⟨#[]⟩, .slice none 0 0] 51)) b x := h.kept ((Kp.refl [] w).alloc _)

set_option maxHeartbeats 1000000 in
theorem plain_in (w : World) (b : Option Addr) (x : It) (hb : Bx w b x) : Calls Try.prog 42 #[.pointer b, .bool true] w fun e w' => e = .returned (.tuple #[iv x, .bool true]) ∧ Kp [] w w' := by
  have hb' := hb.zero
  have hK : Hid (Kp [] w (w.alloc (.cells (ic x) 51))) := (Kp.refl _ _).alloc _
  have hh : (w.alloc (.cells (ic x) 51)).heap[w.heap.size]? = some (.cells (ic x) 51 (0, 0)) := heap_new _ _
  obtain ⟨h, ns, nm⟩ := x
  obtain ⟨g, rfl, c0, c1, c2, c3⟩ := hb'.out
  have D : Hid (_ ∧ _ ∧ _ ∧ _) := ⟨cell_of hh 0, cell_of hh 1, cell_of hh 2, cell_of hh 3⟩
  clear hb hb' hh
  unfold iv
  go_enter Try.func42, Try.ntmps42
  go_wp2
  obtain ⟨d0, d1, d2, d3⟩ := D.out
  simp [ic] at d0 d1 d2 d3
  refine bodyPost_ret (v := .tuple #[.agg #[.int .i64 h, .int .i64 ns, .string nm, .slice none 0 0], .bool true]) (by simp [results, go_sem, d0, d1, d2, d3]) rfl ⟨rfl, ?_⟩
  exact hK.out

set_option maxHeartbeats 1000000 in
theorem plain_out (w : World) : Calls Try.prog 42 #[.pointer none, .bool false] w fun e w' => e = .returned (.tuple #[iv z0, .bool false]) ∧ Kp [] w w' := by
  have hK : Hid (Kp [] w (w.alloc (.cells (ic z0) 51))) := (Kp.refl _ _).alloc _
  unfold iv z0
  go_enter Try.func42, Try.ntmps42
  go_wp2
  refine bodyPost_ret (v := .tuple #[.agg #[.int .i64 0, .int .i64 0, .string ⟨#[]⟩, .slice none 0 0], .bool false]) (by simp [results, go_sem]) rfl ⟨rfl, ?_⟩
  exact hK.out

/-- A result's block behind the store of an element's cells. -/
theorem res_put (w0 w : World) (g : Nat) (cur : Array Value) (x : It) (k : Kp [] w0 w) (hg : w.heap[g]? = some (.cells cur 51 (0, 0))) (hn : w0.heap.size ≤ g) (hs : cur.size = 4) :
    ∃ W, W = ((((w.setCell ⟨g, 0, none⟩ (.int .i64 x.1)).setCell ⟨g, 1, none⟩ (.int .i64 x.2.1)).setCell ⟨g, 2, none⟩ (.string x.2.2)).setCell ⟨g, 3, none⟩ (.slice none 0 0)) ∧ Kp [] w0 W ∧
      W.cell? ⟨g, 0, none⟩ = some (.int .i64 x.1) ∧ W.cell? ⟨g, 1, none⟩ = some (.int .i64 x.2.1) ∧ W.cell? ⟨g, 2, none⟩ = some (.string x.2.2) ∧ W.cell? ⟨g, 3, none⟩ = some (.slice none 0 0) := by
  have h := setCell_block (setCell_block (setCell_block (setCell_block hg 0 (.int .i64 x.1)) 1 (.int .i64 x.2.1)) 2 (.string x.2.2)) 3 (.slice none 0 0)
  refine ⟨_, rfl, Kp.setCell (Kp.setCell (Kp.setCell (Kp.setCell k (Or.inr hn) _) (Or.inr hn) _) (Or.inr hn) _) (Or.inr hn) _, ?_, ?_, ?_, ?_⟩
  all_goals (rw [cell_of h]; simp [Array.getElem?_setIfInBounds, hs])

/-- .. and ahead of it. -/
theorem res_cells (w : World) (g : Nat) (hg : w.heap[g]? = some (.cells #[.int .i64 0, .int .i64 0, .string ⟨#[]⟩, .slice none 0 0] 51 (0, 0))) :
    w.cell? ⟨g, 0, none⟩ = some (.int .i64 0) ∧ w.cell? ⟨g, 1, none⟩ = some (.int .i64 0) ∧ w.cell? ⟨g, 2, none⟩ = some (.string ⟨#[]⟩) ∧ w.cell? ⟨g, 3, none⟩ = some (.slice none 0 0) ∧
    w.frozen? ⟨g, 0, none⟩ = false ∧ w.frozen? ⟨g, 1, none⟩ = false ∧ w.frozen? ⟨g, 2, none⟩ = false ∧ w.frozen? ⟨g, 3, none⟩ = false :=
  ⟨cell_of hg 0, cell_of hg 1, cell_of hg 2, cell_of hg 3, frozen_of hg 0, frozen_of hg 1, frozen_of hg 2, frozen_of hg 3⟩

/-- What a call that answers an element does at its end: the facts that the walk wants. -/
theorem res_all (w0 w2 : World) (x : It) (R : World → Prop) (k : Kp [] w0 w2) (hR : ∀ W, Kp [w0.heap.size] w2 W → Kp [] w0 W → R W) (hg : w2.heap[w0.heap.size]? = some (.cells #[.int .i64 0, .int .i64 0, .string ⟨#[]⟩, .slice none 0 0] 51 (0, 0))) :
    Hid ((w2.cell? ⟨w0.heap.size, 0, none⟩ = some (.int .i64 0) ∧ w2.cell? ⟨w0.heap.size, 1, none⟩ = some (.int .i64 0) ∧ w2.cell? ⟨w0.heap.size, 2, none⟩ = some (.string ⟨#[]⟩) ∧ w2.cell? ⟨w0.heap.size, 3, none⟩ = some (.slice none 0 0) ∧
    w2.frozen? ⟨w0.heap.size, 0, none⟩ = false ∧ w2.frozen? ⟨w0.heap.size, 1, none⟩ = false ∧ w2.frozen? ⟨w0.heap.size, 2, none⟩ = false ∧ w2.frozen? ⟨w0.heap.size, 3, none⟩ = false) ∧
    (∃ W, W = ((((w2.setCell ⟨w0.heap.size, 0, none⟩ (.int .i64 x.1)).setCell ⟨w0.heap.size, 1, none⟩ (.int .i64 x.2.1)).setCell ⟨w0.heap.size, 2, none⟩ (.string x.2.2)).setCell ⟨w0.heap.size, 3, none⟩ (.slice none 0 0)) ∧ R W ∧
      W.cell? ⟨w0.heap.size, 0, none⟩ = some (.int .i64 x.1) ∧ W.cell? ⟨w0.heap.size, 1, none⟩ = some (.int .i64 x.2.1) ∧ W.cell? ⟨w0.heap.size, 2, none⟩ = some (.string x.2.2) ∧ W.cell? ⟨w0.heap.size, 3, none⟩ = some (.slice none 0 0))) := by
  refine ⟨res_cells w2 w0.heap.size hg, ?_⟩
  obtain ⟨W, h1, h2, h3, h4, h5, h6⟩ := res_put w0 w2 w0.heap.size _ x k hg (Nat.le_refl _) rfl
  refine ⟨W, h1, hR W ?_ h2, h3, h4, h5, h6⟩
  rw [h1]
  exact Kp.setCell (Kp.setCell (Kp.setCell (Kp.setCell (Kp.refl _ _) (Or.inl (by simp)) _) (Or.inl (by simp)) _) (Or.inl (by simp)) _) (Or.inl (by simp)) _

set_option maxHeartbeats 1000000 in
theorem at_list (w0 w : World) (q : Nat) (zs : List It) (i : Nat) (h : Li w0 w q zs) (hi : i < zs.length) :
    Calls Try.prog 39 #[.pointer (some ⟨q, 0, none⟩), .int .i64 (i : Nat)] w fun e w' => e = .returned (.tuple #[iv zs[i], .bool true]) ∧ Kp [] w w' := by
  obtain ⟨p, v, bs, h⟩ := h
  have k1 : Kp [] w (w.alloc (.cells #[.int .i64 0, .int .i64 0, .string ⟨#[]⟩, .slice none 0 0] 51)) := (Kp.refl _ _).alloc _
  obtain ⟨w1, hw1⟩ : ∃ w1, w1 = w.alloc (.cells #[.int .i64 0, .int .i64 0, .string ⟨#[]⟩, .slice none 0 0] 51) := ⟨_, rfl⟩
  have hres : w1.heap[w.heap.size]? = some (.cells #[.int .i64 0, .int .i64 0, .string ⟨#[]⟩, .slice none 0 0] 51 (0, 0)) := by rw [hw1]; exact heap_new _ _
  rw [← hw1] at k1
  have h1 := h.kept k1
  have hc := h1.cell
  obtain ⟨b, hb1, hb2⟩ := h1.get i hi
  have H1 := at_in w1 p v bs (i : Int) h1.px (by omega) (by rw [h1.len]; omega) b (by simpa using hb1)
  have H2 := plain_in w1 b zs[i] hb2
  generalize zs[i] = x at H2 hb2
  obtain ⟨hh, ns, nm⟩ := x
  unfold iv at H2 ⊢
  clear h h1 hb1 hb2
  subst hw1
  go_enter Try.func39, Try.ntmps39
  go_wp2_with fail
  refine H1.mono ?_
  rintro e w' ⟨rfl, hw⟩
  have hw2 := hw.symm
  clear hw
  subst hw2
  go_wp2_with fail
  refine H2.mono ?_
  rintro e w2 ⟨rfl, k2⟩
  have R := res_all w w2 (hh, ns, nm) (fun W => Kp [] w W) (k1.trans k2 (fun y hy => by simp at hy)) (fun W _ k => k) ((k2.block _ (lt_of hres) (by simp)).trans hres)
  obtain ⟨⟨d0, d1, d2, d3, e0, e1, e2, e3⟩, HR⟩ := R.out
  have HR2 : Hid _ := HR
  clear HR R k2 H1 H2 hres k1
  go_wp2
  obtain ⟨W, hW, kW, f0, f1, f2, f3⟩ := HR2.out
  subst hW
  refine bodyPost_ret (v := .tuple #[.agg #[.int .i64 hh, .int .i64 ns, .string nm, .slice none 0 0], .bool true]) (by simp [results, go_sem, f0, f1, f2, f3]) rfl ⟨rfl, kW⟩

set_option maxHeartbeats 1000000 in
theorem at_none (w0 w : World) (q : Nat) (zs : List It) (i : Int) (h : Li w0 w q zs) (hi : i < 0 ∨ zs.length ≤ i) :
    Calls Try.prog 39 #[.pointer (some ⟨q, 0, none⟩), .int .i64 i] w fun e w' => e = .returned (.tuple #[iv z0, .bool false]) ∧ Kp [] w w' := by
  obtain ⟨p, v, bs, h⟩ := h
  have k1 : Kp [] w (w.alloc (.cells #[.int .i64 0, .int .i64 0, .string ⟨#[]⟩, .slice none 0 0] 51)) := (Kp.refl _ _).alloc _
  obtain ⟨w1, hw1⟩ : ∃ w1, w1 = w.alloc (.cells #[.int .i64 0, .int .i64 0, .string ⟨#[]⟩, .slice none 0 0] 51) := ⟨_, rfl⟩
  have hres : w1.heap[w.heap.size]? = some (.cells #[.int .i64 0, .int .i64 0, .string ⟨#[]⟩, .slice none 0 0] 51 (0, 0)) := by rw [hw1]; exact heap_new _ _
  rw [← hw1] at k1
  have h1 := h.kept k1
  have hc := h1.cell
  have H1 := at_out w1 p v bs i h1.px (by rw [h1.len]; exact hi)
  have H2 := plain_out w1
  unfold iv z0 at H2 ⊢
  clear h h1 hi
  subst hw1
  go_enter Try.func39, Try.ntmps39
  go_wp2_with fail
  refine H1.mono ?_
  rintro e w' ⟨rfl, hw⟩
  have hw2 := hw.symm
  clear hw
  subst hw2
  go_wp2_with fail
  refine H2.mono ?_
  rintro e w2 ⟨rfl, k2⟩
  have R := res_all w w2 (0, 0, ⟨#[]⟩) (fun W => Kp [] w W) (k1.trans k2 (fun y hy => by simp at hy)) (fun W _ k => k) ((k2.block _ (lt_of hres) (by simp)).trans hres)
  obtain ⟨⟨d0, d1, d2, d3, e0, e1, e2, e3⟩, HR⟩ := R.out
  have HR2 : Hid _ := HR
  clear HR R k2 H1 H2 hres k1
  go_wp2
  obtain ⟨W, hW, kW, f0, f1, f2, f3⟩ := HR2.out
  subst hW
  refine bodyPost_ret (v := .tuple #[.agg #[.int .i64 0, .int .i64 0, .string ⟨#[]⟩, .slice none 0 0], .bool false]) (by simp [results, go_sem, f0, f1, f2, f3]) rfl ⟨rfl, kW⟩

theorem pop_end {w0 w w2 : World} {q p : Nat} {v : Value} {bs : List (Option Addr)} {zs : List It} (x : It) (h : Lx w0 w2 q p v bs zs) (e : Ev w0 w w2) (hb : ∀ i (h1 : i < bs.length) g, bs[i] = some ⟨g, 0, none⟩ → g < w.heap.size)
    (hr : w2.heap[w.heap.size]? = some (.cells #[.int .i64 0, .int .i64 0, .string ⟨#[]⟩, .slice none 0 0] 51 (0, 0))) :
    Hid ((w2.cell? ⟨w.heap.size, 0, none⟩ = some (.int .i64 0) ∧ w2.cell? ⟨w.heap.size, 1, none⟩ = some (.int .i64 0) ∧ w2.cell? ⟨w.heap.size, 2, none⟩ = some (.string ⟨#[]⟩) ∧ w2.cell? ⟨w.heap.size, 3, none⟩ = some (.slice none 0 0) ∧
    w2.frozen? ⟨w.heap.size, 0, none⟩ = false ∧ w2.frozen? ⟨w.heap.size, 1, none⟩ = false ∧ w2.frozen? ⟨w.heap.size, 2, none⟩ = false ∧ w2.frozen? ⟨w.heap.size, 3, none⟩ = false) ∧
    (∃ W, W = ((((w2.setCell ⟨w.heap.size, 0, none⟩ (.int .i64 x.1)).setCell ⟨w.heap.size, 1, none⟩ (.int .i64 x.2.1)).setCell ⟨w.heap.size, 2, none⟩ (.string x.2.2)).setCell ⟨w.heap.size, 3, none⟩ (.slice none 0 0)) ∧ (Li w0 W q zs ∧ Ev w0 w W) ∧
      W.cell? ⟨w.heap.size, 0, none⟩ = some (.int .i64 x.1) ∧ W.cell? ⟨w.heap.size, 1, none⟩ = some (.int .i64 x.2.1) ∧ W.cell? ⟨w.heap.size, 2, none⟩ = some (.string x.2.2) ∧ W.cell? ⟨w.heap.size, 3, none⟩ = some (.slice none 0 0))) := by
  refine ⟨res_cells w2 w.heap.size hr, ?_⟩
  have hh := setCell_block (setCell_block (setCell_block (setCell_block hr 0 (.int .i64 x.1)) 1 (.int .i64 x.2.1)) 2 (.string x.2.2)) 3 (.slice none 0 0)
  have k : Kp [w.heap.size] w2 ((((w2.setCell ⟨w.heap.size, 0, none⟩ (.int .i64 x.1)).setCell ⟨w.heap.size, 1, none⟩ (.int .i64 x.2.1)).setCell ⟨w.heap.size, 2, none⟩ (.string x.2.2)).setCell ⟨w.heap.size, 3, none⟩ (.slice none 0 0)) :=
    Kp.setCell (Kp.setCell (Kp.setCell (Kp.setCell (Kp.refl _ _) (Or.inl (by simp)) _) (Or.inl (by simp)) _) (Or.inl (by simp)) _) (Or.inl (by simp)) _
  exact ⟨_, rfl, ⟨⟨p, v, bs, h.result hr hb k⟩, Ev.result e k (Nat.le_refl _)⟩, cell_of hh 0, cell_of hh 1, cell_of hh 2, cell_of hh 3⟩

end Go.Proofs.Ytfobbgmfbpoigaa.Ints
