/-
  slices.Clone of attributes, entry and told of the program.
-/
import Derived.Test.YtadcpkdnpfmphaaMem
import Derived.Lib.SliceRun
namespace Go.Proofs.Ytadcpkdnpfmphaa.Ints
open Go.RowKit
set_option linter.unusedSimpArgs false

theorem kt {a b c : World} (h : Kp [] a b) (k : Kp [] b c) : Kp [] a c := h.trans k (fun y hy => by simp at hy)

set_option maxHeartbeats 1000000 in
theorem clone_any (w : World) (l : List Att) (ao : Option Addr) (n c : Nat) (hr : Rz w ao n c l) (hl : n ≤ 1000) :
    Calls Try.prog 54 #[.slice ao n c] w fun e w' => ∃ ao' n' c', e = .returned (.slice ao' n' c') ∧ Mp w w' ao' n' c' l := by
  cases ao with
  | none =>
    obtain rfl : l = [] := by
      apply List.eq_nil_of_length_eq_zero
      rw [← hr.len]
      rcases hr.at' with h | ⟨b, off, cur, h, _⟩
      · exact h
      · cases h
    clear hr
    have hq : ∀ w, (binOp .eql 27 (.slice none n c) (.slice none 0 0)).run Try.prog w = .ok (.bool true) w := fun w => Go.Lib.run_eql_slice_nil w _ _ _ _ _ _ _ Try.underlying27
    go_enter Try.func54, Try.ntmps54
    go_wp2
    go_ret
    exact ⟨_, _, _, rfl, Mp.nil w⟩
  | some a =>
    have M0 := mp_none w
    have hs : Src Try.prog 2 27 (.slice (some a) n c) n (cs l) (w.alloc (.cells #[] 31)) := (hr.rp.kept M0.kp).src Try.underlying27
    obtain ⟨ao', n', c', w2, hrun, M⟩ := M0.app hs (fun h => by simp at h) (by omega)
    clear hs M0 hr
    have hq : ∀ w, (binOp .eql 27 (.slice (some a) n c) (.slice none 0 0)).run Try.prog w = .ok (.bool false) w := fun w => Go.Lib.run_eql_slice_nil w _ _ _ _ _ _ _ Try.underlying27
    go_enter Try.func54, Try.ntmps54
    go_wp2_with (at_builtin; refine Lib.wpList_append_run _ rfl _ _ _ _ rfl _ _ rfl rfl _ _ (hrun _) ?_)
    go_ret
    exact ⟨_, _, _, rfl, M⟩

set_option maxHeartbeats 1000000 in
theorem entry_any (w : World) (h : Int) (nm : ByteArray) (l : List Att) (ao : Option Addr) (n c : Nat) (hr : Rz w ao n c l) (hl : n ≤ 6) (hf : fits l) :
    Calls Try.prog 39 #[.int .i64 h, .string nm, .slice ao n c] w fun e w' => ∃ g, e = .returned (.pointer (some ⟨g, 0, none⟩)) ∧ w.heap.size ≤ g ∧ Kp [] w w' ∧ Bx w' (some ⟨g, 0, none⟩) (false, h, nm, l) := by
  have H := clone_any w l ao n c hr (by omega)
  have hll : l.length ≤ 6 := by rw [← hr.len]; exact hl
  clear hr
  go_enter Try.func39, Try.ntmps39
  go_wp2_with fail
  refine H.mono ?_
  rintro e w2 ⟨a2, n2, c2, rfl, M⟩
  clear H
  go_wp2
  go_ret
  refine ⟨w2.heap.size, rfl, M.kp.size, kt M.kp ((Kp.refl _ _).alloc _), ⟨_, (false, h, nm, a2, n2, c2), rfl, heap_new _ _, rfl, rfl, rfl, (Rz.of_mp M).kept ((Kp.refl _ _).alloc _), hll, hf⟩⟩

set_option maxHeartbeats 1000000 in
theorem told_out (w : World) : Calls Try.prog 43 #[.pointer none, .bool false] w fun e w' => e = .returned (.tuple #[rv r0, .bool false]) ∧ Kp [] w w' := by
  have hK : Hid (Kp [] w (w.alloc (.cells (rc r0) 40))) := (Kp.refl _ _).alloc _
  unfold rv r0
  go_enter Try.func43, Try.ntmps43
  go_wp2
  refine bodyPost_ret (v := .tuple #[.agg #[.bool false, .int .i64 0, .string ⟨#[]⟩, .slice none 0 0], .bool false]) (by simp [results, go_sem]) rfl ⟨rfl, ?_⟩
  exact hK.out

/-- The last stores of told: its own copy gets the attributes, the result's block the copy. -/
theorem told_end (w w3 : World) (x : Ent) (ao : Option Addr) (n c : Nat) (a3 : Option Addr) (n3 c3 : Nat) (g r : Nat) (k : Kp [] w w3) (hg : w3.heap[g]? = some (.cells (rc (x.1, x.2.1, x.2.2.1, ao, n, c)) 40 (0, 0))) (hr : w3.heap[r]? = some (.cells (rc r0) 40 (0, 0))) (hn : w.heap.size ≤ g) (hm : w.heap.size ≤ r) (hne : r ≠ g)
    (hz : Rz w3 a3 n3 c3 x.2.2.2) (hf : Few x) :
    w3.frozen? ⟨g, 3, none⟩ = false ∧ w3.cell? ⟨g, 3, none⟩ = some (.slice ao n c) ∧ (∀ w4, w4 = w3.setCell ⟨g, 3, none⟩ (.slice a3 n3 c3) → w4.cell? ⟨g, 0, none⟩ = some (.bool x.1) ∧ w4.cell? ⟨g, 1, none⟩ = some (.int .i64 x.2.1) ∧ w4.cell? ⟨g, 2, none⟩ = some (.string x.2.2.1) ∧ w4.cell? ⟨g, 3, none⟩ = some (.slice a3 n3 c3) ∧
      (w4.frozen? ⟨r, 0, none⟩ = false ∧ w4.frozen? ⟨r, 1, none⟩ = false ∧ w4.frozen? ⟨r, 2, none⟩ = false ∧ w4.frozen? ⟨r, 3, none⟩ = false) ∧ (w4.cell? ⟨r, 0, none⟩ = some (.bool false) ∧ w4.cell? ⟨r, 1, none⟩ = some (.int .i64 0) ∧ w4.cell? ⟨r, 2, none⟩ = some (.string ⟨#[]⟩) ∧ w4.cell? ⟨r, 3, none⟩ = some (.slice none 0 0)) ∧
      ∃ W, W = ((((w4.setCell ⟨r, 0, none⟩ (.bool x.1)).setCell ⟨r, 1, none⟩ (.int .i64 x.2.1)).setCell ⟨r, 2, none⟩ (.string x.2.2.1)).setCell ⟨r, 3, none⟩ (.slice a3 n3 c3)) ∧
        W.cell? ⟨r, 0, none⟩ = some (.bool x.1) ∧ W.cell? ⟨r, 1, none⟩ = some (.int .i64 x.2.1) ∧ W.cell? ⟨r, 2, none⟩ = some (.string x.2.2.1) ∧ W.cell? ⟨r, 3, none⟩ = some (.slice a3 n3 c3) ∧ Sm W (x.1, x.2.1, x.2.2.1, a3, n3, c3) x ∧ Kp [] w W) := by
  refine ⟨frozen_of hg 3, cell_of hg 3, ?_⟩
  rintro w4 rfl
  have h4 := setCell_block hg 3 (.slice a3 n3 c3)
  have r4 : (w3.setCell ⟨g, 3, none⟩ (.slice a3 n3 c3)).heap[r]? = some (.cells (rc r0) 40 (0, 0)) := by rw [Below.heap_setCell _ _ _ _ hne]; exact hr
  have k4 : Kp [] w (w3.setCell ⟨g, 3, none⟩ (.slice a3 n3 c3)) := k.setCell (Or.inr hn) _
  have hW := setCell_block (setCell_block (setCell_block (setCell_block r4 0 (.bool x.1)) 1 (.int .i64 x.2.1)) 2 (.string x.2.2.1)) 3 (.slice a3 n3 c3)
  have K : Kp [g, r] w3 (((((w3.setCell ⟨g, 3, none⟩ (.slice a3 n3 c3)).setCell ⟨r, 0, none⟩ (.bool x.1)).setCell ⟨r, 1, none⟩ (.int .i64 x.2.1)).setCell ⟨r, 2, none⟩ (.string x.2.2.1)).setCell ⟨r, 3, none⟩ (.slice a3 n3 c3)) :=
    Kp.setCell (Kp.setCell (Kp.setCell (Kp.setCell (Kp.setCell (Kp.refl _ _) (Or.inl (by simp)) _) (Or.inl (by simp)) _) (Or.inl (by simp)) _) (Or.inl (by simp)) _) (Or.inl (by simp)) _
  have hgl := lt_of hg
  refine ⟨by rw [cell_of h4]; rfl, by rw [cell_of h4]; rfl, by rw [cell_of h4]; rfl, by rw [cell_of h4]; rfl, ⟨frozen_of r4 0, frozen_of r4 1, frozen_of r4 2, frozen_of r4 3⟩, ⟨cell_of r4 0, cell_of r4 1, cell_of r4 2, cell_of r4 3⟩, _, rfl, by rw [cell_of hW]; rfl, by rw [cell_of hW]; rfl, by rw [cell_of hW]; rfl, by rw [cell_of hW]; rfl, ⟨rfl, rfl, rfl, ⟨hz.len, hz.cap, ?_⟩, hf⟩, ?_⟩
  · rcases hz.at' with h1 | ⟨b, off, cur, h1, h2, h3⟩
    · exact Or.inl h1
    · refine Or.inr ⟨b, off, cur, h1, ?_, h3⟩
      rw [K.block b (lt_of h2) (fun hx => ?_)]
      · exact h2
      · simp at hx
        rcases hx with rfl | rfl
        · rw [hg] at h2
          simp only [Option.some.injEq, Obj.cells.injEq] at h2
          exact attr_item h2.2.1.symm
        · rw [hr] at h2
          simp only [Option.some.injEq, Obj.cells.injEq] at h2
          exact attr_item h2.2.1.symm
  · exact Kp.setCell (Kp.setCell (Kp.setCell (Kp.setCell k4 (Or.inr hm) _) (Or.inr hm) _) (Or.inr hm) _) (Or.inr hm) _

set_option maxHeartbeats 1000000 in
theorem told_in (w : World) (b : Option Addr) (x : Ent) (hb : Bx w b x) : Calls Try.prog 43 #[.pointer b, .bool true] w fun e w' => ∃ r, e = .returned (.tuple #[rv r, .bool true]) ∧ Sm w' r x ∧ Kp [] w w' := by
  have k1 : Kp [] w (w.alloc (.cells (rc r0) 40)) := (Kp.refl _ _).alloc _
  have hb' := hb.kept k1
  obtain ⟨g, ao, n, c, rfl, c0, c1, c2, c3, _, hz, hf, _, _⟩ := hb'.out
  obtain ⟨m, hd, nm, l⟩ := x
  simp only at c0 c1 c2 c3 hz
  have k2 : Kp [] w ((w.alloc (.cells (rc r0) 40)).alloc (.cells (rc (m, hd, nm, ao, n, c)) 40)) := k1.alloc _
  have c3' : ((w.alloc (.cells (rc r0) 40)).alloc (.cells (rc (m, hd, nm, ao, n, c)) 40)).cell? ⟨g, 3, none⟩ = some (.slice ao n c) := by
    rw [((Kp.refl [] _).alloc _).cell (block_lt_of_cell c3) (by simp)]; exact c3
  have H := clone_any _ l ao n c (hz.kept ((Kp.refl [] _).alloc (.cells (rc (m, hd, nm, ao, n, c)) 40))) (by rw [hz.len]; have := hf.1; simp only at this; omega)
  have hg : ((w.alloc (.cells (rc r0) 40)).alloc (.cells (rc (m, hd, nm, ao, n, c)) 40)).heap[w.heap.size + 1]? = some (.cells (rc (m, hd, nm, ao, n, c)) 40 (0, 0)) := heap_new' _ _ _ (by simp)
  have hr : ((w.alloc (.cells (rc r0) 40)).alloc (.cells (rc (m, hd, nm, ao, n, c)) 40)).heap[w.heap.size]? = some (.cells (rc r0) 40 (0, 0)) := by
    rw [Below.heap_alloc _ _ _ (by simp)]
    exact heap_new _ _
  have HE : Hid (∀ w3 a3 n3 c3, Kp [] ((w.alloc (.cells (rc r0) 40)).alloc (.cells (rc (m, hd, nm, ao, n, c)) 40)) w3 → Rz w3 a3 n3 c3 l → _) := fun w3 a3 n3 c3 k3 z3 => told_end w w3 (m, hd, nm, l) ao n c a3 n3 c3 (w.heap.size + 1) w.heap.size (kt k2 k3) ((k3.block _ (lt_of hg) (by simp)).trans hg) ((k3.block _ (lt_of hr) (by simp)).trans hr) (by omega) (Nat.le_refl _) (by omega) z3 hf
  clear hb hb' hg hr k1 k2 hz hf
  simp only [rc, r0] at c0 c1 c2 c3 c3' H
  unfold rv
  go_enter Try.func43, Try.ntmps43
  go_wp2_with fail
  refine H.mono ?_
  rintro e w3 ⟨a3, n3, c3, rfl, M⟩
  obtain ⟨f3, f4, HE2⟩ := HE.out w3 a3 n3 c3 M.kp (Rz.of_mp M)
  obtain ⟨d0, d1, d2, d3, ⟨e0, e1, e2, e3⟩, ⟨i0, i1, i2, i3⟩, HW⟩ := HE2 _ rfl
  have HW2 : Hid _ := HW
  clear HE2 HE HW M H
  go_wp2
  obtain ⟨W, hW, f0, f1, f2, f3, hs, kW⟩ := HW2.out
  try simp only at hW f0 f1 f2 f3
  subst hW
  refine bodyPost_ret (v := .tuple #[.agg #[.bool m, .int .i64 hd, .string nm, .slice a3 n3 c3], .bool true]) (by simp [results, go_sem, f0, f1, f2, f3]) rfl ⟨_, rfl, hs, kW⟩

end Go.Proofs.Ytadcpkdnpfmphaa.Ints
