/-
  New, Len, At and Find of the program.
-/
import Derived.Test.YtadcpkdnpfmphaaLa
namespace Go.Proofs.Ytadcpkdnpfmphaa.Ints
open Go.RowKit
set_option linter.unusedSimpArgs false

/-- An entry is stored into the result's block. -/
theorem res_put (w w2 : World) (g : Nat) (r : Raw) (x : Ent) (k : Kp [] w w2) (hg : w2.heap[g]? = some (.cells (rc r0) 40 (0, 0))) (hn : w.heap.size ≤ g) (hs : Sm w2 r x) :
    (w2.cell? ⟨g, 0, none⟩ = some (.bool false) ∧ w2.cell? ⟨g, 1, none⟩ = some (.int .i64 0) ∧ w2.cell? ⟨g, 2, none⟩ = some (.string ⟨#[]⟩) ∧ w2.cell? ⟨g, 3, none⟩ = some (.slice none 0 0) ∧
    w2.frozen? ⟨g, 0, none⟩ = false ∧ w2.frozen? ⟨g, 1, none⟩ = false ∧ w2.frozen? ⟨g, 2, none⟩ = false ∧ w2.frozen? ⟨g, 3, none⟩ = false) ∧
    Hid (∃ W, W = ((((w2.setCell ⟨g, 0, none⟩ (.bool r.1)).setCell ⟨g, 1, none⟩ (.int .i64 r.2.1)).setCell ⟨g, 2, none⟩ (.string r.2.2.1)).setCell ⟨g, 3, none⟩ (.slice r.2.2.2.1 r.2.2.2.2.1 r.2.2.2.2.2)) ∧
      W.cell? ⟨g, 0, none⟩ = some (.bool r.1) ∧ W.cell? ⟨g, 1, none⟩ = some (.int .i64 r.2.1) ∧ W.cell? ⟨g, 2, none⟩ = some (.string r.2.2.1) ∧ W.cell? ⟨g, 3, none⟩ = some (.slice r.2.2.2.1 r.2.2.2.2.1 r.2.2.2.2.2) ∧ Sm W r x ∧ Kp [] w W) := by
  have hW := setCell_block (setCell_block (setCell_block (setCell_block hg 0 (.bool r.1)) 1 (.int .i64 r.2.1)) 2 (.string r.2.2.1)) 3 (.slice r.2.2.2.1 r.2.2.2.2.1 r.2.2.2.2.2)
  have K : Kp [g] w2 ((((w2.setCell ⟨g, 0, none⟩ (.bool r.1)).setCell ⟨g, 1, none⟩ (.int .i64 r.2.1)).setCell ⟨g, 2, none⟩ (.string r.2.2.1)).setCell ⟨g, 3, none⟩ (.slice r.2.2.2.1 r.2.2.2.2.1 r.2.2.2.2.2)) :=
    Kp.setCell (Kp.setCell (Kp.setCell (Kp.setCell (Kp.refl _ _) (Or.inl (by simp)) _) (Or.inl (by simp)) _) (Or.inl (by simp)) _) (Or.inl (by simp)) _
  refine ⟨⟨cell_of hg 0, cell_of hg 1, cell_of hg 2, cell_of hg 3, frozen_of hg 0, frozen_of hg 1, frozen_of hg 2, frozen_of hg 3⟩, _, rfl, by rw [cell_of hW]; rfl, by rw [cell_of hW]; rfl, by rw [cell_of hW]; rfl, by rw [cell_of hW]; rfl, ⟨hs.1, hs.2.1, hs.2.2.1, ⟨hs.2.2.2.1.len, hs.2.2.2.1.cap, ?_⟩, hs.2.2.2.2⟩, ?_⟩
  · rcases hs.2.2.2.1.at' with h1 | ⟨b, off, cur, h1, h2, h3⟩
    · exact Or.inl h1
    · refine Or.inr ⟨b, off, cur, h1, ?_, h3⟩
      rw [K.block b (lt_of h2) (fun hx => ?_)]
      · exact h2
      · simp at hx
        subst hx
        rw [hg] at h2
        simp only [Option.some.injEq, Obj.cells.injEq] at h2
        exact attr_item h2.2.1.symm
  · exact Kp.setCell (Kp.setCell (Kp.setCell (Kp.setCell k (Or.inr hn) _) (Or.inr hn) _) (Or.inr hn) _) (Or.inr hn) _

theorem new_list (w0 w : World) (hw : w0.heap.size ≤ w.heap.size) : Calls Try.prog 7 #[] w fun e w' => ∃ q, e = .returned (.pointer (some ⟨q, 0, none⟩)) ∧ Li w0 w' q [] [] ∧ Kp [] w w' := by
  have H := new_any w
  have HF : Hid (Li w0 ((w.alloc (.cells #[.slice none 0 0] 75)).alloc (.cells #[.pointer (some ⟨w.heap.size, 0, none⟩)] 53)) (w.heap.size + 1) [] []) := by
    refine ⟨⟨w.heap.size, .slice none 0 0, [], ⟨heap_new' _ _ _ (by simp), ⟨?_, Or.inl ⟨rfl, rfl⟩, by simp [blk]⟩, rfl, fun i h1 h2 => by simp at h2, hw, fun k hk => by simp [blk] at hk, fun g hg => by simp at hg, List.Pairwise.nil⟩, fun g hg => by simp at hg⟩, fun k hk => by simp at hk⟩
    rw [Below.heap_alloc _ _ _ (by simp)]
    exact heap_new _ _
  have HK : Hid (Kp [] w ((w.alloc (.cells #[.slice none 0 0] 75)).alloc (.cells #[.pointer (some ⟨w.heap.size, 0, none⟩)] 53))) := ((Kp.refl _ _).alloc _).alloc _
  go_enter Try.func7, Try.ntmps7
  go_wp2_with fail
  refine H.mono ?_
  rintro e w2 ⟨rfl, rfl⟩
  go_wp2
  go_ret
  refine ⟨w.heap.size + 1, ?_, HF.out, HK.out⟩
  simp

theorem len_list (w0 w : World) (q : Nat) (B : List Nat) (zs : List Ent) (h : Li w0 w q B zs) : Calls Try.prog 15 #[.pointer (some ⟨q, 0, none⟩)] w fun e w' => e = .returned (.int .i64 zs.length) ∧ w' = w := by
  obtain ⟨⟨p, v, bs, h, _⟩, _⟩ := h
  have H := len_any w p v bs h.px
  rw [h.len] at H
  have hc := h.cell
  clear h
  go_enter Try.func15, Try.ntmps15
  go_wp2_with fail
  refine H.mono ?_
  rintro e w2 ⟨rfl, rfl⟩
  go_wp2
  go_ret
  exact ⟨rfl, rfl⟩

set_option maxHeartbeats 1000000 in
theorem at_list (w0 w : World) (q : Nat) (B : List Nat) (zs : List Ent) (i : Nat) (h : Li w0 w q B zs) (hi : i < zs.length) :
    Calls Try.prog 16 #[.pointer (some ⟨q, 0, none⟩), .int .i64 (i : Nat)] w fun e w' => ∃ r, e = .returned (.tuple #[rv r, .bool true]) ∧ Sm w' r zs[i] ∧ Kp [] w w' := by
  obtain ⟨⟨p, v, bs, h, _⟩, _⟩ := h
  have k1 : Kp [] w (w.alloc (.cells (rc r0) 40)) := (Kp.refl _ _).alloc _
  obtain ⟨w1, hw1⟩ : ∃ w1, w1 = w.alloc (.cells (rc r0) 40) := ⟨_, rfl⟩
  have hres : w1.heap[w.heap.size]? = some (.cells (rc r0) 40 (0, 0)) := by rw [hw1]; exact heap_new _ _
  rw [← hw1] at k1
  have h1 := h.kept k1
  have hc := h1.cell
  obtain ⟨b, hb1, hb2⟩ := h1.get i hi
  have H1 := at_in w1 p v bs (i : Int) h1.px (by omega) (by rw [h1.len]; omega) b (by simpa using hb1)
  have H2 := told_in w1 b zs[i] hb2
  generalize zs[i] = x at H2 hb2
  have HE : Hid (∀ w2 r, Kp [] w1 w2 → Sm w2 r x → _) := fun w2 r k2 hs => res_put w w2 w.heap.size r x (kt k1 k2) ((k2.block _ (lt_of hres) (by simp)).trans hres) (Nat.le_refl _) hs
  clear h h1 hb1 hb2 hres k1
  subst hw1
  simp only [rc, r0] at hc H1 H2
  unfold rv at H2 ⊢
  go_enter Try.func16, Try.ntmps16
  go_wp2_with fail
  refine H1.mono ?_
  rintro e w' ⟨rfl, hw⟩
  have hw2 := hw.symm
  clear hw
  subst hw2
  go_wp2_with fail
  refine H2.mono ?_
  rintro e w2 ⟨⟨m, hd, nm, a2, n2, c2⟩, rfl, hs, k2⟩
  obtain ⟨⟨d0, d1, d2, d3, e0, e1, e2, e3⟩, HR⟩ := HE.out w2 _ k2 hs
  clear HE k2 H1 H2 hs
  go_wp2
  obtain ⟨W, hW, f0, f1, f2, f3, hs, kW⟩ := HR.out
  try simp only at hW f0 f1 f2 f3
  subst hW
  refine bodyPost_ret (v := .tuple #[.agg #[.bool m, .int .i64 hd, .string nm, .slice a2 n2 c2], .bool true]) (by simp [results, go_sem, f0, f1, f2, f3]) rfl ⟨_, rfl, hs, kW⟩

set_option maxHeartbeats 1000000 in
theorem at_none (w0 w : World) (q : Nat) (B : List Nat) (zs : List Ent) (i : Int) (h : Li w0 w q B zs) (hi : i < 0 ∨ zs.length ≤ i) :
    Calls Try.prog 16 #[.pointer (some ⟨q, 0, none⟩), .int .i64 i] w fun e w' => e = .returned (.tuple #[rv r0, .bool false]) ∧ Kp [] w w' := by
  obtain ⟨⟨p, v, bs, h, _⟩, _⟩ := h
  have k1 : Kp [] w (w.alloc (.cells (rc r0) 40)) := (Kp.refl _ _).alloc _
  obtain ⟨w1, hw1⟩ : ∃ w1, w1 = w.alloc (.cells (rc r0) 40) := ⟨_, rfl⟩
  have hres : w1.heap[w.heap.size]? = some (.cells (rc r0) 40 (0, 0)) := by rw [hw1]; exact heap_new _ _
  rw [← hw1] at k1
  have h1 := h.kept k1
  have hc := h1.cell
  have H1 := at_out w1 p v bs i h1.px (by rw [h1.len]; exact hi)
  have H2 := told_out w1
  have HE : Hid (∀ w2, Kp [] w1 w2 → _) := fun w2 k2 => res_put w w2 w.heap.size r0 e0 (kt k1 k2) ((k2.block _ (lt_of hres) (by simp)).trans hres) (Nat.le_refl _) (sm_none _)
  clear h h1 hres k1 hi
  subst hw1
  unfold rv at H2 ⊢
  simp only [rc, r0] at hc H1 H2 ⊢
  go_enter Try.func16, Try.ntmps16
  go_wp2_with fail
  refine H1.mono ?_
  rintro e w' ⟨rfl, hw⟩
  have hw2 := hw.symm
  clear hw
  subst hw2
  go_wp2_with fail
  refine H2.mono ?_
  rintro e w2 ⟨rfl, k2⟩
  obtain ⟨⟨d0, d1, d2, d3, e0, e1, e2, e3⟩, HR⟩ := HE.out w2 k2
  clear HE k2 H1 H2
  go_wp2
  obtain ⟨W, hW, f0, f1, f2, f3, hs, kW⟩ := HR.out
  simp only [r0] at hW f0 f1 f2 f3
  subst hW
  refine bodyPost_ret (v := .tuple #[.agg #[.bool false, .int .i64 0, .string ⟨#[]⟩, .slice none 0 0], .bool false]) (by simp [results, go_sem, f0, f1, f2, f3]) rfl ⟨rfl, kW⟩

set_option maxHeartbeats 1000000 in
theorem find_list (w0 w : World) (q : Nat) (B : List Nat) (zs : List Ent) (s : ByteArray) (h : Li w0 w q B zs) (hl : zs.length < 100000) :
    Calls Try.prog 18 #[.pointer (some ⟨q, 0, none⟩), .string s] w fun e w' => (∃ r, e = .returned (.tuple #[rv r, .bool (decide (0 ≤ fnm s zs))]) ∧ Sm w' r (gtk zs (fnm s zs))) ∧ Kp [] w w' := by
  obtain ⟨A, hA⟩ : ∃ A, fndR s (zs.take zs.length).reverse = A := ⟨_, rfl⟩
  rw [show fnm s zs = A by rw [← hA, rev_all]; rfl]
  have k1 : Kp [] w (w.alloc (.cells (rc r0) 40)) := (Kp.refl _ _).alloc _
  obtain ⟨w1, hw1⟩ : ∃ w1, w1 = w.alloc (.cells (rc r0) 40) := ⟨_, rfl⟩
  have hres : w1.heap[w.heap.size]? = some (.cells (rc r0) 40 (0, 0)) := by rw [hw1]; exact heap_new _ _
  rw [← hw1] at k1
  have HL := len_list w0 w1 q B zs (h.kept k1)
  obtain ⟨⟨p, v, bs, hx, _⟩, _⟩ := h.kept k1
  have hc := hx.cell
  have hlen := hx.len
  obtain ⟨r, hr⟩ : ∃ r, r = w.heap.size := ⟨_, rfl⟩
  have HE : Hid (∀ w2 t x, Kp [] w1 w2 → Sm w2 t x → _) := fun w2 t x k2 hs => res_put w w2 r t x (kt k1 k2) (by rw [hr]; exact (k2.block _ (lt_of hres) (by simp)).trans hres) (by omega) hs
  have HW : Hid (w1 = w.alloc (.cells (rc r0) 40)) := hw1
  clear h hres k1
  simp only [rc, r0] at hw1
  unfold rv
  go_enter Try.func18, Try.ntmps18
  go_wp2_with fail
  rw [← hw1]
  refine HL.mono ?_
  rintro e w' ⟨rfl, hw⟩
  have hw2 := hw.symm
  clear hw
  subst hw2
  rw [← hr]
  clear hr hw1 HW
  go_wp2
  go_loopw [6] (fun i wr => ∃ k : Nat, k ≤ zs.length ∧ i = .int .i64 ((k : Int) - 1) ∧ wr = w1 ∧ fndR s (zs.take k).reverse = A) (fun i _ => (intOf i + 1).toNat)
  case atStart => exact ⟨zs.length, Nat.le_refl _, rfl, rfl, hA⟩
  case round =>
    obtain ⟨k, hk, rfl, rfl, hp⟩ := hrel
    clear hA HL
    have stop : Hid (A = -1 → Hid _) := fun _ => HE.out wr r0 e0 (Kp.refl _ _) (sm_none _)
    rcases k with _ | j
    · simp only [List.take_zero, List.reverse_nil, fndR] at hp
      obtain ⟨⟨d0, d1, d2, d3, e0', e1, e2, e3⟩, HRR⟩ := (stop.out hp.symm).out
      clear HE stop
      simp only [r0] at HRR
      go_wp2
      obtain ⟨W, hW, f0, f1, f2, f3, hs, kW⟩ := HRR.out
      try simp only at hW f0 f1 f2 f3
      subst hW
      subst hp
      refine bodyPost_ret (v := .tuple #[.agg #[.bool false, .int .i64 0, .string ⟨#[]⟩, .slice none 0 0], .bool false]) (by simp [results, go_sem, f0, f1, f2, f3]) rfl ?_
      exact ⟨⟨r0, rfl, hs⟩, kW⟩
    · obtain ⟨b, hb1, hb2⟩ := hx.get j (by omega)
      have HA := at_in wr p v bs (j : Int) hx.px (by omega) (by omega) b (by simpa using hb1)
      have HT := told_in wr b _ hb2
      rw [rev_take zs j (by omega), fndR] at hp
      have hlj : ((zs.take j).reverse.length : Int) = j := by simp; omega
      rw [hlj] at hp
      have hjl : j < zs.length := by omega
      have hgt := gtk_at zs j hjl
      obtain ⟨x, hxx⟩ : ∃ x, zs[j] = x := ⟨_, rfl⟩
      rw [hxx] at hb2 HT hp hgt
      have HX : Hid (gtk zs (j : Int) = x) := hgt
      clear hxx hgt
      obtain ⟨g, ao, n, c, rfl, c0, c1, c2, c3, _, _, _, _, _⟩ := hb2.out
      obtain ⟨m, hd, nm, l⟩ := x
      simp only at hp c0 c1 c2 c3
      clear hb1 hb2
      rw [show (((j + 1 : Nat) : Int) - 1) = (j : Int) by omega]
      cases m
      · simp only [Bool.false_eq_true, if_false] at hp
        unfold eqs at hp
        cases hq : (nm.toList == s.toList)
        · rw [hq] at hp
          simp only [Bool.false_eq_true, if_false] at hp
          clear HE HT stop
          go_wp2_with fail
          refine HA.mono ?_
          rintro e w' ⟨rfl, hw⟩
          have hw2 := hw.symm
          clear hw
          subst hw2
          go_wp2
          go_roundw
          case rel => exact ⟨j, by omega, by go_num, by first | rfl | trivial, hp⟩
          case measure => simp [intOf]
        · rw [hq] at hp
          simp only [if_true] at hp
          subst hp
          clear stop
          go_wp2_with fail
          refine HA.mono ?_
          rintro e w' ⟨rfl, hw⟩
          have hw2 := hw.symm
          clear hw
          subst hw2
          go_wp2_with fail
          refine HT.mono ?_
          rintro e w2 ⟨⟨m, hd, nm', a2, n2, c2'⟩, rfl, hs, k2⟩
          unfold rv
          obtain ⟨⟨d0, d1, d2, d3, e0', e1, e2, e3⟩, HRR⟩ := HE.out w2 _ _ k2 hs
          clear HE k2 HA HT hs c0 c1 c2 c3
          go_wp2
          obtain ⟨W, hW, f0, f1, f2, f3, hs, kW⟩ := HRR.out
          try simp only at hW f0 f1 f2 f3
          subst hW
          refine bodyPost_ret (v := .tuple #[.agg #[.bool m, .int .i64 hd, .string nm', .slice a2 n2 c2'], .bool true]) (by simp [results, go_sem, f0, f1, f2, f3]) rfl ?_
          rw [decide_eq_true (show (0 : Int) ≤ (j : Int) by omega), HX.out]
          exact ⟨⟨_, rfl, hs⟩, kW⟩
      · simp only [if_true] at hp
        obtain ⟨⟨d0, d1, d2, d3, e0', e1, e2, e3⟩, HRR⟩ := (stop.out hp.symm).out
        clear HE stop HT
        simp only [r0] at HRR
        go_wp2_with fail
        refine HA.mono ?_
        rintro e w' ⟨rfl, hw⟩
        have hw2 := hw.symm
        clear hw
        subst hw2
        go_wp2
        obtain ⟨W, hW, f0, f1, f2, f3, hs, kW⟩ := HRR.out
        try simp only at hW f0 f1 f2 f3
        subst hW
        subst hp
        refine bodyPost_ret (v := .tuple #[.agg #[.bool false, .int .i64 0, .string ⟨#[]⟩, .slice none 0 0], .bool false]) (by simp [results, go_sem, f0, f1, f2, f3]) rfl ?_
        exact ⟨⟨r0, rfl, hs⟩, kW⟩

end Go.Proofs.Ytadcpkdnpfmphaa.Ints
