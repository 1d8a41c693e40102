/-
  The book's Op, Attrs, Cut.
-/
import Derived.Test.YtpjkpobdkmcedaaDoorRtb
import Derived.Test.YtpjkpobdkmcedaaDoorRbt
namespace Go.Proofs.YtpjkpobdkmcedaaDoor
open Go.RowKit
set_option linter.unusedVariables false
set_option linter.unusedSimpArgs false

theorem kattrs_any (w : World) (l m : List Att) (ao bo : Option Addr) (n c p d : Nat) (hr : Rp w ao n c l) (hs : Rp w bo p d m) (hl : n ≤ 100000) (hm : p ≤ 100000) :
    Calls Tryd.prog 37 #[.slice ao n c, .slice bo p d] w fun e w' => e = .returned (.bool (same l m)) ∧ Kp [] w w' := by
  have HC := ref_same_any w l m ao bo n c p d hr hs hl hm
  clear hr hs
  go_enter Tryd.func37, Tryd.ntmps37
  go_wp2_with (go_at_call 44; refine HC.mono ?_; rintro e w1 ⟨rfl, k1⟩)
  go_ret
  exact ⟨rfl, k1⟩

set_option maxRecDepth 100000 in
set_option maxHeartbeats 1000000 in
theorem kop_any (w : World) (a b : Ot) (p q : Sl) (h1 : At w (a, p)) (h2 : At w (b, q)) (hl : p.2.1 ≤ 100000) (hm : q.2.1 ≤ 100000) :
    Calls Tryd.prog 16 #[ov a p, ov b q] w fun e w' => e = .returned (.bool (sameO a b)) ∧ Kp [] w w' := by
  obtain ⟨a1, a2, a3, a4, a5, a6, a7, a8, a9⟩ := a
  obtain ⟨b1, b2, b3, b4, b5, b6, b7, b8, b9⟩ := b
  obtain ⟨p1, p2, p3⟩ := p
  obtain ⟨q1, q2, q3⟩ := q
  have k0 : Kp [] w ((w.alloc (.cells (oc ⟨a1, a2, a3, a4, a5, a6, a7, a8, a9⟩ (p1, p2, p3)) 24)).alloc (.cells (oc ⟨b1, b2, b3, b4, b5, b6, b7, b8, b9⟩ (q1, q2, q3)) 24)) := ((Kp.refl _ _).alloc _).alloc _
  have HC := kattrs_any _ _ _ _ _ _ _ _ _ (Rp.kept h1 k0) (Rp.kept h2 k0) hl hm
  have HB : Hid (∀ V, Kp [] ((w.alloc (.cells (oc ⟨a1, a2, a3, a4, a5, a6, a7, a8, a9⟩ (p1, p2, p3)) 24)).alloc (.cells (oc ⟨b1, b2, b3, b4, b5, b6, b7, b8, b9⟩ (q1, q2, q3)) 24)) V → V.cell? ⟨w.heap.size, 8, none⟩ = some (.string a9) ∧ V.cell? ⟨w.heap.size + 1, 8, none⟩ = some (.string b9)) := fun V kV => by
    have e1 : V.heap[w.heap.size]? = some (.cells (oc ⟨a1, a2, a3, a4, a5, a6, a7, a8, a9⟩ (p1, p2, p3)) 24 (0, 0)) := (kV.block _ (by simp; omega) (by simp)).trans (by rw [Below.heap_alloc _ _ _ (by simp)]; exact heap_new w _)
    have e2 : V.heap[w.heap.size + 1]? = some (.cells (oc ⟨b1, b2, b3, b4, b5, b6, b7, b8, b9⟩ (q1, q2, q3)) 24 (0, 0)) := (kV.block _ (by simp) (by simp)).trans (heap_new' _ _ _ (by simp))
    exact ⟨cell_of e1 8, cell_of e2 8⟩
  clear h1 h2
  simp only [oc, ov] at HC k0 HB ⊢
  obtain ⟨A, hA⟩ : ∃ A, sameO ⟨a1, a2, a3, a4, a5, a6, a7, a8, a9⟩ ⟨b1, b2, b3, b4, b5, b6, b7, b8, b9⟩ = A := ⟨_, rfl⟩
  rw [hA]
  simp only [sameO, eqs] at hA
  cases c0 : (a1 == b1)
  · simp only [c0, Bool.true_and, Bool.false_and] at hA
    subst hA
    clear HC HB
    go_enter Tryd.func16, Tryd.ntmps16
    go_wp2
    go_ret
    exact ⟨rfl, k0⟩
  cases c1 : (a2 == b2)
  · simp only [c0, c1, Bool.true_and, Bool.false_and] at hA
    subst hA
    clear HC HB
    go_enter Tryd.func16, Tryd.ntmps16
    go_wp2
    go_ret
    exact ⟨rfl, k0⟩
  cases c2 : (a3 == b3)
  · simp only [c0, c1, c2, Bool.true_and, Bool.false_and] at hA
    subst hA
    clear HC HB
    go_enter Tryd.func16, Tryd.ntmps16
    go_wp2
    go_ret
    exact ⟨rfl, k0⟩
  cases c3 : (a4 == b4)
  · simp only [c0, c1, c2, c3, Bool.true_and, Bool.false_and] at hA
    subst hA
    clear HC HB
    go_enter Tryd.func16, Tryd.ntmps16
    go_wp2
    go_ret
    exact ⟨rfl, k0⟩
  cases c4 : (a5 == b5)
  · simp only [c0, c1, c2, c3, c4, Bool.true_and, Bool.false_and] at hA
    subst hA
    clear HC HB
    go_enter Tryd.func16, Tryd.ntmps16
    go_wp2
    go_ret
    exact ⟨rfl, k0⟩
  cases c5 : (a6 == b6)
  · simp only [c0, c1, c2, c3, c4, c5, Bool.true_and, Bool.false_and] at hA
    subst hA
    clear HC HB
    go_enter Tryd.func16, Tryd.ntmps16
    go_wp2
    go_ret
    exact ⟨rfl, k0⟩
  cases c6 : (a7.toList == b7.toList)
  · simp only [c0, c1, c2, c3, c4, c5, c6, Bool.true_and, Bool.false_and] at hA
    subst hA
    clear HC HB
    go_enter Tryd.func16, Tryd.ntmps16
    go_wp2
    go_ret
    exact ⟨rfl, k0⟩
  simp only [c0, c1, c2, c3, c4, c5, c6, Bool.true_and] at hA
  go_enter Tryd.func16, Tryd.ntmps16
  go_wp2_with fail
  refine HC.mono ?_
  rintro e w1 ⟨rfl, k1⟩
  obtain ⟨g1, g2⟩ := HB.out w1 k1
  have kz := k0.trans k1 (fun x hx => Or.inl hx)
  clear HC HB
  cases d0 : (same a8 b8)
  · simp only [d0, Bool.and_false] at hA
    subst hA
    go_wp2
    go_ret
    exact ⟨rfl, kz⟩
  · cases d1 : (a9.toList == b9.toList)
    · simp only [d0, d1, Bool.and_true] at hA
      subst hA
      go_wp2
      go_ret
      exact ⟨rfl, kz⟩
    · simp only [d0, d1, Bool.and_true] at hA
      subst hA
      go_wp2
      go_ret
      exact ⟨rfl, kz⟩

/-- No more than 100 bytes. -/
theorem cut100 (w : World) (ao : Option Addr) (n c : Nat) (xs : List Int) (h : Rb w ao n c (b8 xs)) (hn : n ≤ 140737488355328) :
    Calls Tryd.prog 19 #[.slice ao n c, .int .i64 100] w fun e w' => ∃ m, e = .returned (.slice ao m c) ∧ Rb w ao m c (b8 (xs.take 100)) ∧ m ≤ 100 ∧ w' = w := by
  have hl : n = xs.length := by rw [h.len, b8_len]
  have hc := h.cap
  by_cases h1 : 100 < n
  · have r1 := h.take 100 (by omega)
    rw [b8_take] at r1
    have HZ : Hid (Rb w ao 100 c (b8 (xs.take 100))) := r1
    clear h r1 hl
    go_enter Tryd.func19, Tryd.ntmps19
    go_wp2
    go_ret
    exact ⟨100, rfl, HZ.out, Nat.le_refl _, rfl⟩
  · have e : xs.take 100 = xs := List.take_of_length_le (by omega)
    rw [e]
    have HZ : Hid (Rb w ao n c (b8 xs) ∧ n ≤ 100) := ⟨h, by omega⟩
    clear h hl e
    go_enter Tryd.func19, Tryd.ntmps19
    go_wp2
    go_ret
    exact ⟨n, rfl, HZ.out.1, HZ.out.2, rfl⟩

end Go.Proofs.YtpjkpobdkmcedaaDoor
