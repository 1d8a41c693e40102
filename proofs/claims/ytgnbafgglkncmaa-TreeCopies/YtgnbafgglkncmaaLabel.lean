/-
  Labels held against each other: isLabelled of the program, Label of the document.
-/
import Derived.Test.YtgnbafgglkncmaaWoods
import Derived.Test.YtgnbafgglkncmaaGrown
import Derived.Deep.RegionHeld3
import Derived.BigQuiet
namespace Go.Proofs.Ytgnbafgglkncmaa
open Go.RowKit
set_option linter.unusedVariables false

theorem eqs_no {x y : ByteArray} (h : ¬ x = y) : (x.toList == y.toList) = false := by
  cases hx : eqs x y with
  | false => exact hx
  | true => exact absurd (eqs_iff.1 hx) h
theorem eqs_yes {x y : ByteArray} (h : x = y) : (x.toList == y.toList) = true := eqs_iff.2 h

set_option maxRecDepth 100000 in
set_option maxHeartbeats 1000000 in
theorem label_any (w : World) (b off : Nat) (l m : Lb) (p q : Pl) (hc : Cl w b off l p) (h1 : Rp w p.1.1 p.1.2.1 p.1.2.2 l.attrs) (h2 : Rp w q.1.1 q.1.2.1 q.1.2.2 m.attrs) (hl : p.1.2.1 ≤ 1000) (hm : q.1.2.1 ≤ 1000) :
    Calls Try.prog 39 #[.pointer (some ⟨b, off, none⟩), wv m q] w fun e w' => e = .returned (.bool (sameL l m)) ∧ Kp [] w w' := by
  obtain ⟨A, hA⟩ : ∃ A, sameL l m = A := ⟨_, rfl⟩
  rw [hA]
  have hbl := hc.lt
  have k0 : Kp [] w (w.alloc (.cells (six m q).toArray 25)) := (Kp.refl _ _).alloc _
  have HC : Hid (∀ W, Kp [] w W → Calls Try.prog 59 #[.slice p.1.1 p.1.2.1 p.1.2.2, .slice q.1.1 q.1.2.1 q.1.2.2] W fun e w' => e = .returned (.bool (same l.attrs m.attrs)) ∧ Kp [] W w') := fun W k => same_any W _ _ _ _ _ _ _ _ (h1.kept k) (h2.kept k) hl hm
  have hn := heap_new w (.cells (six m q).toArray 25)
  have HS : Hid (∀ W, Kp [] (w.alloc (.cells (six m q).toArray 25)) W → (W.cell? ⟨b, off, none⟩ = some (.int .i64 l.kind) ∧ W.cell? ⟨b, off + 1, none⟩ = some (.int .i64 l.ns) ∧ W.cell? ⟨b, off + 2, none⟩ = some (.string l.name) ∧ W.cell? ⟨b, off + 3, none⟩ = some (.slice p.1.1 p.1.2.1 p.1.2.2) ∧ W.cell? ⟨b, off + 4, none⟩ = some (.string l.text)) ∧ (W.cell? ⟨w.heap.size, 0, none⟩ = some (.int .i64 m.kind) ∧ W.cell? ⟨w.heap.size, 1, none⟩ = some (.int .i64 m.ns) ∧ W.cell? ⟨w.heap.size, 2, none⟩ = some (.string m.name) ∧ W.cell? ⟨w.heap.size, 3, none⟩ = some (.slice q.1.1 q.1.2.1 q.1.2.2) ∧ W.cell? ⟨w.heap.size, 4, none⟩ = some (.string m.text))) := fun W k => by
    have c1 := ((hc.keep k0 (by simp)).keep k (by simp)).cells
    have c2 : W.heap[w.heap.size]? = some (.cells (six m q).toArray 25 (0, 0)) := (k.block _ (by simp) (by simp)).trans hn
    exact ⟨⟨c1.1, c1.2.1, c1.2.2.1, c1.2.2.2.1, c1.2.2.2.2.1⟩, cell_of c2 0, cell_of c2 1, cell_of c2 2, cell_of c2 3, cell_of c2 4⟩
  have K0 : Hid (Kp [] w (w.alloc (.cells (six m q).toArray 25))) := k0
  clear hn k0 h1 h2
  obtain ⟨c0, c1, c2, c3, c4, _⟩ := hc.cells
  clear hc
  simp only [six, wv] at HS K0 ⊢
  by_cases e1 : l.kind = m.kind
  · have q1 : ((l.kind : Int) == (m.kind : Int)) = true := by simpa using e1
    by_cases e2 : l.ns = m.ns
    · have q2 : ((l.ns : Int) == (m.ns : Int)) = true := by simpa using e2
      by_cases e3 : l.name = m.name
      · have q3 : (l.name.toList == m.name.toList) = true := eqs_yes e3
        by_cases e4 : l.text = m.text
        · have q4 : (l.text.toList == m.text.toList) = true := eqs_yes e4
          obtain rfl : A = same l.attrs m.attrs := by
            rw [← hA]
            unfold sameL same
            exact decide_eq_decide.2 ⟨fun h => by rw [h], fun h => Prod.ext e1 (Prod.ext e2 (Prod.ext e3 (Prod.ext h e4)))⟩
          clear hA
          go_enter Try.func39, Try.ntmps39
          go_wp2_with fail
          go_region_held3 (fun w' => (w'.cell? ⟨b, off, none⟩ = some (.int .i64 l.kind) ∧ w'.cell? ⟨b, off + 1, none⟩ = some (.int .i64 l.ns) ∧ w'.cell? ⟨b, off + 2, none⟩ = some (.string l.name) ∧ w'.cell? ⟨b, off + 3, none⟩ = some (.slice p.1.1 p.1.2.1 p.1.2.2) ∧ w'.cell? ⟨b, off + 4, none⟩ = some (.string l.text)) ∧ (w'.cell? ⟨w.heap.size, 0, none⟩ = some (.int .i64 m.kind) ∧ w'.cell? ⟨w.heap.size, 1, none⟩ = some (.int .i64 m.ns) ∧ w'.cell? ⟨w.heap.size, 2, none⟩ = some (.string m.name) ∧ w'.cell? ⟨w.heap.size, 3, none⟩ = some (.slice q.1.1 q.1.2.1 q.1.2.2) ∧ w'.cell? ⟨w.heap.size, 4, none⟩ = some (.string m.text)))
            (first
              | exact HS.out _ K1.out
              | exact HS.out _ (Kp.refl _ _).drew)
            (first | (go_at_call 59; refine (HC.out _ K0.out.drew).mono ?_; rintro e w1 ⟨rfl, k1⟩; have K1 : Hid (Kp [] (w.alloc (.cells #[.int .i64 m.kind, .int .i64 m.ns, .string m.name, .slice q.1.1 q.1.2.1 q.1.2.2, .string m.text, .slice q.2.1 q.2.2.1 q.2.2.2] 25)) w1) := (Kp.refl _ _).drew.trans k1 (fun x hx => Or.inl hx)))
          go_wp2
          go_ret
          exact ⟨rfl, K0.out.trans K1.out (fun x hx => Or.inl hx)⟩
        · have q4 : (l.text.toList == m.text.toList) = false := eqs_no e4
          obtain rfl : A = false := by rw [← hA]; exact decide_eq_false (fun h => e4 (by rw [h]))
          clear e1 e2 e3 e4
          clear HC HS hA
          go_enter Try.func39, Try.ntmps39
          go_wp2_with fail
          go_quiet (fail)
          go_wp2
          go_ret
          exact ⟨rfl, K0.out.drewN nq⟩
      · have q3 : (l.name.toList == m.name.toList) = false := eqs_no e3
        obtain rfl : A = false := by rw [← hA]; exact decide_eq_false (fun h => e3 (by rw [h]))
        clear e1 e2 e3
        clear HC HS hA
        go_enter Try.func39, Try.ntmps39
        go_wp2_with fail
        go_quiet (fail)
        go_wp2
        go_ret
        exact ⟨rfl, K0.out.drewN nq⟩
    · have q2 : ((l.ns : Int) == (m.ns : Int)) = false := by simpa using e2
      obtain rfl : A = false := by rw [← hA]; exact decide_eq_false (fun h => e2 (by rw [h]))
      clear e1 e2
      clear HC HS hA
      go_enter Try.func39, Try.ntmps39
      go_wp2_with fail
      go_quiet (fail)
      go_wp2
      go_ret
      exact ⟨rfl, K0.out.drewN nq⟩
  · have q1 : ((l.kind : Int) == (m.kind : Int)) = false := by simpa using e1
    obtain rfl : A = false := by rw [← hA]; exact decide_eq_false (fun h => e1 (by rw [h]))
    clear e1
    clear HC HS hA
    go_enter Try.func39, Try.ntmps39
    go_wp2_with fail
    go_quiet (fail)
    go_wp2
    go_ret
    exact ⟨rfl, K0.out.drewN nq⟩

set_option maxRecDepth 100000 in
set_option maxHeartbeats 1000000 in
theorem ref_label_any (w : World) (l m : Lb) (p q : Pl) (h1 : Rp w p.1.1 p.1.2.1 p.1.2.2 l.attrs) (h2 : Rp w q.1.1 q.1.2.1 q.1.2.2 m.attrs) (hl : p.1.2.1 ≤ 1000) (hm : q.1.2.1 ≤ 1000) :
    Calls Try.prog 49 #[wv l p, wv m q] w fun e w' => e = .returned (.bool (sameL l m)) ∧ Kp [] w w' := by
  obtain ⟨A, hA⟩ : ∃ A, sameL l m = A := ⟨_, rfl⟩
  rw [hA]
  have k0 : Kp [] w ((w.alloc (.cells (six l p).toArray 25)).alloc (.cells (six m q).toArray 25)) := ((Kp.refl _ _).alloc _).alloc _
  have HC := ref_same_any _ _ _ _ _ _ _ _ _ (h1.kept k0) (h2.kept k0) hl hm
  clear h1 h2
  simp only [six, wv] at HC k0 ⊢
  by_cases e1 : l.kind = m.kind
  · have q1 : ((l.kind : Int) == (m.kind : Int)) = true := by simpa using e1
    by_cases e2 : l.ns = m.ns
    · have q2 : ((l.ns : Int) == (m.ns : Int)) = true := by simpa using e2
      by_cases e3 : l.name = m.name
      · have q3 : (l.name.toList == m.name.toList) = true := eqs_yes e3
        by_cases e4 : l.text = m.text
        · have q4 : (l.text.toList == m.text.toList) = true := eqs_yes e4
          obtain rfl : A = same l.attrs m.attrs := by
            rw [← hA]
            unfold sameL same
            exact decide_eq_decide.2 ⟨fun h => by rw [h], fun h => Prod.ext e1 (Prod.ext e2 (Prod.ext e3 (Prod.ext h e4)))⟩
          clear hA e1 e2 e3 e4
          go_enter Try.func49, Try.ntmps49
          go_wp2_with (go_at_call 68; refine HC.mono ?_; rintro e w1 ⟨rfl, k1⟩)
          go_ret
          exact ⟨rfl, k0.trans k1 (fun x hx => Or.inl hx)⟩
        · have q4 : (l.text.toList == m.text.toList) = false := eqs_no e4
          obtain rfl : A = false := by rw [← hA]; exact decide_eq_false (fun h => e4 (by rw [h]))
          clear e1 e2 e3 e4
          clear HC hA
          go_enter Try.func49, Try.ntmps49
          go_wp2
          go_ret
          exact ⟨rfl, k0⟩
      · have q3 : (l.name.toList == m.name.toList) = false := eqs_no e3
        obtain rfl : A = false := by rw [← hA]; exact decide_eq_false (fun h => e3 (by rw [h]))
        clear e1 e2 e3
        clear HC hA
        go_enter Try.func49, Try.ntmps49
        go_wp2
        go_ret
        exact ⟨rfl, k0⟩
    · have q2 : ((l.ns : Int) == (m.ns : Int)) = false := by simpa using e2
      obtain rfl : A = false := by rw [← hA]; exact decide_eq_false (fun h => e2 (by rw [h]))
      clear e1 e2
      clear HC hA
      go_enter Try.func49, Try.ntmps49
      go_wp2
      go_ret
      exact ⟨rfl, k0⟩
  · have q1 : ((l.kind : Int) == (m.kind : Int)) = false := by simpa using e1
    obtain rfl : A = false := by rw [← hA]; exact decide_eq_false (fun h => e1 (by rw [h]))
    clear e1
    clear HC hA
    go_enter Try.func49, Try.ntmps49
    go_wp2
    go_ret
    exact ⟨rfl, k0⟩

end Go.Proofs.Ytgnbafgglkncmaa
