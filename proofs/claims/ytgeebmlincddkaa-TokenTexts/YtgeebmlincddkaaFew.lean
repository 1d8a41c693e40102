/-
  Few: a token that is not too large.
-/
import Derived.Test.YtgeebmlincddkaaEq
namespace Go.Proofs.Ytgeebmlincddkaa
open Go.RowKit

/-- A token that is not too large. -/
def few (t : Tok) : Tok := (t.1, cutB t.2.1 20, short t.2.2.1, t.2.2.2.1, cutB t.2.2.2.2 60)

/-- A token that is stored, cell by cell. -/
def put5 (w : World) (g : Nat) (v0 v1 v2 v3 v4 : Value) : World := ((((w.setCell ⟨g, 0, none⟩ v0).setCell ⟨g, 1, none⟩ v1).setCell ⟨g, 2, none⟩ v2).setCell ⟨g, 3, none⟩ v3).setCell ⟨g, 4, none⟩ v4

theorem put5_block {w : World} {g : Nat} {u0 u1 u2 u3 u4 : Value} {e : TypeId} (h : w.heap[g]? = some (.cells #[u0, u1, u2, u3, u4] e (0, 0))) (v0 v1 v2 v3 v4 : Value) : (put5 w g v0 v1 v2 v3 v4).heap[g]? = some (.cells #[v0, v1, v2, v3, v4] e (0, 0)) := by
  unfold put5
  rw [setCell_block (setCell_block (setCell_block (setCell_block (setCell_block h 0 v0) 1 v1) 2 v2) 3 v3) 4 v4]
  rfl

theorem Kp.put5 {S : List Nat} {a w : World} (h : Kp S a w) {g : Nat} (hg : g ∈ S ∨ a.heap.size ≤ g) (v0 v1 v2 v3 v4 : Value) : Kp S a (put5 w g v0 v1 v2 v3 v4) :=
  ((((h.setCell hg v0).setCell hg v1).setCell hg v2).setCell hg v3).setCell hg v4

/-- What was made since W is kept where older blocks are written. -/
theorem Mp.past {w W w1 Z : World} {S : List Nat} {ao : Option Addr} {n c : Nat} {l : List Att} (h : Mp W w1 ao n c l) (k : Kp S w1 Z) (hS : ∀ x, x ∈ S → w.heap.size ≤ x ∧ x < W.heap.size) (kw : Kp [] w W) : Mp w Z ao n c l := by
  obtain ⟨h1, h2, h3⟩ := h
  refine ⟨h1.keep k (fun x hx hs => ?_), (kw.trans h2 (fun x hx => by simp at hx)).trans k (fun x hx => Or.inr (hS x hx).1), fun x hx => ?_⟩
  · have := h3 x hx
    have := (hS x hs).2
    omega
  · have := h3 x hx
    have := kw.size
    omega

set_option maxHeartbeats 1000000 in
theorem few_any (w : World) (k : Int) (x y : ByteArray) (l : List Att) (b : Bool) (ao : Option Addr) (n c : Nat) (hr : Rp w ao n c l) (hn : n ≤ 140737488355328) :
    Calls Try.prog 10 #[tv k x ao n c b y] w fun e w' => ∃ ao' n' c', e = .returned (tv k (cutB x 20) ao' n' c' b (cutB y 60)) ∧ Mp w w' ao' n' c' (short l) := by
  have HX := fun w => cut_any w x 20 (by omega)
  have HY := fun w => cut_any w y 60 (by omega)
  rw [show (if 20 < x.size then x.extract 0 20 else x) = cutB x 20 from rfl] at HX
  rw [show (if 60 < y.size then y.extract 0 60 else y) = cutB y 60 from rfl] at HY
  generalize cutB x 20 = x' at HX ⊢
  generalize cutB y 60 = y' at HY ⊢
  unfold tv
  go_enter Try.func10, Try.ntmps10
  go_wp2_with fail
  refine (HX _).mono ?_
  rintro e w1 ⟨rfl, rfl⟩
  clear HX
  go_wp2_with fail
  refine (HY _).mono ?_
  rintro e w1 ⟨rfl, rfl⟩
  clear HY
  go_wp2_with fail
  obtain ⟨W, hW⟩ : ∃ W, W = (w.alloc (.cells #[.int .i64 k, .string x', .slice ao n c, .bool b, .string y'] 24)).alloc (.cells #[.int .i64 0, .string ⟨#[]⟩, .slice none 0 0, .bool false, .string ⟨#[]⟩] 24) := ⟨_, rfl⟩
  have kW : Kp [] w W := by rw [hW]; exact ((Kp.refl _ _).alloc _).alloc _
  have b1 : W.heap[w.heap.size]? = some (.cells #[.int .i64 k, .string x', .slice ao n c, .bool b, .string y'] 24) := by
    rw [hW, Below.heap_alloc _ _ _ (by simp)]
    exact heap_new w _
  have b2 : W.heap[w.heap.size + 1]? = some (.cells #[.int .i64 0, .string ⟨#[]⟩, .slice none 0 0, .bool false, .string ⟨#[]⟩] 24) := by
    rw [hW]
    exact heap_new' _ _ _ (by simp)
  rw [← hW]
  clear hW
  refine (short_any W l ao n c (hr.kept kW) hn).mono ?_
  rintro e w1 ⟨a1, n1, c1, rfl, M1⟩
  have e1 : w1.heap[w.heap.size]? = some (.cells #[.int .i64 k, .string x', .slice ao n c, .bool b, .string y'] 24) := by rw [M1.kp.block _ (lt_of b1) (by simp)]; exact b1
  have e2 : w1.heap[w.heap.size + 1]? = some (.cells #[.int .i64 0, .string ⟨#[]⟩, .slice none 0 0, .bool false, .string ⟨#[]⟩] 24) := by rw [M1.kp.block _ (lt_of b2) (by simp)]; exact b2
  obtain ⟨Z, hZ⟩ : ∃ Z, Z = w1.setCell ⟨w.heap.size, 2, none⟩ (.slice a1 n1 c1) := ⟨_, rfl⟩
  have z1 : Z.heap[w.heap.size]? = some (.cells #[.int .i64 k, .string x', .slice a1 n1 c1, .bool b, .string y'] 24) := by
    rw [hZ, setCell_block e1]
    rfl
  have z2 : Z.heap[w.heap.size + 1]? = some (.cells #[.int .i64 0, .string ⟨#[]⟩, .slice none 0 0, .bool false, .string ⟨#[]⟩] 24) := by
    rw [hZ, Below.heap_setCell _ _ _ _ (by simp)]
    exact e2
  have f2 : w1.frozen? ⟨w.heap.size, 2, none⟩ = false := frozen_of e1 _
  have g2 : w1.cell? ⟨w.heap.size, 2, none⟩ = some (.slice ao n c) := by rw [cell_of e1]; rfl
  obtain ⟨c0, c1', c2, c3, c4⟩ := box_of z1
  obtain ⟨d0, d1, d2, d3, d4⟩ := box_of z2
  have q0 := frozen_of z2 0
  have q1 := frozen_of z2 1
  have q2 := frozen_of z2 2
  have q3 := frozen_of z2 3
  have q4 := frozen_of z2 4
  rw [hZ] at c0 c1' c2 c3 c4 d0 d1 d2 d3 d4 q0 q1 q2 q3 q4
  have hWs : w.heap.size + 1 < W.heap.size := lt_of b2
  clear hr b1 b2 e1 e2 z1
  go_wp2
  rw [show (((((w1.setCell ⟨w.heap.size, 2, none⟩ (.slice a1 n1 c1)).setCell ⟨w.heap.size + 1, 0, none⟩ (.int .i64 k)).setCell ⟨w.heap.size + 1, 1, none⟩ (.string x')).setCell ⟨w.heap.size + 1, 2, none⟩ (.slice a1 n1 c1)).setCell ⟨w.heap.size + 1, 3, none⟩ (.bool b)).setCell ⟨w.heap.size + 1, 4, none⟩ (.string y') = put5 Z (w.heap.size + 1) (.int .i64 k) (.string x') (.slice a1 n1 c1) (.bool b) (.string y') by rw [hZ]; rfl]
  obtain ⟨r0, r1, r2, r3, r4⟩ := box_of (put5_block z2 (.int .i64 k) (.string x') (.slice a1 n1 c1) (.bool b) (.string y'))
  have KZ : Kp [w.heap.size, w.heap.size + 1] w1 (put5 Z (w.heap.size + 1) (.int .i64 k) (.string x') (.slice a1 n1 c1) (.bool b) (.string y')) := by
    rw [hZ]
    exact ((Kp.refl _ _).setCell (Or.inl (by simp)) _).put5 (Or.inl (by simp)) _ _ _ _ _
  have MZ := M1.past KZ (fun x hx => by simp at hx; omega) kW
  clear c0 c1' c2 c3 c4 d0 d1 d2 d3 d4 q0 q1 q2 q3 q4 f2 g2 M1 KZ
  generalize put5 Z (w.heap.size + 1) (.int .i64 k) (.string x') (.slice a1 n1 c1) (.bool b) (.string y') = Z' at r0 r1 r2 r3 r4 MZ
  refine bodyPost_ret (v := .agg #[.int .i64 k, .string x', .slice a1 n1 c1, .bool b, .string y']) (by simp [results, go_sem, r0, r1, r2, r3, r4]) rfl ⟨_, _, _, rfl, MZ⟩

end Go.Proofs.Ytgeebmlincddkaa
