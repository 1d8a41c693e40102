/-
  Cut and Pop of a pile of places.
-/
import Derived.Test.YtgnbafgglkncmaaPlaces
namespace Go.Proofs.Ytgnbafgglkncmaa
open Go.RowKit

set_option maxRecDepth 100000 in
set_option maxHeartbeats 1000000 in
theorem pl_cut (w : World) (p : Nat) (v : Value) (n : Nat) (xs : List Value) (a : Addr) (k : Int) (h : Pk 2 w 100 88 p v (n + 1) (xs ++ pc a k)) (hl : n < 100000) :
    Calls Try.prog 69 #[.pointer (some ⟨p, 0, none⟩), .int .i64 n] w fun e w' => e = .returned (.tuple #[pv a k, .bool true]) ∧ Tk 2 w w' 100 88 p v n xs := by
  have hx : xs.length = n * 2 := by have := h.2.1.1; rw [List.length_append] at this; simp [pc] at this; omega
  have H1 := fun W (kw : Kp [] w W) => pl_at_in W p v (n + 1) _ n a k (h.keep kw (by simp) (fun _ _ => by simp)) (by omega) (by rw [← hx, List.getElem?_append_right (by omega)]; simp [pc]) (by rw [← hx, List.getElem?_append_right (by omega)]; simp [pc]) (by omega)
  obtain ⟨ao, c, rfl, hc, hf, hnc, hpl, hcs⟩ := h.out
  obtain ⟨g, o, rfl, hgp, _⟩ := hcs (by omega)
  obtain ⟨hp, hown, hpb⟩ := h
  have hgl : g < w.heap.size := hown.lt g (by simp [blk])
  have H1' := H1 _ ((Kp.refl [] w).alloc (.cells #[.pointer none, .int .i64 0] 88))
  have HD : Hid (∀ W, Kp [] w W → Calls Try.prog 78 #[.slice (some ⟨g, o, none⟩) (n + 1) c, .int .i64 (n : Int), .int .i64 ((n : Int) + 1)] W fun e w' => e = .returned (.slice (some ⟨g, o, none⟩) n c) ∧ OwnK 2 w' 88 (.slice (some ⟨g, o, none⟩) n c) n xs ∧ Kp [g] W w') := fun W kw => pl_delete W g o n c xs _ (hown.keep kw (fun _ _ => by simp)) hx hl
  have HP : Hid (w.heap[p]? = some (.cells #[.slice (some ⟨g, o, none⟩) (n + 1) c] 100 (0, 0))) := hp
  clear H1 hcs hp hown hpb hx
  have i1 : (n : Int) < 100000 := by omega
  unfold pv at H1' ⊢
  go_enter Try.func69, Try.ntmps69
  go_wp2_with fail
  refine H1'.mono ?_
  rintro e w2 ⟨rfl, K2⟩
  have K0 : Hid (Kp [] w w2) := ((Kp.refl [] w).alloc _).trans K2 (fun x hx => Or.inl hx)
  have R2 : Hid (w2.heap[w.heap.size]? = some (.cells #[.pointer none, .int .i64 0] 88 (0, 0))) := (K2.block _ (by simp) (by simp)).trans (heap_new w _)
  have hs2 : w.heap.size < w2.heap.size := (Array.getElem?_eq_some_iff.1 R2.out).1
  have c2 : w2.cell? ⟨p, 0, none⟩ = some (.slice (some ⟨g, o, none⟩) (n + 1) c) := (cell_of ((K0.out.block p hpl (by simp)).trans HP.out) 0)
  have hpl2 : p < w2.heap.size := by omega
  clear K2 H1'
  go_wp2_with fail
  refine (HD.out _ (K0.out.alloc _)).mono ?_
  rintro e w3 ⟨rfl, O3, K3⟩
  have P3 : w3.heap[p]? = some (.cells #[.slice (some ⟨g, o, none⟩) (n + 1) c] 100 (0, 0)) := (K3.block p (by simp; omega) (by simp; omega)).trans ((((K0.out.alloc _).block p hpl (by simp))).trans HP.out)
  have R3 : w3.heap[w.heap.size]? = some (.cells #[.pointer none, .int .i64 0] 88 (0, 0)) := (K3.block _ (by simp; omega) (by simp; omega)).trans ((((Kp.refl [] w2).alloc _).block _ hs2 (by simp)).trans R2.out)
  have X3 : w3.heap[w2.heap.size]? = some (.cells #[.pointer (some a), .int .i64 k] 88 (0, 0)) := (K3.block _ (by simp) (by simp; omega)).trans (heap_new w2 _)
  have cp3 : w3.cell? ⟨p, 0, none⟩ = some (.slice (some ⟨g, o, none⟩) (n + 1) c) := cell_of P3 0
  have fp3 := frozen_of P3 0
  have cr0 : w3.cell? ⟨w.heap.size, 0, none⟩ = some (.pointer none) := cell_of R3 0
  have cr1 : w3.cell? ⟨w.heap.size, 1, none⟩ = some (.int .i64 0) := cell_of R3 1
  have fr0 := frozen_of R3 0
  have fr1 := frozen_of R3 1
  have cx0 : w3.cell? ⟨w2.heap.size, 0, none⟩ = some (.pointer (some a)) := cell_of X3 0
  have cx1 : w3.cell? ⟨w2.heap.size, 1, none⟩ = some (.int .i64 k) := cell_of X3 1
  have n1 : ¬ p = w.heap.size := by omega
  have n2 : ¬ p = w2.heap.size := by omega
  have n5 : ¬ w.heap.size = p := by omega
  have n6 : ¬ w2.heap.size = p := by omega
  have HF : Hid (Tk 2 w (((w3.setCell ⟨p, 0, none⟩ (.slice (some ⟨g, o, none⟩) n c)).setCell ⟨w.heap.size, 0, none⟩ (.pointer (some a))).setCell ⟨w.heap.size, 1, none⟩ (.int .i64 k)) 100 88 p (.slice (some ⟨g, o, none⟩) (n + 1) c) n xs) := by
    obtain ⟨v', h1, h2, h3⟩ := Tk.mk (K := 2) (w := w) hpl P3 (by simp [blk]; omega) O3 ((K0.out.alloc _).mono (T := p :: blk (.slice (some ⟨g, o, none⟩) (n + 1) c)) (fun x hx => by simp at hx) |>.trans K3 (fun x hx => by simp at hx; subst hx; exact Or.inl (by simp [blk]))) (fun x hx => Or.inl (by simpa [blk] using hx))
    have hv : ∀ x, x ∈ blk v' → x < w.heap.size := fun x hx => by
      rcases h3 x hx with h4 | h4
      · simp [blk] at h4; omega
      · have := h1.2.1.lt x hx
        rcases Nat.lt_or_ge x w.heap.size with h5 | h5
        · exact h5
        · exact absurd hx (by
            have e : v' = .slice (some ⟨g, o, none⟩) n c := by
              have := h1.1
              rw [setCell_block P3] at this
              simp at this
              exact this.symm
            rw [e]; simp [blk]; omega)
    refine ⟨v', (h1.keep (((Kp.refl [w.heap.size] _).setCell (Or.inl (by simp)) _).setCell (Or.inl (by simp)) _) (by simp; omega) (fun x hx => by have := hv x hx; simp; omega)), (h2.setCell (Or.inr (Nat.le_refl _)) _).setCell (Or.inr (Nat.le_refl _)) _, h3⟩
  clear O3 K3 P3 R3 X3 HD HP
  go_wp2
  refine bodyPost_ret (v := .tuple #[.agg #[.pointer (some a), .int .i64 k], .bool true]) (by simp [results, go_sem, cr0, cr1]) rfl ⟨rfl, HF.out⟩

set_option maxRecDepth 100000 in
set_option maxHeartbeats 1000000 in
theorem pl_pop (w : World) (p : Nat) (v : Value) (n : Nat) (xs : List Value) (a : Addr) (k : Int) (h : Pk 2 w 100 88 p v (n + 1) (xs ++ pc a k)) (hl : n < 100000) :
    Calls Try.prog 52 #[.pointer (some ⟨p, 0, none⟩)] w fun e w' => e = .returned (.tuple #[pv a k, .bool true]) ∧ Tk 2 w w' 100 88 p v n xs := by
  have H1 := pl_cut _ p v n xs a k (h.keep ((Kp.refl [] w).alloc (.cells #[.pointer none, .int .i64 0] 88)) (by simp) (fun _ _ => by simp)) hl
  have hlt := h.2.1.lt
  obtain ⟨ao, c, rfl, hc, hf, hnc, hpl, hcs⟩ := h.out
  have HL : Hid (∀ x, x ∈ blk (.slice ao (n + 1) c) → x < w.heap.size) := hlt
  clear hcs h hlt
  have i1 : (n : Int) < 100000 := by omega
  unfold pv at H1 ⊢
  go_enter Try.func52, Try.ntmps52
  go_wp2_with fail
  refine H1.mono ?_
  rintro e w2 ⟨rfl, v', T1, T2, T3⟩
  have hn : w.heap.size ∉ p :: blk (.slice ao (n + 1) c) := fun hx => by
    rcases List.mem_cons.1 hx with h1 | h1
    · omega
    · have := HL.out _ h1; omega
  have R2 : w2.heap[w.heap.size]? = some (.cells #[.pointer none, .int .i64 0] 88 (0, 0)) := (T2.block _ (by simp) hn).trans (heap_new w _)
  have cr0 : w2.cell? ⟨w.heap.size, 0, none⟩ = some (.pointer none) := cell_of R2 0
  have cr1 : w2.cell? ⟨w.heap.size, 1, none⟩ = some (.int .i64 0) := cell_of R2 1
  have fr0 := frozen_of R2 0
  have fr1 := frozen_of R2 1
  have HF : Hid (Tk 2 w ((w2.setCell ⟨w.heap.size, 0, none⟩ (.pointer (some a))).setCell ⟨w.heap.size, 1, none⟩ (.int .i64 k)) 100 88 p (.slice ao (n + 1) c) n xs) := by
    have hb : ∀ x, x ∈ blk v' → x ∈ blk (.slice ao (n + 1) c) ∨ w.heap.size + 1 ≤ x := fun x hx => by have := T3 x hx; simpa using this
    refine ⟨v', T1.keep (((Kp.refl [w.heap.size] _).setCell (Or.inl (by simp)) _).setCell (Or.inl (by simp)) _) (by simp; omega) (fun x hx => ?_), ((((Kp.refl _ w).alloc _).trans T2 (fun x hx => Or.inl hx)).setCell (Or.inr (Nat.le_refl _)) _).setCell (Or.inr (Nat.le_refl _)) _, fun x hx => ?_⟩
    · rcases hb x hx with h1 | h1
      · have := HL.out x h1; simp; omega
      · simp; omega
    · rcases hb x hx with h1 | h1
      · exact Or.inl h1
      · right; omega
  clear T1 T2 T3 R2 H1 hn
  go_wp2
  refine bodyPost_ret (v := .tuple #[.agg #[.pointer (some a), .int .i64 k], .bool true]) (by simp [results, go_sem, cr0, cr1]) rfl ⟨rfl, HF.out⟩

set_option maxRecDepth 100000 in
set_option maxHeartbeats 1000000 in
theorem pl_cut_none (w : World) (p : Nat) (v : Value) (xs : List Value) (h : Pk 2 w 100 88 p v 0 xs) :
    Calls Try.prog 69 #[.pointer (some ⟨p, 0, none⟩), .int .i64 (-1)] w fun e w' => e = .returned (.tuple #[zp, .bool false]) ∧ Kp [] w w' := by
  have H1 := pl_at_none _ p v xs (h.keep ((Kp.refl [] w).alloc (.cells #[.pointer none, .int .i64 0] 88)) (by simp) (fun _ _ => by simp))
  clear h
  unfold zp at H1 ⊢
  go_enter Try.func69, Try.ntmps69
  go_wp2_with fail
  refine H1.mono ?_
  rintro e w2 ⟨rfl, K2⟩
  have R2 : w2.heap[w.heap.size]? = some (.cells #[.pointer none, .int .i64 0] 88 (0, 0)) := (K2.block _ (by simp) (by simp)).trans (heap_new w _)
  have hs2 : w.heap.size < w2.heap.size := (Array.getElem?_eq_some_iff.1 R2).1
  have cr0 : w2.cell? ⟨w.heap.size, 0, none⟩ = some (.pointer none) := cell_of R2 0
  have cr1 : w2.cell? ⟨w.heap.size, 1, none⟩ = some (.int .i64 0) := cell_of R2 1
  have fr0 := frozen_of R2 0
  have fr1 := frozen_of R2 1
  have K0 : Hid (Kp [] w w2) := ((Kp.refl [] w).alloc _).trans K2 (fun x hx => Or.inl hx)
  have R3 : (((w2.setCell ⟨w.heap.size, 0, none⟩ (.pointer none)).setCell ⟨w.heap.size, 1, none⟩ (.int .i64 0)).alloc (.cells #[.pointer none, .int .i64 0] 88)).heap[w.heap.size]? = some (.cells #[.pointer none, .int .i64 0] 88 (0, 0)) := by
    rw [Below.heap_alloc _ _ _ (by simp [World.setCell]; omega), setCell_block (setCell_block R2 _ _)]; rfl
  have D : Hid (_ ∧ _) := ⟨cell_of R3 0, cell_of R3 1⟩
  clear K2 R2 H1 R3
  go_wp2
  obtain ⟨d0, d1⟩ := D.out
  refine bodyPost_ret (v := .tuple #[.agg #[.pointer none, .int .i64 0], .bool false]) (by simp [results, go_sem, d0, d1]) rfl ⟨rfl, ?_⟩
  exact ((K0.out.setCell (Or.inr (Nat.le_refl _)) _).setCell (Or.inr (Nat.le_refl _)) _).alloc _

set_option maxRecDepth 100000 in
set_option maxHeartbeats 1000000 in
theorem pl_pop_none (w : World) (p : Nat) (v : Value) (xs : List Value) (h : Pk 2 w 100 88 p v 0 xs) :
    Calls Try.prog 52 #[.pointer (some ⟨p, 0, none⟩)] w fun e w' => e = .returned (.tuple #[zp, .bool false]) ∧ Kp [] w w' := by
  have H1 := pl_cut_none _ p v xs (h.keep ((Kp.refl [] w).alloc (.cells #[.pointer none, .int .i64 0] 88)) (by simp) (fun _ _ => by simp))
  obtain ⟨ao, c, rfl, hc, hf, hnc, hpl, hcs⟩ := h.out
  clear h hcs
  unfold zp at H1 ⊢
  go_enter Try.func52, Try.ntmps52
  go_wp2_with fail
  refine H1.mono ?_
  rintro e w2 ⟨rfl, K2⟩
  have R2 : w2.heap[w.heap.size]? = some (.cells #[.pointer none, .int .i64 0] 88 (0, 0)) := (K2.block _ (by simp) (by simp)).trans (heap_new w _)
  have cr0 : w2.cell? ⟨w.heap.size, 0, none⟩ = some (.pointer none) := cell_of R2 0
  have cr1 : w2.cell? ⟨w.heap.size, 1, none⟩ = some (.int .i64 0) := cell_of R2 1
  have fr0 := frozen_of R2 0
  have fr1 := frozen_of R2 1
  have K0 : Hid (Kp [] w w2) := ((Kp.refl [] w).alloc _).trans K2 (fun x hx => Or.inl hx)
  clear K2 R2 H1
  go_wp2
  refine bodyPost_ret (v := .tuple #[.agg #[.pointer none, .int .i64 0], .bool false]) (by simp [results, go_sem, cr0, cr1]) rfl ⟨rfl, ?_⟩
  exact (K0.out.setCell (Or.inr (Nat.le_refl _)) _).setCell (Or.inr (Nat.le_refl _)) _

end Go.Proofs.Ytgnbafgglkncmaa
