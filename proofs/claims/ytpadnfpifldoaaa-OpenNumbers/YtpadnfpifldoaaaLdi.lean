/-
  Place: where a handle is (a deferred closure that recovers stands by, and has nothing to do).
-/
import Derived.Test.YtpadnfpifldoaaaLci
import Derived.Defers
import Derived.Recover
namespace Go.Proofs.Ytpadnfpifldoaaa.Ints
open Go.RowKit
set_option linter.unusedSimpArgs false

/-- Is it this handle? -/
def eqh (h : Int) (a : Int) : Bool := decide (a = h)

theorem catch_idle (p : Addr) (w : World) :
    CallsD Try.prog 71 #[.pointer (some p)] .returning w fun e u' w' => e = .returned (.tuple #[]) ∧ u' = .returning ∧ w' = w := by
  refine callsD_of_wpS Try.func71 rfl fun c₀ cs hu => ?_
  apply wpS_seq
  apply wpS_region
  simp [wpOpsS, go_sem, recoverD, hu, Try.ntmps71, Exit.thenS]
  refine wpS_cond (t := false) (by simp [Act.eval, Array.replicate]) ?_
  simp only [Bool.false_eq_true, if_false]
  refine wpS_of_wp (wp_skip ?_)
  cases c₀
  simp_all [bodyPostS, results, Try.results71]

set_option maxHeartbeats 1000000 in
theorem place_list (w0 w : World) (q : Nat) (zs : List It) (h : Int) (hL : Li w0 w q zs) (hl : zs.length < 100000) :
    Calls Try.prog 43 #[.pointer (some ⟨q, 0, none⟩), Value.int .i64 h] w fun e w' => e = .returned (.int .i64 (plc (eqh h) zs)) ∧ Kp [] w w' := by
  have hmf : ∀ (fn : Fn) (first cap : Array Value) (w : World), (Instr.makeFunc fn first cap).run Try.prog w = .ok (.func fn first cap) w := fun _ _ _ _ => rfl
  obtain ⟨A, hA⟩ : ∃ A, plcR (eqh h) (zs.take zs.length).reverse = A := ⟨_, rfl⟩
  rw [show plc (eqh h) zs = A by rw [← hA, rev_all]; rfl]
  have k1 : Kp [] w (w.alloc (.cells #[.int .i64 0] 3)) := (Kp.refl _ _).alloc _
  obtain ⟨w1, hw1⟩ : ∃ w1, w1 = w.alloc (.cells #[.int .i64 0] 3) := ⟨_, rfl⟩
  have hres : w1.heap[w.heap.size]? = some (.cells #[.int .i64 0] 3 (0, 0)) := by rw [hw1]; exact heap_new _ _
  rw [← hw1] at k1
  have h1 := hL.kept k1
  have HL := len_list w0 w1 q zs h1
  obtain ⟨p, v, bs, hx⟩ := h1
  have d0 : w1.cell? ⟨w.heap.size, 0, none⟩ = some (.int .i64 0) := cell_of hres 0
  have e0 : w1.frozen? ⟨w.heap.size, 0, none⟩ = false := frozen_of hres 0
  have HD : Hid (∀ a : Int, Kp [] w (w1.setCell ⟨w.heap.size, 0, none⟩ (.int .i64 a)) ∧ (w1.setCell ⟨w.heap.size, 0, none⟩ (.int .i64 a)).cell? ⟨w.heap.size, 0, none⟩ = some (.int .i64 a)) := fun a =>
    ⟨k1.setCell (Or.inr (Nat.le_refl _)) _, by rw [cell_of (setCell_block hres 0 _)]; rfl⟩
  have hc := hx.cell
  have hlen := hx.len
  obtain ⟨r, hr⟩ : ∃ r, r = w.heap.size := ⟨_, rfl⟩
  have HW : Hid (w1 = w.alloc (.cells #[.int .i64 0] 3)) := hw1
  clear hL hres
  go_enter_defers Try.func43, Try.ntmps43
  go_wp2_with fail
  rw [← HW.out]
  refine HL.mono ?_
  rintro e w' ⟨rfl, hw⟩
  have hw2 := hw.symm
  clear hw
  subst hw2
  rw [← hr] at d0 e0 HD ⊢
  clear hr hw1 HW k1
  go_wp2
  go_loopw [5] (fun i wr => ∃ k : Nat, k ≤ zs.length ∧ i = .int .i64 ((k : Int) - 1) ∧ wr = w1 ∧ plcR (eqh h) (zs.take k).reverse = A) (fun i _ => (intOf i + 1).toNat)
  case atStart => exact ⟨zs.length, Nat.le_refl _, rfl, rfl, hA⟩
  case round =>
    obtain ⟨k, hk, rfl, rfl, hp⟩ := hrel
    clear hA HL
    rcases k with _ | j
    · simp only [List.take_zero, List.reverse_nil, plcR] at hp
      subst hp
      have hE := HD.out (-1)
      go_wp2
      refine leaves_cons (f := 71) (args := #[.pointer (some ⟨r, 0, none⟩)]) (by simp) (by simp [go_sem]) ?_
      refine (catch_idle ⟨r, 0, none⟩ _).mono ?_
      rintro e u' w'' ⟨rfl, rfl, rfl⟩
      simp [Leaves, settle, results, Try.results43, go_sem, hE.2, hE.1]
    · obtain ⟨b, hb1, hb2⟩ := hx.get j (by omega)
      have HA := at_in wr p v bs (j : Int) hx.px (by omega) (by omega) b (by simpa using hb1)
      rw [rev_take zs j (by omega)] at hp
      have hlj : ((zs.take j).reverse.length : Int) = j := by simp; omega
      generalize zs[j] = x at hb2 hp
      obtain ⟨hh, ns, nm⟩ := x
      unfold plcR at hp
      rw [hlj] at hp
      simp only at hp
      obtain ⟨g, rfl, c0, c1, c2, c3⟩ := hb2.out
      clear hb1 hb2
      rw [show (((j + 1 : Nat) : Int) - 1) = (j : Int) by omega]
      by_cases hq : hh = h
      · rw [eqh, decide_eq_true hq, if_pos rfl] at hp
        subst hp
        have hE := HD.out (j : Int)
        go_wp2_with fail
        refine HA.mono ?_
        rintro e w' ⟨rfl, hw⟩
        have hw2 := hw.symm
        clear hw
        subst hw2
        go_wp2
        refine leaves_cons (f := 71) (args := #[.pointer (some ⟨r, 0, none⟩)]) (by simp) (by simp [go_sem]) ?_
        refine (catch_idle ⟨r, 0, none⟩ _).mono ?_
        rintro e u' w'' ⟨rfl, rfl, rfl⟩
        simp [Leaves, settle, results, Try.results43, go_sem, hE.2, hE.1]
      · rw [eqh, decide_eq_false hq, if_neg (by simp)] at hp
        clear HD
        go_wp2_with fail
        refine HA.mono ?_
        rintro e w' ⟨rfl, hw⟩
        have hw2 := hw.symm
        clear hw
        subst hw2
        go_wp2
        go_roundw
        case rel => exact ⟨j, by omega, by go_num, by first | rfl | trivial, hp⟩
        case measure => simp [intOf]

end Go.Proofs.Ytpadnfpifldoaaa.Ints
