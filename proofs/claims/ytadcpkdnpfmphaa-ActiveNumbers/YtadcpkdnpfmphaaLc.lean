/-
  Place and From of the program (a deferred closure that recovers stands by, and has nothing to do).
-/
import Derived.Test.YtadcpkdnpfmphaaLb
import Derived.Defers
import Derived.Recover
namespace Go.Proofs.Ytadcpkdnpfmphaa.Ints
open Go.RowKit
set_option linter.unusedSimpArgs false

theorem run_eql_func_nil {P : Program} (w : World) (t : TypeId) (p r : Array TypeId) (v : Bool) (f : Fn) (first cap : Array Value) (h : P.underlying t = some (.func p r v)) :
    (binOp .eql t (.func f first cap) .nilFunc).run P w = .ok (.bool false) w := by
  have h9 : ∀ d : Nat, (Op.equalIn (d + 1) t (.func f first cap) .nilFunc).run P w = .ok false w := fun d => by
    simp [Op.equalIn, run_underlying h]
  simp only [binOp]
  simp [Op.equal, Op.maxDepth, h9 9999]

theorem catch_idle (p : Addr) (w : World) :
    CallsD Try.prog 58 #[.pointer (some p)] .returning w fun e u' w' => e = .returned (.tuple #[]) ∧ u' = .returning ∧ w' = w := by
  refine callsD_of_wpS Try.func58 rfl fun c₀ cs hu => ?_
  apply wpS_seq
  apply wpS_region
  simp [wpOpsS, go_sem, recoverD, hu, Try.ntmps58, Exit.thenS]
  refine wpS_cond (t := false) (by simp [Act.eval, Array.replicate]) ?_
  simp only [Bool.false_eq_true, if_false]
  refine wpS_of_wp (wp_skip ?_)
  cases c₀
  simp_all [bodyPostS, results, Try.results58]

theorem catch_from (p : Addr) (w : World) :
    CallsD Try.prog 47 #[.pointer (some p)] .returning w fun e u' w' => e = .returned (.tuple #[]) ∧ u' = .returning ∧ w' = w := by
  refine callsD_of_wpS Try.func47 rfl fun c₀ cs hu => ?_
  apply wpS_seq
  apply wpS_region
  simp [wpOpsS, go_sem, recoverD, hu, Try.ntmps47, Exit.thenS]
  refine wpS_cond (t := false) (by simp [Act.eval, Array.replicate]) ?_
  simp only [Bool.false_eq_true, if_false]
  refine wpS_of_wp (wp_skip ?_)
  cases c₀
  simp_all [bodyPostS, results, Try.results47]

set_option maxHeartbeats 1000000 in
theorem place_list (w0 w : World) (q : Nat) (B : List Nat) (zs : List Ent) (h : Int) (hL : Li w0 w q B zs) (hl : zs.length < 100000) :
    Calls Try.prog 49 #[.pointer (some ⟨q, 0, none⟩), .int .i64 h] w fun e w' => e = .returned (.int .i64 (plc2 h zs)) ∧ Kp [] w w' := by
  have hmf : ∀ (fn : Fn) (first cap : Array Value) (w : World), (Instr.makeFunc fn first cap).run Try.prog w = .ok (.func fn first cap) w := fun _ _ _ _ => rfl
  obtain ⟨A, hA⟩ : ∃ A, plcR h (zs.take zs.length).reverse = A := ⟨_, rfl⟩
  rw [show plc2 h zs = A by rw [← hA, rev_all]; rfl]
  have k1 : Kp [] w (w.alloc (.cells #[.int .i64 0] 3)) := (Kp.refl _ _).alloc _
  obtain ⟨w1, hw1⟩ : ∃ w1, w1 = w.alloc (.cells #[.int .i64 0] 3) := ⟨_, rfl⟩
  have hres : w1.heap[w.heap.size]? = some (.cells #[.int .i64 0] 3 (0, 0)) := by rw [hw1]; exact heap_new _ _
  rw [← hw1] at k1
  have h1 := hL.kept k1
  have HL := len_list w0 w1 q B zs h1
  obtain ⟨⟨p, v, bs, hx, _⟩, _⟩ := h1
  have d0 : w1.cell? ⟨w.heap.size, 0, none⟩ = some (.int .i64 0) := cell_of hres 0
  have e0 : w1.frozen? ⟨w.heap.size, 0, none⟩ = false := frozen_of hres 0
  have HD : Hid (∀ a : Int, Kp [] w (w1.setCell ⟨w.heap.size, 0, none⟩ (.int .i64 a)) ∧ (w1.setCell ⟨w.heap.size, 0, none⟩ (.int .i64 a)).cell? ⟨w.heap.size, 0, none⟩ = some (.int .i64 a)) := fun a =>
    ⟨k1.setCell (Or.inr (Nat.le_refl _)) _, by rw [cell_of (setCell_block hres 0 _)]; rfl⟩
  have hc := hx.cell
  have hlen := hx.len
  obtain ⟨r, hr⟩ : ∃ r, r = w.heap.size := ⟨_, rfl⟩
  have HW : Hid (w1 = w.alloc (.cells #[.int .i64 0] 3)) := hw1
  clear hL hres
  go_enter_defers Try.func49, Try.ntmps49
  go_wp2_with fail
  rw [← HW.out]
  refine HL.mono ?_
  rintro e w' ⟨rfl, hw⟩
  have hw2 := hw.symm
  clear hw
  subst hw2
  rw [← hr] at d0 e0 HD ⊢
  clear hr hw1 HW k1
  go_wp2
  go_loopw [5] (fun i wr => ∃ k : Nat, k ≤ zs.length ∧ i = .int .i64 ((k : Int) - 1) ∧ wr = w1 ∧ plcR h (zs.take k).reverse = A) (fun i _ => (intOf i + 1).toNat)
  case atStart => exact ⟨zs.length, Nat.le_refl _, rfl, rfl, hA⟩
  case round =>
    obtain ⟨k, hk, rfl, rfl, hp⟩ := hrel
    clear hA HL
    rcases k with _ | j
    · simp only [List.take_zero, List.reverse_nil, plcR] at hp
      subst hp
      have hE := HD.out (-1)
      go_wp2
      refine leaves_cons (f := 58) (args := #[.pointer (some ⟨r, 0, none⟩)]) (by simp) (by simp [go_sem]) ?_
      refine (catch_idle ⟨r, 0, none⟩ _).mono ?_
      rintro e u' w'' ⟨rfl, rfl, rfl⟩
      simp [Leaves, settle, results, Try.results49, go_sem, hE.2, hE.1]
    · obtain ⟨b, hb1, hb2⟩ := hx.get j (by omega)
      have HA := at_in wr p v bs (j : Int) hx.px (by omega) (by omega) b (by simpa using hb1)
      rw [rev_take zs j (by omega)] at hp
      have hlj : ((zs.take j).reverse.length : Int) = j := by simp; omega
      generalize zs[j] = x at hb2 hp
      obtain ⟨g, ao, n, c, rfl, c0, c1, c2, c3, _, _, _, _, _⟩ := hb2.out
      obtain ⟨m, hh, nm, l⟩ := x
      unfold plcR at hp
      rw [hlj] at hp
      simp only at hp c0 c1 c2
      clear hb1 hb2 c2 c3
      rw [show (((j + 1 : Nat) : Int) - 1) = (j : Int) by omega]
      cases m
      · by_cases hq : hh = h
        · rw [decide_eq_true hq] at hp
          simp only [Bool.not_false, Bool.and_self, if_true] at hp
          subst hp
          have hE := HD.out (j : Int)
          go_wp2_with fail
          refine HA.mono ?_
          rintro e w' ⟨rfl, hw⟩
          have hw2 := hw.symm
          clear hw
          subst hw2
          go_wp2
          refine leaves_cons (f := 58) (args := #[.pointer (some ⟨r, 0, none⟩)]) (by simp) (by simp [go_sem]) ?_
          refine (catch_idle ⟨r, 0, none⟩ _).mono ?_
          rintro e u' w'' ⟨rfl, rfl, rfl⟩
          simp [Leaves, settle, results, Try.results49, go_sem, hE.2, hE.1]
        · rw [decide_eq_false hq] at hp
          simp only [Bool.not_false, Bool.and_false, Bool.false_eq_true, if_false] at hp
          clear HD
          go_wp2_with fail
          refine HA.mono ?_
          rintro e w' ⟨rfl, hw⟩
          have hw2 := hw.symm
          clear hw
          subst hw2
          go_wp2
          go_roundw
          case rel => exact ⟨j, by omega, by go_num, by first | rfl | trivial, hp⟩
          case measure => simp [intOf]
      · simp only [Bool.not_true, Bool.false_and, Bool.false_eq_true, if_false] at hp
        clear HD
        go_wp2_with fail
        refine HA.mono ?_
        rintro e w' ⟨rfl, hw⟩
        have hw2 := hw.symm
        clear hw
        subst hw2
        go_wp2
        go_roundw
        case rel => exact ⟨j, by omega, by go_num, by first | rfl | trivial, hp⟩
        case measure => simp [intOf]

set_option maxHeartbeats 1000000 in
theorem from_do (w0 w : World) (q : Nat) (B : List Nat) (zs : List Ent) (f : Int → Bool) (hL : Li w0 w q B zs) (hl : zs.length < 100000) (a : Nat)
    (G : Hid (∀ W h, Kp [] w W → Calls Try.prog 32 #[.int .i64 h, .pointer (some ⟨a, 0, none⟩)] W fun e w' => e = .returned (.bool (f h)) ∧ w' = W)) :
    Calls Try.prog 19 #[.pointer (some ⟨q, 0, none⟩), .func (.func 32) #[] #[.pointer (some ⟨a, 0, none⟩)]] w fun e w' => e = .returned (.int .i64 (frm f zs)) ∧ Kp [] w w' := by
  have hmf : ∀ (fn : Fn) (first cap : Array Value) (w : World), (Instr.makeFunc fn first cap).run Try.prog w = .ok (.func fn first cap) w := fun _ _ _ _ => rfl
  have hqf : ∀ w, (binOp .eql 46 (.func (.func 32) #[] #[.pointer (some ⟨a, 0, none⟩)]) .nilFunc).run Try.prog w = .ok (.bool false) w := fun w => run_eql_func_nil w _ _ _ _ _ _ _ Try.underlying46
  obtain ⟨A, hA⟩ : ∃ A, frmR f (zs.take zs.length).reverse = A := ⟨_, rfl⟩
  rw [show frm f zs = A by rw [← hA, rev_all]; rfl]
  have k1 : Kp [] w (w.alloc (.cells #[.int .i64 0] 3)) := (Kp.refl _ _).alloc _
  obtain ⟨w1, hw1⟩ : ∃ w1, w1 = w.alloc (.cells #[.int .i64 0] 3) := ⟨_, rfl⟩
  have hres : w1.heap[w.heap.size]? = some (.cells #[.int .i64 0] 3 (0, 0)) := by rw [hw1]; exact heap_new _ _
  rw [← hw1] at k1
  have h1 := hL.kept k1
  have HL := len_list w0 w1 q B zs h1
  obtain ⟨⟨p, v, bs, hx, _⟩, _⟩ := h1
  have d0 : w1.cell? ⟨w.heap.size, 0, none⟩ = some (.int .i64 0) := cell_of hres 0
  have e0 : w1.frozen? ⟨w.heap.size, 0, none⟩ = false := frozen_of hres 0
  have HD : Hid (∀ a : Int, Kp [] w (w1.setCell ⟨w.heap.size, 0, none⟩ (.int .i64 a)) ∧ (w1.setCell ⟨w.heap.size, 0, none⟩ (.int .i64 a)).cell? ⟨w.heap.size, 0, none⟩ = some (.int .i64 a)) := fun a =>
    ⟨k1.setCell (Or.inr (Nat.le_refl _)) _, by rw [cell_of (setCell_block hres 0 _)]; rfl⟩
  have G1 : Hid (∀ h, Calls Try.prog 32 #[.int .i64 h, .pointer (some ⟨a, 0, none⟩)] w1 fun e w' => e = .returned (.bool (f h)) ∧ w' = w1) := fun h => G.out w1 h k1
  have hc := hx.cell
  have hlen := hx.len
  obtain ⟨r, hr⟩ : ∃ r, r = w.heap.size := ⟨_, rfl⟩
  have HW : Hid (w1 = w.alloc (.cells #[.int .i64 0] 3)) := hw1
  clear hL hres G
  go_enter_defers Try.func19, Try.ntmps19
  go_wp2_with fail
  rw [← HW.out]
  refine HL.mono ?_
  rintro e w' ⟨rfl, hw⟩
  have hw2 := hw.symm
  clear hw
  subst hw2
  rw [← hr] at d0 e0 HD ⊢
  clear hr hw1 HW k1
  go_wp2
  go_loopw [5] (fun i wr => ∃ k : Nat, k ≤ zs.length ∧ i = .int .i64 (k : Int) ∧ wr = w1 ∧ frmR f (zs.take k).reverse = A) (fun i _ => (intOf i).toNat)
  case atStart => exact ⟨zs.length, Nat.le_refl _, rfl, rfl, hA⟩
  case round =>
    obtain ⟨k, hk, rfl, rfl, hp⟩ := hrel
    clear hA HL
    rcases k with _ | j
    · simp only [List.take_zero, List.reverse_nil, frmR] at hp
      subst hp
      have hE := HD.out 0
      clear G1
      go_wp2
      refine leaves_cons (f := 47) (args := #[.pointer (some ⟨r, 0, none⟩)]) (by simp) (by simp [go_sem]) ?_
      refine (catch_from ⟨r, 0, none⟩ _).mono ?_
      rintro e u' w'' ⟨rfl, rfl, rfl⟩
      simp [Leaves, settle, results, Try.results19, go_sem, hE.2, hE.1]
    · obtain ⟨b, hb1, hb2⟩ := hx.get j (by omega)
      have HA := at_in wr p v bs (j : Int) hx.px (by omega) (by omega) b (by simpa using hb1)
      rw [rev_take zs j (by omega)] at hp
      have hlj : (zs.take j).reverse.length = j := by simp; omega
      generalize zs[j] = x at hb2 hp
      obtain ⟨g, ao, n, c, rfl, c0, c1, c2, c3, _, _, _, _, _⟩ := hb2.out
      obtain ⟨m, hh, nm, l⟩ := x
      unfold frmR at hp
      rw [hlj] at hp
      simp only at hp c0 c1 c2
      clear hb1 hb2 c2 c3
      have HG := G1.out hh
      have hjw : IntKind.i64.wrap ((j : Int) + 1 - 1) = (j : Int) := by rw [IntKind.wrap_i64]; omega
      have hjj : ((j + 1 : Nat) : Int) - 1 = (j : Int) := by omega
      cases m
      · rw [Bool.false_or] at hp
        generalize f hh = y at hp HG
        cases y
        · simp only [Bool.false_eq_true, if_false] at hp
          clear HD G1
          go_wp2_with fail
          refine HA.mono ?_
          rintro e w' ⟨rfl, hw⟩
          have hw2 := hw.symm
          clear hw
          subst hw2
          go_wp2_with fail
          refine HG.mono ?_
          rintro e w' ⟨rfl, hw⟩
          have hw2 := hw.symm
          clear hw
          subst hw2
          go_wp2
          go_roundw
          case rel => exact ⟨j, by omega, by go_num, by first | rfl | trivial, hp⟩
          case measure => simp [intOf]
        · simp only [if_true] at hp
          subst hp
          have hE := HD.out ((j : Int) + 1)
          clear HD G1
          go_wp2_with fail
          refine HA.mono ?_
          rintro e w' ⟨rfl, hw⟩
          have hw2 := hw.symm
          clear hw
          subst hw2
          go_wp2_with fail
          refine HG.mono ?_
          rintro e w' ⟨rfl, hw⟩
          have hw2 := hw.symm
          clear hw
          subst hw2
          go_wp2
          refine leaves_cons (f := 47) (args := #[.pointer (some ⟨r, 0, none⟩)]) (by simp) (by simp [go_sem]) ?_
          refine (catch_from ⟨r, 0, none⟩ _).mono ?_
          rintro e u' w'' ⟨rfl, rfl, rfl⟩
          simp [Leaves, settle, results, Try.results19, go_sem, hE.2, hE.1]
      · simp only [Bool.true_or, if_true] at hp
        subst hp
        have hE := HD.out ((j : Int) + 1)
        clear HD G1 HG
        go_wp2_with fail
        refine HA.mono ?_
        rintro e w' ⟨rfl, hw⟩
        have hw2 := hw.symm
        clear hw
        subst hw2
        go_wp2
        refine leaves_cons (f := 47) (args := #[.pointer (some ⟨r, 0, none⟩)]) (by simp) (by simp [go_sem]) ?_
        refine (catch_from ⟨r, 0, none⟩ _).mono ?_
        rintro e u' w'' ⟨rfl, rfl, rfl⟩
        simp [Leaves, settle, results, Try.results19, go_sem, hE.2, hE.1]

set_option maxHeartbeats 1000000 in
theorem from_m1 (w0 w : World) (q : Nat) (B : List Nat) (zs : List Ent) (f : Int → Bool) (hL : Li w0 w q B zs) (hl : zs.length < 100000)
    (G : Hid (∀ W h, Kp [] w W → Calls Try.prog 20 #[.int .i64 h] W fun e w' => e = .returned (.bool (f h)) ∧ w' = W)) :
    Calls Try.prog 19 #[.pointer (some ⟨q, 0, none⟩), .func (.func 20) #[] #[]] w fun e w' => e = .returned (.int .i64 (frm f zs)) ∧ Kp [] w w' := by
  have hmf : ∀ (fn : Fn) (first cap : Array Value) (w : World), (Instr.makeFunc fn first cap).run Try.prog w = .ok (.func fn first cap) w := fun _ _ _ _ => rfl
  have hqf : ∀ w, (binOp .eql 46 (.func (.func 20) #[] #[]) .nilFunc).run Try.prog w = .ok (.bool false) w := fun w => run_eql_func_nil w _ _ _ _ _ _ _ Try.underlying46
  obtain ⟨A, hA⟩ : ∃ A, frmR f (zs.take zs.length).reverse = A := ⟨_, rfl⟩
  rw [show frm f zs = A by rw [← hA, rev_all]; rfl]
  have k1 : Kp [] w (w.alloc (.cells #[.int .i64 0] 3)) := (Kp.refl _ _).alloc _
  obtain ⟨w1, hw1⟩ : ∃ w1, w1 = w.alloc (.cells #[.int .i64 0] 3) := ⟨_, rfl⟩
  have hres : w1.heap[w.heap.size]? = some (.cells #[.int .i64 0] 3 (0, 0)) := by rw [hw1]; exact heap_new _ _
  rw [← hw1] at k1
  have h1 := hL.kept k1
  have HL := len_list w0 w1 q B zs h1
  obtain ⟨⟨p, v, bs, hx, _⟩, _⟩ := h1
  have d0 : w1.cell? ⟨w.heap.size, 0, none⟩ = some (.int .i64 0) := cell_of hres 0
  have e0 : w1.frozen? ⟨w.heap.size, 0, none⟩ = false := frozen_of hres 0
  have HD : Hid (∀ a : Int, Kp [] w (w1.setCell ⟨w.heap.size, 0, none⟩ (.int .i64 a)) ∧ (w1.setCell ⟨w.heap.size, 0, none⟩ (.int .i64 a)).cell? ⟨w.heap.size, 0, none⟩ = some (.int .i64 a)) := fun a =>
    ⟨k1.setCell (Or.inr (Nat.le_refl _)) _, by rw [cell_of (setCell_block hres 0 _)]; rfl⟩
  have G1 : Hid (∀ h, Calls Try.prog 20 #[.int .i64 h] w1 fun e w' => e = .returned (.bool (f h)) ∧ w' = w1) := fun h => G.out w1 h k1
  have hc := hx.cell
  have hlen := hx.len
  obtain ⟨r, hr⟩ : ∃ r, r = w.heap.size := ⟨_, rfl⟩
  have HW : Hid (w1 = w.alloc (.cells #[.int .i64 0] 3)) := hw1
  clear hL hres G
  go_enter_defers Try.func19, Try.ntmps19
  go_wp2_with fail
  rw [← HW.out]
  refine HL.mono ?_
  rintro e w' ⟨rfl, hw⟩
  have hw2 := hw.symm
  clear hw
  subst hw2
  rw [← hr] at d0 e0 HD ⊢
  clear hr hw1 HW k1
  go_wp2
  go_loopw [5] (fun i wr => ∃ k : Nat, k ≤ zs.length ∧ i = .int .i64 (k : Int) ∧ wr = w1 ∧ frmR f (zs.take k).reverse = A) (fun i _ => (intOf i).toNat)
  case atStart => exact ⟨zs.length, Nat.le_refl _, rfl, rfl, hA⟩
  case round =>
    obtain ⟨k, hk, rfl, rfl, hp⟩ := hrel
    clear hA HL
    rcases k with _ | j
    · simp only [List.take_zero, List.reverse_nil, frmR] at hp
      subst hp
      have hE := HD.out 0
      clear G1
      go_wp2
      refine leaves_cons (f := 47) (args := #[.pointer (some ⟨r, 0, none⟩)]) (by simp) (by simp [go_sem]) ?_
      refine (catch_from ⟨r, 0, none⟩ _).mono ?_
      rintro e u' w'' ⟨rfl, rfl, rfl⟩
      simp [Leaves, settle, results, Try.results19, go_sem, hE.2, hE.1]
    · obtain ⟨b, hb1, hb2⟩ := hx.get j (by omega)
      have HA := at_in wr p v bs (j : Int) hx.px (by omega) (by omega) b (by simpa using hb1)
      rw [rev_take zs j (by omega)] at hp
      have hlj : (zs.take j).reverse.length = j := by simp; omega
      generalize zs[j] = x at hb2 hp
      obtain ⟨g, ao, n, c, rfl, c0, c1, c2, c3, _, _, _, _, _⟩ := hb2.out
      obtain ⟨m, hh, nm, l⟩ := x
      unfold frmR at hp
      rw [hlj] at hp
      simp only at hp c0 c1 c2
      clear hb1 hb2 c2 c3
      have HG := G1.out hh
      have hjw : IntKind.i64.wrap ((j : Int) + 1 - 1) = (j : Int) := by rw [IntKind.wrap_i64]; omega
      have hjj : ((j + 1 : Nat) : Int) - 1 = (j : Int) := by omega
      cases m
      · rw [Bool.false_or] at hp
        generalize f hh = y at hp HG
        cases y
        · simp only [Bool.false_eq_true, if_false] at hp
          clear HD G1
          go_wp2_with fail
          refine HA.mono ?_
          rintro e w' ⟨rfl, hw⟩
          have hw2 := hw.symm
          clear hw
          subst hw2
          go_wp2_with fail
          refine HG.mono ?_
          rintro e w' ⟨rfl, hw⟩
          have hw2 := hw.symm
          clear hw
          subst hw2
          go_wp2
          go_roundw
          case rel => exact ⟨j, by omega, by go_num, by first | rfl | trivial, hp⟩
          case measure => simp [intOf]
        · simp only [if_true] at hp
          subst hp
          have hE := HD.out ((j : Int) + 1)
          clear HD G1
          go_wp2_with fail
          refine HA.mono ?_
          rintro e w' ⟨rfl, hw⟩
          have hw2 := hw.symm
          clear hw
          subst hw2
          go_wp2_with fail
          refine HG.mono ?_
          rintro e w' ⟨rfl, hw⟩
          have hw2 := hw.symm
          clear hw
          subst hw2
          go_wp2
          refine leaves_cons (f := 47) (args := #[.pointer (some ⟨r, 0, none⟩)]) (by simp) (by simp [go_sem]) ?_
          refine (catch_from ⟨r, 0, none⟩ _).mono ?_
          rintro e u' w'' ⟨rfl, rfl, rfl⟩
          simp [Leaves, settle, results, Try.results19, go_sem, hE.2, hE.1]
      · simp only [Bool.true_or, if_true] at hp
        subst hp
        have hE := HD.out ((j : Int) + 1)
        clear HD G1 HG
        go_wp2_with fail
        refine HA.mono ?_
        rintro e w' ⟨rfl, hw⟩
        have hw2 := hw.symm
        clear hw
        subst hw2
        go_wp2
        refine leaves_cons (f := 47) (args := #[.pointer (some ⟨r, 0, none⟩)]) (by simp) (by simp [go_sem]) ?_
        refine (catch_from ⟨r, 0, none⟩ _).mono ?_
        rintro e u' w'' ⟨rfl, rfl, rfl⟩
        simp [Leaves, settle, results, Try.results19, go_sem, hE.2, hE.1]

set_option maxHeartbeats 1000000 in
theorem from_m2 (w0 w : World) (q : Nat) (B : List Nat) (zs : List Ent) (f : Int → Bool) (hL : Li w0 w q B zs) (hl : zs.length < 100000)
    (G : Hid (∀ W h, Kp [] w W → Calls Try.prog 22 #[.int .i64 h] W fun e w' => e = .returned (.bool (f h)) ∧ w' = W)) :
    Calls Try.prog 19 #[.pointer (some ⟨q, 0, none⟩), .func (.func 22) #[] #[]] w fun e w' => e = .returned (.int .i64 (frm f zs)) ∧ Kp [] w w' := by
  have hmf : ∀ (fn : Fn) (first cap : Array Value) (w : World), (Instr.makeFunc fn first cap).run Try.prog w = .ok (.func fn first cap) w := fun _ _ _ _ => rfl
  have hqf : ∀ w, (binOp .eql 46 (.func (.func 22) #[] #[]) .nilFunc).run Try.prog w = .ok (.bool false) w := fun w => run_eql_func_nil w _ _ _ _ _ _ _ Try.underlying46
  obtain ⟨A, hA⟩ : ∃ A, frmR f (zs.take zs.length).reverse = A := ⟨_, rfl⟩
  rw [show frm f zs = A by rw [← hA, rev_all]; rfl]
  have k1 : Kp [] w (w.alloc (.cells #[.int .i64 0] 3)) := (Kp.refl _ _).alloc _
  obtain ⟨w1, hw1⟩ : ∃ w1, w1 = w.alloc (.cells #[.int .i64 0] 3) := ⟨_, rfl⟩
  have hres : w1.heap[w.heap.size]? = some (.cells #[.int .i64 0] 3 (0, 0)) := by rw [hw1]; exact heap_new _ _
  rw [← hw1] at k1
  have h1 := hL.kept k1
  have HL := len_list w0 w1 q B zs h1
  obtain ⟨⟨p, v, bs, hx, _⟩, _⟩ := h1
  have d0 : w1.cell? ⟨w.heap.size, 0, none⟩ = some (.int .i64 0) := cell_of hres 0
  have e0 : w1.frozen? ⟨w.heap.size, 0, none⟩ = false := frozen_of hres 0
  have HD : Hid (∀ a : Int, Kp [] w (w1.setCell ⟨w.heap.size, 0, none⟩ (.int .i64 a)) ∧ (w1.setCell ⟨w.heap.size, 0, none⟩ (.int .i64 a)).cell? ⟨w.heap.size, 0, none⟩ = some (.int .i64 a)) := fun a =>
    ⟨k1.setCell (Or.inr (Nat.le_refl _)) _, by rw [cell_of (setCell_block hres 0 _)]; rfl⟩
  have G1 : Hid (∀ h, Calls Try.prog 22 #[.int .i64 h] w1 fun e w' => e = .returned (.bool (f h)) ∧ w' = w1) := fun h => G.out w1 h k1
  have hc := hx.cell
  have hlen := hx.len
  obtain ⟨r, hr⟩ : ∃ r, r = w.heap.size := ⟨_, rfl⟩
  have HW : Hid (w1 = w.alloc (.cells #[.int .i64 0] 3)) := hw1
  clear hL hres G
  go_enter_defers Try.func19, Try.ntmps19
  go_wp2_with fail
  rw [← HW.out]
  refine HL.mono ?_
  rintro e w' ⟨rfl, hw⟩
  have hw2 := hw.symm
  clear hw
  subst hw2
  rw [← hr] at d0 e0 HD ⊢
  clear hr hw1 HW k1
  go_wp2
  go_loopw [5] (fun i wr => ∃ k : Nat, k ≤ zs.length ∧ i = .int .i64 (k : Int) ∧ wr = w1 ∧ frmR f (zs.take k).reverse = A) (fun i _ => (intOf i).toNat)
  case atStart => exact ⟨zs.length, Nat.le_refl _, rfl, rfl, hA⟩
  case round =>
    obtain ⟨k, hk, rfl, rfl, hp⟩ := hrel
    clear hA HL
    rcases k with _ | j
    · simp only [List.take_zero, List.reverse_nil, frmR] at hp
      subst hp
      have hE := HD.out 0
      clear G1
      go_wp2
      refine leaves_cons (f := 47) (args := #[.pointer (some ⟨r, 0, none⟩)]) (by simp) (by simp [go_sem]) ?_
      refine (catch_from ⟨r, 0, none⟩ _).mono ?_
      rintro e u' w'' ⟨rfl, rfl, rfl⟩
      simp [Leaves, settle, results, Try.results19, go_sem, hE.2, hE.1]
    · obtain ⟨b, hb1, hb2⟩ := hx.get j (by omega)
      have HA := at_in wr p v bs (j : Int) hx.px (by omega) (by omega) b (by simpa using hb1)
      rw [rev_take zs j (by omega)] at hp
      have hlj : (zs.take j).reverse.length = j := by simp; omega
      generalize zs[j] = x at hb2 hp
      obtain ⟨g, ao, n, c, rfl, c0, c1, c2, c3, _, _, _, _, _⟩ := hb2.out
      obtain ⟨m, hh, nm, l⟩ := x
      unfold frmR at hp
      rw [hlj] at hp
      simp only at hp c0 c1 c2
      clear hb1 hb2 c2 c3
      have HG := G1.out hh
      have hjw : IntKind.i64.wrap ((j : Int) + 1 - 1) = (j : Int) := by rw [IntKind.wrap_i64]; omega
      have hjj : ((j + 1 : Nat) : Int) - 1 = (j : Int) := by omega
      cases m
      · rw [Bool.false_or] at hp
        generalize f hh = y at hp HG
        cases y
        · simp only [Bool.false_eq_true, if_false] at hp
          clear HD G1
          go_wp2_with fail
          refine HA.mono ?_
          rintro e w' ⟨rfl, hw⟩
          have hw2 := hw.symm
          clear hw
          subst hw2
          go_wp2_with fail
          refine HG.mono ?_
          rintro e w' ⟨rfl, hw⟩
          have hw2 := hw.symm
          clear hw
          subst hw2
          go_wp2
          go_roundw
          case rel => exact ⟨j, by omega, by go_num, by first | rfl | trivial, hp⟩
          case measure => simp [intOf]
        · simp only [if_true] at hp
          subst hp
          have hE := HD.out ((j : Int) + 1)
          clear HD G1
          go_wp2_with fail
          refine HA.mono ?_
          rintro e w' ⟨rfl, hw⟩
          have hw2 := hw.symm
          clear hw
          subst hw2
          go_wp2_with fail
          refine HG.mono ?_
          rintro e w' ⟨rfl, hw⟩
          have hw2 := hw.symm
          clear hw
          subst hw2
          go_wp2
          refine leaves_cons (f := 47) (args := #[.pointer (some ⟨r, 0, none⟩)]) (by simp) (by simp [go_sem]) ?_
          refine (catch_from ⟨r, 0, none⟩ _).mono ?_
          rintro e u' w'' ⟨rfl, rfl, rfl⟩
          simp [Leaves, settle, results, Try.results19, go_sem, hE.2, hE.1]
      · simp only [Bool.true_or, if_true] at hp
        subst hp
        have hE := HD.out ((j : Int) + 1)
        clear HD G1 HG
        go_wp2_with fail
        refine HA.mono ?_
        rintro e w' ⟨rfl, hw⟩
        have hw2 := hw.symm
        clear hw
        subst hw2
        go_wp2
        refine leaves_cons (f := 47) (args := #[.pointer (some ⟨r, 0, none⟩)]) (by simp) (by simp [go_sem]) ?_
        refine (catch_from ⟨r, 0, none⟩ _).mono ?_
        rintro e u' w'' ⟨rfl, rfl, rfl⟩
        simp [Leaves, settle, results, Try.results19, go_sem, hE.2, hE.1]

set_option maxHeartbeats 1000000 in
theorem from_m3 (w0 w : World) (q : Nat) (B : List Nat) (zs : List Ent) (f : Int → Bool) (hL : Li w0 w q B zs) (hl : zs.length < 100000)
    (G : Hid (∀ W h, Kp [] w W → Calls Try.prog 23 #[.int .i64 h] W fun e w' => e = .returned (.bool (f h)) ∧ w' = W)) :
    Calls Try.prog 19 #[.pointer (some ⟨q, 0, none⟩), .func (.func 23) #[] #[]] w fun e w' => e = .returned (.int .i64 (frm f zs)) ∧ Kp [] w w' := by
  have hmf : ∀ (fn : Fn) (first cap : Array Value) (w : World), (Instr.makeFunc fn first cap).run Try.prog w = .ok (.func fn first cap) w := fun _ _ _ _ => rfl
  have hqf : ∀ w, (binOp .eql 46 (.func (.func 23) #[] #[]) .nilFunc).run Try.prog w = .ok (.bool false) w := fun w => run_eql_func_nil w _ _ _ _ _ _ _ Try.underlying46
  obtain ⟨A, hA⟩ : ∃ A, frmR f (zs.take zs.length).reverse = A := ⟨_, rfl⟩
  rw [show frm f zs = A by rw [← hA, rev_all]; rfl]
  have k1 : Kp [] w (w.alloc (.cells #[.int .i64 0] 3)) := (Kp.refl _ _).alloc _
  obtain ⟨w1, hw1⟩ : ∃ w1, w1 = w.alloc (.cells #[.int .i64 0] 3) := ⟨_, rfl⟩
  have hres : w1.heap[w.heap.size]? = some (.cells #[.int .i64 0] 3 (0, 0)) := by rw [hw1]; exact heap_new _ _
  rw [← hw1] at k1
  have h1 := hL.kept k1
  have HL := len_list w0 w1 q B zs h1
  obtain ⟨⟨p, v, bs, hx, _⟩, _⟩ := h1
  have d0 : w1.cell? ⟨w.heap.size, 0, none⟩ = some (.int .i64 0) := cell_of hres 0
  have e0 : w1.frozen? ⟨w.heap.size, 0, none⟩ = false := frozen_of hres 0
  have HD : Hid (∀ a : Int, Kp [] w (w1.setCell ⟨w.heap.size, 0, none⟩ (.int .i64 a)) ∧ (w1.setCell ⟨w.heap.size, 0, none⟩ (.int .i64 a)).cell? ⟨w.heap.size, 0, none⟩ = some (.int .i64 a)) := fun a =>
    ⟨k1.setCell (Or.inr (Nat.le_refl _)) _, by rw [cell_of (setCell_block hres 0 _)]; rfl⟩
  have G1 : Hid (∀ h, Calls Try.prog 23 #[.int .i64 h] w1 fun e w' => e = .returned (.bool (f h)) ∧ w' = w1) := fun h => G.out w1 h k1
  have hc := hx.cell
  have hlen := hx.len
  obtain ⟨r, hr⟩ : ∃ r, r = w.heap.size := ⟨_, rfl⟩
  have HW : Hid (w1 = w.alloc (.cells #[.int .i64 0] 3)) := hw1
  clear hL hres G
  go_enter_defers Try.func19, Try.ntmps19
  go_wp2_with fail
  rw [← HW.out]
  refine HL.mono ?_
  rintro e w' ⟨rfl, hw⟩
  have hw2 := hw.symm
  clear hw
  subst hw2
  rw [← hr] at d0 e0 HD ⊢
  clear hr hw1 HW k1
  go_wp2
  go_loopw [5] (fun i wr => ∃ k : Nat, k ≤ zs.length ∧ i = .int .i64 (k : Int) ∧ wr = w1 ∧ frmR f (zs.take k).reverse = A) (fun i _ => (intOf i).toNat)
  case atStart => exact ⟨zs.length, Nat.le_refl _, rfl, rfl, hA⟩
  case round =>
    obtain ⟨k, hk, rfl, rfl, hp⟩ := hrel
    clear hA HL
    rcases k with _ | j
    · simp only [List.take_zero, List.reverse_nil, frmR] at hp
      subst hp
      have hE := HD.out 0
      clear G1
      go_wp2
      refine leaves_cons (f := 47) (args := #[.pointer (some ⟨r, 0, none⟩)]) (by simp) (by simp [go_sem]) ?_
      refine (catch_from ⟨r, 0, none⟩ _).mono ?_
      rintro e u' w'' ⟨rfl, rfl, rfl⟩
      simp [Leaves, settle, results, Try.results19, go_sem, hE.2, hE.1]
    · obtain ⟨b, hb1, hb2⟩ := hx.get j (by omega)
      have HA := at_in wr p v bs (j : Int) hx.px (by omega) (by omega) b (by simpa using hb1)
      rw [rev_take zs j (by omega)] at hp
      have hlj : (zs.take j).reverse.length = j := by simp; omega
      generalize zs[j] = x at hb2 hp
      obtain ⟨g, ao, n, c, rfl, c0, c1, c2, c3, _, _, _, _, _⟩ := hb2.out
      obtain ⟨m, hh, nm, l⟩ := x
      unfold frmR at hp
      rw [hlj] at hp
      simp only at hp c0 c1 c2
      clear hb1 hb2 c2 c3
      have HG := G1.out hh
      have hjw : IntKind.i64.wrap ((j : Int) + 1 - 1) = (j : Int) := by rw [IntKind.wrap_i64]; omega
      have hjj : ((j + 1 : Nat) : Int) - 1 = (j : Int) := by omega
      cases m
      · rw [Bool.false_or] at hp
        generalize f hh = y at hp HG
        cases y
        · simp only [Bool.false_eq_true, if_false] at hp
          clear HD G1
          go_wp2_with fail
          refine HA.mono ?_
          rintro e w' ⟨rfl, hw⟩
          have hw2 := hw.symm
          clear hw
          subst hw2
          go_wp2_with fail
          refine HG.mono ?_
          rintro e w' ⟨rfl, hw⟩
          have hw2 := hw.symm
          clear hw
          subst hw2
          go_wp2
          go_roundw
          case rel => exact ⟨j, by omega, by go_num, by first | rfl | trivial, hp⟩
          case measure => simp [intOf]
        · simp only [if_true] at hp
          subst hp
          have hE := HD.out ((j : Int) + 1)
          clear HD G1
          go_wp2_with fail
          refine HA.mono ?_
          rintro e w' ⟨rfl, hw⟩
          have hw2 := hw.symm
          clear hw
          subst hw2
          go_wp2_with fail
          refine HG.mono ?_
          rintro e w' ⟨rfl, hw⟩
          have hw2 := hw.symm
          clear hw
          subst hw2
          go_wp2
          refine leaves_cons (f := 47) (args := #[.pointer (some ⟨r, 0, none⟩)]) (by simp) (by simp [go_sem]) ?_
          refine (catch_from ⟨r, 0, none⟩ _).mono ?_
          rintro e u' w'' ⟨rfl, rfl, rfl⟩
          simp [Leaves, settle, results, Try.results19, go_sem, hE.2, hE.1]
      · simp only [Bool.true_or, if_true] at hp
        subst hp
        have hE := HD.out ((j : Int) + 1)
        clear HD G1 HG
        go_wp2_with fail
        refine HA.mono ?_
        rintro e w' ⟨rfl, hw⟩
        have hw2 := hw.symm
        clear hw
        subst hw2
        go_wp2
        refine leaves_cons (f := 47) (args := #[.pointer (some ⟨r, 0, none⟩)]) (by simp) (by simp [go_sem]) ?_
        refine (catch_from ⟨r, 0, none⟩ _).mono ?_
        rintro e u' w'' ⟨rfl, rfl, rfl⟩
        simp [Leaves, settle, results, Try.results19, go_sem, hE.2, hE.1]

end Go.Proofs.Ytadcpkdnpfmphaa.Ints
