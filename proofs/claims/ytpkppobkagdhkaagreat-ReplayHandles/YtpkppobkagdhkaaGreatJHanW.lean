/-
  Joined: HanW.
-/
import Derived.Test.YtpkppobkagdhkaaGreatJ42
import Derived.Test.YtpkppobkagdhkaaGreatJTelW
import Derived.Test.YtpkppobkagdhkaaGreatJ38
import Derived.Test.YtpkppobkagdhkaaGreatJPlyW

/-
  ReplayHandles: what numbers the nodes are called by does not matter.
-/
namespace Go.Proofs.YtpkppobkagdhkaaGreat
open Go.RowKit Go.Maps Utf
set_option linter.unusedVariables false
set_option linter.unusedSimpArgs false

theorem somF_sml {F : Nat → Rx} {m : Nat} {o : Ot} (h : o ∈ somF F m true) : Sml o := by
  unfold somF at h
  rw [if_pos rfl] at h
  obtain ⟨h1, h2⟩ := Py.fil_mem _ _ _ h
  obtain ⟨i, _, rfl⟩ := List.mem_map.1 h1
  obtain ⟨⟨_, a⟩, ⟨_, b⟩, ⟨_, c⟩⟩ := madF_hand h2
  exact ⟨h2, a, b, c⟩

theorem tiny_ren {k : Int} {o : Ot} (h : tinyO o) : tinyO (renO k o) := ⟨h.nm, h.tt, h.al, h.each⟩

theorem Py.Fit.aft : ∀ {L : List Ot} {s : Py} {k : Nat}, s.Fit k → (∀ o, o ∈ L → tinyO o) → k + L.length ≤ 1300 → (Py.aft s L).Fit (k + L.length)
  | [], s, k, h, _, _ => h
  | o :: L, s, k, h, ht, hl => by
    simp only [List.length_cons] at hl ⊢
    have := Py.Fit.aft (L := L) (h.doF (by omega) (ht o (by simp))) (fun x hx => ht x (by simp [hx])) (by omega)
    rw [show k + (L.length + 1) = k + 1 + L.length by omega]
    exact this

set_option maxRecDepth 100000 in
set_option maxHeartbeats 2000000 in
theorem handles_walk (w : World) (ao : Option Addr) (n c : Nat) (F : Nat → Rx) (hin : Xin w ao n c F) (by_ : Int) :
    Calls Tryz.prog 7 #[.slice ao n c, .int .i64 by_] w fun e w' => e = .returned (.bool true) ∧ Kp [] w w' := by
  have H1 := some_any w ao n c F hin true
  have HWi : Hid (∀ V, Calls Tryz.prog 22 #[.int .i64 by_, .int .i64 0, .int .i64 1048576] V fun e w' => e = .returned (.int .i64 ((wi by_ 1048576 : Nat) : Int)) ∧ w' = V) := fun V => by
    have h := within_any V by_ 0 1048576 (by omega) (by omega)
    rw [Nat.zero_add] at h
    exact h
  have hw6 := wi_le by_ 1048576
  generalize wi by_ 1048576 = z at *
  clear hin
  go_enter Tryz.func7, Tryz.ntmps7
  go_upto_region 2 with (go_at_call 11; refine H1.mono ?_; rintro e W1 ⟨a1, n1, c1, q, rfl, m1, e1⟩)
  obtain ⟨ry1, hn1⟩ := m1.ry e1 (Nat.min_le_right _ _)
  have k01 : Hid (Kp [] w W1) := m1.kp
  have hlen := ry1.rq.len
  have HA : Hid (∀ p, p ∈ q → Ao W1 p) := m1.ar
  have HSm : Hid (∀ o, o ∈ os q → Sml o) := fun o ho => by rw [e1] at ho; exact somF_sml ho
  have HDn : Hid (Py.Done Py.first (os q)) := by
    rw [e1]
    unfold somF
    rw [if_pos rfl]
    exact Py.done_fil _ _
  have HI : Hid (∀ i (hi : i < q.length), ∃ b0 off, a1 = some ⟨b0, off, none⟩ ∧ ∀ V, Kp [] W1 V → Nine V b0 (off + i * 9) q[i].1 q[i].2) := fun i hi => by
    obtain ⟨b0, off, e0, _⟩ := ry1.rq.get i hi
    refine ⟨b0, off, e0, fun V kV => ?_⟩
    obtain ⟨b2, off2, e2, n2⟩ := (ry1.rq.kept kV).get i hi
    rw [e0] at e2
    simp only [Option.some.injEq, Addr.mk.injEq] at e2
    obtain ⟨rfl, rfl, _⟩ := e2
    exact n2
  have HRy : Hid (Ry W1 a1 n1 c1 q) := ry1
  subst hlen
  clear H1 m1 e1 ry1
  obtain ⟨k, hk⟩ : ∃ k : Int, 1 + (z : Int) = k := ⟨_, rfl⟩
  have hk0 : 0 < k := by omega
  have hk1 : k ≤ 1048577 := by omega
  have hkw : IntKind.i64.wrap (1 + (z : Int)) = k := by
    rw [← hk]
    simp [IntKind.wrap, IntKind.bits, IntKind.signed]
    omega
  clear hk hw6
  go_wp2_with (go_at_call 22; refine (HWi.out _).mono ?_; rintro e w9 ⟨rfl, hw⟩; have hw2 := hw.symm; clear hw; subst hw2)
  clear hkw HWi
  go_loopw [7, 8] (fun v7 v8 wr => ∃ (i : Nat) (a7 : Option Addr) (n7 c7 : Nat) (q7 : List Oq), v8 = .int .i64 (i : Int) ∧ v7 = .slice a7 n7 c7 ∧ i ≤ q.length ∧ Mq W1 wr a7 n7 c7 q7 ∧ os q7 = ((os q).take i).map (renO k)) (fun _ v8 _ => q.length - (intOf v8).toNat)
  case atStart => exact ⟨0, none, 0, 0, [], rfl, rfl, Nat.zero_le _, Mq.nil W1, rfl⟩
  case round =>
    obtain ⟨i, a7, n7, c7, q7, rfl, rfl, hi, M, hq7⟩ := hrel
    by_cases hlt : i < q.length
    · obtain ⟨b0, off, rfl, HI2⟩ := HI.out i hlt
      have hmem : q[i] ∈ q := List.getElem_mem hlt
      obtain ⟨s0, s1, s2, s3⟩ := HSm.out q[i].1 (List.mem_map.2 ⟨_, hmem, rfl⟩)
      obtain ⟨⟨r1, _⟩, ⟨r2, _⟩, ⟨r3, _⟩, _⟩ := right_of s0
      have hAo := HA.out _ hmem
      have hq8 : Hid (os (q7 ++ [(renO k q[i].1, q[i].2)]) = ((os q).take (i + 1)).map (renO k)) := by
        have e : os (q7 ++ [(renO k q[i].1, q[i].2)]) = ((os q).take (i + 1)).map (renO k) := by
          rw [take_os hlt, List.map_append, ← hq7]
          simp [os]
        exact e
      have hl7 := M.len
      have hq9 : q7.length = i := by
        have h1 : (os q7).length = q7.length := by simp
        rw [hq7] at h1
        simp at h1
        omega
      obtain ⟨f0, f1, f2, f3, f4, f5, f6, f7, f8⟩ := HI2 wr M.kp
      have j0 : (0 : Int) ≤ (i : Int) := by omega
      have j1 : (i : Int) < (q.length : Int) := by omega
      have HAp : Hid (∀ V, Kp [] wr V → ∃ a8 n8 c8 U2, (∀ ty, (Builtin.append_ #[25, 25] ty #[.slice a7 n7 c7, .slice (some ⟨V.heap.size, 0, none⟩) 1 1]).run Tryz.prog (V.alloc (.cells #[.int .i64 q[i].1.kd, .int .i64 (rho k q[i].1.nd), .int .i64 (rho k q[i].1.pa), .int .i64 (rho k q[i].1.rf), .int .i64 q[i].1.ty, .int .i64 q[i].1.ns, .string q[i].1.nm, .slice q[i].2.1 q[i].2.2.1 q[i].2.2.2, .string q[i].1.tt] 24)) = .ok (.slice a8 n8 c8) U2) ∧ Mq W1 U2 a8 n8 c8 (q7 ++ [(renO k q[i].1, q[i].2)])) := fun V kV => by
        have A9 : Ao W1 (renO k q[i].1, q[i].2) := hAo
        exact (M.kept kV).one (renO k q[i].1, q[i].2) (A9.kept (M.kept kV).kp) (by omega)
      clear HI HA HSm HDn HI2 hmem hAo M hq7 hl7 hq9 s0 HRy
      generalize q[i] = x at *
      obtain ⟨⟨okd, ond, opa, orf, oty, ons, onm, oal, ott⟩, op⟩ := x
      simp only at *
      obtain ⟨V0, hV0⟩ : ∃ W, (wr.alloc (.cells #[.int .i64 okd, .int .i64 ond, .int .i64 opa, .int .i64 orf, .int .i64 oty, .int .i64 ons, .string onm, .slice op.1 op.2.1 op.2.2, .string ott] 24)).alloc (.cells #[.pointer (some ⟨wr.heap.size, 1, none⟩), .pointer (some ⟨wr.heap.size, 2, none⟩), .pointer (some ⟨wr.heap.size, 3, none⟩)] 57) = W := ⟨_, rfl⟩
      have A0 : At V0 wr.heap.size #[.int .i64 okd, .int .i64 ond, .int .i64 opa, .int .i64 orf, .int .i64 oty, .int .i64 ons, .string onm, .slice op.1 op.2.1 op.2.2, .string ott] 24 := by rw [← hV0]; exact (At.new wr _ _).over _
      have B0 : At V0 (wr.heap.size + 1) #[.pointer (some ⟨wr.heap.size, 1, none⟩), .pointer (some ⟨wr.heap.size, 2, none⟩), .pointer (some ⟨wr.heap.size, 3, none⟩)] 57 := by
        have := At.new (wr.alloc (.cells #[.int .i64 okd, .int .i64 ond, .int .i64 opa, .int .i64 orf, .int .i64 oty, .int .i64 ons, .string onm, .slice op.1 op.2.1 op.2.2, .string ott] 24)) #[.pointer (some ⟨wr.heap.size, 1, none⟩), .pointer (some ⟨wr.heap.size, 2, none⟩), .pointer (some ⟨wr.heap.size, 3, none⟩)] 57
        rw [hV0, show (wr.alloc (.cells #[.int .i64 okd, .int .i64 ond, .int .i64 opa, .int .i64 orf, .int .i64 oty, .int .i64 ons, .string onm, .slice op.1 op.2.1 op.2.2, .string ott] 24)).heap.size = wr.heap.size + 1 by simp] at this
        exact this
      have K0 : Kp [] wr V0 := by rw [← hV0]; exact ((Kp.refl _ _).alloc _).alloc _
      have HV0 : Hid (_ = V0) := hV0
      have HG : Hid (wr.heap.size ≤ wr.heap.size ∧ wr.heap.size = wr.heap.size) := ⟨Nat.le_refl _, rfl⟩
      have HK : Hid (∀ V v j, Kp [] wr V → Kp [] wr (V.setCell ⟨wr.heap.size, j, none⟩ v)) := fun V v j kV => kV.setCell (p := ⟨wr.heap.size, j, none⟩) (Or.inr (Nat.le_refl _)) v
      clear hV0
      go_wp2_with fail
      rw [HV0.out]
      clear HV0 f0 f1 f2 f3 f4 f5 f6 f7 f8
      have H0 : Hid (At V0 wr.heap.size #[.int .i64 okd, .int .i64 ond, .int .i64 opa, .int .i64 orf, .int .i64 oty, .int .i64 ons, .string onm, .slice op.1 op.2.1 op.2.2, .string ott] 24 ∧ At V0 (wr.heap.size + 1) #[.pointer (some ⟨wr.heap.size, 1, none⟩), .pointer (some ⟨wr.heap.size, 2, none⟩), .pointer (some ⟨wr.heap.size, 3, none⟩)] 57 ∧ Kp [] wr V0) := ⟨A0, B0, K0⟩
      clear A0 B0 K0
      obtain ⟨g, hg⟩ : ∃ g, wr.heap.size = g := ⟨_, rfl⟩
      rw [hg] at H0 HK ⊢
      obtain ⟨wb, hwb⟩ : ∃ x, x = wr := ⟨_, rfl⟩
      rw [← hwb] at H0 HK HAp
      clear HG hg hwb
      try rw [show decide ((i : Int) < (q.length : Int)) = true from decide_eq_true j1]
      go_loopw [42] (fun v wx => ∃ (j : Nat) (x1 x2 x3 : Int), v = .int .i64 (j : Int) ∧ j ≤ 3 ∧ x1 = (if 1 ≤ j then rho k ond else ond) ∧ x2 = (if 2 ≤ j then rho k opa else opa) ∧ x3 = (if 3 ≤ j then rho k orf else orf) ∧ At wx g #[.int .i64 okd, .int .i64 x1, .int .i64 x2, .int .i64 x3, .int .i64 oty, .int .i64 ons, .string onm, .slice op.1 op.2.1 op.2.2, .string ott] 24 ∧ At wx (g + 1) #[.pointer (some ⟨g, 1, none⟩), .pointer (some ⟨g, 2, none⟩), .pointer (some ⟨g, 3, none⟩)] 57 ∧ Kp [] wb wx) (fun v _ => 3 - (intOf v).toNat)
      case atStart => exact ⟨0, ond, opa, orf, rfl, by omega, rfl, rfl, rfl, H0.out⟩
      case round =>
        obtain ⟨j, x1, x2, x3, rfl, hj, e1, e2, e3, A, B, K⟩ := hrel
        clear H0
        by_cases hj3 : j < 3
        · clear HAp hq8
          obtain rfl | rfl | rfl : j = 0 ∨ j = 1 ∨ j = 2 := by omega
          · have e1 : x1 = ond := e1
            have e2 : x2 = opa := e2
            have e3 : x3 = orf := e3
            rw [e1, e2, e3] at A
            clear e1 e2 e3
            have c1 := A.cell 1
            have c2 := B.cell 0
            have fr := A.free 1
            simp at c1 c2
            rw [show ((0 : Nat) : Int) = 0 from rfl]
            by_cases hp : 0 < ond
            · have hrho : rho k ond = ond * 3 + k := by unfold rho; rw [if_pos hp]
              have w1 : IntKind.i64.wrap (ond * 3) = ond * 3 := by simp [IntKind.wrap, IntKind.bits, IntKind.signed]; omega
              have w2 : IntKind.i64.wrap (ond * 3 + k) = ond * 3 + k := by simp [IntKind.wrap, IntKind.bits, IntKind.signed]; omega
              have A2 : Hid (At (wr.setCell ⟨g, 1, none⟩ (.int .i64 (ond * 3 + k))) g #[.int .i64 okd, .int .i64 (rho k ond), .int .i64 (opa), .int .i64 (orf), .int .i64 oty, .int .i64 ons, .string onm, .slice op.1 op.2.1 op.2.2, .string ott] 24) := by
                have := A.set 1 (.int .i64 (ond * 3 + k))
                rw [hrho]
                exact this
              have B2 : Hid (At (wr.setCell ⟨g, 1, none⟩ (.int .i64 (ond * 3 + k))) (g + 1) #[.pointer (some ⟨g, 1, none⟩), .pointer (some ⟨g, 2, none⟩), .pointer (some ⟨g, 3, none⟩)] 57) := B.kept ((Kp.refl [g] _).setCell (p := ⟨g, 1, none⟩) (Or.inl (by simp)) _) (by simp)
              have K2 : Hid _ := HK.out _ (.int .i64 (ond * 3 + k)) 1 K
              clear A B K HK hrho
              go_wp2
              go_roundw
              case rel => exact ⟨1, _, _, _, by go_num, by omega, rfl, rfl, rfl, A2.out, B2.out, K2.out⟩
              case measure => simp [intOf]
            · have hrho : rho k ond = ond := by unfold rho; rw [if_neg hp]
              have t0 : decide (0 < ond) = false := decide_eq_false hp
              have A2 : Hid (At wr g #[.int .i64 okd, .int .i64 (rho k ond), .int .i64 (opa), .int .i64 (orf), .int .i64 oty, .int .i64 ons, .string onm, .slice op.1 op.2.1 op.2.2, .string ott] 24) := by
                rw [hrho]
                exact A
              have B2 : Hid _ := B
              have K2 : Hid _ := K
              clear A B K HK hrho hp
              go_wp2
              go_roundw
              case rel => exact ⟨1, _, _, _, by go_num, by omega, rfl, rfl, rfl, A2.out, B2.out, K2.out⟩
              case measure => simp [intOf]
          · have e1 : x1 = rho k ond := e1
            have e2 : x2 = opa := e2
            have e3 : x3 = orf := e3
            rw [e1, e2, e3] at A
            clear e1 e2 e3
            have c1 := A.cell 2
            have c2 := B.cell 1
            have fr := A.free 2
            simp at c1 c2
            rw [show ((1 : Nat) : Int) = 1 from rfl]
            by_cases hp : 0 < opa
            · have hrho : rho k opa = opa * 3 + k := by unfold rho; rw [if_pos hp]
              have w1 : IntKind.i64.wrap (opa * 3) = opa * 3 := by simp [IntKind.wrap, IntKind.bits, IntKind.signed]; omega
              have w2 : IntKind.i64.wrap (opa * 3 + k) = opa * 3 + k := by simp [IntKind.wrap, IntKind.bits, IntKind.signed]; omega
              have A2 : Hid (At (wr.setCell ⟨g, 2, none⟩ (.int .i64 (opa * 3 + k))) g #[.int .i64 okd, .int .i64 (rho k ond), .int .i64 (rho k opa), .int .i64 (orf), .int .i64 oty, .int .i64 ons, .string onm, .slice op.1 op.2.1 op.2.2, .string ott] 24) := by
                have := A.set 2 (.int .i64 (opa * 3 + k))
                rw [hrho]
                exact this
              have B2 : Hid (At (wr.setCell ⟨g, 2, none⟩ (.int .i64 (opa * 3 + k))) (g + 1) #[.pointer (some ⟨g, 1, none⟩), .pointer (some ⟨g, 2, none⟩), .pointer (some ⟨g, 3, none⟩)] 57) := B.kept ((Kp.refl [g] _).setCell (p := ⟨g, 2, none⟩) (Or.inl (by simp)) _) (by simp)
              have K2 : Hid _ := HK.out _ (.int .i64 (opa * 3 + k)) 2 K
              clear A B K HK hrho
              go_wp2
              go_roundw
              case rel => exact ⟨2, _, _, _, by go_num, by omega, rfl, rfl, rfl, A2.out, B2.out, K2.out⟩
              case measure => simp [intOf]
            · have hrho : rho k opa = opa := by unfold rho; rw [if_neg hp]
              have t0 : decide (0 < opa) = false := decide_eq_false hp
              have A2 : Hid (At wr g #[.int .i64 okd, .int .i64 (rho k ond), .int .i64 (rho k opa), .int .i64 (orf), .int .i64 oty, .int .i64 ons, .string onm, .slice op.1 op.2.1 op.2.2, .string ott] 24) := by
                rw [hrho]
                exact A
              have B2 : Hid _ := B
              have K2 : Hid _ := K
              clear A B K HK hrho hp
              go_wp2
              go_roundw
              case rel => exact ⟨2, _, _, _, by go_num, by omega, rfl, rfl, rfl, A2.out, B2.out, K2.out⟩
              case measure => simp [intOf]
          · have e1 : x1 = rho k ond := e1
            have e2 : x2 = rho k opa := e2
            have e3 : x3 = orf := e3
            rw [e1, e2, e3] at A
            clear e1 e2 e3
            have c1 := A.cell 3
            have c2 := B.cell 2
            have fr := A.free 3
            simp at c1 c2
            rw [show ((2 : Nat) : Int) = 2 from rfl]
            by_cases hp : 0 < orf
            · have hrho : rho k orf = orf * 3 + k := by unfold rho; rw [if_pos hp]
              have w1 : IntKind.i64.wrap (orf * 3) = orf * 3 := by simp [IntKind.wrap, IntKind.bits, IntKind.signed]; omega
              have w2 : IntKind.i64.wrap (orf * 3 + k) = orf * 3 + k := by simp [IntKind.wrap, IntKind.bits, IntKind.signed]; omega
              have A2 : Hid (At (wr.setCell ⟨g, 3, none⟩ (.int .i64 (orf * 3 + k))) g #[.int .i64 okd, .int .i64 (rho k ond), .int .i64 (rho k opa), .int .i64 (rho k orf), .int .i64 oty, .int .i64 ons, .string onm, .slice op.1 op.2.1 op.2.2, .string ott] 24) := by
                have := A.set 3 (.int .i64 (orf * 3 + k))
                rw [hrho]
                exact this
              have B2 : Hid (At (wr.setCell ⟨g, 3, none⟩ (.int .i64 (orf * 3 + k))) (g + 1) #[.pointer (some ⟨g, 1, none⟩), .pointer (some ⟨g, 2, none⟩), .pointer (some ⟨g, 3, none⟩)] 57) := B.kept ((Kp.refl [g] _).setCell (p := ⟨g, 3, none⟩) (Or.inl (by simp)) _) (by simp)
              have K2 : Hid _ := HK.out _ (.int .i64 (orf * 3 + k)) 3 K
              clear A B K HK hrho
              go_wp2
              go_roundw
              case rel => exact ⟨3, _, _, _, by go_num, by omega, rfl, rfl, rfl, A2.out, B2.out, K2.out⟩
              case measure => simp [intOf]
            · have hrho : rho k orf = orf := by unfold rho; rw [if_neg hp]
              have t0 : decide (0 < orf) = false := decide_eq_false hp
              have A2 : Hid (At wr g #[.int .i64 okd, .int .i64 (rho k ond), .int .i64 (rho k opa), .int .i64 (rho k orf), .int .i64 oty, .int .i64 ons, .string onm, .slice op.1 op.2.1 op.2.2, .string ott] 24) := by
                rw [hrho]
                exact A
              have B2 : Hid _ := B
              have K2 : Hid _ := K
              clear A B K HK hrho hp
              go_wp2
              go_roundw
              case rel => exact ⟨3, _, _, _, by go_num, by omega, rfl, rfl, rfl, A2.out, B2.out, K2.out⟩
              case measure => simp [intOf]
        · obtain rfl : j = 3 := by omega
          have e1 : x1 = rho k ond := e1
          have e2 : x2 = rho k opa := e2
          have e3 : x3 = rho k orf := e3
          rw [e1, e2, e3] at A
          obtain ⟨a8, n8, c8, U2, hrun, M8⟩ := HAp.out _ K
          have c0 := A.cell 0
          have c1 := A.cell 1
          have c2 := A.cell 2
          have c3 := A.cell 3
          have c4 := A.cell 4
          have c5 := A.cell 5
          have c6 := A.cell 6
          have c7' := A.cell 7
          have c8' := A.cell 8
          simp at c0 c1 c2 c3 c4 c5 c6 c7' c8'
          have M8 : Hid _ := M8
          clear A B K HK HAp e1 e2 e3 hj3 hj
          rw [show ((3 : Nat) : Int) = 3 from rfl]
          generalize rho k ond = y1 at *
          generalize rho k opa = y2 at *
          generalize rho k orf = y3 at *
          go_wp2_with (at_builtin; refine Lib.wpList_append_run _ rfl _ _ _ _ rfl _ _ rfl rfl _ _ (hrun _) ?_)
          go_roundw
          case rel => exact ⟨i + 1, a8, n8, c8, _, by go_num, rfl, by omega, M8.out, hq8.out⟩
          case measure => simp [intOf]; omega
    · obtain rfl : i = q.length := by omega
      rw [List.take_of_length_le (by simp)] at hq7
      have hti : ∀ p, p ∈ q7 → tinyO p.1 := fun p hp => by
        have h1 : p.1 ∈ (os q).map (renO k) := by rw [← hq7]; exact List.mem_map.2 ⟨p, hp, rfl⟩
        obtain ⟨o, ho, e⟩ := List.mem_map.1 h1
        obtain ⟨x, hx, rfl⟩ := List.mem_map.1 ho
        rw [← e]
        exact tiny_ren (HRy.out.ti x hx)
      obtain ⟨hd7, hf7⟩ := Py.done_ren (k := k) hk0 hk1 Py.first_nn HSm.out HDn.out
      rw [Py.first_ren, ← hq7] at hd7 hf7
      have hl7 : n7 = q.length := by
        have h1 := M.len
        have h2 : (os q7).length = q7.length := by simp
        rw [hq7] at h2
        simp at h2
        omega
      subst hl7
      have ry7 : Ry wr a7 q.length c7 q7 := ⟨M.rq, fun p hp => Rk.of_own (M.ar p hp) rfl (fun _ _ => trivial), hti⟩
      have fit : (fin q).Fit (os q).length := by
        have := Py.Fit.aft (L := os q) Py.first_fit (fun o ho => by
          obtain ⟨x, hx, rfl⟩ := List.mem_map.1 ho
          exact HRy.out.ti x hx) (by simp; omega)
        rw [Nat.zero_add] at this
        exact this
      have HD := replay_ok (HRy.out.kept M.kp) (by omega) HDn.out
      have HD2 : Hid (∀ V, Kp [] wr V → Calls Tryz.prog 18 #[.slice a7 q.length c7] V fun e w' => ∃ a tag, e = .returned (.tuple #[.pointer (some ⟨a, 0, none⟩), .int .i64 (q.length : Int), .int .i64 0]) ∧ Ps tag w' a (fin q).q (fin q).A q.length ∧ Kp [] V w') := fun V kV => by
        have := replay_ok (ry7.kept kV) (by omega) hd7
        rw [show fin q7 = (fin q).ren k from hf7] at this
        exact this
      have kB : Hid (Kp [] w wr) := k01.out.trans M.kp (fun z hz => Or.inl hz)
      generalize fin q = s at *
      have HPu : Hid (∀ V tag a k, Ps tag V a s.q s.A k → Calls Tryz.prog 14 #[.pointer (some ⟨a, 0, none⟩), .int .i64 0] V fun e W => ∃ p : Pl, e = .returned (.tuple #[.agg (t6 (s.A.lb 0) p), .int .i64 0]) ∧ Kp [] V W ∧ Nd Any W (s.A.lb 0) (s.A.below 0) p) := fun V tag a k P => by
        refine (P.pure 0 fit.pos).mono ?_
        rintro e W ⟨p, rfl, k1, n1⟩
        exact ⟨p, rfl, k1, n1.any⟩
      have HTt : Hid (∀ V p p', Nd Any V (s.A.lb 0) (s.A.below 0) p → Nd Any V (s.A.lb 0) (s.A.below 0) p' → Calls Tryz.prog 17 #[.agg (t6 (s.A.lb 0) p), .agg (t6 (s.A.lb 0) p')] V fun e w' => e = .returned (.bool true) ∧ Kp [] V w') := fun V p p' n1 n2 => same_tree fit V 0 p p' n1 n2
      have t2 : ((q.length : Int) != (q.length : Int)) = false := by simp
      clear M hti hd7 hf7 hq7 ry7 HI HSm HDn HA HRy fit hlt hi
      go_wp2_with (first | (go_at_call 10; refine (known_any _).mono ?_; rintro e W9 ⟨rfl, k9⟩) | (go_at_call 17; refine HT6.mono ?_; rintro e W7 ⟨rfl, k7⟩; have K7 := K6.trans k7 (fun z hz => Or.inl hz)) | (go_at_call 14; refine HP5.mono ?_; rintro e W6 ⟨p6, rfl, k6, n6⟩; have A6 := (A5.kept k6 (by simp)).over (.cells (t6 (s.A.lb 0) p6) 40); have B6 := At.new W6 (t6 (s.A.lb 0) p6) 40; obtain ⟨x0, x1, x2, x3, x4, x5⟩ := A6.six; obtain ⟨y0, y1, y2, y3, y4, y5⟩ := B6.six; have k46 := k6.alloc (.cells (t6 (s.A.lb 0) p6) 40); have HT6 := HTt.out _ p p6 (n4'.kept k46) (n6.kept ((Kp.refl [] _).alloc _)).any; have K6 := K5.trans k46 (fun z hz => Or.inl hz); clear A5 n4' n6 k6) | (go_at_call 14; refine HP4.mono ?_; rintro e W4 ⟨p, rfl, k4, n4⟩; have k45 := k4.alloc (.cells (t6 (s.A.lb 0) p) 40); have A5 := At.new W4 (t6 (s.A.lb 0) p) 40; have n4' := n4.kept ((Kp.refl [] _).alloc (.cells (t6 (s.A.lb 0) p) 40)); have K5 := K3.trans k45 (fun z hz => Or.inl hz); have HP5 := HPu.out _ _ _ _ (PR2.kept k45); clear k4 n4) | (go_at_call 18; refine HD3.mono ?_; rintro e W3 ⟨a3, tag3, rfl, PR2, k23⟩; have K3 := K2.trans k23 (fun z hz => Or.inl hz); have HP4 := HPu.out _ _ _ _ (PR.kept k23)) | (go_at_call 18; refine HD.mono ?_; rintro e W2 ⟨a2, tag2, rfl, PR, K2⟩; have HD3 := HD2.out _ K2))
      go_ret
      exact ⟨by simp, (kB.out.trans K7 (fun z hz => Or.inl hz)).trans k9 (fun z hz => Or.inl hz)⟩

end Go.Proofs.YtpkppobkagdhkaaGreat
