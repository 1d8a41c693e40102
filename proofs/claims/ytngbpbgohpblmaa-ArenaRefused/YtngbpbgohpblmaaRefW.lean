/-
  ArenaRefused: a call that is refused changes nothing.
-/
import Derived.Test.YtngbpbgohpblmaaRefP
import Derived.Test.YtngbpbgohpblmaaAll
namespace Go.Proofs.Ytngbpbgohpblmaa
open Go.RowKit Go.Maps Utf
set_option linter.unusedVariables false
set_option linter.unusedSimpArgs false

set_option maxRecDepth 100000 in
set_option maxHeartbeats 4000000 in
theorem refused_any (w : World) (ao : Option Addr) (n c : Nat) (F : Nat → Aq) (hin : Ain w ao n c F) :
    Calls Try.prog 7 #[.slice ao n c] w fun e w' => e = .returned (.bool true) ∧ Kp [] w w' := by
  obtain ⟨HN, HR⟩ := new2 w
  have HN := HN.out
  have HD := do_at hin
  have hmx := hin.max
  clear hin
  go_enter Try.func7, Try.ntmps7
  go_wp2_with (first | (go_at_call 9; refine HN.mono ?_; rintro e w1 ⟨b, tag1, rfl, p1, m1⟩) | (go_at_call 10; refine (HR.out _ _ _ p1 m1).mono ?_; rintro e w2 ⟨d, tag2, rfl, B2, v2⟩))
  have H0 : Hid (Bo tag2 w2 b d false Ar.first 0 ∧ Bv (fun _ => 0) w tag2 w2) := ⟨B2, v2⟩
  clear HN HR p1 m1 B2 v2
  go_loopw [5] (fun v wr => ∃ (i : Nat) (tag : Nat → Nat) (q : Bool) (A : Ar), v = .int .i64 (i : Int) ∧ i ≤ 40 ∧ i ≤ n ∧ Bo tag wr b d q A i ∧ Bv (fun _ => 0) w tag wr) (fun v _ => 40 - (intOf v).toNat)
  case atStart => exact ⟨0, tag2, false, Ar.first, rfl, by omega, by omega, H0.out.1, H0.out.2⟩
  case round =>
    obtain ⟨i, tag, q, A, rfl, h5, hn, B, v⟩ := hrel
    clear H0
    by_cases hi : i < n ∧ i < 40
    · obtain ⟨hin, hi5⟩ := hi
      obtain ⟨b0, off, p, rfl, HD2⟩ := HD.out i hin
      have HC : Hid (∀ U, Kp [] wr U → U.cell? ⟨b0, off + i * 9, none⟩ = some (.int .i64 (F i).kd) ∧ U.cell? ⟨b0, off + i * 9 + 1, none⟩ = some (.int .i64 (F i).za) ∧ U.cell? ⟨b0, off + i * 9 + 2, none⟩ = some (.int .i64 (F i).zb) ∧ U.cell? ⟨b0, off + i * 9 + 3, none⟩ = some (.int .i64 (F i).ty) ∧ U.cell? ⟨b0, off + i * 9 + 4, none⟩ = some (.int .i64 (F i).ns) ∧ U.cell? ⟨b0, off + i * 9 + 5, none⟩ = some (.string (F i).nm) ∧ U.cell? ⟨b0, off + i * 9 + 6, none⟩ = some (.string (F i).tx) ∧ U.cell? ⟨b0, off + i * 9 + 7, none⟩ = some (.slice p.1 p.2.1 p.2.2) ∧ U.cell? ⟨b0, off + i * 9 + 8, none⟩ = some (.bool (F i).fl)) := (HD2 tag wr b d q A i B v (by omega)).1
      have HDo : Hid (∀ tag2 V, Bo tag2 V b d q A i → Bv (fun _ => 0) w tag2 V → Calls Try.prog 11 #[.pointer (some ⟨b, 0, none⟩), .pointer (some ⟨d, 0, none⟩), .agg #[.int .i64 (F i).kd, .int .i64 (F i).za, .int .i64 (F i).zb, .int .i64 (F i).ty, .int .i64 (F i).ns, .string (F i).nm, .string (F i).tx, .slice p.1 p.2.1 p.2.2, .bool (F i).fl]] V fun e w' => e = .returned (.bool true) ∧ ∃ tag' q' A', Bo tag' w' b d q' A' (i + 1) ∧ Bv (fun _ => 0) w tag' w') := fun tag2 V B2 v2 => (HD2 tag2 V b d q A i B2 v2 (by omega)).2
      have j0 : (0 : Int) ≤ (i : Int) := by omega
      have j1 : (i : Int) < (n : Int) := by omega
      have j2 : (i : Int) < 40 := by omega
      have hpos := B.ps.ful.toOk.pos
      have HP0 := B.pure 0 hpos
      rw [show ((0 : Nat) : Int) = 0 from rfl] at HP0
      unfold wv at HP0
      have HL : Hid (∀ V, Kp [] wr V → Calls Try.prog 15 #[.pointer (some ⟨b, 0, none⟩)] V fun e w' => e = .returned (.int .i64 (A.n : Int)) ∧ w' = V) := fun V kV => (B.ps.kept kV).len
      have HV : Hid (Bo tag wr b d q A i ∧ Bv (fun _ => 0) w tag wr) := ⟨B, v⟩
      clear HD HD2 B v
      generalize F i = x at *
      obtain ⟨kd, za, zb, ty, ns, nm, tx, l, fl⟩ := x
      simp only at HC HDo
      go_upto_region 8 with (go_at_call 20; refine HP0.mono ?_; rintro e W1 ⟨p0, rfl, k1, n1⟩)
      obtain ⟨W2, hW2⟩ : ∃ W, W = W1.alloc (.cells #[.int .i64 (A.lb 0).kind, .int .i64 (A.lb 0).ns, .string (A.lb 0).name, .slice p0.1.1 p0.1.2.1 p0.1.2.2, .string (A.lb 0).text, .slice p0.2.1 p0.2.2.1 p0.2.2.2] 42) := ⟨_, rfl⟩
      have k12 : Kp [] W1 W2 := by rw [hW2]; exact (Kp.refl _ _).alloc _
      have a6 : At W2 W1.heap.size #[.int .i64 (A.lb 0).kind, .int .i64 (A.lb 0).ns, .string (A.lb 0).name, .slice p0.1.1 p0.1.2.1 p0.1.2.2, .string (A.lb 0).text, .slice p0.2.1 p0.2.2.1 p0.2.2.2] 42 := by rw [hW2]; exact At.new _ _ _
      rw [← hW2]
      clear hW2
      have hg6' : wr.heap.size ≤ W1.heap.size := k1.size
      obtain ⟨g6, hg6⟩ : ∃ g, W1.heap.size = g := ⟨_, rfl⟩
      rw [hg6] at a6 hg6' ⊢
      clear hg6
      have k2 : Kp [] wr W2 := k1.trans k12 (fun z hz => Or.inl hz)
      obtain ⟨f0, f1, f2, f3, f4, f5, f6, f7, f8⟩ := HC.out _ k2
      have HL2 := HL.out _ k2
      go_upto_region 10 with (go_at_call 15; refine (HL2).mono ?_; rintro e w9 ⟨rfl, hw⟩; have hw2 := hw.symm; clear hw; subst hw2)
      clear HL2 f0 f1 f2 f3 f4 f5 f6 f7 f8
      obtain ⟨W3, hW3⟩ : ∃ W, W = W2.alloc (.cells #[.int .i64 kd, .int .i64 za, .int .i64 zb, .int .i64 ty, .int .i64 ns, .string nm, .string tx, .slice p.1 p.2.1 p.2.2, .bool fl] 30) := ⟨_, rfl⟩
      have k23 : Kp [] W2 W3 := by rw [hW3]; exact (Kp.refl _ _).alloc _
      have a9 : At W3 W2.heap.size #[.int .i64 kd, .int .i64 za, .int .i64 zb, .int .i64 ty, .int .i64 ns, .string nm, .string tx, .slice p.1 p.2.1 p.2.2, .bool fl] 30 := by rw [hW3]; exact At.new _ _ _
      rw [← hW3]
      clear hW3
      have hg9' : wr.heap.size ≤ W2.heap.size := k2.size
      obtain ⟨g9, hg9⟩ : ∃ g, W2.heap.size = g := ⟨_, rfl⟩
      rw [hg9] at a9 hg9' ⊢
      clear hg9
      have k3 : Kp [] wr W3 := k2.trans k23 (fun z hz => Or.inl hz)
      have a6 := a6.kept k23 (by simp)
      -- both arenas, the new blocks of a mark of their own
      have B3 : Bo (tg0 tag wr) W3 b d q A i := HV.out.1.re k3 (fun x hx => tg0_lt hx)
      have v3 : Bv (fun _ => 0) w (tg0 tag wr) W3 := HV.out.2.trans (Bv.of_kp k3 (fun x hx => tg0_lt hx))
      have q6 : Nq (tg0 tag wr g6) := tg0_nq hg6'
      have q9 : Nq (tg0 tag wr g9) := tg0_nq hg9'
      have n3 : Nd (fun y => Nq (tg0 tag wr y)) W3 (A.lb 0) (A.below 0) p0 := ((n1.mono (fun y _ hy => tg0_nq hy)).kept k12).kept k23
      generalize tg0 tag wr = tag1 at *
      have H9 : Hid (∀ tag2 V, Bv tag1 W3 tag2 V → V.cell? ⟨g9, 0, none⟩ = some (.int .i64 kd) ∧ V.cell? ⟨g9, 1, none⟩ = some (.int .i64 za) ∧ V.cell? ⟨g9, 2, none⟩ = some (.int .i64 zb) ∧ V.cell? ⟨g9, 3, none⟩ = some (.int .i64 ty) ∧ V.cell? ⟨g9, 4, none⟩ = some (.int .i64 ns) ∧ V.cell? ⟨g9, 5, none⟩ = some (.string nm) ∧ V.cell? ⟨g9, 6, none⟩ = some (.string tx) ∧ V.cell? ⟨g9, 7, none⟩ = some (.slice p.1 p.2.1 p.2.2) ∧ V.cell? ⟨g9, 8, none⟩ = some (.bool fl)) := fun tag2 V vv => by
        have := a9.bv vv q9
        exact ⟨this.cell 0, this.cell 1, this.cell 2, this.cell 3, this.cell 4, this.cell 5, this.cell 6, this.cell 7, this.cell 8⟩
      have H6 : Hid (∀ tag2 V, Bv tag1 W3 tag2 V → V.cell? ⟨g6, 0, none⟩ = some (.int .i64 (A.lb 0).kind) ∧ V.cell? ⟨g6, 1, none⟩ = some (.int .i64 (A.lb 0).ns) ∧ V.cell? ⟨g6, 2, none⟩ = some (.string (A.lb 0).name) ∧ V.cell? ⟨g6, 3, none⟩ = some (.slice p0.1.1 p0.1.2.1 p0.1.2.2) ∧ V.cell? ⟨g6, 4, none⟩ = some (.string (A.lb 0).text) ∧ V.cell? ⟨g6, 5, none⟩ = some (.slice p0.2.1 p0.2.2.1 p0.2.2.2)) := fun tag2 V vv => (a6.bv vv q6).six
      have HN3 : Hid (∀ tag2 V, Bv tag1 W3 tag2 V → Nd Any V (A.lb 0) (A.below 0) p0) := fun tag2 V vv => (n3.keep vv.sm).any
      have B3h : Hid (Bo tag1 W3 b d q A i) := B3
      have v3h : Hid (Bv (fun _ => 0) w tag1 W3) := v3
      obtain ⟨f0, f1, f2, f3, f4, f5, f6, f7, f8⟩ := H9.out _ _ (Bv.refl _ _)
      clear B3 v3 a6 a9 q6 q9 n3 n1 HC HP0 HV HL k1 k12 k2 k23 k3 hg6' hg9'
      have HT : Hid (∀ V p', Nd Any V (A.lb 0) (A.below 0) p0 → Nd Any V (A.lb 0) (A.below 0) p' → Calls Try.prog 22 #[wv (A.lb 0) p0, wv (A.lb 0) p'] V fun e w' => e = .returned (.bool true) ∧ Kp [] V w') := fun V p' m1 m2 => B3h.out.tree V 0 p0 p' m1 m2
      unfold wv at HT
      by_cases e2 : kd = 2
      · subst e2
        obtain ⟨HP, HDc⟩ := B3h.out.app2 (by omega) za zb
        have HDc : Hid _ := HDc
        have hno : Hid ((A.appF za zb).2 ≠ 0 → (A.appF za zb).1 = A) := Ar.appF_no
        generalize (A.appF za zb).1 = A9 at *
        generalize (A.appF za zb).2 = ev at *
        have HPu : Hid (∀ tag5 V, Bo tag5 V b d q A9 (i + 1) → Calls Try.prog 20 #[.pointer (some ⟨b, 0, none⟩), .int .i64 0] V fun e w' => ∃ p, e = .returned (.tuple #[wv (A9.lb 0) p, .int .i64 0]) ∧ Kp [] V w' ∧ Nd Any w' (A9.lb 0) (A9.below 0) p) := fun tag5 V B5 => by
          refine (B5.pure 0 B5.ps.ful.toOk.pos).mono ?_
          rintro e w' ⟨p, rfl, k1, n1⟩
          exact ⟨p, rfl, k1, n1.any⟩
        unfold wv at HPu
        clear HDo
        by_cases hev : ev = 0
        · subst hev
          clear hno
          go_wp2_with (first | (go_at_call 23; refine Calls.mono HP ?_; rintro e W4 ⟨rfl, tag4, p4, m4⟩; obtain ⟨f0, f1, f2, f3, f4, f5, f6, f7, f8⟩ := H9.out _ _ m4.bv) | (go_at_call 27; refine (HDc.out _ _ p4 m4).mono ?_; rintro e W5 ⟨rfl, tag5, B5, v5⟩) | (go_at_call 20; refine (HPu.out _ _ B5).mono ?_; rintro e W6 ⟨p6, rfl, k6, n6⟩))
          go_roundw
          case rel =>
            have k7 : Kp [] W5 (W6.alloc (.cells #[.int .i64 (A9.lb 0).kind, .int .i64 (A9.lb 0).ns, .string (A9.lb 0).name, .slice p6.1.1 p6.1.2.1 p6.1.2.2, .string (A9.lb 0).text, .slice p6.2.1 p6.2.2.1 p6.2.2.2] 42)) := k6.alloc _
            exact ⟨i + 1, tag5, q, A9, by go_num, by omega, by omega, B5.kept k7, (v3h.out.trans v5).trans (Bv.of_kp k7 (fun _ _ => rfl))⟩
          case measure => simp [intOf]; omega
        · obtain rfl : A9 = A := hno.out hev
          have hev2 : (ev != 0) = true := bne_iff_ne.2 hev
          clear hno hev
          go_upto_region 27 with (first | (go_at_call 23; refine Calls.mono HP ?_; rintro e W4 ⟨rfl, tag4, p4, m4⟩; obtain ⟨f0, f1, f2, f3, f4, f5, f6, f7, f8⟩ := H9.out _ _ m4.bv) | (go_at_call 27; refine (HDc.out _ _ p4 m4).mono ?_; rintro e W5 ⟨rfl, tag5, B5, v5⟩) | (go_at_call 20; refine (HPu.out _ _ B5).mono ?_; rintro e W6 ⟨p6, rfl, k6, n6⟩))
          obtain ⟨W7, hW7⟩ : ∃ W, W = W6.alloc (.cells #[.int .i64 (A9.lb 0).kind, .int .i64 (A9.lb 0).ns, .string (A9.lb 0).name, .slice p6.1.1 p6.1.2.1 p6.1.2.2, .string (A9.lb 0).text, .slice p6.2.1 p6.2.2.1 p6.2.2.2] 42) := ⟨_, rfl⟩
          have k67 : Kp [] W6 W7 := by rw [hW7]; exact (Kp.refl _ _).alloc _
          obtain ⟨x0, x1, x2, x3, x4, x5⟩ := (show At W7 W6.heap.size #[.int .i64 (A9.lb 0).kind, .int .i64 (A9.lb 0).ns, .string (A9.lb 0).name, .slice p6.1.1 p6.1.2.1 p6.1.2.2, .string (A9.lb 0).text, .slice p6.2.1 p6.2.2.1 p6.2.2.2] 42 by rw [hW7]; exact At.new _ _ _).six
          rw [← hW7]
          clear hW7
          have k7 : Kp [] W5 W7 := k6.trans k67 (fun z hz => Or.inl hz)
          have v7 : Bv tag1 W3 tag5 W7 := v5.trans (Bv.of_kp k7 (fun _ _ => rfl))
          obtain ⟨y0, y1, y2, y3, y4, y5⟩ := H6.out _ _ v7
          have HL7 := (B5.ps.kept k7).len
          have HT7 := HT.out W7 p6 (HN3.out _ _ v7) (n6.kept k67)
          have H7 : Hid (Bo tag5 W7 b d q A9 (i + 1) ∧ Bv (fun _ => 0) w tag5 W7) := ⟨B5.kept k7, v3h.out.trans v7⟩
          clear B5 v5 n6 k6 k67 f0 f1 f2 f3 f4 f5 f6 f7 f8
          go_wp2_with (first | (go_at_call 15; refine (HL7).mono ?_; rintro e w9 ⟨rfl, hw⟩; have hw2 := hw.symm; clear hw; subst hw2) | (go_at_call 22; refine HT7.mono ?_; rintro e W8 ⟨rfl, k8⟩))
          go_roundw
          case rel => exact ⟨i + 1, tag5, q, A9, by go_num, by omega, by omega, H7.out.1.kept k8, H7.out.2.trans (Bv.of_kp k8 (fun _ _ => rfl))⟩
          case measure => simp [intOf]; omega
      by_cases e3 : kd = 3
      · subst e3
        obtain ⟨HP, HDc⟩ := B3h.out.bef2 (by omega) za zb
        have HDc : Hid _ := HDc
        have hno : Hid ((A.befF za zb).2 ≠ 0 → (A.befF za zb).1 = A) := Ar.befF_no
        generalize (A.befF za zb).1 = A9 at *
        generalize (A.befF za zb).2 = ev at *
        have HPu : Hid (∀ tag5 V, Bo tag5 V b d q A9 (i + 1) → Calls Try.prog 20 #[.pointer (some ⟨b, 0, none⟩), .int .i64 0] V fun e w' => ∃ p, e = .returned (.tuple #[wv (A9.lb 0) p, .int .i64 0]) ∧ Kp [] V w' ∧ Nd Any w' (A9.lb 0) (A9.below 0) p) := fun tag5 V B5 => by
          refine (B5.pure 0 B5.ps.ful.toOk.pos).mono ?_
          rintro e w' ⟨p, rfl, k1, n1⟩
          exact ⟨p, rfl, k1, n1.any⟩
        unfold wv at HPu
        clear HDo
        by_cases hev : ev = 0
        · subst hev
          clear hno
          go_wp2_with (first | (go_at_call 28; refine Calls.mono HP ?_; rintro e W4 ⟨rfl, tag4, p4, m4⟩; obtain ⟨f0, f1, f2, f3, f4, f5, f6, f7, f8⟩ := H9.out _ _ m4.bv) | (go_at_call 29; refine (HDc.out _ _ p4 m4).mono ?_; rintro e W5 ⟨rfl, tag5, B5, v5⟩) | (go_at_call 20; refine (HPu.out _ _ B5).mono ?_; rintro e W6 ⟨p6, rfl, k6, n6⟩))
          go_roundw
          case rel =>
            have k7 : Kp [] W5 (W6.alloc (.cells #[.int .i64 (A9.lb 0).kind, .int .i64 (A9.lb 0).ns, .string (A9.lb 0).name, .slice p6.1.1 p6.1.2.1 p6.1.2.2, .string (A9.lb 0).text, .slice p6.2.1 p6.2.2.1 p6.2.2.2] 42)) := k6.alloc _
            exact ⟨i + 1, tag5, q, A9, by go_num, by omega, by omega, B5.kept k7, (v3h.out.trans v5).trans (Bv.of_kp k7 (fun _ _ => rfl))⟩
          case measure => simp [intOf]; omega
        · obtain rfl : A9 = A := hno.out hev
          have hev2 : (ev != 0) = true := bne_iff_ne.2 hev
          clear hno hev
          go_upto_region 27 with (first | (go_at_call 28; refine Calls.mono HP ?_; rintro e W4 ⟨rfl, tag4, p4, m4⟩; obtain ⟨f0, f1, f2, f3, f4, f5, f6, f7, f8⟩ := H9.out _ _ m4.bv) | (go_at_call 29; refine (HDc.out _ _ p4 m4).mono ?_; rintro e W5 ⟨rfl, tag5, B5, v5⟩) | (go_at_call 20; refine (HPu.out _ _ B5).mono ?_; rintro e W6 ⟨p6, rfl, k6, n6⟩))
          obtain ⟨W7, hW7⟩ : ∃ W, W = W6.alloc (.cells #[.int .i64 (A9.lb 0).kind, .int .i64 (A9.lb 0).ns, .string (A9.lb 0).name, .slice p6.1.1 p6.1.2.1 p6.1.2.2, .string (A9.lb 0).text, .slice p6.2.1 p6.2.2.1 p6.2.2.2] 42) := ⟨_, rfl⟩
          have k67 : Kp [] W6 W7 := by rw [hW7]; exact (Kp.refl _ _).alloc _
          obtain ⟨x0, x1, x2, x3, x4, x5⟩ := (show At W7 W6.heap.size #[.int .i64 (A9.lb 0).kind, .int .i64 (A9.lb 0).ns, .string (A9.lb 0).name, .slice p6.1.1 p6.1.2.1 p6.1.2.2, .string (A9.lb 0).text, .slice p6.2.1 p6.2.2.1 p6.2.2.2] 42 by rw [hW7]; exact At.new _ _ _).six
          rw [← hW7]
          clear hW7
          have k7 : Kp [] W5 W7 := k6.trans k67 (fun z hz => Or.inl hz)
          have v7 : Bv tag1 W3 tag5 W7 := v5.trans (Bv.of_kp k7 (fun _ _ => rfl))
          obtain ⟨y0, y1, y2, y3, y4, y5⟩ := H6.out _ _ v7
          have HL7 := (B5.ps.kept k7).len
          have HT7 := HT.out W7 p6 (HN3.out _ _ v7) (n6.kept k67)
          have H7 : Hid (Bo tag5 W7 b d q A9 (i + 1) ∧ Bv (fun _ => 0) w tag5 W7) := ⟨B5.kept k7, v3h.out.trans v7⟩
          clear B5 v5 n6 k6 k67 f0 f1 f2 f3 f4 f5 f6 f7 f8
          go_wp2_with (first | (go_at_call 15; refine (HL7).mono ?_; rintro e w9 ⟨rfl, hw⟩; have hw2 := hw.symm; clear hw; subst hw2) | (go_at_call 22; refine HT7.mono ?_; rintro e W8 ⟨rfl, k8⟩))
          go_roundw
          case rel => exact ⟨i + 1, tag5, q, A9, by go_num, by omega, by omega, H7.out.1.kept k8, H7.out.2.trans (Bv.of_kp k8 (fun _ _ => rfl))⟩
          case measure => simp [intOf]; omega
      by_cases e5 : kd = 5
      · subst e5
        obtain ⟨HP, HDc⟩ := B3h.out.mov2 (by omega) za zb
        have HDc : Hid _ := HDc
        have hno : Hid ((A.movF za zb).2 ≠ 0 → (A.movF za zb).1 = A) := Ar.movF_no
        generalize (A.movF za zb).1 = A9 at *
        generalize (A.movF za zb).2 = ev at *
        have HPu : Hid (∀ tag5 V, Bo tag5 V b d q A9 (i + 1) → Calls Try.prog 20 #[.pointer (some ⟨b, 0, none⟩), .int .i64 0] V fun e w' => ∃ p, e = .returned (.tuple #[wv (A9.lb 0) p, .int .i64 0]) ∧ Kp [] V w' ∧ Nd Any w' (A9.lb 0) (A9.below 0) p) := fun tag5 V B5 => by
          refine (B5.pure 0 B5.ps.ful.toOk.pos).mono ?_
          rintro e w' ⟨p, rfl, k1, n1⟩
          exact ⟨p, rfl, k1, n1.any⟩
        unfold wv at HPu
        clear HDo
        by_cases hev : ev = 0
        · subst hev
          clear hno
          go_wp2_with (first | (go_at_call 30; refine Calls.mono HP ?_; rintro e W4 ⟨rfl, tag4, p4, m4⟩; obtain ⟨f0, f1, f2, f3, f4, f5, f6, f7, f8⟩ := H9.out _ _ m4.bv) | (go_at_call 31; refine (HDc.out _ _ p4 m4).mono ?_; rintro e W5 ⟨rfl, tag5, B5, v5⟩) | (go_at_call 20; refine (HPu.out _ _ B5).mono ?_; rintro e W6 ⟨p6, rfl, k6, n6⟩))
          go_roundw
          case rel =>
            have k7 : Kp [] W5 (W6.alloc (.cells #[.int .i64 (A9.lb 0).kind, .int .i64 (A9.lb 0).ns, .string (A9.lb 0).name, .slice p6.1.1 p6.1.2.1 p6.1.2.2, .string (A9.lb 0).text, .slice p6.2.1 p6.2.2.1 p6.2.2.2] 42)) := k6.alloc _
            exact ⟨i + 1, tag5, q, A9, by go_num, by omega, by omega, B5.kept k7, (v3h.out.trans v5).trans (Bv.of_kp k7 (fun _ _ => rfl))⟩
          case measure => simp [intOf]; omega
        · obtain rfl : A9 = A := hno.out hev
          have hev2 : (ev != 0) = true := bne_iff_ne.2 hev
          clear hno hev
          go_upto_region 27 with (first | (go_at_call 30; refine Calls.mono HP ?_; rintro e W4 ⟨rfl, tag4, p4, m4⟩; obtain ⟨f0, f1, f2, f3, f4, f5, f6, f7, f8⟩ := H9.out _ _ m4.bv) | (go_at_call 31; refine (HDc.out _ _ p4 m4).mono ?_; rintro e W5 ⟨rfl, tag5, B5, v5⟩) | (go_at_call 20; refine (HPu.out _ _ B5).mono ?_; rintro e W6 ⟨p6, rfl, k6, n6⟩))
          obtain ⟨W7, hW7⟩ : ∃ W, W = W6.alloc (.cells #[.int .i64 (A9.lb 0).kind, .int .i64 (A9.lb 0).ns, .string (A9.lb 0).name, .slice p6.1.1 p6.1.2.1 p6.1.2.2, .string (A9.lb 0).text, .slice p6.2.1 p6.2.2.1 p6.2.2.2] 42) := ⟨_, rfl⟩
          have k67 : Kp [] W6 W7 := by rw [hW7]; exact (Kp.refl _ _).alloc _
          obtain ⟨x0, x1, x2, x3, x4, x5⟩ := (show At W7 W6.heap.size #[.int .i64 (A9.lb 0).kind, .int .i64 (A9.lb 0).ns, .string (A9.lb 0).name, .slice p6.1.1 p6.1.2.1 p6.1.2.2, .string (A9.lb 0).text, .slice p6.2.1 p6.2.2.1 p6.2.2.2] 42 by rw [hW7]; exact At.new _ _ _).six
          rw [← hW7]
          clear hW7
          have k7 : Kp [] W5 W7 := k6.trans k67 (fun z hz => Or.inl hz)
          have v7 : Bv tag1 W3 tag5 W7 := v5.trans (Bv.of_kp k7 (fun _ _ => rfl))
          obtain ⟨y0, y1, y2, y3, y4, y5⟩ := H6.out _ _ v7
          have HL7 := (B5.ps.kept k7).len
          have HT7 := HT.out W7 p6 (HN3.out _ _ v7) (n6.kept k67)
          have H7 : Hid (Bo tag5 W7 b d q A9 (i + 1) ∧ Bv (fun _ => 0) w tag5 W7) := ⟨B5.kept k7, v3h.out.trans v7⟩
          clear B5 v5 n6 k6 k67 f0 f1 f2 f3 f4 f5 f6 f7 f8
          go_wp2_with (first | (go_at_call 15; refine (HL7).mono ?_; rintro e w9 ⟨rfl, hw⟩; have hw2 := hw.symm; clear hw; subst hw2) | (go_at_call 22; refine HT7.mono ?_; rintro e W8 ⟨rfl, k8⟩))
          go_roundw
          case rel => exact ⟨i + 1, tag5, q, A9, by go_num, by omega, by omega, H7.out.1.kept k8, H7.out.2.trans (Bv.of_kp k8 (fun _ _ => rfl))⟩
          case measure => simp [intOf]; omega
      by_cases e7 : kd = 7
      · subst e7
        obtain ⟨HP, HDc⟩ := B3h.out.wb2 (by omega) za ⟨#[116]⟩ (by decide)
        have HDc : Hid _ := HDc
        have hno : Hid ((A.wbF za ⟨#[116]⟩).2 ≠ 0 → (A.wbF za ⟨#[116]⟩).1 = A) := Ar.wbF_no
        generalize (A.wbF za ⟨#[116]⟩).1 = A9 at *
        generalize (A.wbF za ⟨#[116]⟩).2 = ev at *
        have HPu : Hid (∀ tag5 V, Bo tag5 V b d q A9 (i + 1) → Calls Try.prog 20 #[.pointer (some ⟨b, 0, none⟩), .int .i64 0] V fun e w' => ∃ p, e = .returned (.tuple #[wv (A9.lb 0) p, .int .i64 0]) ∧ Kp [] V w' ∧ Nd Any w' (A9.lb 0) (A9.below 0) p) := fun tag5 V B5 => by
          refine (B5.pure 0 B5.ps.ful.toOk.pos).mono ?_
          rintro e w' ⟨p, rfl, k1, n1⟩
          exact ⟨p, rfl, k1, n1.any⟩
        unfold wv at HPu
        clear HDo
        by_cases hev : ev = 0
        · subst hev
          clear hno
          go_wp2_with (first | (go_at_call 32; refine Calls.mono HP ?_; rintro e W4 ⟨rfl, tag4, p4, m4⟩; obtain ⟨f0, f1, f2, f3, f4, f5, f6, f7, f8⟩ := H9.out _ _ m4.bv) | (go_at_call 33; refine (HDc.out _ _ p4 m4).mono ?_; rintro e W5 ⟨rfl, tag5, B5, v5⟩) | (go_at_call 20; refine (HPu.out _ _ B5).mono ?_; rintro e W6 ⟨p6, rfl, k6, n6⟩))
          go_roundw
          case rel =>
            have k7 : Kp [] W5 (W6.alloc (.cells #[.int .i64 (A9.lb 0).kind, .int .i64 (A9.lb 0).ns, .string (A9.lb 0).name, .slice p6.1.1 p6.1.2.1 p6.1.2.2, .string (A9.lb 0).text, .slice p6.2.1 p6.2.2.1 p6.2.2.2] 42)) := k6.alloc _
            exact ⟨i + 1, tag5, q, A9, by go_num, by omega, by omega, B5.kept k7, (v3h.out.trans v5).trans (Bv.of_kp k7 (fun _ _ => rfl))⟩
          case measure => simp [intOf]; omega
        · obtain rfl : A9 = A := hno.out hev
          have hev2 : (ev != 0) = true := bne_iff_ne.2 hev
          clear hno hev
          go_upto_region 27 with (first | (go_at_call 32; refine Calls.mono HP ?_; rintro e W4 ⟨rfl, tag4, p4, m4⟩; obtain ⟨f0, f1, f2, f3, f4, f5, f6, f7, f8⟩ := H9.out _ _ m4.bv) | (go_at_call 33; refine (HDc.out _ _ p4 m4).mono ?_; rintro e W5 ⟨rfl, tag5, B5, v5⟩) | (go_at_call 20; refine (HPu.out _ _ B5).mono ?_; rintro e W6 ⟨p6, rfl, k6, n6⟩))
          obtain ⟨W7, hW7⟩ : ∃ W, W = W6.alloc (.cells #[.int .i64 (A9.lb 0).kind, .int .i64 (A9.lb 0).ns, .string (A9.lb 0).name, .slice p6.1.1 p6.1.2.1 p6.1.2.2, .string (A9.lb 0).text, .slice p6.2.1 p6.2.2.1 p6.2.2.2] 42) := ⟨_, rfl⟩
          have k67 : Kp [] W6 W7 := by rw [hW7]; exact (Kp.refl _ _).alloc _
          obtain ⟨x0, x1, x2, x3, x4, x5⟩ := (show At W7 W6.heap.size #[.int .i64 (A9.lb 0).kind, .int .i64 (A9.lb 0).ns, .string (A9.lb 0).name, .slice p6.1.1 p6.1.2.1 p6.1.2.2, .string (A9.lb 0).text, .slice p6.2.1 p6.2.2.1 p6.2.2.2] 42 by rw [hW7]; exact At.new _ _ _).six
          rw [← hW7]
          clear hW7
          have k7 : Kp [] W5 W7 := k6.trans k67 (fun z hz => Or.inl hz)
          have v7 : Bv tag1 W3 tag5 W7 := v5.trans (Bv.of_kp k7 (fun _ _ => rfl))
          obtain ⟨y0, y1, y2, y3, y4, y5⟩ := H6.out _ _ v7
          have HL7 := (B5.ps.kept k7).len
          have HT7 := HT.out W7 p6 (HN3.out _ _ v7) (n6.kept k67)
          have H7 : Hid (Bo tag5 W7 b d q A9 (i + 1) ∧ Bv (fun _ => 0) w tag5 W7) := ⟨B5.kept k7, v3h.out.trans v7⟩
          clear B5 v5 n6 k6 k67 f0 f1 f2 f3 f4 f5 f6 f7 f8
          go_wp2_with (first | (go_at_call 15; refine (HL7).mono ?_; rintro e w9 ⟨rfl, hw⟩; have hw2 := hw.symm; clear hw; subst hw2) | (go_at_call 22; refine HT7.mono ?_; rintro e W8 ⟨rfl, k8⟩))
          go_roundw
          case rel => exact ⟨i + 1, tag5, q, A9, by go_num, by omega, by omega, H7.out.1.kept k8, H7.out.2.trans (Bv.of_kp k8 (fun _ _ => rfl))⟩
          case measure => simp [intOf]; omega
      have t2 : (kd == 2) = false := beq_false_of_ne e2
      have t3 : (kd == 3) = false := beq_false_of_ne e3
      have t5 : (kd == 5) = false := beq_false_of_ne e5
      have t7 : (kd == 7) = false := beq_false_of_ne e7
      have HDo3 := HDo.out _ _ B3h.out v3h.out
      clear HDo e2 e3 e5 e7
      go_wp2_with (go_at_call 11; refine HDo3.mono ?_; rintro e W4 ⟨rfl, tag4, q4, A4, B4, v4⟩)
      go_roundw
      case rel => exact ⟨i + 1, tag4, q4, A4, by go_num, by omega, by omega, B4, v4⟩
      case measure => simp [intOf]; omega
    · have HA := all_any B
      have HV : Hid (Kp [] w wr) := v.kp (fun _ _ => rfl)
      clear HD B v
      by_cases hi1 : i < n
      · have hi2 : ¬ i < 40 := fun h => hi ⟨hi1, h⟩
        obtain rfl : i = 40 := by omega
        have j1 : (40 : Int) < (n : Int) := by omega
        clear hi hi1 hi2 hn h5
        rw [show ((40 : Nat) : Int) = 40 from rfl]
        go_wp2_with (first | (go_at_call 12; refine HA.mono ?_; rintro e w4 ⟨rfl, k4⟩) | (go_at_call 13; refine (known_any _).mono ?_; rintro e w5 ⟨rfl, k5⟩))
        go_ret
        exact ⟨rfl, (HV.out.trans k4 (fun x hx => Or.inl hx)).trans k5 (fun x hx => Or.inl hx)⟩
      · have j1 : (n : Int) ≤ (i : Int) := by omega
        clear hi hi1
        go_wp2_with (first | (go_at_call 12; refine HA.mono ?_; rintro e w4 ⟨rfl, k4⟩) | (go_at_call 13; refine (known_any _).mono ?_; rintro e w5 ⟨rfl, k5⟩))
        go_ret
        exact ⟨rfl, (HV.out.trans k4 (fun x hx => Or.inl hx)).trans k5 (fun x hx => Or.inl hx)⟩

end Go.Proofs.Ytngbpbgohpblmaa
