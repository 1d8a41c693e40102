/-
  do of the law: its head and its end, for each kind of call.
-/
import Derived.Test.YtgjkfpmhgidpaaaGreatDoA
import Derived.Deep.CutRange
import Derived.Deep.CutBlock
namespace Go.Proofs.YtgjkfpmhgidpaaaGreat
open Go.RowKit Go.Maps Utf
set_option linter.unusedVariables false
set_option linter.unusedSimpArgs false

section
variable {tag tag' : Nat → Nat} {w w' : World} {b d k : Nat} {q : Bool} {A : Ar}

def tg0 (tag : Nat → Nat) (w : World) : Nat → Nat := fun x => if x < w.heap.size then tag x else 0
theorem tg0_lt {x : Nat} (hx : x < w.heap.size) : tg0 tag w x = tag x := if_pos hx
theorem tg0_nq {x : Nat} (hx : w.heap.size ≤ x) : Nq (tg0 tag w x) := by unfold tg0; rw [if_neg (by omega)]; exact nq0

theorem At.bv {g : Nat} {cur : Array Value} {e : TypeId} (h : At w g cur e) (m : Bv tag w tag' w') (hq : Nq (tag g)) : At w' g cur e := by
  unfold At
  rw [m.block g h.lt hq]
  exact h

theorem Dn.quirk (h : Dn tag w d q A) (q' : Bool) : Dn tag (w.setCell ⟨d, 1, none⟩ (.bool q')) d q' A ∧ Dv tag w tag (w.setCell ⟨d, 1, none⟩ (.bool q')) := by
  obtain ⟨g, o, c, pl, h⟩ := h
  have k1 : Kp [d] w (w.setCell ⟨d, 1, none⟩ (.bool q')) := (Kp.refl _ _).setCell (Or.inl (by simp)) _
  have hs : Sm (Q5 tag) w (w.setCell ⟨d, 1, none⟩ (.bool q')) := k1.sms (fun x hq hx => by rw [List.mem_singleton.1 hx] at hq; have := h.td; omega)
  obtain ⟨cur, h1, h2, h3⟩ := h.body
  refine ⟨⟨g, o, c, pl, h.hd.set 1 _, h.td, h.cap, h.max, ⟨cur, h1.kept k1 (by simpa using Ne.symm h.ne), h2, h3⟩, h.tg, fun i hi => (h.att i hi).keep hs, fun i hi => (h.kid i hi).keep hs, h.kf⟩, Dv.of_kp k1 (fun x hx _ => by rw [List.mem_singleton.1 hx]; exact .inl h.td) (fun _ _ => rfl)⟩

/-- What the end of do asks. -/
theorem do_end (B : Bo tag w b d q A k) :
    Hid (∃ g o c, ∀ V, Kp [] w V → V.cell? ⟨d, 0, none⟩ = some (.slice (some ⟨g, o, none⟩) A.n c) ∧ V.cell? ⟨d, 1, none⟩ = some (.bool q)) ∧
    Hid (∀ V, Kp [] w V → Calls Tryz.prog 15 #[.pointer (some ⟨b, 0, none⟩)] V fun e w' => e = .returned (.int .i64 (A.n : Int)) ∧ w' = V) ∧
    Hid (∀ V, Kp [] w V → Calls Tryz.prog 37 #[.pointer (some ⟨b, 0, none⟩)] V fun e w' => e = .returned (.bool q) ∧ w' = V) ∧
    Hid (∀ V z, Kp [] w V → Calls Tryz.prog 38 #[.pointer (some ⟨b, 0, none⟩), .pointer (some ⟨d, 0, none⟩), .int .i64 z] V fun e w' => e = .returned (.bool true) ∧ Kp [] V w') := by
  refine ⟨?_, fun V kV => (B.ps.kept kV).len, fun V kV => (B.ps.kept kV).quirky, fun V z kV => one_any (B.kept kV) z⟩
  obtain ⟨g, o, c, pl, h⟩ := B.dn
  exact ⟨g, o, c, fun V kV => ⟨(h.kept kV).head.1, (h.kept kV).head.2⟩⟩

set_option maxRecDepth 100000 in
set_option maxHeartbeats 4000000 in
theorem do_all (B : Bo tag w b d q A k) (hk : k < 1300) (kd za zb ty ns : Int) (nm tx : ByteArray) (l : List Att) (fl : Bool) (ao : Option Addr) (n c : Nat) (hr : Rp w ao n c l) (hl : n ≤ 140737488355328) :
    Calls Tryz.prog 7 #[.pointer (some ⟨b, 0, none⟩), .pointer (some ⟨d, 0, none⟩), .agg #[.int .i64 kd, .int .i64 za, .int .i64 zb, .int .i64 ty, .int .i64 ns, .string nm, .string tx, .slice ao n c, .bool fl]] w fun e w' => e = .returned (.bool true) ∧ ∃ tag' q' A', Bo tag' w' b d q' A' (k + 1) ∧ Bv tag w tag' w' := by
  obtain ⟨W1, hW1⟩ : ∃ W, W = w.alloc (.cells #[.int .i64 kd, .int .i64 za, .int .i64 zb, .int .i64 ty, .int .i64 ns, .string nm, .string tx, .slice ao n c, .bool fl] 28) := ⟨_, rfl⟩
  have HW1 : Hid (w.alloc (.cells #[.int .i64 kd, .int .i64 za, .int .i64 zb, .int .i64 ty, .int .i64 ns, .string nm, .string tx, .slice ao n c, .bool fl] 28) = W1) := hW1.symm
  have kW1 : Kp [] w W1 := by rw [hW1]; exact (Kp.refl _ _).alloc _
  have a5 : At W1 w.heap.size #[.int .i64 kd, .int .i64 za, .int .i64 zb, .int .i64 ty, .int .i64 ns, .string nm, .string tx, .slice ao n c, .bool fl] 28 := by rw [hW1]; exact At.new _ _ _
  clear hW1
  have HN : Hid (∀ V, Calls Tryz.prog 18 #[.string nm, .int .i64 9] V fun e w' => e = .returned (.string (cutB nm 9)) ∧ w' = V) := fun V => cut_any V nm 9 (by omega)
  have HX : Hid (∀ V, Calls Tryz.prog 18 #[.string tx, .int .i64 9] V fun e w' => e = .returned (.string (cutB tx 9)) ∧ w' = V) := fun V => cut_any V tx 9 (by omega)
  have HSh : Hid (∀ V, Kp [] w V → Calls Tryz.prog 19 #[.slice ao n c] V fun e w' => ∃ ao' n' c', e = .returned (.slice ao' n' c') ∧ Mp V w' ao' n' c' (short l)) := fun V kV => short_any V l ao n c (hr.kept kV) hl
  have HA5 : Hid (∀ V, Kp [] W1 V → V.cell? ⟨w.heap.size, 5, none⟩ = some (.string nm) ∧ V.cell? ⟨w.heap.size, 6, none⟩ = some (.string tx) ∧ V.cell? ⟨w.heap.size, 7, none⟩ = some (.slice ao n c)) := fun V kV => ⟨(a5.kept kV (by simp)).cell 5, (a5.kept kV (by simp)).cell 6, (a5.kept kV (by simp)).cell 7⟩
  have s9 := cutB_size nm 9
  have t9 := cutB_size tx 9
  clear hr
  go_enter Tryz.func7, Tryz.ntmps7
  go_upto_region 1 with fail
  rw [HW1.out]
  clear HW1
  obtain ⟨U0, hU0⟩ : ∃ V, V = W1.drew := ⟨_, rfl⟩
  have k0 : Kp [] W1 U0 := by rw [hU0]; exact (Kp.refl _ _).drew
  have k00 : Kp [] w U0 := kW1.trans k0 (fun z hz => Or.inl hz)
  refine wp_region_g (S := fun V => V.cell? ⟨w.heap.size, 5, none⟩ = some (.string nm) ∧ V.cell? ⟨w.heap.size, 6, none⟩ = some (.string tx) ∧ V.cell? ⟨w.heap.size, 7, none⟩ = some (.slice ao n c)) (T := []) (by kernel_rfl) (HA5.out _ (Kp.refl _ _).drew) (fun hHeld => ?_)
  rw [← hU0] at hHeld ⊢
  clear hU0
  refine g_pure 0 (oi := ⟨some 16, .fieldAddr 28 (.tmp 5) 5, 0, "law.go:38", #[], none⟩) (v := ?_) (Or.inl ⟨by rfl, ?_⟩) ?_
  rotate_left
  · (intro w; go_simp; try with_reducible rfl)
  simp only [Act.put, pu1, pu2, pu3]
  refine g_take 1 (oi := ⟨some 17, .load 9 (.tmp 16), 9, "law.go:38", #[⟨0, .data⟩], none⟩) (v := ?_) (Or.inl ⟨by rfl, ?_⟩) ?_
  rotate_left
  · (intro w hSw; (obtain ⟨q5, q6, q7⟩ := hSw); go_simp; try with_reducible rfl)
  simp only [Act.put, pu1, pu2, pu3]
  refine g_pure 3 (oi := ⟨some 19, .fieldAddr 28 (.tmp 5) 6, 0, "law.go:38", #[], none⟩) (v := ?_) (Or.inl ⟨by rfl, ?_⟩) ?_
  rotate_left
  · (intro w; go_simp; try with_reducible rfl)
  simp only [Act.put, pu1, pu2, pu3]
  refine g_take 4 (oi := ⟨some 20, .load 9 (.tmp 19), 9, "law.go:38", #[⟨3, .data⟩], none⟩) (v := ?_) (Or.inl ⟨by rfl, ?_⟩) ?_
  rotate_left
  · (intro w hSw; (obtain ⟨q5, q6, q7⟩ := hSw); go_simp; try with_reducible rfl)
  simp only [Act.put, pu1, pu2, pu3]
  refine g_pure 6 (oi := ⟨some 22, .fieldAddr 28 (.tmp 5) 7, 0, "law.go:38", #[], none⟩) (v := ?_) (Or.inl ⟨by rfl, ?_⟩) ?_
  rotate_left
  · (intro w; go_simp; try with_reducible rfl)
  simp only [Act.put, pu1, pu2, pu3]
  refine g_take 7 (oi := ⟨some 23, .load 26 (.tmp 22), 26, "law.go:38", #[⟨6, .data⟩], none⟩) (v := ?_) (Or.inl ⟨by rfl, ?_⟩) ?_
  rotate_left
  · (intro w hSw; (obtain ⟨q5, q6, q7⟩ := hSw); go_simp; try with_reducible rfl)
  simp only [Act.put, pu1, pu2, pu3]
  refine wpAnyG_ready (rs := [2]) (by kernel_rfl) (by simp) ?_
  refine AllReadyG.cons (o := ⟨some 18, .call { callee := .value (.func 18), args := #[.tmp 17, .const (.int .i64 9)], argTypes := #[9, 3] }, 9, "law.go:38", #[⟨1, .data⟩], none⟩) rfl (fun K hK => ?_) AllReadyG.nil
  go_simp
  go_at_call 18
  refine (HN.out _).mono ?_
  rintro e w9 ⟨rfl, hw⟩
  have hw2 := hw.symm
  clear hw
  subst hw2
  go_wp2_with fail
  refine hK.out _ _ (HA5.out _ k0) (fun hHeld1 => ?_)
  clear hK K hHeld
  try simp only [Act.put, pu1, pu2, pu3]
  refine wpAnyG_ready (rs := [5]) (by kernel_rfl) (by simp) ?_
  refine AllReadyG.cons (o := ⟨some 21, .call { callee := .value (.func 18), args := #[.tmp 20, .const (.int .i64 9)], argTypes := #[9, 3] }, 9, "law.go:38", #[⟨4, .data⟩, ⟨2, .chain⟩], none⟩) rfl (fun K hK => ?_) AllReadyG.nil
  go_simp
  go_at_call 18
  refine (HX.out _).mono ?_
  rintro e w9 ⟨rfl, hw⟩
  have hw2 := hw.symm
  clear hw
  subst hw2
  go_wp2_with fail
  refine hK.out _ _ (HA5.out _ k0) (fun hHeld2 => ?_)
  clear hK K hHeld1
  try simp only [Act.put, pu1, pu2, pu3]
  refine wpAnyG_ready (rs := [8]) (by kernel_rfl) (by simp) ?_
  refine AllReadyG.cons (o := ⟨some 24, .call { callee := .value (.func 19), args := #[.tmp 23], argTypes := #[26] }, 26, "law.go:38", #[⟨7, .data⟩, ⟨5, .chain⟩], none⟩) rfl (fun K hK => ?_) AllReadyG.nil
  go_simp
  go_at_call 19
  refine (HSh.out _ k00).mono ?_
  rintro e U1 ⟨a1, n1, c1, rfl, M1⟩
  go_wp2_with fail
  refine hK.out _ _ (HA5.out _ (k0.trans M1.kp (fun z hz => Or.inl hz))) (fun hHeld3 => ?_)
  clear hK K hHeld2
  try simp only [Act.put, pu1, pu2, pu3]
  refine g_pure 9 (oi := ⟨some 7, .assign (.tmp 18), 9, "law.go:38", #[⟨2, .data⟩, ⟨8, .chain⟩, ⟨0, .phase⟩, ⟨1, .phase⟩, ⟨2, .phase⟩, ⟨3, .textOnly .lateStores⟩, ⟨4, .textOnly .lateStores⟩, ⟨5, .textOnly .lateStoresUnsure⟩, ⟨6, .textOnly .lateStores⟩, ⟨7, .textOnly .lateStores⟩, ⟨8, .textOnly .lateStoresUnsure⟩], none⟩) (v := ?_) (Or.inl ⟨by rfl, ?_⟩) ?_
  rotate_left
  · (intro w; go_simp; try with_reducible rfl)
  simp only [Act.put, pu1, pu2, pu3]
  refine g_pure 10 (oi := ⟨some 8, .assign (.tmp 21), 9, "law.go:38", #[⟨5, .data⟩, ⟨9, .chain⟩, ⟨0, .phase⟩, ⟨1, .phase⟩, ⟨2, .phase⟩, ⟨3, .phase⟩, ⟨4, .phase⟩, ⟨5, .phase⟩, ⟨6, .textOnly .lateStores⟩, ⟨7, .textOnly .lateStores⟩, ⟨8, .textOnly .lateStoresUnsure⟩, ⟨9, .phase⟩], none⟩) (v := ?_) (Or.inl ⟨by rfl, ?_⟩) ?_
  rotate_left
  · (intro w; go_simp; try with_reducible rfl)
  simp only [Act.put, pu1, pu2, pu3]
  refine g_pure 11 (oi := ⟨some 9, .assign (.tmp 24), 26, "law.go:38", #[⟨8, .data⟩, ⟨10, .chain⟩, ⟨0, .phase⟩, ⟨1, .phase⟩, ⟨2, .phase⟩, ⟨3, .phase⟩, ⟨4, .phase⟩, ⟨5, .phase⟩, ⟨6, .phase⟩, ⟨7, .phase⟩, ⟨8, .phase⟩, ⟨9, .phase⟩, ⟨10, .phase⟩], none⟩) (v := ?_) (Or.inl ⟨by rfl, ?_⟩) ?_
  rotate_left
  · (intro w; go_simp; try with_reducible rfl)
  simp only [Act.put, pu1, pu2, pu3]
  refine wpAnyG_free (by kernel_rfl) ?_
  refine wpAny_done (by kernel_rfl) ?_ _
  clear HN HX HSh HA5 hHeld3
  have k1 : Kp [] w U1 := k00.trans M1.kp (fun z hz => Or.inl hz)
  have B1 : Bo (tg0 tag w) U1 b d q A k := B.re k1 (fun x hx => tg0_lt hx)
  have v1 : Bv tag w (tg0 tag w) U1 := Bv.of_kp k1 (fun x hx => tg0_lt hx)
  have rN : Rk (fun x => Nq (tg0 tag w x)) 2 U1 a1 n1 c1 (cs (short l)) := (M1.rk0 k00).mono (fun x _ hx => tg0_nq hx)
  have a5 := (a5.kept k0 (by simp)).kept M1.kp (by simp)
  have hq5 : Nq (tg0 tag w w.heap.size) := tg0_nq (Nat.le_refl _)
  obtain ⟨g5, hg5⟩ : ∃ g, w.heap.size = g := ⟨_, rfl⟩
  rw [hg5] at a5 hq5 ⊢
  clear hg5
  generalize tg0 tag w = tag1 at *
  clear B M1 k1 k0 k00 kW1
  have HB : Hid (∀ tag2 V, Bv tag1 U1 tag2 V → V.cell? ⟨g5, 1, none⟩ = some (.int .i64 za) ∧ V.cell? ⟨g5, 2, none⟩ = some (.int .i64 zb) ∧ V.cell? ⟨g5, 3, none⟩ = some (.int .i64 ty) ∧ V.cell? ⟨g5, 4, none⟩ = some (.int .i64 ns) ∧ V.cell? ⟨g5, 8, none⟩ = some (.bool fl)) := fun tag2 V v => ⟨(a5.bv v hq5).cell 1, (a5.bv v hq5).cell 2, (a5.bv v hq5).cell 3, (a5.bv v hq5).cell 4, (a5.bv v hq5).cell 8⟩
  have f0 : U1.cell? ⟨g5, 0, none⟩ = some (.int .i64 kd) := a5.cell 0
  have HV : Hid (Bv tag w tag1 U1) := v1
  clear v1 a5 hq5
  have B1 : Hid (Bo tag1 U1 b d q A k) := B1
  have rN : Hid (Rk (fun x => Nq (tag1 x)) 2 U1 a1 n1 c1 (cs (short l))) := rN
  generalize hnm : cutB nm 9 = nm9 at *
  generalize htx : cutB tx 9 = tx9 at *
  clear hnm htx
  go_upto_block 0 with fail
  go_cut [10, 11] from 12 to 156 (fun x10 x11 wc => ∃ (ev : Int) (tag2 : Nat → Nat) (q2 : Bool) (A2 : Ar), x10 = .int .i64 ev ∧ x11 = .int .i64 ev ∧ Bo tag2 wc b d q2 A2 (k + 1) ∧ Bv tag1 U1 tag2 wc)
  case first =>
    by_cases h0 : kd < 1 ∨ 9 < kd
    · have e1 : (kd == 1) = false := beq_false_of_ne (by omega)
      have e2 : (kd == 2) = false := beq_false_of_ne (by omega)
      have e3 : (kd == 3) = false := beq_false_of_ne (by omega)
      have e4 : (kd == 4) = false := beq_false_of_ne (by omega)
      have e5 : (kd == 5) = false := beq_false_of_ne (by omega)
      have e6 : (kd == 6) = false := beq_false_of_ne (by omega)
      have e7 : (kd == 7) = false := beq_false_of_ne (by omega)
      have e8 : (kd == 8) = false := beq_false_of_ne (by omega)
      have e9 : (kd == 9) = false := beq_false_of_ne (by omega)
      clear h0
      have H9 : Hid (Bo tag1 U1 b d q A (k + 1)) := B1.out.succ hk
      clear B1 rN
      go_wp2_with fail
      go_meet
      case rel => exact ⟨0, tag1, q, A, rfl, rfl, H9.out, Bv.refl _ _⟩
    rcases (show kd = 1 ∨ kd = 2 ∨ kd = 3 ∨ kd = 4 ∨ kd = 5 ∨ kd = 6 ∨ kd = 7 ∨ kd = 8 ∨ kd = 9 by omega) with rfl | rfl | rfl | rfl | rfl | rfl | rfl | rfl | rfl
    · clear h0
      obtain ⟨HP, HD⟩ := B1.out.mk2 hk ty ns nm9 tx9 (short l) a1 n1 c1 rN.out (short_len l) (short_tiny l) s9 t9
      clear B1 rN
      have HD : Hid _ := HD
      clear s9 t9
      generalize (A.mkF ty ns nm9 (uniq (short l)) tx9).1 = A9 at *
      generalize (A.mkF ty ns nm9 (uniq (short l)) tx9).2.1 = z1 at *
      generalize (A.mkF ty ns nm9 (uniq (short l)) tx9).2.2 = ev at *
      obtain ⟨f1, f2, f3, f4, f8⟩ := HB.out _ _ (Bv.refl _ _)
      go_wp2_with (first | (go_at_call 20; refine Calls.mono HP ?_; rintro e W2 ⟨rfl, tag2, p2, m2⟩; obtain ⟨f1, f2, f3, f4, f8⟩ := HB.out _ _ m2.bv) | (go_at_call 21; refine (HD.out _ _ p2 m2).mono ?_; rintro e W3 ⟨rfl, tag3, B3, v3⟩))
      go_meet
      case rel => exact ⟨ev, tag3, q, A9, rfl, rfl, B3, v3⟩
    · clear h0
      obtain ⟨HPd, HDd⟩ := (B1.out.kept (Kp.refl [] U1).drew).app2 hk za zb
      clear B1 rN
      have HDd : Hid _ := HDd
      clear s9 t9
      generalize (A.appF za zb).1 = A9 at *
      generalize (A.appF za zb).2 = ev at *
      go_upto_region 11 with fail
      clear f0
      obtain ⟨U2, hU2⟩ : ∃ V, V = U1.drew := ⟨_, rfl⟩
      have kd2 : Kp [] U1 U2 := by rw [hU2]; exact (Kp.refl _ _).drew
      rw [← hU2] at HPd HDd
      have vd : Bv tag1 U1 tag1 U2 := Bv.of_kp kd2 (fun _ _ => rfl)
      refine wp_region_g (S := fun V => V.cell? ⟨g5, 1, none⟩ = some (.int .i64 za) ∧ V.cell? ⟨g5, 2, none⟩ = some (.int .i64 zb)) (T := []) (by kernel_rfl) (by obtain ⟨f1, f2, _⟩ := HB.out _ _ (Bv.of_kp (tag' := tag1) (Kp.refl [] U1).drew (fun _ _ => rfl)); exact ⟨f1, f2⟩) (fun hHeld => ?_)
      rw [← hU2] at hHeld ⊢
      clear hU2
      refine g_pure 0 (oi := ⟨some 60, .move (.tmp 0), 22, "law.go:49", #[], none⟩) (v := ?_) (Or.inl ⟨by rfl, ?_⟩) ?_
      rotate_left
      · (intro w; go_simp; try with_reducible rfl)
      simp only [Act.put, pu1, pu2, pu3]
      refine g_pure 1 (oi := ⟨some 61, .fieldAddr 28 (.tmp 5) 1, 0, "law.go:49", #[], none⟩) (v := ?_) (Or.inl ⟨by rfl, ?_⟩) ?_
      rotate_left
      · (intro w; go_simp; try with_reducible rfl)
      simp only [Act.put, pu1, pu2, pu3]
      refine g_take 2 (oi := ⟨some 62, .load 3 (.tmp 61), 3, "law.go:49", #[⟨1, .data⟩], none⟩) (v := ?_) (Or.inl ⟨by rfl, ?_⟩) ?_
      rotate_left
      · (intro w hSw; (obtain ⟨q5, q6⟩ := hSw); go_simp; try with_reducible rfl)
      simp only [Act.put, pu1, pu2, pu3]
      refine g_pure 3 (oi := ⟨some 63, .fieldAddr 28 (.tmp 5) 2, 0, "law.go:49", #[], none⟩) (v := ?_) (Or.inl ⟨by rfl, ?_⟩) ?_
      rotate_left
      · (intro w; go_simp; try with_reducible rfl)
      simp only [Act.put, pu1, pu2, pu3]
      refine g_take 4 (oi := ⟨some 64, .load 3 (.tmp 63), 3, "law.go:49", #[⟨3, .data⟩], none⟩) (v := ?_) (Or.inl ⟨by rfl, ?_⟩) ?_
      rotate_left
      · (intro w hSw; (obtain ⟨q5, q6⟩ := hSw); go_simp; try with_reducible rfl)
      simp only [Act.put, pu1, pu2, pu3]
      refine g_pure 6 (oi := ⟨some 66, .move (.tmp 1), 24, "law.go:49", #[], none⟩) (v := ?_) (Or.inl ⟨by rfl, ?_⟩) ?_
      rotate_left
      · (intro w; go_simp; try with_reducible rfl)
      simp only [Act.put, pu1, pu2, pu3]
      refine g_pure 7 (oi := ⟨some 67, .fieldAddr 28 (.tmp 5) 1, 0, "law.go:49", #[], none⟩) (v := ?_) (Or.inl ⟨by rfl, ?_⟩) ?_
      rotate_left
      · (intro w; go_simp; try with_reducible rfl)
      simp only [Act.put, pu1, pu2, pu3]
      refine g_take 8 (oi := ⟨some 68, .load 3 (.tmp 67), 3, "law.go:49", #[⟨7, .data⟩], none⟩) (v := ?_) (Or.inl ⟨by rfl, ?_⟩) ?_
      rotate_left
      · (intro w hSw; (obtain ⟨q5, q6⟩ := hSw); go_simp; try with_reducible rfl)
      simp only [Act.put, pu1, pu2, pu3]
      refine g_pure 9 (oi := ⟨some 69, .fieldAddr 28 (.tmp 5) 2, 0, "law.go:49", #[], none⟩) (v := ?_) (Or.inl ⟨by rfl, ?_⟩) ?_
      rotate_left
      · (intro w; go_simp; try with_reducible rfl)
      simp only [Act.put, pu1, pu2, pu3]
      refine g_take 10 (oi := ⟨some 70, .load 3 (.tmp 69), 3, "law.go:49", #[⟨9, .data⟩], none⟩) (v := ?_) (Or.inl ⟨by rfl, ?_⟩) ?_
      rotate_left
      · (intro w hSw; (obtain ⟨q5, q6⟩ := hSw); go_simp; try with_reducible rfl)
      simp only [Act.put, pu1, pu2, pu3]
      refine wpAnyG_ready (rs := [5]) (by kernel_rfl) (by simp) ?_
      refine AllReadyG.cons (o := ⟨some 65, .call { callee := .value (.func 22), args := #[.tmp 60, .tmp 62, .tmp 64], argTypes := #[22, 3, 3] }, 33, "law.go:49", #[⟨0, .data⟩, ⟨2, .data⟩, ⟨4, .data⟩], none⟩) rfl (fun K hK => ?_) AllReadyG.nil
      go_simp
      go_at_call 22
      refine Calls.mono HPd ?_
      rintro e W2 ⟨rfl, tag2, p2, m2⟩
      go_wp2_with fail
      obtain ⟨f1, f2, _⟩ := HB.out _ _ (vd.trans m2.bv)
      refine hK.out _ _ ⟨f1, f2⟩ (fun hHeld1 => ?_)
      clear hK K hHeld
      try simp only [Act.put, pu1, pu2, pu3]
      refine wpAnyG_ready (rs := [11]) (by kernel_rfl) (by simp) ?_
      refine AllReadyG.cons (o := ⟨some 71, .call { callee := .value (.func 23), args := #[.tmp 66, .tmp 68, .tmp 70], argTypes := #[24, 3, 3] }, 3, "law.go:49", #[⟨6, .data⟩, ⟨8, .data⟩, ⟨10, .data⟩, ⟨5, .chain⟩], none⟩) rfl (fun K hK => ?_) AllReadyG.nil
      go_simp
      go_at_call 23
      refine (HDd.out _ _ p2 m2).mono ?_
      rintro e W3 ⟨rfl, tag3, B3, v3⟩
      go_wp2_with fail
      obtain ⟨f1, f2, _⟩ := HB.out _ _ (vd.trans v3)
      refine hK.out _ _ ⟨f1, f2⟩ (fun hHeld2 => ?_)
      clear hK K hHeld1
      try simp only [Act.put, pu1, pu2, pu3]
      refine g_pure 12 (oi := ⟨some 10, .assign (.tmp 65), 33, "law.go:49", #[⟨5, .data⟩, ⟨11, .chain⟩, ⟨0, .phase⟩, ⟨1, .phase⟩, ⟨2, .phase⟩, ⟨3, .phase⟩, ⟨4, .phase⟩, ⟨5, .phase⟩, ⟨6, .textOnly .lateStores⟩, ⟨7, .textOnly .lateStores⟩, ⟨8, .textOnly .lateStores⟩, ⟨9, .textOnly .lateStores⟩, ⟨10, .textOnly .lateStores⟩, ⟨11, .textOnly .lateStoresUnsure⟩], none⟩) (v := ?_) (Or.inl ⟨by rfl, ?_⟩) ?_
      rotate_left
      · (intro w; go_simp; try with_reducible rfl)
      simp only [Act.put, pu1, pu2, pu3]
      refine g_pure 13 (oi := ⟨some 11, .assign (.tmp 71), 3, "law.go:49", #[⟨11, .data⟩, ⟨12, .chain⟩, ⟨0, .phase⟩, ⟨1, .phase⟩, ⟨2, .phase⟩, ⟨3, .phase⟩, ⟨4, .phase⟩, ⟨5, .phase⟩, ⟨6, .phase⟩, ⟨7, .phase⟩, ⟨8, .phase⟩, ⟨9, .phase⟩, ⟨10, .phase⟩, ⟨11, .phase⟩, ⟨12, .phase⟩], none⟩) (v := ?_) (Or.inl ⟨by rfl, ?_⟩) ?_
      rotate_left
      · (intro w; go_simp; try with_reducible rfl)
      simp only [Act.put, pu1, pu2, pu3]
      refine wpAnyG_free (by kernel_rfl) ?_
      refine wpAny_done (by kernel_rfl) ?_ _
      clear hHeld2
      go_wp2_with fail
      go_meet
      case rel => exact ⟨ev, tag3, q, A9, rfl, rfl, B3, vd.trans v3⟩
    · clear h0
      obtain ⟨HPd, HDd⟩ := (B1.out.kept (Kp.refl [] U1).drew).bef2 hk za zb
      clear B1 rN
      have HDd : Hid _ := HDd
      clear s9 t9
      generalize (A.befF za zb).1 = A9 at *
      generalize (A.befF za zb).2 = ev at *
      go_upto_region 13 with fail
      clear f0
      obtain ⟨U2, hU2⟩ : ∃ V, V = U1.drew := ⟨_, rfl⟩
      have kd2 : Kp [] U1 U2 := by rw [hU2]; exact (Kp.refl _ _).drew
      rw [← hU2] at HPd HDd
      have vd : Bv tag1 U1 tag1 U2 := Bv.of_kp kd2 (fun _ _ => rfl)
      refine wp_region_g (S := fun V => V.cell? ⟨g5, 1, none⟩ = some (.int .i64 za) ∧ V.cell? ⟨g5, 2, none⟩ = some (.int .i64 zb)) (T := []) (by kernel_rfl) (by obtain ⟨f1, f2, _⟩ := HB.out _ _ (Bv.of_kp (tag' := tag1) (Kp.refl [] U1).drew (fun _ _ => rfl)); exact ⟨f1, f2⟩) (fun hHeld => ?_)
      rw [← hU2] at hHeld ⊢
      clear hU2
      refine g_pure 0 (oi := ⟨some 74, .move (.tmp 0), 22, "law.go:51", #[], none⟩) (v := ?_) (Or.inl ⟨by rfl, ?_⟩) ?_
      rotate_left
      · (intro w; go_simp; try with_reducible rfl)
      simp only [Act.put, pu1, pu2, pu3]
      refine g_pure 1 (oi := ⟨some 75, .fieldAddr 28 (.tmp 5) 1, 0, "law.go:51", #[], none⟩) (v := ?_) (Or.inl ⟨by rfl, ?_⟩) ?_
      rotate_left
      · (intro w; go_simp; try with_reducible rfl)
      simp only [Act.put, pu1, pu2, pu3]
      refine g_take 2 (oi := ⟨some 76, .load 3 (.tmp 75), 3, "law.go:51", #[⟨1, .data⟩], none⟩) (v := ?_) (Or.inl ⟨by rfl, ?_⟩) ?_
      rotate_left
      · (intro w hSw; (obtain ⟨q5, q6⟩ := hSw); go_simp; try with_reducible rfl)
      simp only [Act.put, pu1, pu2, pu3]
      refine g_pure 3 (oi := ⟨some 77, .fieldAddr 28 (.tmp 5) 2, 0, "law.go:51", #[], none⟩) (v := ?_) (Or.inl ⟨by rfl, ?_⟩) ?_
      rotate_left
      · (intro w; go_simp; try with_reducible rfl)
      simp only [Act.put, pu1, pu2, pu3]
      refine g_take 4 (oi := ⟨some 78, .load 3 (.tmp 77), 3, "law.go:51", #[⟨3, .data⟩], none⟩) (v := ?_) (Or.inl ⟨by rfl, ?_⟩) ?_
      rotate_left
      · (intro w hSw; (obtain ⟨q5, q6⟩ := hSw); go_simp; try with_reducible rfl)
      simp only [Act.put, pu1, pu2, pu3]
      refine g_pure 6 (oi := ⟨some 80, .move (.tmp 1), 24, "law.go:51", #[], none⟩) (v := ?_) (Or.inl ⟨by rfl, ?_⟩) ?_
      rotate_left
      · (intro w; go_simp; try with_reducible rfl)
      simp only [Act.put, pu1, pu2, pu3]
      refine g_pure 7 (oi := ⟨some 81, .fieldAddr 28 (.tmp 5) 1, 0, "law.go:51", #[], none⟩) (v := ?_) (Or.inl ⟨by rfl, ?_⟩) ?_
      rotate_left
      · (intro w; go_simp; try with_reducible rfl)
      simp only [Act.put, pu1, pu2, pu3]
      refine g_take 8 (oi := ⟨some 82, .load 3 (.tmp 81), 3, "law.go:51", #[⟨7, .data⟩], none⟩) (v := ?_) (Or.inl ⟨by rfl, ?_⟩) ?_
      rotate_left
      · (intro w hSw; (obtain ⟨q5, q6⟩ := hSw); go_simp; try with_reducible rfl)
      simp only [Act.put, pu1, pu2, pu3]
      refine g_pure 9 (oi := ⟨some 83, .fieldAddr 28 (.tmp 5) 2, 0, "law.go:51", #[], none⟩) (v := ?_) (Or.inl ⟨by rfl, ?_⟩) ?_
      rotate_left
      · (intro w; go_simp; try with_reducible rfl)
      simp only [Act.put, pu1, pu2, pu3]
      refine g_take 10 (oi := ⟨some 84, .load 3 (.tmp 83), 3, "law.go:51", #[⟨9, .data⟩], none⟩) (v := ?_) (Or.inl ⟨by rfl, ?_⟩) ?_
      rotate_left
      · (intro w hSw; (obtain ⟨q5, q6⟩ := hSw); go_simp; try with_reducible rfl)
      simp only [Act.put, pu1, pu2, pu3]
      refine wpAnyG_ready (rs := [5]) (by kernel_rfl) (by simp) ?_
      refine AllReadyG.cons (o := ⟨some 79, .call { callee := .value (.func 24), args := #[.tmp 74, .tmp 76, .tmp 78], argTypes := #[22, 3, 3] }, 33, "law.go:51", #[⟨0, .data⟩, ⟨2, .data⟩, ⟨4, .data⟩], none⟩) rfl (fun K hK => ?_) AllReadyG.nil
      go_simp
      go_at_call 24
      refine Calls.mono HPd ?_
      rintro e W2 ⟨rfl, tag2, p2, m2⟩
      go_wp2_with fail
      obtain ⟨f1, f2, _⟩ := HB.out _ _ (vd.trans m2.bv)
      refine hK.out _ _ ⟨f1, f2⟩ (fun hHeld1 => ?_)
      clear hK K hHeld
      try simp only [Act.put, pu1, pu2, pu3]
      refine wpAnyG_ready (rs := [11]) (by kernel_rfl) (by simp) ?_
      refine AllReadyG.cons (o := ⟨some 85, .call { callee := .value (.func 25), args := #[.tmp 80, .tmp 82, .tmp 84], argTypes := #[24, 3, 3] }, 3, "law.go:51", #[⟨6, .data⟩, ⟨8, .data⟩, ⟨10, .data⟩, ⟨5, .chain⟩], none⟩) rfl (fun K hK => ?_) AllReadyG.nil
      go_simp
      go_at_call 25
      refine (HDd.out _ _ p2 m2).mono ?_
      rintro e W3 ⟨rfl, tag3, B3, v3⟩
      go_wp2_with fail
      obtain ⟨f1, f2, _⟩ := HB.out _ _ (vd.trans v3)
      refine hK.out _ _ ⟨f1, f2⟩ (fun hHeld2 => ?_)
      clear hK K hHeld1
      try simp only [Act.put, pu1, pu2, pu3]
      refine g_pure 12 (oi := ⟨some 10, .assign (.tmp 79), 33, "law.go:51", #[⟨5, .data⟩, ⟨11, .chain⟩, ⟨0, .phase⟩, ⟨1, .phase⟩, ⟨2, .phase⟩, ⟨3, .phase⟩, ⟨4, .phase⟩, ⟨5, .phase⟩, ⟨6, .textOnly .lateStores⟩, ⟨7, .textOnly .lateStores⟩, ⟨8, .textOnly .lateStores⟩, ⟨9, .textOnly .lateStores⟩, ⟨10, .textOnly .lateStores⟩, ⟨11, .textOnly .lateStoresUnsure⟩], none⟩) (v := ?_) (Or.inl ⟨by rfl, ?_⟩) ?_
      rotate_left
      · (intro w; go_simp; try with_reducible rfl)
      simp only [Act.put, pu1, pu2, pu3]
      refine g_pure 13 (oi := ⟨some 11, .assign (.tmp 85), 3, "law.go:51", #[⟨11, .data⟩, ⟨12, .chain⟩, ⟨0, .phase⟩, ⟨1, .phase⟩, ⟨2, .phase⟩, ⟨3, .phase⟩, ⟨4, .phase⟩, ⟨5, .phase⟩, ⟨6, .phase⟩, ⟨7, .phase⟩, ⟨8, .phase⟩, ⟨9, .phase⟩, ⟨10, .phase⟩, ⟨11, .phase⟩, ⟨12, .phase⟩], none⟩) (v := ?_) (Or.inl ⟨by rfl, ?_⟩) ?_
      rotate_left
      · (intro w; go_simp; try with_reducible rfl)
      simp only [Act.put, pu1, pu2, pu3]
      refine wpAnyG_free (by kernel_rfl) ?_
      refine wpAny_done (by kernel_rfl) ?_ _
      clear hHeld2
      go_wp2_with fail
      go_meet
      case rel => exact ⟨ev, tag3, q, A9, rfl, rfl, B3, vd.trans v3⟩
    · clear h0
      obtain ⟨HPd, HDd⟩ := (B1.out.kept (Kp.refl [] U1).drew).det2 hk za
      clear B1 rN
      have HDd : Hid _ := HDd
      clear s9 t9
      generalize (A.detF za).1 = A9 at *
      generalize (A.detF za).2 = ev at *
      go_upto_region 15 with fail
      clear f0
      obtain ⟨U2, hU2⟩ : ∃ V, V = U1.drew := ⟨_, rfl⟩
      have kd2 : Kp [] U1 U2 := by rw [hU2]; exact (Kp.refl _ _).drew
      rw [← hU2] at HPd HDd
      have vd : Bv tag1 U1 tag1 U2 := Bv.of_kp kd2 (fun _ _ => rfl)
      refine wp_region_g (S := fun V => V.cell? ⟨g5, 1, none⟩ = some (.int .i64 za) ∧ V.cell? ⟨g5, 2, none⟩ = some (.int .i64 zb)) (T := []) (by kernel_rfl) (by obtain ⟨f1, f2, _⟩ := HB.out _ _ (Bv.of_kp (tag' := tag1) (Kp.refl [] U1).drew (fun _ _ => rfl)); exact ⟨f1, f2⟩) (fun hHeld => ?_)
      rw [← hU2] at hHeld ⊢
      clear hU2
      refine g_pure 0 (oi := ⟨some 88, .move (.tmp 0), 22, "law.go:53", #[], none⟩) (v := ?_) (Or.inl ⟨by rfl, ?_⟩) ?_
      rotate_left
      · (intro w; go_simp; try with_reducible rfl)
      simp only [Act.put, pu1, pu2, pu3]
      refine g_pure 1 (oi := ⟨some 89, .fieldAddr 28 (.tmp 5) 1, 0, "law.go:53", #[], none⟩) (v := ?_) (Or.inl ⟨by rfl, ?_⟩) ?_
      rotate_left
      · (intro w; go_simp; try with_reducible rfl)
      simp only [Act.put, pu1, pu2, pu3]
      refine g_take 2 (oi := ⟨some 90, .load 3 (.tmp 89), 3, "law.go:53", #[⟨1, .data⟩], none⟩) (v := ?_) (Or.inl ⟨by rfl, ?_⟩) ?_
      rotate_left
      · (intro w hSw; (obtain ⟨q5, q6⟩ := hSw); go_simp; try with_reducible rfl)
      simp only [Act.put, pu1, pu2, pu3]
      refine g_pure 4 (oi := ⟨some 92, .move (.tmp 1), 24, "law.go:53", #[], none⟩) (v := ?_) (Or.inl ⟨by rfl, ?_⟩) ?_
      rotate_left
      · (intro w; go_simp; try with_reducible rfl)
      simp only [Act.put, pu1, pu2, pu3]
      refine g_pure 5 (oi := ⟨some 93, .fieldAddr 28 (.tmp 5) 1, 0, "law.go:53", #[], none⟩) (v := ?_) (Or.inl ⟨by rfl, ?_⟩) ?_
      rotate_left
      · (intro w; go_simp; try with_reducible rfl)
      simp only [Act.put, pu1, pu2, pu3]
      refine g_take 6 (oi := ⟨some 94, .load 3 (.tmp 93), 3, "law.go:53", #[⟨5, .data⟩], none⟩) (v := ?_) (Or.inl ⟨by rfl, ?_⟩) ?_
      rotate_left
      · (intro w hSw; (obtain ⟨q5, q6⟩ := hSw); go_simp; try with_reducible rfl)
      simp only [Act.put, pu1, pu2, pu3]
      refine wpAnyG_ready (rs := [3]) (by kernel_rfl) (by simp) ?_
      refine AllReadyG.cons (o := ⟨some 91, .call { callee := .value (.func 26), args := #[.tmp 88, .tmp 90], argTypes := #[22, 3] }, 33, "law.go:53", #[⟨0, .data⟩, ⟨2, .data⟩], none⟩) rfl (fun K hK => ?_) AllReadyG.nil
      go_simp
      go_at_call 26
      refine Calls.mono HPd ?_
      rintro e W2 ⟨rfl, tag2, p2, m2⟩
      go_wp2_with fail
      obtain ⟨f1, f2, _⟩ := HB.out _ _ (vd.trans m2.bv)
      refine hK.out _ _ ⟨f1, f2⟩ (fun hHeld1 => ?_)
      clear hK K hHeld
      try simp only [Act.put, pu1, pu2, pu3]
      refine wpAnyG_ready (rs := [7]) (by kernel_rfl) (by simp) ?_
      refine AllReadyG.cons (o := ⟨some 95, .call { callee := .value (.func 27), args := #[.tmp 92, .tmp 94], argTypes := #[24, 3] }, 3, "law.go:53", #[⟨4, .data⟩, ⟨6, .data⟩, ⟨3, .chain⟩], none⟩) rfl (fun K hK => ?_) AllReadyG.nil
      go_simp
      go_at_call 27
      refine (HDd.out _ _ p2 m2).mono ?_
      rintro e W3 ⟨rfl, tag3, B3, v3⟩
      go_wp2_with fail
      obtain ⟨f1, f2, _⟩ := HB.out _ _ (vd.trans v3)
      refine hK.out _ _ ⟨f1, f2⟩ (fun hHeld2 => ?_)
      clear hK K hHeld1
      try simp only [Act.put, pu1, pu2, pu3]
      refine g_pure 8 (oi := ⟨some 10, .assign (.tmp 91), 33, "law.go:53", #[⟨3, .data⟩, ⟨7, .chain⟩, ⟨0, .phase⟩, ⟨1, .phase⟩, ⟨2, .phase⟩, ⟨3, .phase⟩, ⟨4, .textOnly .lateStores⟩, ⟨5, .textOnly .lateStores⟩, ⟨6, .textOnly .lateStores⟩, ⟨7, .textOnly .lateStoresUnsure⟩], none⟩) (v := ?_) (Or.inl ⟨by rfl, ?_⟩) ?_
      rotate_left
      · (intro w; go_simp; try with_reducible rfl)
      simp only [Act.put, pu1, pu2, pu3]
      refine g_pure 9 (oi := ⟨some 11, .assign (.tmp 95), 3, "law.go:53", #[⟨7, .data⟩, ⟨8, .chain⟩, ⟨0, .phase⟩, ⟨1, .phase⟩, ⟨2, .phase⟩, ⟨3, .phase⟩, ⟨4, .phase⟩, ⟨5, .phase⟩, ⟨6, .phase⟩, ⟨7, .phase⟩, ⟨8, .phase⟩], none⟩) (v := ?_) (Or.inl ⟨by rfl, ?_⟩) ?_
      rotate_left
      · (intro w; go_simp; try with_reducible rfl)
      simp only [Act.put, pu1, pu2, pu3]
      refine wpAnyG_free (by kernel_rfl) ?_
      refine wpAny_done (by kernel_rfl) ?_ _
      clear hHeld2
      go_wp2_with fail
      go_meet
      case rel => exact ⟨ev, tag3, q, A9, rfl, rfl, B3, vd.trans v3⟩
    · clear h0
      obtain ⟨HPd, HDd⟩ := (B1.out.kept (Kp.refl [] U1).drew).mov2 hk za zb
      clear B1 rN
      have HDd : Hid _ := HDd
      clear s9 t9
      generalize (A.movF za zb).1 = A9 at *
      generalize (A.movF za zb).2 = ev at *
      go_upto_region 17 with fail
      clear f0
      obtain ⟨U2, hU2⟩ : ∃ V, V = U1.drew := ⟨_, rfl⟩
      have kd2 : Kp [] U1 U2 := by rw [hU2]; exact (Kp.refl _ _).drew
      rw [← hU2] at HPd HDd
      have vd : Bv tag1 U1 tag1 U2 := Bv.of_kp kd2 (fun _ _ => rfl)
      refine wp_region_g (S := fun V => V.cell? ⟨g5, 1, none⟩ = some (.int .i64 za) ∧ V.cell? ⟨g5, 2, none⟩ = some (.int .i64 zb)) (T := []) (by kernel_rfl) (by obtain ⟨f1, f2, _⟩ := HB.out _ _ (Bv.of_kp (tag' := tag1) (Kp.refl [] U1).drew (fun _ _ => rfl)); exact ⟨f1, f2⟩) (fun hHeld => ?_)
      rw [← hU2] at hHeld ⊢
      clear hU2
      refine g_pure 0 (oi := ⟨some 98, .move (.tmp 0), 22, "law.go:55", #[], none⟩) (v := ?_) (Or.inl ⟨by rfl, ?_⟩) ?_
      rotate_left
      · (intro w; go_simp; try with_reducible rfl)
      simp only [Act.put, pu1, pu2, pu3]
      refine g_pure 1 (oi := ⟨some 99, .fieldAddr 28 (.tmp 5) 1, 0, "law.go:55", #[], none⟩) (v := ?_) (Or.inl ⟨by rfl, ?_⟩) ?_
      rotate_left
      · (intro w; go_simp; try with_reducible rfl)
      simp only [Act.put, pu1, pu2, pu3]
      refine g_take 2 (oi := ⟨some 100, .load 3 (.tmp 99), 3, "law.go:55", #[⟨1, .data⟩], none⟩) (v := ?_) (Or.inl ⟨by rfl, ?_⟩) ?_
      rotate_left
      · (intro w hSw; (obtain ⟨q5, q6⟩ := hSw); go_simp; try with_reducible rfl)
      simp only [Act.put, pu1, pu2, pu3]
      refine g_pure 3 (oi := ⟨some 101, .fieldAddr 28 (.tmp 5) 2, 0, "law.go:55", #[], none⟩) (v := ?_) (Or.inl ⟨by rfl, ?_⟩) ?_
      rotate_left
      · (intro w; go_simp; try with_reducible rfl)
      simp only [Act.put, pu1, pu2, pu3]
      refine g_take 4 (oi := ⟨some 102, .load 3 (.tmp 101), 3, "law.go:55", #[⟨3, .data⟩], none⟩) (v := ?_) (Or.inl ⟨by rfl, ?_⟩) ?_
      rotate_left
      · (intro w hSw; (obtain ⟨q5, q6⟩ := hSw); go_simp; try with_reducible rfl)
      simp only [Act.put, pu1, pu2, pu3]
      refine g_pure 6 (oi := ⟨some 104, .move (.tmp 1), 24, "law.go:55", #[], none⟩) (v := ?_) (Or.inl ⟨by rfl, ?_⟩) ?_
      rotate_left
      · (intro w; go_simp; try with_reducible rfl)
      simp only [Act.put, pu1, pu2, pu3]
      refine g_pure 7 (oi := ⟨some 105, .fieldAddr 28 (.tmp 5) 1, 0, "law.go:55", #[], none⟩) (v := ?_) (Or.inl ⟨by rfl, ?_⟩) ?_
      rotate_left
      · (intro w; go_simp; try with_reducible rfl)
      simp only [Act.put, pu1, pu2, pu3]
      refine g_take 8 (oi := ⟨some 106, .load 3 (.tmp 105), 3, "law.go:55", #[⟨7, .data⟩], none⟩) (v := ?_) (Or.inl ⟨by rfl, ?_⟩) ?_
      rotate_left
      · (intro w hSw; (obtain ⟨q5, q6⟩ := hSw); go_simp; try with_reducible rfl)
      simp only [Act.put, pu1, pu2, pu3]
      refine g_pure 9 (oi := ⟨some 107, .fieldAddr 28 (.tmp 5) 2, 0, "law.go:55", #[], none⟩) (v := ?_) (Or.inl ⟨by rfl, ?_⟩) ?_
      rotate_left
      · (intro w; go_simp; try with_reducible rfl)
      simp only [Act.put, pu1, pu2, pu3]
      refine g_take 10 (oi := ⟨some 108, .load 3 (.tmp 107), 3, "law.go:55", #[⟨9, .data⟩], none⟩) (v := ?_) (Or.inl ⟨by rfl, ?_⟩) ?_
      rotate_left
      · (intro w hSw; (obtain ⟨q5, q6⟩ := hSw); go_simp; try with_reducible rfl)
      simp only [Act.put, pu1, pu2, pu3]
      refine wpAnyG_ready (rs := [5]) (by kernel_rfl) (by simp) ?_
      refine AllReadyG.cons (o := ⟨some 103, .call { callee := .value (.func 28), args := #[.tmp 98, .tmp 100, .tmp 102], argTypes := #[22, 3, 3] }, 33, "law.go:55", #[⟨0, .data⟩, ⟨2, .data⟩, ⟨4, .data⟩], none⟩) rfl (fun K hK => ?_) AllReadyG.nil
      go_simp
      go_at_call 28
      refine Calls.mono HPd ?_
      rintro e W2 ⟨rfl, tag2, p2, m2⟩
      go_wp2_with fail
      obtain ⟨f1, f2, _⟩ := HB.out _ _ (vd.trans m2.bv)
      refine hK.out _ _ ⟨f1, f2⟩ (fun hHeld1 => ?_)
      clear hK K hHeld
      try simp only [Act.put, pu1, pu2, pu3]
      refine wpAnyG_ready (rs := [11]) (by kernel_rfl) (by simp) ?_
      refine AllReadyG.cons (o := ⟨some 109, .call { callee := .value (.func 29), args := #[.tmp 104, .tmp 106, .tmp 108], argTypes := #[24, 3, 3] }, 3, "law.go:55", #[⟨6, .data⟩, ⟨8, .data⟩, ⟨10, .data⟩, ⟨5, .chain⟩], none⟩) rfl (fun K hK => ?_) AllReadyG.nil
      go_simp
      go_at_call 29
      refine (HDd.out _ _ p2 m2).mono ?_
      rintro e W3 ⟨rfl, tag3, B3, v3⟩
      go_wp2_with fail
      obtain ⟨f1, f2, _⟩ := HB.out _ _ (vd.trans v3)
      refine hK.out _ _ ⟨f1, f2⟩ (fun hHeld2 => ?_)
      clear hK K hHeld1
      try simp only [Act.put, pu1, pu2, pu3]
      refine g_pure 12 (oi := ⟨some 10, .assign (.tmp 103), 33, "law.go:55", #[⟨5, .data⟩, ⟨11, .chain⟩, ⟨0, .phase⟩, ⟨1, .phase⟩, ⟨2, .phase⟩, ⟨3, .phase⟩, ⟨4, .phase⟩, ⟨5, .phase⟩, ⟨6, .textOnly .lateStores⟩, ⟨7, .textOnly .lateStores⟩, ⟨8, .textOnly .lateStores⟩, ⟨9, .textOnly .lateStores⟩, ⟨10, .textOnly .lateStores⟩, ⟨11, .textOnly .lateStoresUnsure⟩], none⟩) (v := ?_) (Or.inl ⟨by rfl, ?_⟩) ?_
      rotate_left
      · (intro w; go_simp; try with_reducible rfl)
      simp only [Act.put, pu1, pu2, pu3]
      refine g_pure 13 (oi := ⟨some 11, .assign (.tmp 109), 3, "law.go:55", #[⟨11, .data⟩, ⟨12, .chain⟩, ⟨0, .phase⟩, ⟨1, .phase⟩, ⟨2, .phase⟩, ⟨3, .phase⟩, ⟨4, .phase⟩, ⟨5, .phase⟩, ⟨6, .phase⟩, ⟨7, .phase⟩, ⟨8, .phase⟩, ⟨9, .phase⟩, ⟨10, .phase⟩, ⟨11, .phase⟩, ⟨12, .phase⟩], none⟩) (v := ?_) (Or.inl ⟨by rfl, ?_⟩) ?_
      rotate_left
      · (intro w; go_simp; try with_reducible rfl)
      simp only [Act.put, pu1, pu2, pu3]
      refine wpAnyG_free (by kernel_rfl) ?_
      refine wpAny_done (by kernel_rfl) ?_ _
      clear hHeld2
      go_wp2_with fail
      go_meet
      case rel => exact ⟨ev, tag3, q, A9, rfl, rfl, B3, vd.trans v3⟩
    · clear h0
      obtain ⟨HPd, HDd⟩ := (B1.out.kept (Kp.refl [] U1).drew).wr2 hk za tx9 t9
      clear B1 rN
      have HDd : Hid _ := HDd
      clear s9 t9
      generalize (A.wrF za tx9).1 = A9 at *
      generalize (A.wrF za tx9).2 = ev at *
      go_upto_region 19 with fail
      clear f0
      obtain ⟨U2, hU2⟩ : ∃ V, V = U1.drew := ⟨_, rfl⟩
      have kd2 : Kp [] U1 U2 := by rw [hU2]; exact (Kp.refl _ _).drew
      rw [← hU2] at HPd HDd
      have vd : Bv tag1 U1 tag1 U2 := Bv.of_kp kd2 (fun _ _ => rfl)
      refine wp_region_g (S := fun V => V.cell? ⟨g5, 1, none⟩ = some (.int .i64 za) ∧ V.cell? ⟨g5, 2, none⟩ = some (.int .i64 zb)) (T := []) (by kernel_rfl) (by obtain ⟨f1, f2, _⟩ := HB.out _ _ (Bv.of_kp (tag' := tag1) (Kp.refl [] U1).drew (fun _ _ => rfl)); exact ⟨f1, f2⟩) (fun hHeld => ?_)
      rw [← hU2] at hHeld ⊢
      clear hU2
      refine g_pure 0 (oi := ⟨some 112, .move (.tmp 0), 22, "law.go:57", #[], none⟩) (v := ?_) (Or.inl ⟨by rfl, ?_⟩) ?_
      rotate_left
      · (intro w; go_simp; try with_reducible rfl)
      simp only [Act.put, pu1, pu2, pu3]
      refine g_pure 1 (oi := ⟨some 113, .fieldAddr 28 (.tmp 5) 1, 0, "law.go:57", #[], none⟩) (v := ?_) (Or.inl ⟨by rfl, ?_⟩) ?_
      rotate_left
      · (intro w; go_simp; try with_reducible rfl)
      simp only [Act.put, pu1, pu2, pu3]
      refine g_take 2 (oi := ⟨some 114, .load 3 (.tmp 113), 3, "law.go:57", #[⟨1, .data⟩], none⟩) (v := ?_) (Or.inl ⟨by rfl, ?_⟩) ?_
      rotate_left
      · (intro w hSw; (obtain ⟨q5, q6⟩ := hSw); go_simp; try with_reducible rfl)
      simp only [Act.put, pu1, pu2, pu3]
      refine g_pure 3 (oi := ⟨some 115, .move (.tmp 8), 9, "law.go:57", #[], none⟩) (v := ?_) (Or.inl ⟨by rfl, ?_⟩) ?_
      rotate_left
      · (intro w; go_simp; try with_reducible rfl)
      simp only [Act.put, pu1, pu2, pu3]
      refine g_pure 5 (oi := ⟨some 117, .move (.tmp 1), 24, "law.go:57", #[], none⟩) (v := ?_) (Or.inl ⟨by rfl, ?_⟩) ?_
      rotate_left
      · (intro w; go_simp; try with_reducible rfl)
      simp only [Act.put, pu1, pu2, pu3]
      refine g_pure 6 (oi := ⟨some 118, .fieldAddr 28 (.tmp 5) 1, 0, "law.go:57", #[], none⟩) (v := ?_) (Or.inl ⟨by rfl, ?_⟩) ?_
      rotate_left
      · (intro w; go_simp; try with_reducible rfl)
      simp only [Act.put, pu1, pu2, pu3]
      refine g_take 7 (oi := ⟨some 119, .load 3 (.tmp 118), 3, "law.go:57", #[⟨6, .data⟩], none⟩) (v := ?_) (Or.inl ⟨by rfl, ?_⟩) ?_
      rotate_left
      · (intro w hSw; (obtain ⟨q5, q6⟩ := hSw); go_simp; try with_reducible rfl)
      simp only [Act.put, pu1, pu2, pu3]
      refine g_pure 8 (oi := ⟨some 120, .move (.tmp 8), 9, "law.go:57", #[], none⟩) (v := ?_) (Or.inl ⟨by rfl, ?_⟩) ?_
      rotate_left
      · (intro w; go_simp; try with_reducible rfl)
      simp only [Act.put, pu1, pu2, pu3]
      refine wpAnyG_ready (rs := [4]) (by kernel_rfl) (by simp) ?_
      refine AllReadyG.cons (o := ⟨some 116, .call { callee := .value (.func 30), args := #[.tmp 112, .tmp 114, .tmp 115], argTypes := #[22, 3, 9] }, 33, "law.go:57", #[⟨0, .data⟩, ⟨2, .data⟩, ⟨3, .data⟩], none⟩) rfl (fun K hK => ?_) AllReadyG.nil
      go_simp
      go_at_call 30
      refine Calls.mono HPd ?_
      rintro e W2 ⟨rfl, tag2, p2, m2⟩
      go_wp2_with fail
      obtain ⟨f1, f2, _⟩ := HB.out _ _ (vd.trans m2.bv)
      refine hK.out _ _ ⟨f1, f2⟩ (fun hHeld1 => ?_)
      clear hK K hHeld
      try simp only [Act.put, pu1, pu2, pu3]
      refine wpAnyG_ready (rs := [9]) (by kernel_rfl) (by simp) ?_
      refine AllReadyG.cons (o := ⟨some 121, .call { callee := .value (.func 31), args := #[.tmp 117, .tmp 119, .tmp 120], argTypes := #[24, 3, 9] }, 3, "law.go:57", #[⟨5, .data⟩, ⟨7, .data⟩, ⟨8, .data⟩, ⟨4, .chain⟩], none⟩) rfl (fun K hK => ?_) AllReadyG.nil
      go_simp
      go_at_call 31
      refine (HDd.out _ _ p2 m2).mono ?_
      rintro e W3 ⟨rfl, tag3, B3, v3⟩
      go_wp2_with fail
      obtain ⟨f1, f2, _⟩ := HB.out _ _ (vd.trans v3)
      refine hK.out _ _ ⟨f1, f2⟩ (fun hHeld2 => ?_)
      clear hK K hHeld1
      try simp only [Act.put, pu1, pu2, pu3]
      refine g_pure 10 (oi := ⟨some 10, .assign (.tmp 116), 33, "law.go:57", #[⟨4, .data⟩, ⟨9, .chain⟩, ⟨0, .phase⟩, ⟨1, .phase⟩, ⟨2, .phase⟩, ⟨3, .phase⟩, ⟨4, .phase⟩, ⟨5, .textOnly .lateStores⟩, ⟨6, .textOnly .lateStores⟩, ⟨7, .textOnly .lateStores⟩, ⟨8, .textOnly .lateStores⟩, ⟨9, .textOnly .lateStoresUnsure⟩], none⟩) (v := ?_) (Or.inl ⟨by rfl, ?_⟩) ?_
      rotate_left
      · (intro w; go_simp; try with_reducible rfl)
      simp only [Act.put, pu1, pu2, pu3]
      refine g_pure 11 (oi := ⟨some 11, .assign (.tmp 121), 3, "law.go:57", #[⟨9, .data⟩, ⟨10, .chain⟩, ⟨0, .phase⟩, ⟨1, .phase⟩, ⟨2, .phase⟩, ⟨3, .phase⟩, ⟨4, .phase⟩, ⟨5, .phase⟩, ⟨6, .phase⟩, ⟨7, .phase⟩, ⟨8, .phase⟩, ⟨9, .phase⟩, ⟨10, .phase⟩], none⟩) (v := ?_) (Or.inl ⟨by rfl, ?_⟩) ?_
      rotate_left
      · (intro w; go_simp; try with_reducible rfl)
      simp only [Act.put, pu1, pu2, pu3]
      refine wpAnyG_free (by kernel_rfl) ?_
      refine wpAny_done (by kernel_rfl) ?_ _
      clear hHeld2
      go_wp2_with fail
      go_meet
      case rel => exact ⟨ev, tag3, q, A9, rfl, rfl, B3, vd.trans v3⟩
    · clear h0
      obtain ⟨HPd, HDd⟩ := (B1.out.kept (Kp.refl [] U1).drew).wb2 hk za tx9 t9
      clear B1 rN
      have HDd : Hid _ := HDd
      clear s9 t9
      generalize (A.wbF za tx9).1 = A9 at *
      generalize (A.wbF za tx9).2 = ev at *
      go_upto_region 21 with fail
      clear f0
      obtain ⟨U2, hU2⟩ : ∃ V, V = U1.drew := ⟨_, rfl⟩
      have kd2 : Kp [] U1 U2 := by rw [hU2]; exact (Kp.refl _ _).drew
      rw [← hU2] at HPd HDd
      have vd : Bv tag1 U1 tag1 U2 := Bv.of_kp kd2 (fun _ _ => rfl)
      refine wp_region_g (S := fun V => V.cell? ⟨g5, 1, none⟩ = some (.int .i64 za) ∧ V.cell? ⟨g5, 2, none⟩ = some (.int .i64 zb)) (T := []) (by kernel_rfl) (by obtain ⟨f1, f2, _⟩ := HB.out _ _ (Bv.of_kp (tag' := tag1) (Kp.refl [] U1).drew (fun _ _ => rfl)); exact ⟨f1, f2⟩) (fun hHeld => ?_)
      rw [← hU2] at hHeld ⊢
      clear hU2
      refine g_pure 0 (oi := ⟨some 124, .move (.tmp 0), 22, "law.go:59", #[], none⟩) (v := ?_) (Or.inl ⟨by rfl, ?_⟩) ?_
      rotate_left
      · (intro w; go_simp; try with_reducible rfl)
      simp only [Act.put, pu1, pu2, pu3]
      refine g_pure 1 (oi := ⟨some 125, .fieldAddr 28 (.tmp 5) 1, 0, "law.go:59", #[], none⟩) (v := ?_) (Or.inl ⟨by rfl, ?_⟩) ?_
      rotate_left
      · (intro w; go_simp; try with_reducible rfl)
      simp only [Act.put, pu1, pu2, pu3]
      refine g_take 2 (oi := ⟨some 126, .load 3 (.tmp 125), 3, "law.go:59", #[⟨1, .data⟩], none⟩) (v := ?_) (Or.inl ⟨by rfl, ?_⟩) ?_
      rotate_left
      · (intro w hSw; (obtain ⟨q5, q6⟩ := hSw); go_simp; try with_reducible rfl)
      simp only [Act.put, pu1, pu2, pu3]
      refine g_pure 3 (oi := ⟨some 127, .move (.tmp 8), 9, "law.go:59", #[], none⟩) (v := ?_) (Or.inl ⟨by rfl, ?_⟩) ?_
      rotate_left
      · (intro w; go_simp; try with_reducible rfl)
      simp only [Act.put, pu1, pu2, pu3]
      refine g_pure 5 (oi := ⟨some 129, .move (.tmp 1), 24, "law.go:59", #[], none⟩) (v := ?_) (Or.inl ⟨by rfl, ?_⟩) ?_
      rotate_left
      · (intro w; go_simp; try with_reducible rfl)
      simp only [Act.put, pu1, pu2, pu3]
      refine g_pure 6 (oi := ⟨some 130, .fieldAddr 28 (.tmp 5) 1, 0, "law.go:59", #[], none⟩) (v := ?_) (Or.inl ⟨by rfl, ?_⟩) ?_
      rotate_left
      · (intro w; go_simp; try with_reducible rfl)
      simp only [Act.put, pu1, pu2, pu3]
      refine g_take 7 (oi := ⟨some 131, .load 3 (.tmp 130), 3, "law.go:59", #[⟨6, .data⟩], none⟩) (v := ?_) (Or.inl ⟨by rfl, ?_⟩) ?_
      rotate_left
      · (intro w hSw; (obtain ⟨q5, q6⟩ := hSw); go_simp; try with_reducible rfl)
      simp only [Act.put, pu1, pu2, pu3]
      refine g_pure 8 (oi := ⟨some 132, .move (.tmp 8), 9, "law.go:59", #[], none⟩) (v := ?_) (Or.inl ⟨by rfl, ?_⟩) ?_
      rotate_left
      · (intro w; go_simp; try with_reducible rfl)
      simp only [Act.put, pu1, pu2, pu3]
      refine wpAnyG_ready (rs := [4]) (by kernel_rfl) (by simp) ?_
      refine AllReadyG.cons (o := ⟨some 128, .call { callee := .value (.func 32), args := #[.tmp 124, .tmp 126, .tmp 127], argTypes := #[22, 3, 9] }, 33, "law.go:59", #[⟨0, .data⟩, ⟨2, .data⟩, ⟨3, .data⟩], none⟩) rfl (fun K hK => ?_) AllReadyG.nil
      go_simp
      go_at_call 32
      refine Calls.mono HPd ?_
      rintro e W2 ⟨rfl, tag2, p2, m2⟩
      go_wp2_with fail
      obtain ⟨f1, f2, _⟩ := HB.out _ _ (vd.trans m2.bv)
      refine hK.out _ _ ⟨f1, f2⟩ (fun hHeld1 => ?_)
      clear hK K hHeld
      try simp only [Act.put, pu1, pu2, pu3]
      refine wpAnyG_ready (rs := [9]) (by kernel_rfl) (by simp) ?_
      refine AllReadyG.cons (o := ⟨some 133, .call { callee := .value (.func 33), args := #[.tmp 129, .tmp 131, .tmp 132], argTypes := #[24, 3, 9] }, 3, "law.go:59", #[⟨5, .data⟩, ⟨7, .data⟩, ⟨8, .data⟩, ⟨4, .chain⟩], none⟩) rfl (fun K hK => ?_) AllReadyG.nil
      go_simp
      go_at_call 33
      refine (HDd.out _ _ p2 m2).mono ?_
      rintro e W3 ⟨rfl, tag3, B3, v3⟩
      go_wp2_with fail
      obtain ⟨f1, f2, _⟩ := HB.out _ _ (vd.trans v3)
      refine hK.out _ _ ⟨f1, f2⟩ (fun hHeld2 => ?_)
      clear hK K hHeld1
      try simp only [Act.put, pu1, pu2, pu3]
      refine g_pure 10 (oi := ⟨some 10, .assign (.tmp 128), 33, "law.go:59", #[⟨4, .data⟩, ⟨9, .chain⟩, ⟨0, .phase⟩, ⟨1, .phase⟩, ⟨2, .phase⟩, ⟨3, .phase⟩, ⟨4, .phase⟩, ⟨5, .textOnly .lateStores⟩, ⟨6, .textOnly .lateStores⟩, ⟨7, .textOnly .lateStores⟩, ⟨8, .textOnly .lateStores⟩, ⟨9, .textOnly .lateStoresUnsure⟩], none⟩) (v := ?_) (Or.inl ⟨by rfl, ?_⟩) ?_
      rotate_left
      · (intro w; go_simp; try with_reducible rfl)
      simp only [Act.put, pu1, pu2, pu3]
      refine g_pure 11 (oi := ⟨some 11, .assign (.tmp 133), 3, "law.go:59", #[⟨9, .data⟩, ⟨10, .chain⟩, ⟨0, .phase⟩, ⟨1, .phase⟩, ⟨2, .phase⟩, ⟨3, .phase⟩, ⟨4, .phase⟩, ⟨5, .phase⟩, ⟨6, .phase⟩, ⟨7, .phase⟩, ⟨8, .phase⟩, ⟨9, .phase⟩, ⟨10, .phase⟩], none⟩) (v := ?_) (Or.inl ⟨by rfl, ?_⟩) ?_
      rotate_left
      · (intro w; go_simp; try with_reducible rfl)
      simp only [Act.put, pu1, pu2, pu3]
      refine wpAnyG_free (by kernel_rfl) ?_
      refine wpAny_done (by kernel_rfl) ?_ _
      clear hHeld2
      go_wp2_with fail
      go_meet
      case rel => exact ⟨ev, tag3, q, A9, rfl, rfl, B3, vd.trans v3⟩
    · clear h0
      obtain ⟨HPd, HDd⟩ := (B1.out.kept (Kp.refl [] U1).drew).mor2 hk za (short l) a1 n1 c1 (rN.out.kept (Kp.refl [] U1).drew) (short_len l) (short_tiny l)
      clear B1 rN
      have HDd : Hid _ := HDd
      clear s9 t9
      generalize (A.morF za (fun x => more x (short l))).1 = A9 at *
      generalize (A.morF za (fun x => more x (short l))).2 = ev at *
      go_upto_region 23 with fail
      clear f0
      obtain ⟨U2, hU2⟩ : ∃ V, V = U1.drew := ⟨_, rfl⟩
      have kd2 : Kp [] U1 U2 := by rw [hU2]; exact (Kp.refl _ _).drew
      rw [← hU2] at HPd HDd
      have vd : Bv tag1 U1 tag1 U2 := Bv.of_kp kd2 (fun _ _ => rfl)
      refine wp_region_g (S := fun V => V.cell? ⟨g5, 1, none⟩ = some (.int .i64 za) ∧ V.cell? ⟨g5, 2, none⟩ = some (.int .i64 zb)) (T := []) (by kernel_rfl) (by obtain ⟨f1, f2, _⟩ := HB.out _ _ (Bv.of_kp (tag' := tag1) (Kp.refl [] U1).drew (fun _ _ => rfl)); exact ⟨f1, f2⟩) (fun hHeld => ?_)
      rw [← hU2] at hHeld ⊢
      clear hU2
      refine g_pure 0 (oi := ⟨some 136, .move (.tmp 0), 22, "law.go:61", #[], none⟩) (v := ?_) (Or.inl ⟨by rfl, ?_⟩) ?_
      rotate_left
      · (intro w; go_simp; try with_reducible rfl)
      simp only [Act.put, pu1, pu2, pu3]
      refine g_pure 1 (oi := ⟨some 137, .fieldAddr 28 (.tmp 5) 1, 0, "law.go:61", #[], none⟩) (v := ?_) (Or.inl ⟨by rfl, ?_⟩) ?_
      rotate_left
      · (intro w; go_simp; try with_reducible rfl)
      simp only [Act.put, pu1, pu2, pu3]
      refine g_take 2 (oi := ⟨some 138, .load 3 (.tmp 137), 3, "law.go:61", #[⟨1, .data⟩], none⟩) (v := ?_) (Or.inl ⟨by rfl, ?_⟩) ?_
      rotate_left
      · (intro w hSw; (obtain ⟨q5, q6⟩ := hSw); go_simp; try with_reducible rfl)
      simp only [Act.put, pu1, pu2, pu3]
      refine g_pure 3 (oi := ⟨some 139, .move (.tmp 9), 26, "law.go:61", #[], none⟩) (v := ?_) (Or.inl ⟨by rfl, ?_⟩) ?_
      rotate_left
      · (intro w; go_simp; try with_reducible rfl)
      simp only [Act.put, pu1, pu2, pu3]
      refine g_pure 5 (oi := ⟨some 141, .move (.tmp 1), 24, "law.go:61", #[], none⟩) (v := ?_) (Or.inl ⟨by rfl, ?_⟩) ?_
      rotate_left
      · (intro w; go_simp; try with_reducible rfl)
      simp only [Act.put, pu1, pu2, pu3]
      refine g_pure 6 (oi := ⟨some 142, .fieldAddr 28 (.tmp 5) 1, 0, "law.go:61", #[], none⟩) (v := ?_) (Or.inl ⟨by rfl, ?_⟩) ?_
      rotate_left
      · (intro w; go_simp; try with_reducible rfl)
      simp only [Act.put, pu1, pu2, pu3]
      refine g_take 7 (oi := ⟨some 143, .load 3 (.tmp 142), 3, "law.go:61", #[⟨6, .data⟩], none⟩) (v := ?_) (Or.inl ⟨by rfl, ?_⟩) ?_
      rotate_left
      · (intro w hSw; (obtain ⟨q5, q6⟩ := hSw); go_simp; try with_reducible rfl)
      simp only [Act.put, pu1, pu2, pu3]
      refine g_pure 8 (oi := ⟨some 144, .move (.tmp 9), 26, "law.go:61", #[], none⟩) (v := ?_) (Or.inl ⟨by rfl, ?_⟩) ?_
      rotate_left
      · (intro w; go_simp; try with_reducible rfl)
      simp only [Act.put, pu1, pu2, pu3]
      refine wpAnyG_ready (rs := [4]) (by kernel_rfl) (by simp) ?_
      refine AllReadyG.cons (o := ⟨some 140, .call { callee := .value (.func 34), args := #[.tmp 136, .tmp 138, .tmp 139], argTypes := #[22, 3, 26] }, 33, "law.go:61", #[⟨0, .data⟩, ⟨2, .data⟩, ⟨3, .data⟩], none⟩) rfl (fun K hK => ?_) AllReadyG.nil
      go_simp
      go_at_call 34
      refine Calls.mono HPd ?_
      rintro e W2 ⟨rfl, tag2, p2, m2⟩
      go_wp2_with fail
      obtain ⟨f1, f2, _⟩ := HB.out _ _ (vd.trans m2.bv)
      refine hK.out _ _ ⟨f1, f2⟩ (fun hHeld1 => ?_)
      clear hK K hHeld
      try simp only [Act.put, pu1, pu2, pu3]
      refine wpAnyG_ready (rs := [9]) (by kernel_rfl) (by simp) ?_
      refine AllReadyG.cons (o := ⟨some 145, .call { callee := .value (.func 35), args := #[.tmp 141, .tmp 143, .tmp 144], argTypes := #[24, 3, 26] }, 3, "law.go:61", #[⟨5, .data⟩, ⟨7, .data⟩, ⟨8, .data⟩, ⟨4, .chain⟩], none⟩) rfl (fun K hK => ?_) AllReadyG.nil
      go_simp
      go_at_call 35
      refine (HDd.out _ _ p2 m2).mono ?_
      rintro e W3 ⟨rfl, tag3, B3, v3⟩
      go_wp2_with fail
      obtain ⟨f1, f2, _⟩ := HB.out _ _ (vd.trans v3)
      refine hK.out _ _ ⟨f1, f2⟩ (fun hHeld2 => ?_)
      clear hK K hHeld1
      try simp only [Act.put, pu1, pu2, pu3]
      refine g_pure 10 (oi := ⟨some 10, .assign (.tmp 140), 33, "law.go:61", #[⟨4, .data⟩, ⟨9, .chain⟩, ⟨0, .phase⟩, ⟨1, .phase⟩, ⟨2, .phase⟩, ⟨3, .phase⟩, ⟨4, .phase⟩, ⟨5, .textOnly .lateStores⟩, ⟨6, .textOnly .lateStores⟩, ⟨7, .textOnly .lateStores⟩, ⟨8, .textOnly .lateStores⟩, ⟨9, .textOnly .lateStoresUnsure⟩], none⟩) (v := ?_) (Or.inl ⟨by rfl, ?_⟩) ?_
      rotate_left
      · (intro w; go_simp; try with_reducible rfl)
      simp only [Act.put, pu1, pu2, pu3]
      refine g_pure 11 (oi := ⟨some 11, .assign (.tmp 145), 3, "law.go:61", #[⟨9, .data⟩, ⟨10, .chain⟩, ⟨0, .phase⟩, ⟨1, .phase⟩, ⟨2, .phase⟩, ⟨3, .phase⟩, ⟨4, .phase⟩, ⟨5, .phase⟩, ⟨6, .phase⟩, ⟨7, .phase⟩, ⟨8, .phase⟩, ⟨9, .phase⟩, ⟨10, .phase⟩], none⟩) (v := ?_) (Or.inl ⟨by rfl, ?_⟩) ?_
      rotate_left
      · (intro w; go_simp; try with_reducible rfl)
      simp only [Act.put, pu1, pu2, pu3]
      refine wpAnyG_free (by kernel_rfl) ?_
      refine wpAny_done (by kernel_rfl) ?_ _
      clear hHeld2
      go_wp2_with fail
      go_meet
      case rel => exact ⟨ev, tag3, q, A9, rfl, rfl, B3, vd.trans v3⟩
    · clear h0
      have HQ : Hid (∀ V, V = U1 → Calls Tryz.prog 36 #[.pointer (some ⟨b, 0, none⟩), .bool fl] V fun e w' => e = .returned (.tuple #[]) ∧ Ps tag1 w' b fl A k ∧ Mv tag1 U1 tag1 w') := fun V hV => by subst hV; exact B1.out.ps.quirks fl
      have HQ2 : Hid (∀ V, Ps tag1 V b fl A k → Mv tag1 U1 tag1 V → (V.cell? ⟨d, 1, none⟩ = some (.bool q) ∧ V.frozen? ⟨d, 1, none⟩ = false) ∧ Bo tag1 (V.setCell ⟨d, 1, none⟩ (.bool fl)) b d fl A (k + 1) ∧ Bv tag1 U1 tag1 (V.setCell ⟨d, 1, none⟩ (.bool fl))) := fun V ps mv => by
        have dn := B1.out.dn.mv mv
        obtain ⟨dn2, dv2⟩ := dn.quirk fl
        refine ⟨?_, ⟨(ps.dv dv2).succ (by omega), dn2, hk⟩, mv.bv.trans dv2.bv⟩
        obtain ⟨g, o, c, pl, h⟩ := dn
        exact ⟨h.head.2, h.hd.free 1⟩
      obtain ⟨f1, f2, f3, f4, f8⟩ := HB.out _ _ (Bv.refl _ _)
      clear B1 rN s9 t9
      go_wp2_with (go_at_call 36; refine (HQ.out _ rfl).mono ?_; rintro e W2 ⟨rfl, p2, m2⟩; obtain ⟨⟨d1, fr⟩, X9⟩ := HQ2.out _ p2 m2; have Y9 : Hid _ := X9; clear X9; obtain ⟨_, _, _, _, f8⟩ := HB.out _ _ m2.bv)
      go_meet
      case rel => exact ⟨0, tag1, fl, A, rfl, rfl, Y9.out.1, Y9.out.2⟩
  obtain ⟨ev, tag3, q3, A9, rfl, rfl, B3, v3⟩ := hcut
  clear f0 B1 rN s9 t9
  obtain ⟨W3, hW3⟩ : ∃ V, V = wc := ⟨_, rfl⟩
  rw [← hW3] at B3 v3 ⊢
  clear hW3
  obtain ⟨HC, HL, HQy, HO⟩ := do_end B3
  obtain ⟨g, o, c9, HC⟩ := HC.out
  have HC : Hid _ := HC
  have HE : Hid (Bo tag3 W3 b d q3 A9 (k + 1) ∧ Bv tag1 U1 tag3 W3) := ⟨B3, v3⟩
  clear B3
  have HF : Hid (∀ V, Kp [] W3 V → V.cell? ⟨d, 0, none⟩ = some (.slice (some ⟨g, o, none⟩) A9.n c9) ∧ V.cell? ⟨d, 1, none⟩ = some (.bool q3) ∧ V.cell? ⟨g5, 1, none⟩ = some (.int .i64 za) ∧ V.cell? ⟨g5, 2, none⟩ = some (.int .i64 zb)) := fun V kV => by
    obtain ⟨f1, f2, _⟩ := HB.out _ _ (v3.trans (Bv.of_kp (tag' := tag3) kV (fun _ _ => rfl)))
    exact ⟨(HC.out V kV).1, (HC.out V kV).2, f1, f2⟩
  clear v3
  go_upto_region 27 with fail
  obtain ⟨U5, hU5⟩ : ∃ V, V = W3.drew := ⟨_, rfl⟩
  have k5 : Kp [] W3 U5 := by rw [hU5]; exact (Kp.refl _ _).drew
  refine wp_region_g (S := fun V => V.cell? ⟨d, 0, none⟩ = some (.slice (some ⟨g, o, none⟩) A9.n c9) ∧ V.cell? ⟨d, 1, none⟩ = some (.bool q3) ∧ V.cell? ⟨g5, 1, none⟩ = some (.int .i64 za) ∧ V.cell? ⟨g5, 2, none⟩ = some (.int .i64 zb)) (T := []) (by kernel_rfl) (HF.out _ (Kp.refl _ _).drew) (fun hHeld => ?_)
  rw [← hU5] at hHeld ⊢
  clear hU5
  refine g_pure 0 (oi := ⟨some 157, .move (.tmp 10), 33, "law.go:66", #[], none⟩) (v := ?_) (Or.inl ⟨by rfl, ?_⟩) ?_
  rotate_left
  · (intro w; go_simp; try with_reducible rfl)
  simp only [Act.put, pu1, pu2, pu3]
  refine g_pure 1 (oi := ⟨some 158, .move (.tmp 11), 3, "law.go:66", #[], none⟩) (v := ?_) (Or.inl ⟨by rfl, ?_⟩) ?_
  rotate_left
  · (intro w; go_simp; try with_reducible rfl)
  simp only [Act.put, pu1, pu2, pu3]
  refine g_pure 2 (oi := ⟨some 159, .binOp .eql 3 (.tmp 157) (.tmp 158) 3, 4, "law.go:66", #[⟨0, .data⟩, ⟨1, .data⟩], none⟩) (v := ?_) (Or.inl ⟨by rfl, ?_⟩) ?_
  rotate_left
  · (intro w; go_simp; try with_reducible rfl)
  simp only [Act.put, pu1, pu2, pu3]
  refine g_pure 3 (oi := ⟨some 160, .move (.tmp 159), 4, "law.go:66", #[⟨2, .data⟩], none⟩) (v := ?_) (Or.inl ⟨by rfl, ?_⟩) ?_
  rotate_left
  · (intro w; go_simp; try with_reducible rfl)
  simp only [Act.put, pu1, pu2, pu3]
  refine g_pure 4 (oi := ⟨some 161, .move (.tmp 0), 22, "law.go:66", #[⟨3, .guard⟩], some (3, true)⟩) (v := ?_) (Or.inl ⟨by rfl, ?_⟩) ?_
  rotate_left
  · (intro w; go_simp; try with_reducible rfl)
  simp only [Act.put, pu1, pu2, pu3]
  refine g_pure 6 (oi := ⟨some 163, .move (.tmp 1), 24, "law.go:66", #[⟨3, .guard⟩], some (3, true)⟩) (v := ?_) (Or.inl ⟨by rfl, ?_⟩) ?_
  rotate_left
  · (intro w; go_simp; try with_reducible rfl)
  simp only [Act.put, pu1, pu2, pu3]
  refine g_pure 7 (oi := ⟨some 164, .nilCheck (.tmp 163), 0, "law.go:66", #[⟨6, .data⟩, ⟨3, .guard⟩], some (3, true)⟩) (v := ?_) (Or.inl ⟨by rfl, ?_⟩) ?_
  rotate_left
  · (intro w; go_simp; try with_reducible rfl)
  simp only [Act.put, pu1, pu2, pu3]
  refine g_pure 8 (oi := ⟨some 165, .fieldAddr 62 (.tmp 164) 0, 0, "law.go:66", #[⟨7, .data⟩, ⟨3, .guard⟩], some (3, true)⟩) (v := ?_) (Or.inl ⟨by rfl, ?_⟩) ?_
  rotate_left
  · (intro w; go_simp; try with_reducible rfl)
  simp only [Act.put, pu1, pu2, pu3]
  refine g_take 9 (oi := ⟨some 166, .load 60 (.tmp 165), 60, "law.go:66", #[⟨8, .data⟩, ⟨3, .guard⟩], some (3, true)⟩) (v := ?_) (Or.inl ⟨by rfl, ?_⟩) ?_
  rotate_left
  · (intro w hSw; (obtain ⟨c0, c1, f1, f2⟩ := hSw); go_simp; try with_reducible rfl)
  simp only [Act.put, pu1, pu2, pu3]
  refine g_pure 10 (oi := ⟨some 167, .call { callee := .builtin .len, args := #[.tmp 166], argTypes := #[60] }, 3, "law.go:66", #[⟨9, .data⟩, ⟨3, .guard⟩], some (3, true)⟩) (v := ?_) (Or.inl ⟨by rfl, ?_⟩) ?_
  rotate_left
  · (intro w; go_simp; try with_reducible rfl)
  simp only [Act.put, pu1, pu2, pu3]
  refine wpAnyG_ready (rs := [5]) (by kernel_rfl) (by simp) ?_
  refine AllReadyG.cons (o := ⟨some 162, .call { callee := .value (.func 15), args := #[.tmp 161], argTypes := #[22] }, 3, "law.go:66", #[⟨4, .data⟩, ⟨3, .chain⟩, ⟨3, .guard⟩], some (3, true)⟩) rfl (fun K hK => ?_) AllReadyG.nil
  go_simp
  go_at_call 15
  refine (HL.out _ k5).mono ?_
  rintro e w9 ⟨rfl, hw⟩
  have hw2 := hw.symm
  clear hw
  subst hw2
  go_wp2_with fail
  refine hK.out _ _ (HF.out _ k5) (fun hHeld1 => ?_)
  clear hK K hHeld
  try simp only [Act.put, pu1, pu2, pu3]
  refine g_pure 11 (oi := ⟨some 168, .binOp .eql 3 (.tmp 162) (.tmp 167) 3, 4, "law.go:66", #[⟨5, .data⟩, ⟨10, .data⟩, ⟨3, .guard⟩], some (3, true)⟩) (v := ?_) (Or.inl ⟨by rfl, ?_⟩) ?_
  rotate_left
  · (intro w; go_simp; try with_reducible rfl)
  simp only [Act.put, pu1, pu2, pu3]
  refine g_pure 12 (oi := ⟨some 169, .pick (.tmp 160) (.tmp 168) (.const (.bool false)), 4, "law.go:66", #[⟨3, .data⟩, ⟨11, .data⟩], none⟩) (v := ?_) (Or.inl ⟨by rfl, ?_⟩) ?_
  rotate_left
  · (intro w; go_simp; try with_reducible rfl)
  simp only [Act.put, pu1, pu2, pu3]
  refine g_pure 13 (oi := ⟨some 170, .move (.tmp 169), 4, "law.go:66", #[⟨12, .data⟩, ⟨5, .chain⟩], none⟩) (v := ?_) (Or.inl ⟨by rfl, ?_⟩) ?_
  rotate_left
  · (intro w; go_simp; try with_reducible rfl)
  simp only [Act.put, pu1, pu2, pu3]
  refine g_pure 14 (oi := ⟨some 171, .move (.tmp 0), 22, "law.go:66", #[⟨13, .guard⟩], some (13, true)⟩) (v := ?_) (Or.inl ⟨by rfl, ?_⟩) ?_
  rotate_left
  · (intro w; go_simp; try with_reducible rfl)
  simp only [Act.put, pu1, pu2, pu3]
  refine g_pure 16 (oi := ⟨some 173, .move (.tmp 1), 24, "law.go:66", #[⟨13, .guard⟩], some (13, true)⟩) (v := ?_) (Or.inl ⟨by rfl, ?_⟩) ?_
  rotate_left
  · (intro w; go_simp; try with_reducible rfl)
  simp only [Act.put, pu1, pu2, pu3]
  refine g_pure 17 (oi := ⟨some 174, .nilCheck (.tmp 173), 0, "law.go:66", #[⟨16, .data⟩, ⟨13, .guard⟩], some (13, true)⟩) (v := ?_) (Or.inl ⟨by rfl, ?_⟩) ?_
  rotate_left
  · (intro w; go_simp; try with_reducible rfl)
  simp only [Act.put, pu1, pu2, pu3]
  refine g_pure 18 (oi := ⟨some 175, .fieldAddr 62 (.tmp 174) 1, 0, "law.go:66", #[⟨17, .data⟩, ⟨13, .guard⟩], some (13, true)⟩) (v := ?_) (Or.inl ⟨by rfl, ?_⟩) ?_
  rotate_left
  · (intro w; go_simp; try with_reducible rfl)
  simp only [Act.put, pu1, pu2, pu3]
  refine g_take 19 (oi := ⟨some 176, .load 4 (.tmp 175), 4, "law.go:66", #[⟨18, .data⟩, ⟨13, .guard⟩], some (13, true)⟩) (v := ?_) (Or.inl ⟨by rfl, ?_⟩) ?_
  rotate_left
  · (intro w hSw; (obtain ⟨c0, c1, f1, f2⟩ := hSw); go_simp; try with_reducible rfl)
  simp only [Act.put, pu1, pu2, pu3]
  refine wpAnyG_ready (rs := [15]) (by kernel_rfl) (by simp) ?_
  refine AllReadyG.cons (o := ⟨some 172, .call { callee := .value (.func 37), args := #[.tmp 171], argTypes := #[22] }, 4, "law.go:66", #[⟨14, .data⟩, ⟨13, .chain⟩, ⟨13, .guard⟩], some (13, true)⟩) rfl (fun K hK => ?_) AllReadyG.nil
  go_simp
  go_at_call 37
  refine (HQy.out _ k5).mono ?_
  rintro e w9 ⟨rfl, hw⟩
  have hw2 := hw.symm
  clear hw
  subst hw2
  go_wp2_with fail
  refine hK.out _ _ (HF.out _ k5) (fun hHeld2 => ?_)
  clear hK K hHeld1
  try simp only [Act.put, pu1, pu2, pu3]
  refine g_pure 20 (oi := ⟨some 177, .binOp .eql 4 (.tmp 172) (.tmp 176) 4, 4, "law.go:66", #[⟨15, .data⟩, ⟨19, .data⟩, ⟨13, .guard⟩], some (13, true)⟩) (v := ?_) (Or.inl ⟨by rfl, ?_⟩) ?_
  rotate_left
  · (intro w; go_simp; try with_reducible rfl)
  simp only [Act.put, pu1, pu2, pu3]
  refine g_pure 21 (oi := ⟨some 178, .pick (.tmp 170) (.tmp 177) (.const (.bool false)), 4, "law.go:66", #[⟨13, .data⟩, ⟨20, .data⟩], none⟩) (v := ?_) (Or.inl ⟨by rfl, ?_⟩) ?_
  rotate_left
  · (intro w; go_simp; try with_reducible rfl)
  simp only [Act.put, pu1, pu2, pu3]
  refine g_pure 22 (oi := ⟨some 179, .move (.tmp 178), 4, "law.go:66", #[⟨21, .data⟩, ⟨15, .chain⟩], none⟩) (v := ?_) (Or.inl ⟨by rfl, ?_⟩) ?_
  rotate_left
  · (intro w; go_simp; try with_reducible rfl)
  simp only [Act.put, pu1, pu2, pu3]
  refine g_pure 23 (oi := ⟨some 180, .move (.tmp 0), 22, "law.go:66", #[⟨22, .guard⟩], some (22, true)⟩) (v := ?_) (Or.inl ⟨by rfl, ?_⟩) ?_
  rotate_left
  · (intro w; go_simp; try with_reducible rfl)
  simp only [Act.put, pu1, pu2, pu3]
  refine g_pure 24 (oi := ⟨some 181, .move (.tmp 1), 24, "law.go:66", #[⟨22, .guard⟩], some (22, true)⟩) (v := ?_) (Or.inl ⟨by rfl, ?_⟩) ?_
  rotate_left
  · (intro w; go_simp; try with_reducible rfl)
  simp only [Act.put, pu1, pu2, pu3]
  refine g_pure 25 (oi := ⟨some 182, .fieldAddr 28 (.tmp 5) 1, 0, "law.go:66", #[⟨22, .guard⟩], some (22, true)⟩) (v := ?_) (Or.inl ⟨by rfl, ?_⟩) ?_
  rotate_left
  · (intro w; go_simp; try with_reducible rfl)
  simp only [Act.put, pu1, pu2, pu3]
  refine g_take 26 (oi := ⟨some 183, .load 3 (.tmp 182), 3, "law.go:66", #[⟨25, .data⟩, ⟨22, .guard⟩], some (22, true)⟩) (v := ?_) (Or.inl ⟨by rfl, ?_⟩) ?_
  rotate_left
  · (intro w hSw; (obtain ⟨c0, c1, f1, f2⟩ := hSw); go_simp; try with_reducible rfl)
  simp only [Act.put, pu1, pu2, pu3]
  refine wpAnyG_ready (rs := [27]) (by kernel_rfl) (by simp) ?_
  refine AllReadyG.cons (o := ⟨some 184, .call { callee := .value (.func 38), args := #[.tmp 180, .tmp 181, .tmp 183], argTypes := #[22, 24, 3] }, 4, "law.go:66", #[⟨23, .data⟩, ⟨24, .data⟩, ⟨26, .data⟩, ⟨22, .chain⟩, ⟨22, .guard⟩], some (22, true)⟩) rfl (fun K hK => ?_) AllReadyG.nil
  go_simp
  go_at_call 38
  refine (HO.out _ za k5).mono ?_
  rintro e U6 ⟨rfl, u6⟩
  go_wp2_with fail
  have k6 : Kp [] W3 U6 := k5.trans u6 (fun z hz => Or.inl hz)
  refine hK.out _ _ (HF.out _ k6) (fun hHeld3 => ?_)
  clear hK K hHeld2
  try simp only [Act.put, pu1, pu2, pu3]
  refine g_pure 28 (oi := ⟨some 185, .pick (.tmp 179) (.tmp 184) (.const (.bool false)), 4, "law.go:66", #[⟨22, .data⟩, ⟨27, .data⟩], none⟩) (v := ?_) (Or.inl ⟨by rfl, ?_⟩) ?_
  rotate_left
  · (intro w; go_simp; try with_reducible rfl)
  simp only [Act.put, pu1, pu2, pu3]
  refine g_pure 29 (oi := ⟨some 186, .move (.tmp 185), 4, "law.go:66", #[⟨28, .data⟩, ⟨27, .chain⟩], none⟩) (v := ?_) (Or.inl ⟨by rfl, ?_⟩) ?_
  rotate_left
  · (intro w; go_simp; try with_reducible rfl)
  simp only [Act.put, pu1, pu2, pu3]
  refine g_pure 30 (oi := ⟨some 187, .move (.tmp 0), 22, "law.go:66", #[⟨29, .guard⟩], some (29, true)⟩) (v := ?_) (Or.inl ⟨by rfl, ?_⟩) ?_
  rotate_left
  · (intro w; go_simp; try with_reducible rfl)
  simp only [Act.put, pu1, pu2, pu3]
  refine g_pure 31 (oi := ⟨some 188, .move (.tmp 1), 24, "law.go:66", #[⟨29, .guard⟩], some (29, true)⟩) (v := ?_) (Or.inl ⟨by rfl, ?_⟩) ?_
  rotate_left
  · (intro w; go_simp; try with_reducible rfl)
  simp only [Act.put, pu1, pu2, pu3]
  refine g_pure 32 (oi := ⟨some 189, .fieldAddr 28 (.tmp 5) 2, 0, "law.go:66", #[⟨29, .guard⟩], some (29, true)⟩) (v := ?_) (Or.inl ⟨by rfl, ?_⟩) ?_
  rotate_left
  · (intro w; go_simp; try with_reducible rfl)
  simp only [Act.put, pu1, pu2, pu3]
  refine g_take 33 (oi := ⟨some 190, .load 3 (.tmp 189), 3, "law.go:66", #[⟨32, .data⟩, ⟨29, .guard⟩], some (29, true)⟩) (v := ?_) (Or.inl ⟨by rfl, ?_⟩) ?_
  rotate_left
  · (intro w hSw; (obtain ⟨c0, c1, f1, f2⟩ := hSw); go_simp; try with_reducible rfl)
  simp only [Act.put, pu1, pu2, pu3]
  refine wpAnyG_ready (rs := [34]) (by kernel_rfl) (by simp) ?_
  refine AllReadyG.cons (o := ⟨some 191, .call { callee := .value (.func 38), args := #[.tmp 187, .tmp 188, .tmp 190], argTypes := #[22, 24, 3] }, 4, "law.go:66", #[⟨30, .data⟩, ⟨31, .data⟩, ⟨33, .data⟩, ⟨29, .chain⟩, ⟨29, .guard⟩], some (29, true)⟩) rfl (fun K hK => ?_) AllReadyG.nil
  go_simp
  go_at_call 38
  refine (HO.out _ zb k6).mono ?_
  rintro e U7 ⟨rfl, u7⟩
  go_wp2_with fail
  have k7 : Kp [] W3 U7 := k6.trans u7 (fun z hz => Or.inl hz)
  refine hK.out _ _ (HF.out _ k7) (fun hHeld4 => ?_)
  clear hK K hHeld3
  try simp only [Act.put, pu1, pu2, pu3]
  refine g_pure 35 (oi := ⟨some 192, .pick (.tmp 186) (.tmp 191) (.const (.bool false)), 4, "law.go:66", #[⟨29, .data⟩, ⟨34, .data⟩], none⟩) (v := ?_) (Or.inl ⟨by rfl, ?_⟩) ?_
  rotate_left
  · (intro w; go_simp; try with_reducible rfl)
  simp only [Act.put, pu1, pu2, pu3]
  refine g_pure 36 (oi := ⟨some 6, .assign (.tmp 192), 4, "law.go:66", #[⟨35, .data⟩, ⟨34, .chain⟩, ⟨0, .phase⟩, ⟨1, .phase⟩, ⟨2, .phase⟩, ⟨3, .phase⟩, ⟨4, .phase⟩, ⟨5, .phase⟩, ⟨6, .phase⟩, ⟨7, .phase⟩, ⟨8, .phase⟩, ⟨9, .phase⟩, ⟨10, .phase⟩, ⟨11, .phase⟩, ⟨12, .phase⟩, ⟨13, .phase⟩, ⟨14, .phase⟩, ⟨15, .phase⟩, ⟨16, .phase⟩, ⟨17, .phase⟩, ⟨18, .phase⟩, ⟨19, .phase⟩, ⟨20, .phase⟩, ⟨21, .phase⟩, ⟨22, .phase⟩, ⟨23, .phase⟩, ⟨24, .phase⟩, ⟨25, .phase⟩, ⟨26, .phase⟩, ⟨27, .phase⟩, ⟨28, .phase⟩, ⟨29, .phase⟩, ⟨30, .phase⟩, ⟨31, .phase⟩, ⟨32, .phase⟩, ⟨33, .phase⟩, ⟨34, .phase⟩, ⟨35, .phase⟩], none⟩) (v := ?_) (Or.inl ⟨by rfl, ?_⟩) ?_
  rotate_left
  · (intro w; go_simp; try with_reducible rfl)
  simp only [Act.put, pu1, pu2, pu3]
  refine wpAnyG_free (by kernel_rfl) ?_
  refine wpAny_done (by kernel_rfl) ?_ _
  clear HF hHeld4
  go_wp2
  go_ret
  obtain ⟨B3, v3⟩ := HE.out
  exact ⟨rfl, tag3, q3, A9, B3.kept k7, (HV.out.trans v3).trans (Bv.of_kp k7 (fun _ _ => rfl))⟩


end

end Go.Proofs.YtgjkfpmhgidpaaaGreat
