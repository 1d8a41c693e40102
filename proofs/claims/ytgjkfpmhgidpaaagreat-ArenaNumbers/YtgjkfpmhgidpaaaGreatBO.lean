/-
  Joined: Bo One.
-/
import Derived.Test.YtgjkfpmhgidpaaaGreatRM
import Derived.Test.YtgjkfpmhgidpaaaGreatPL
import Derived.Test.YtgjkfpmhgidpaaaGreatGL
import Derived.Test.YtgjkfpmhgidpaaaGreatGC

/-
  Both arenas in one world: what one side's calls leave of the other's.
-/
namespace Go.Proofs.YtgjkfpmhgidpaaaGreat
open Go.RowKit Go.Maps Utf
set_option linter.unusedVariables false
set_option linter.unusedSimpArgs false

/-- A mark of neither arena's blocks that are written. -/
def Nq (t : Nat) : Prop := ¬ isP t ∧ t ≠ 3 ∧ t ≠ 4
theorem nq0 : Nq 0 := by unfold Nq isP; omega
theorem nq5 : Nq 5 := by unfold Nq isP; omega

structure Bv (tag : Nat → Nat) (w : World) (tag' : Nat → Nat) (w' : World) : Prop where
  os : w'.os = w.os
  tape : w'.tape = w.tape
  output : w'.output = w.output
  size : w.heap.size ≤ w'.heap.size
  block : ∀ k, k < w.heap.size → Nq (tag k) → w'.heap[k]? = w.heap[k]?
  tg : ∀ k, k < w.heap.size → tag' k = tag k

section
variable {tag tag' tag'' : Nat → Nat} {w w' w'' : World} {b d k : Nat} {q : Bool} {A : Ar}

theorem Bv.refl (tag : Nat → Nat) (w : World) : Bv tag w tag w := ⟨rfl, rfl, rfl, Nat.le_refl _, fun _ _ _ => rfl, fun _ _ => rfl⟩
theorem Bv.trans (h : Bv tag w tag' w') (g : Bv tag' w' tag'' w'') : Bv tag w tag'' w'' :=
  ⟨g.os.trans h.os, g.tape.trans h.tape, g.output.trans h.output, Nat.le_trans h.size g.size, fun x hx hn => (g.block x (Nat.lt_of_lt_of_le hx h.size) (by rw [h.tg x hx]; exact hn)).trans (h.block x hx hn), fun x hx => (g.tg x (Nat.lt_of_lt_of_le hx h.size)).trans (h.tg x hx)⟩
theorem Mv.bv (m : Mv tag w tag' w') : Bv tag w tag' w' := ⟨m.os, m.tape, m.output, m.size, fun x hx hn => m.block x hx hn.1, m.tg⟩
theorem Dv.bv (m : Dv tag w tag' w') : Bv tag w tag' w' := ⟨m.os, m.tape, m.output, m.size, fun x hx hn => m.block x hx hn.2.1 hn.2.2, m.tg⟩
theorem Bv.of_kp (k : Kp [] w w') (ht : ∀ x, x < w.heap.size → tag' x = tag x) : Bv tag w tag' w' := ⟨k.os, k.tape, k.output, k.size, fun x hx _ => k.block x hx (by simp), ht⟩
theorem Bv.kp (m : Bv tag w tag' w') (h : ∀ x, x < w.heap.size → tag x = 0) : Kp [] w w' := ⟨m.os, m.tape, m.output, m.size, fun x hx _ => m.block x hx (by rw [h x hx]; exact nq0)⟩

theorem Dn.sm (h : Dn tag w d q A) (hb : ∀ x, x < w.heap.size → tag x = 3 ∨ tag x = 4 ∨ tag x = 5 → w'.heap[x]? = w.heap[x]?) (ht : ∀ x, x < w.heap.size → tag' x = tag x) : Dn tag' w' d q A := by
  obtain ⟨g, o, c, pl, h⟩ := h
  exact ⟨g, o, c, pl, h.sm hb ht⟩
theorem Dn.mv (h : Dn tag w d q A) (m : Mv tag w tag' w') : Dn tag' w' d q A := h.sm (fun x hx ht => m.block x hx (by unfold isP; omega)) m.tg

theorem Ps.sm (h : Ps tag w b q A k) (hs : w.heap.size ≤ w'.heap.size) (ho : w'.os = w.os) (ht : w'.tape = w.tape) (hu : w'.output = w.output) (hb : ∀ x, x < w.heap.size → isP (tag x) → w'.heap[x]? = w.heap[x]?) (hg : ∀ x, x < w.heap.size → tag' x = tag x) : Ps tag' w' b q A k := by
  classical
  obtain ⟨g, o, c, pl, r⟩ := h.pa
  have kp : Kp ((List.range w.heap.size).filter fun x => decide (¬ isP (tag x))) w w' := ⟨ho, ht, hu, hs, fun x hx hn => hb x hx (by
    simp only [List.mem_filter, List.mem_range, decide_eq_true_eq, not_and, Classical.not_not] at hn
    exact hn hx)⟩
  exact ⟨⟨g, o, c, pl, r.keep kp (fun x hx _ => by simp only [List.mem_filter, decide_eq_true_eq] at hx; exact hx.2) hg⟩, h.ful, h.sz, h.hk⟩
theorem Ps.dv (h : Ps tag w b q A k) (m : Dv tag w tag' w') : Ps tag' w' b q A k := h.sm m.size m.os m.tape m.output (fun x hx hp => m.block x hx (by unfold isP at hp; omega) (by unfold isP at hp; omega)) m.tg
theorem Ps.re (h : Ps tag w b q A k) (kp : Kp [] w w') (hg : ∀ x, x < w.heap.size → tag' x = tag x) : Ps tag' w' b q A k := h.sm kp.size kp.os kp.tape kp.output (fun x hx _ => kp.block x hx (by simp)) hg
theorem Dn.re (h : Dn tag w d q A) (kp : Kp [] w w') (hg : ∀ x, x < w.heap.size → tag' x = tag x) : Dn tag' w' d q A := h.sm (fun x hx _ => kp.block x hx (by simp)) hg

theorem Rk.bv {K : Nat} {ao : Option Addr} {n c : Nat} {xs : List Value} (r : Rk (fun x => Nq (tag x)) K w ao n c xs) (m : Bv tag w tag' w') : Rk (fun x => Nq (tag' x)) K w' ao n c xs := by
  refine ⟨r.len, r.cap, fun hn => ?_⟩
  obtain ⟨b, off, cur, t, hq, e1, e2, e3⟩ := r.at' hn
  have hl := lt_of e2
  exact ⟨b, off, cur, t, by rw [m.tg b hl]; exact hq, e1, by rw [m.block b hl hq]; exact e2, e3⟩

/-- Both arenas behind k calls. -/
structure Bo (tag : Nat → Nat) (w : World) (b d : Nat) (q : Bool) (A : Ar) (k : Nat) : Prop where
  ps : Ps tag w b q A k
  dn : Dn tag w d q A
  hk : k ≤ 1300

theorem Bo.re (h : Bo tag w b d q A k) (kp : Kp [] w w') (hg : ∀ x, x < w.heap.size → tag' x = tag x) : Bo tag' w' b d q A k := ⟨h.ps.re kp hg, h.dn.re kp hg, h.hk⟩
theorem Bo.kept (h : Bo tag w b d q A k) (kp : Kp [] w w') : Bo tag w' b d q A k := h.re kp (fun _ _ => rfl)
theorem Bo.att (h : Bo tag w b d q A k) (x : Nat) : (A.lb x).attrs.length ≤ 8000 ∧ fits (A.lb x).attrs := by
  obtain ⟨_, _, t⟩ := h.ps.sz.lbs x
  exact ⟨by have := t.len; have := h.hk; omega, t.fits⟩
theorem Bo.n_lt (h : Bo tag w b d q A k) : A.n < 2700 := by have := h.ps.sz.n; have := h.hk; omega

end

/-! Same of two lists of numbers. -/

theorem Made.rka {w U : World} {ao : Option Addr} {n c : Nat} {l : List Nat} (h : Made w U 3 ao n c (iv l)) : Rk Any 1 U ao n c (iv l) := (Made.rk5 (tag := fun _ => 0) h).mono (fun _ _ _ => trivial)

set_option maxRecDepth 100000 in
set_option maxHeartbeats 1000000 in
theorem sami_any (w : World) (ks : List Nat) (hm : ks.length ≤ 100000) (ao ao' : Option Addr) (n c n' c' : Nat) (h1 : Rk Any 1 w ao n c (iv ks)) (h2 : Rk Any 1 w ao' n' c' (iv ks)) :
    Calls Tryz.prog 79 #[.slice ao n c, .slice ao' n' c'] w fun e w' => e = .returned (.bool true) ∧ Kp [] w w' := by
  have l1 := h1.len
  have l2 := h2.len
  rw [iv_len] at l1 l2
  obtain rfl : n = ks.length := by omega
  obtain rfl : n' = ks.length := by omega
  have HK : Hid (∀ i (hi : i < ks.length) V, Kp [] w V → (∃ b7 o7, ao = some ⟨b7, o7, none⟩ ∧ V.cell? ⟨b7, o7 + i, none⟩ = some (.int .i64 (ks[i] : Int))) ∧ ∃ b8 o8, ao' = some ⟨b8, o8, none⟩ ∧ V.cell? ⟨b8, o8 + i, none⟩ = some (.int .i64 (ks[i] : Int))) := fun i hi V kV => ⟨(h1.kept kV).iv_at i hi, (h2.kept kV).iv_at i hi⟩
  clear h1 h2 l1 l2
  go_enter Tryz.func79, Tryz.ntmps79
  go_wp2_with fail
  go_loopw [5] (fun z wr => ∃ i : Nat, z = .int .i64 (i : Int) ∧ i ≤ ks.length ∧ Kp [] w wr) (fun z _ => ks.length - (intOf z).toNat)
  case atStart => exact ⟨0, rfl, Nat.zero_le _, Kp.refl _ _⟩
  case round =>
    obtain ⟨i, rfl, hi, kr⟩ := hrel
    by_cases hik : i < ks.length
    · obtain ⟨⟨b7, o7, rfl, hc7⟩, b8, o8, rfl, hc8⟩ := HK.out i hik wr kr
      have i1 : (0 : Int) ≤ (i : Int) := by omega
      have i2 : (i : Int) < (ks.length : Int) := by omega
      generalize ks[i] = y at hc7 hc8
      have hS1 : (World.drew wr).cell? ⟨b7, o7 + i, none⟩ = some (.int .i64 (y : Int)) ∧ (World.drew wr).cell? ⟨b8, o8 + i, none⟩ = some (.int .i64 (y : Int)) := ⟨hc7, hc8⟩
      have kr2 : Kp [] w wr.drew := kr.drew
      clear HK hc7 hc8
      go_upto_region 6 with fail
      refine wp_region_g (S := fun V => V.cell? ⟨b7, o7 + i, none⟩ = some (.int .i64 (y : Int)) ∧ V.cell? ⟨b8, o8 + i, none⟩ = some (.int .i64 (y : Int))) (T := []) (by kernel_rfl) hS1 (fun hHeld => ?_)
      refine g_pure 0 (oi := ⟨some 17, .move (.tmp 0), 57, "book.go:17", #[], none⟩) (v := ?_) (Or.inl ⟨by rfl, ?_⟩) ?_
      rotate_left
      · (intro w; go_simp; try with_reducible rfl)
      simp only [Act.put, pu1, pu2, pu3]
      refine g_pure 1 (oi := ⟨some 18, .move (.tmp 5), 3, "book.go:17", #[], none⟩) (v := ?_) (Or.inl ⟨by rfl, ?_⟩) ?_
      rotate_left
      · (intro w; go_simp; try with_reducible rfl)
      simp only [Act.put, pu1, pu2, pu3]
      refine g_pure 2 (oi := ⟨some 19, .indexAddr 57 (.tmp 17) (.tmp 18), 0, "book.go:17", #[⟨0, .data⟩, ⟨1, .data⟩], none⟩) (v := ?_) (Or.inl ⟨by rfl, ?_⟩) ?_
      rotate_left
      · (intro w; go_simp; try with_reducible rfl)
      simp only [Act.put, pu1, pu2, pu3]
      refine g_take 3 (oi := ⟨some 20, .load 3 (.tmp 19), 3, "book.go:17", #[⟨2, .data⟩], none⟩) (v := ?_) (Or.inl ⟨by rfl, ?_⟩) ?_
      rotate_left
      · (intro w hSw; (obtain ⟨q1, q2⟩ := hSw); go_simp; try with_reducible rfl)
      simp only [Act.put, pu1, pu2, pu3]
      refine g_pure 4 (oi := ⟨some 21, .move (.tmp 1), 57, "book.go:17", #[], none⟩) (v := ?_) (Or.inl ⟨by rfl, ?_⟩) ?_
      rotate_left
      · (intro w; go_simp; try with_reducible rfl)
      simp only [Act.put, pu1, pu2, pu3]
      refine g_pure 5 (oi := ⟨some 22, .move (.tmp 5), 3, "book.go:17", #[], none⟩) (v := ?_) (Or.inl ⟨by rfl, ?_⟩) ?_
      rotate_left
      · (intro w; go_simp; try with_reducible rfl)
      simp only [Act.put, pu1, pu2, pu3]
      refine g_pure 6 (oi := ⟨some 23, .indexAddr 57 (.tmp 21) (.tmp 22), 0, "book.go:17", #[⟨4, .data⟩, ⟨5, .data⟩], none⟩) (v := ?_) (Or.inl ⟨by rfl, ?_⟩) ?_
      rotate_left
      · (intro w; go_simp; try with_reducible rfl)
      simp only [Act.put, pu1, pu2, pu3]
      refine g_take 7 (oi := ⟨some 24, .load 3 (.tmp 23), 3, "book.go:17", #[⟨6, .data⟩], none⟩) (v := ?_) (Or.inl ⟨by rfl, ?_⟩) ?_
      rotate_left
      · (intro w hSw; (obtain ⟨q1, q2⟩ := hSw); go_simp; try with_reducible rfl)
      simp only [Act.put, pu1, pu2, pu3]
      refine g_pure 8 (oi := ⟨some 25, .binOp .neq 3 (.tmp 20) (.tmp 24) 3, 4, "book.go:17", #[⟨3, .data⟩, ⟨7, .data⟩], none⟩) (v := ?_) (Or.inl ⟨by rfl, ?_⟩) ?_
      rotate_left
      · (intro w; go_simp; try with_reducible rfl)
      simp only [Act.put, pu1, pu2, pu3]
      refine wpAnyG_free (by kernel_rfl) ?_
      refine wpAny_done (by kernel_rfl) ?_ _
      clear hS1
      go_wp2
      go_roundw
      case rel => exact ⟨i + 1, by go_num, by omega, kr2⟩
      case measure => simp [intOf]; omega
    · obtain rfl : i = ks.length := by omega
      clear HK
      go_wp2
      go_ret
      exact ⟨rfl, kr⟩

end Go.Proofs.YtgjkfpmhgidpaaaGreat

/-
  one of the law: both arenas tell a node alike.
-/
namespace Go.Proofs.YtgjkfpmhgidpaaaGreat
open Go.RowKit Go.Maps Utf
set_option linter.unusedVariables false
set_option linter.unusedSimpArgs false

section
variable {tag : Nat → Nat} {w : World} {b d k : Nat} {q : Bool} {A : Ar}

theorem sameL_self (l : Lb) : sameL l l = true := by simp [sameL]

set_option maxRecDepth 100000 in
set_option maxHeartbeats 1000000 in
theorem one_out (B : Bo tag w b d q A k) (z : Int) (hz : A.there z = false) :
    Calls Tryz.prog 38 #[.pointer (some ⟨b, 0, none⟩), .pointer (some ⟨d, 0, none⟩), .int .i64 z] w fun e w' => e = .returned (.bool true) ∧ Kp [] w w' := by
  have HP := B.ps.par z
  rw [show A.parF z = (0, false) by unfold Ar.parF; rw [if_neg (by rw [hz]; simp)]] at HP
  have HC := B.ps.con z
  rw [show A.conF z = (0, false) by unfold Ar.conF; rw [if_neg (by rw [hz]; simp)]] at HC
  have HN := B.ps.node0 z hz
  have HK : Hid (∀ V, Kp [] w V → Calls Tryz.prog 45 #[.pointer (some ⟨b, 0, none⟩), .int .i64 z] V fun e w' => ∃ ao c', e = .returned (.slice ao 0 c') ∧ Kp [] V w') := fun V kV => by
    refine ((B.ps.kept kV).kids z).mono ?_
    rintro e w' ⟨ao, n', c', rfl, M⟩
    have hl := M.rb.len
    rw [iv_len, show A.kidF z = [] by unfold Ar.kidF; rw [if_neg (by rw [hz]; simp)]] at hl
    subst hl
    exact ⟨ao, c', rfl, M.2.1⟩
  have HH : Hid (∀ V, Kp [] w V → V.cell? ⟨d, 0, none⟩ = V.cell? ⟨d, 0, none⟩ ∧ ∃ g o c, V.cell? ⟨d, 0, none⟩ = some (.slice (some ⟨g, o, none⟩) A.n c)) := fun V kV => by
    obtain ⟨g, o, c, pl, h⟩ := B.dn.kept kV
    exact ⟨rfl, g, o, c, h.head.1⟩
  clear B
  have hz2 : z < 0 ∨ (A.n : Int) ≤ z := by simp only [Ar.there, decide_eq_false_iff_not] at hz; omega
  clear hz
  rcases hz2 with hz2 | hz2
  · go_enter Tryz.func38, Tryz.ntmps38
    go_upto_region 4 with (first | (go_at_call 74; refine (HP).mono ?_; rintro e w9 ⟨rfl, hw⟩; have hw2 := hw.symm; clear hw; subst hw2) | (go_at_call 75; refine (HC).mono ?_; rintro e w9 ⟨rfl, hw⟩; have hw2 := hw.symm; clear hw; subst hw2) | (go_at_call 76; refine HN.mono ?_; rintro e w1 ⟨rfl, k1⟩))
    have k2 : Kp [] w (w1.alloc (.cells #[.int .i64 0, .int .i64 0, .string ⟨#[]⟩, .slice none 0 0, .string ⟨#[]⟩, .slice none 0 0] 38)) := k1.alloc _
    go_wp2_with (go_at_call 45; refine (HK.out _ k2).mono ?_; rintro e w3 ⟨ao, c', rfl, k3⟩)
    go_ret
    exact ⟨rfl, k2.trans k3 (fun x hx => Or.inl hx)⟩
  · have hz3 : ¬ z < 0 := by omega
    go_enter Tryz.func38, Tryz.ntmps38
    go_upto_region 4 with (first | (go_at_call 74; refine (HP).mono ?_; rintro e w9 ⟨rfl, hw⟩; have hw2 := hw.symm; clear hw; subst hw2) | (go_at_call 75; refine (HC).mono ?_; rintro e w9 ⟨rfl, hw⟩; have hw2 := hw.symm; clear hw; subst hw2) | (go_at_call 76; refine HN.mono ?_; rintro e w1 ⟨rfl, k1⟩))
    obtain ⟨W2, hW2⟩ : ∃ W, W = w1.alloc (.cells #[.int .i64 0, .int .i64 0, .string ⟨#[]⟩, .slice none 0 0, .string ⟨#[]⟩, .slice none 0 0] 38) := ⟨_, rfl⟩
    have k2 : Kp [] w W2 := by rw [hW2]; exact k1.alloc _
    rw [← hW2]
    clear hW2
    obtain ⟨_, g, o, c, c0⟩ := HH.out _ k2
    go_wp2_with (go_at_call 45; refine (HK.out _ k2).mono ?_; rintro e w3 ⟨ao, c', rfl, k3⟩)
    go_ret
    exact ⟨rfl, k2.trans k3 (fun x hx => Or.inl hx)⟩

set_option maxRecDepth 100000 in
set_option maxHeartbeats 1000000 in
theorem one_in (B : Bo tag w b d q A k) (x : Nat) (hx : x < A.n) :
    Calls Tryz.prog 38 #[.pointer (some ⟨b, 0, none⟩), .pointer (some ⟨d, 0, none⟩), .int .i64 (x : Int)] w fun e w' => e = .returned (.bool true) ∧ Kp [] w w' := by
  have ful := B.ps.ful
  have ok := ful.toOk
  have hth := Ar.there_of (A := A) hx
  have hn := B.n_lt
  have HP := B.ps.par (x : Int)
  have HC := B.ps.con (x : Int)
  have HN := B.ps.node x hx
  have HRC : Hid (∀ V, Kp [] w V → Calls Tryz.prog 77 #[.pointer (some ⟨d, 0, none⟩), .int .i64 (x : Int)] V fun e w' => e = .returned (.int .i64 (A.rconF (x : Int))) ∧ Kp [] V w') := fun V kV => rcon_any (B.dn.kept kV) ful (by omega) (x : Int)
  have HKi : Hid (∀ V, Kp [] w V → Calls Tryz.prog 45 #[.pointer (some ⟨b, 0, none⟩), .int .i64 (x : Int)] V fun e w' => ∃ ao n' c', e = .returned (.slice ao n' c') ∧ Made V w' 3 ao n' c' (iv (A.kids x))) := fun V kV => by
    have := (B.ps.kept kV).kids (x : Int)
    rw [show A.kidF (x : Int) = A.kids x by unfold Ar.kidF; rw [if_pos hth, Int.toNat_natCast]] at this
    exact this
  have hb : (A.kids x).length ≤ A.n := Ar.pig _ _ (ok.one x) (fun y hy => (ok.kid_lt hy).1)
  obtain ⟨g, o, c, pl, h⟩ := B.dn
  have HD : Hid (∀ V, Kp [] w V → V.cell? ⟨d, 0, none⟩ = some (.slice (some ⟨g, o, none⟩) A.n c) ∧ V.cell? ⟨g, o + x * 7, none⟩ = some (.int .i64 (A.lb x).kind) ∧ V.cell? ⟨g, o + x * 7 + 1, none⟩ = some (.int .i64 (A.lb x).ns) ∧ V.cell? ⟨g, o + x * 7 + 2, none⟩ = some (.string (A.lb x).name) ∧ V.cell? ⟨g, o + x * 7 + 3, none⟩ = some (.string (A.lb x).text) ∧ V.cell? ⟨g, o + x * 7 + 4, none⟩ = some (.slice (pl x).1.1 (pl x).1.2.1 (pl x).1.2.2) ∧ V.cell? ⟨g, o + x * 7 + 5, none⟩ = some (.slice (pl x).2.1 (pl x).2.2.1 (pl x).2.2.2) ∧ V.cell? ⟨g, o + x * 7 + 6, none⟩ = some (.int .i64 (Ar.upI (A.up x)))) := fun V kV => ⟨(h.kept kV).head.1, (h.kept kV).seven hx⟩
  have ra := h.att x hx
  have rk := h.kid x hx
  have hal := (B.att x).1
  have ral := ra.len
  rw [cs_len] at ral
  have HL : Hid (∀ V W (p : Option Addr × Nat × Nat), Kp [] w W → Rk (fun y => w.heap.size ≤ y) 2 W p.1 p.2.1 p.2.2 (cs (A.lb x).attrs) → Kp [] W V → Calls Tryz.prog 78 #[wv (A.lb x) (p, (none, 0, 0)), wv (A.lb x) ((pl x).1, (none, 0, 0))] V fun e w' => e = .returned (.bool true) ∧ Kp [] V w') := fun V W p kW rW kV => by
    have lw := rW.len
    rw [cs_len] at lw
    have := ref_label_any V (A.lb x) (A.lb x) (p, (none, 0, 0)) ((pl x).1, (none, 0, 0)) (rW.kept kV).rp ((ra.kept kW).kept kV).rp (by simp only; omega) (by simp only; omega)
    rw [sameL_self] at this
    exact this
  have HS : Hid (∀ V W ao n' c', Kp [] w V → Made V W 3 ao n' c' (iv (A.kids x)) → Calls Tryz.prog 79 #[.slice ao n' c', .slice (pl x).2.1 (pl x).2.2.1 (pl x).2.2.2] W fun e w' => e = .returned (.bool true) ∧ Kp [] W w') := fun V W ao n' c' kV M => sami_any W (A.kids x) (by omega) _ _ _ _ _ _ M.rka (((rk.mono (fun _ _ _ => trivial)).kept kV).kept M.2.1)
  have HX : Hid (∀ (V : World) g11 g13 (p : Option Addr × Nat × Nat), At V g11 #[.int .i64 (A.lb x).kind, .int .i64 (A.lb x).ns, .string (A.lb x).name, .slice p.1 p.2.1 p.2.2, .string (A.lb x).text, .slice none 0 0] 38 → At V g13 #[.int .i64 (A.lb x).kind, .int .i64 (A.lb x).ns, .string (A.lb x).name, .string (A.lb x).text, .slice (pl x).1.1 (pl x).1.2.1 (pl x).1.2.2, .slice (pl x).2.1 (pl x).2.2.1 (pl x).2.2.2, .int .i64 (Ar.upI (A.up x))] 59 → ∀ U, Kp [] V U →
      U.cell? ⟨g11, 0, none⟩ = some (.int .i64 (A.lb x).kind) ∧ U.cell? ⟨g11, 1, none⟩ = some (.int .i64 (A.lb x).ns) ∧ U.cell? ⟨g11, 2, none⟩ = some (.string (A.lb x).name) ∧ U.cell? ⟨g11, 3, none⟩ = some (.slice p.1 p.2.1 p.2.2) ∧ U.cell? ⟨g11, 4, none⟩ = some (.string (A.lb x).text) ∧ U.cell? ⟨g11, 5, none⟩ = some (.slice none 0 0) ∧
      U.cell? ⟨g13, 0, none⟩ = some (.int .i64 (A.lb x).kind) ∧ U.cell? ⟨g13, 1, none⟩ = some (.int .i64 (A.lb x).ns) ∧ U.cell? ⟨g13, 2, none⟩ = some (.string (A.lb x).name) ∧ U.cell? ⟨g13, 3, none⟩ = some (.string (A.lb x).text) ∧ U.cell? ⟨g13, 4, none⟩ = some (.slice (pl x).1.1 (pl x).1.2.1 (pl x).1.2.2) ∧ U.cell? ⟨g13, 5, none⟩ = some (.slice (pl x).2.1 (pl x).2.2.1 (pl x).2.2.2) ∧ U.cell? ⟨g13, 6, none⟩ = some (.int .i64 (Ar.upI (A.up x)))) := fun V g11 g13 p a1 a3 U kU => by
    have b1 := a1.kept kU (by simp)
    have b3 := a3.kept kU (by simp)
    exact ⟨b1.cell 0, b1.cell 1, b1.cell 2, b1.cell 3, b1.cell 4, b1.cell 5, b3.cell 0, b3.cell 1, b3.cell 2, b3.cell 3, b3.cell 4, b3.cell 5, b3.cell 6⟩
  have j1 : (0 : Int) ≤ (x : Int) := by omega
  have j2 : (x : Int) < (A.n : Int) := by omega
  have j3 : ¬ (x : Int) < 0 := by omega
  have j4 : ¬ (A.n : Int) ≤ (x : Int) := by omega
  -- the parent, the Content
  obtain ⟨u, uo, ux, hPa, hux⟩ : ∃ (u : Int) (uo : Bool) (ux : Int), A.parF (x : Int) = (u, uo) ∧ (Ar.upI (A.up x) = ux ∧ ((u = 0 ∧ uo = false ∧ ux = -1) ∨ (0 ≤ u ∧ uo = true ∧ ux = u))) := by
    unfold Ar.parF
    rw [if_pos hth, Int.toNat_natCast]
    cases hu : A.up x with
    | none => exact ⟨_, _, _, rfl, rfl, .inl ⟨rfl, rfl, rfl⟩⟩
    | some p => exact ⟨_, _, _, rfl, rfl, .inr ⟨by omega, rfl, rfl⟩⟩
  obtain ⟨ct, co, cx, hCo, hcx⟩ : ∃ (ct : Int) (co : Bool) (cx : Int), A.conF (x : Int) = (ct, co) ∧ (A.rconF (x : Int) = cx ∧ ((ct = 0 ∧ co = false ∧ cx = -1) ∨ (0 ≤ ct ∧ co = true ∧ cx = ct))) := by
    unfold Ar.conF Ar.rconF
    rw [hth, Int.toNat_natCast]
    by_cases ht : tmplF (A.lb x) = true
    · rw [if_pos ⟨rfl, ht⟩, if_pos ⟨rfl, ht⟩]
      refine ⟨_, _, _, rfl, rfl, .inr ⟨?_, rfl, rfl⟩⟩
      obtain ⟨c', h1, _⟩ := ful.has x hx ht
      cases hk : A.kids x with
      | nil => rw [hk] at h1; cases h1
      | cons y ys => simp [hdI]
    · rw [if_neg (fun e => ht e.2), if_neg (fun e => ht e.2)]
      exact ⟨_, _, _, rfl, rfl, .inl ⟨rfl, rfl, rfl⟩⟩
  obtain ⟨hu1, hux⟩ := hux
  obtain ⟨hc1, hcx⟩ := hcx
  rw [hPa] at HP
  rw [hCo] at HC
  rw [hc1] at HRC
  rw [hu1] at HD HX
  clear h ra rk B hPa hCo hu1 hc1 hth ful ok ral hal
  unfold wv at HN HL
  generalize (pl x).1.1 = xo at *
  generalize (pl x).1.2.1 = xn at *
  generalize (pl x).1.2.2 = xc at *
  generalize (pl x).2.1 = ko at *
  generalize (pl x).2.2.1 = kn at *
  generalize (pl x).2.2.2 = kc at *
  generalize A.kids x = ks at *
  rcases hux with hux | hux
  · rcases hcx with hcx | hcx
    · obtain ⟨rfl, rfl, rfl⟩ := hux
      obtain ⟨rfl, rfl, rfl⟩ := hcx
      go_enter Tryz.func38, Tryz.ntmps38
      go_upto_region 4 with (first | (go_at_call 74; refine (HP).mono ?_; rintro e w9 ⟨rfl, hw⟩; have hw2 := hw.symm; clear hw; subst hw2) | (go_at_call 75; refine (HC).mono ?_; rintro e w9 ⟨rfl, hw⟩; have hw2 := hw.symm; clear hw; subst hw2) | (go_at_call 76; refine HN.mono ?_; rintro e W1 ⟨p, rfl, k1, r1⟩))
      obtain ⟨W2, hW2⟩ : ∃ W, W = W1.alloc (.cells #[.int .i64 (A.lb x).kind, .int .i64 (A.lb x).ns, .string (A.lb x).name, .slice p.1 p.2.1 p.2.2, .string (A.lb x).text, .slice none 0 0] 38) := ⟨_, rfl⟩
      have k12 : Kp [] W1 W2 := by rw [hW2]; exact (Kp.refl _ _).alloc _
      have a11 : At W2 W1.heap.size #[.int .i64 (A.lb x).kind, .int .i64 (A.lb x).ns, .string (A.lb x).name, .slice p.1 p.2.1 p.2.2, .string (A.lb x).text, .slice none 0 0] 38 := by rw [hW2]; exact At.new _ _ _
      rw [← hW2]
      clear hW2
      obtain ⟨g11, hg11⟩ : ∃ g, W1.heap.size = g := ⟨_, rfl⟩
      rw [hg11] at a11 ⊢
      clear hg11
      have k2 : Kp [] w W2 := k1.trans k12 (fun z hz => Or.inl hz)
      obtain ⟨c0, s0, s1, s2, s3, s4, s5, s6⟩ := HD.out _ k2
      go_upto_region 7 with fail
      obtain ⟨W3, hW3⟩ : ∃ W, W = W2.alloc (.cells #[.int .i64 (A.lb x).kind, .int .i64 (A.lb x).ns, .string (A.lb x).name, .string (A.lb x).text, .slice xo xn xc, .slice ko kn kc, .int .i64 (-1)] 59) := ⟨_, rfl⟩
      have k23 : Kp [] W2 W3 := by rw [hW3]; exact (Kp.refl _ _).alloc _
      have a13 : At W3 W2.heap.size #[.int .i64 (A.lb x).kind, .int .i64 (A.lb x).ns, .string (A.lb x).name, .string (A.lb x).text, .slice xo xn xc, .slice ko kn kc, .int .i64 (-1)] 59 := by rw [hW3]; exact At.new _ _ _
      rw [← hW3]
      clear hW3
      obtain ⟨g13, hg13⟩ : ∃ g, W2.heap.size = g := ⟨_, rfl⟩
      rw [hg13] at a13 ⊢
      clear hg13
      have a11 := a11.kept k23 (by simp)
      have k3 : Kp [] w W3 := k2.trans k23 (fun z hz => Or.inl hz)
      clear c0 s0 s1 s2 s3 s4 s5 s6
      have HX0 : Hid (∀ U, Kp [] W3 U → U.cell? ⟨g13, 6, none⟩ = some (.int .i64 (-1))) := fun U kU => (a13.kept kU (by simp)).cell 6
      have e6 := HX0.out _ (Kp.refl _ _)
      go_upto_region 9 with (go_at_call 77; refine (HRC.out _ k3).mono ?_; rintro e W5 ⟨rfl, k35⟩)
      clear e6
      obtain ⟨U5, hU5⟩ : ∃ V, V = W5.drew := ⟨_, rfl⟩
      have kd5 : Kp [] W5 U5 := by rw [hU5]; exact (Kp.refl _ _).drew
      have k5 : Kp [] w U5 := (k3.trans k35 (fun z hz => Or.inl hz)).trans kd5 (fun z hz => Or.inl hz)
      have kL : Kp [] W1 U5 := (((k12.trans k23 (fun z hz => Or.inl hz)).trans k35 (fun z hz => Or.inl hz)).trans kd5 (fun z hz => Or.inl hz))
      refine wp_region_g (S := fun V => V.cell? ⟨g11, 0, none⟩ = some (.int .i64 (A.lb x).kind) ∧ V.cell? ⟨g11, 1, none⟩ = some (.int .i64 (A.lb x).ns) ∧ V.cell? ⟨g11, 2, none⟩ = some (.string (A.lb x).name) ∧ V.cell? ⟨g11, 3, none⟩ = some (.slice p.1 p.2.1 p.2.2) ∧ V.cell? ⟨g11, 4, none⟩ = some (.string (A.lb x).text) ∧ V.cell? ⟨g11, 5, none⟩ = some (.slice none 0 0) ∧ V.cell? ⟨g13, 0, none⟩ = some (.int .i64 (A.lb x).kind) ∧ V.cell? ⟨g13, 1, none⟩ = some (.int .i64 (A.lb x).ns) ∧ V.cell? ⟨g13, 2, none⟩ = some (.string (A.lb x).name) ∧ V.cell? ⟨g13, 3, none⟩ = some (.string (A.lb x).text) ∧ V.cell? ⟨g13, 4, none⟩ = some (.slice xo xn xc) ∧ V.cell? ⟨g13, 5, none⟩ = some (.slice ko kn kc) ∧ V.cell? ⟨g13, 6, none⟩ = some (.int .i64 (-1))) (T := []) (by kernel_rfl) (HX.out _ _ _ _ a11 a13 _ (k35.drew)) (fun hHeld => ?_)
      rw [← hU5] at hHeld ⊢
      clear hU5
      refine g_pure 0 (oi := ⟨some 107, .move (.tmp 12), 4, "law.go:81", #[], none⟩) (v := ?_) (Or.inl ⟨by rfl, ?_⟩) ?_
      rotate_left
      · (intro w; go_simp; try with_reducible rfl)
      simp only [Act.put, pu1, pu2, pu3]
      refine g_pure 1 (oi := ⟨some 108, .move (.tmp 107), 4, "law.go:81", #[⟨0, .data⟩], none⟩) (v := ?_) (Or.inl ⟨by rfl, ?_⟩) ?_
      rotate_left
      · (intro w; go_simp; try with_reducible rfl)
      simp only [Act.put, pu1, pu2, pu3]
      refine g_pure 2 (oi := ⟨some 109, .fieldAddr 38 (.tmp 11) 5, 0, "law.go:81", #[⟨1, .guard⟩], some (1, true)⟩) (v := ?_) (Or.inl ⟨by rfl, ?_⟩) ?_
      rotate_left
      · (intro w; go_simp; try with_reducible rfl)
      simp only [Act.put, pu1, pu2, pu3]
      refine g_take 3 (oi := ⟨some 110, .load 36 (.tmp 109), 36, "law.go:81", #[⟨2, .data⟩, ⟨1, .guard⟩], some (1, true)⟩) (v := ?_) (Or.inl ⟨by rfl, ?_⟩) ?_
      rotate_left
      · (intro w hSw; (obtain ⟨q0, q1, q2, q3, q4, q5, r0, r1, r2, r3, r4, r5, r6⟩ := hSw); go_simp; try with_reducible rfl)
      simp only [Act.put, pu1, pu2, pu3]
      refine g_pure 4 (oi := ⟨some 111, .call { callee := .builtin .len, args := #[.tmp 110], argTypes := #[36] }, 3, "law.go:81", #[⟨3, .data⟩, ⟨1, .guard⟩], some (1, true)⟩) (v := ?_) (Or.inl ⟨by rfl, ?_⟩) ?_
      rotate_left
      · (intro w; go_simp; try with_reducible rfl)
      simp only [Act.put, pu1, pu2, pu3]
      refine g_pure 5 (oi := ⟨some 112, .binOp .eql 3 (.tmp 111) (.const (.int .i64 0)) 3, 4, "law.go:81", #[⟨4, .data⟩, ⟨1, .guard⟩], some (1, true)⟩) (v := ?_) (Or.inl ⟨by rfl, ?_⟩) ?_
      rotate_left
      · (intro w; go_simp; try with_reducible rfl)
      simp only [Act.put, pu1, pu2, pu3]
      refine g_pure 6 (oi := ⟨some 113, .pick (.tmp 108) (.tmp 112) (.const (.bool false)), 4, "law.go:81", #[⟨1, .data⟩, ⟨5, .data⟩], none⟩) (v := ?_) (Or.inl ⟨by rfl, ?_⟩) ?_
      rotate_left
      · (intro w; go_simp; try with_reducible rfl)
      simp only [Act.put, pu1, pu2, pu3]
      refine g_pure 7 (oi := ⟨some 114, .move (.tmp 113), 4, "law.go:81", #[⟨6, .data⟩, ⟨1, .chain⟩], none⟩) (v := ?_) (Or.inl ⟨by rfl, ?_⟩) ?_
      rotate_left
      · (intro w; go_simp; try with_reducible rfl)
      simp only [Act.put, pu1, pu2, pu3]
      refine g_take 8 (oi := ⟨some 115, .load 38 (.tmp 11), 38, "law.go:81", #[⟨7, .guard⟩], some (7, true)⟩) (v := ?_) (Or.inl ⟨by rfl, ?_⟩) ?_
      rotate_left
      · (intro w hSw; (obtain ⟨q0, q1, q2, q3, q4, q5, r0, r1, r2, r3, r4, r5, r6⟩ := hSw); go_simp; try with_reducible rfl)
      simp only [Act.put, pu1, pu2, pu3]
      refine g_pure 9 (oi := ⟨some 116, .fieldAddr 59 (.tmp 13) 0, 0, "law.go:81", #[⟨7, .guard⟩], some (7, true)⟩) (v := ?_) (Or.inl ⟨by rfl, ?_⟩) ?_
      rotate_left
      · (intro w; go_simp; try with_reducible rfl)
      simp only [Act.put, pu1, pu2, pu3]
      refine g_take 10 (oi := ⟨some 117, .load 3 (.tmp 116), 3, "law.go:81", #[⟨9, .data⟩, ⟨7, .guard⟩], some (7, true)⟩) (v := ?_) (Or.inl ⟨by rfl, ?_⟩) ?_
      rotate_left
      · (intro w hSw; (obtain ⟨q0, q1, q2, q3, q4, q5, r0, r1, r2, r3, r4, r5, r6⟩ := hSw); go_simp; try with_reducible rfl)
      simp only [Act.put, pu1, pu2, pu3]
      refine g_pure 11 (oi := ⟨some 118, .fieldAddr 59 (.tmp 13) 1, 0, "law.go:81", #[⟨7, .guard⟩], some (7, true)⟩) (v := ?_) (Or.inl ⟨by rfl, ?_⟩) ?_
      rotate_left
      · (intro w; go_simp; try with_reducible rfl)
      simp only [Act.put, pu1, pu2, pu3]
      refine g_take 12 (oi := ⟨some 119, .load 3 (.tmp 118), 3, "law.go:81", #[⟨11, .data⟩, ⟨7, .guard⟩], some (7, true)⟩) (v := ?_) (Or.inl ⟨by rfl, ?_⟩) ?_
      rotate_left
      · (intro w hSw; (obtain ⟨q0, q1, q2, q3, q4, q5, r0, r1, r2, r3, r4, r5, r6⟩ := hSw); go_simp; try with_reducible rfl)
      simp only [Act.put, pu1, pu2, pu3]
      refine g_pure 13 (oi := ⟨some 120, .fieldAddr 59 (.tmp 13) 2, 0, "law.go:81", #[⟨7, .guard⟩], some (7, true)⟩) (v := ?_) (Or.inl ⟨by rfl, ?_⟩) ?_
      rotate_left
      · (intro w; go_simp; try with_reducible rfl)
      simp only [Act.put, pu1, pu2, pu3]
      refine g_take 14 (oi := ⟨some 121, .load 9 (.tmp 120), 9, "law.go:81", #[⟨13, .data⟩, ⟨7, .guard⟩], some (7, true)⟩) (v := ?_) (Or.inl ⟨by rfl, ?_⟩) ?_
      rotate_left
      · (intro w hSw; (obtain ⟨q0, q1, q2, q3, q4, q5, r0, r1, r2, r3, r4, r5, r6⟩ := hSw); go_simp; try with_reducible rfl)
      simp only [Act.put, pu1, pu2, pu3]
      refine g_pure 15 (oi := ⟨some 122, .fieldAddr 59 (.tmp 13) 4, 0, "law.go:81", #[⟨7, .guard⟩], some (7, true)⟩) (v := ?_) (Or.inl ⟨by rfl, ?_⟩) ?_
      rotate_left
      · (intro w; go_simp; try with_reducible rfl)
      simp only [Act.put, pu1, pu2, pu3]
      refine g_take 16 (oi := ⟨some 123, .load 26 (.tmp 122), 26, "law.go:81", #[⟨15, .data⟩, ⟨7, .guard⟩], some (7, true)⟩) (v := ?_) (Or.inl ⟨by rfl, ?_⟩) ?_
      rotate_left
      · (intro w hSw; (obtain ⟨q0, q1, q2, q3, q4, q5, r0, r1, r2, r3, r4, r5, r6⟩ := hSw); go_simp; try with_reducible rfl)
      simp only [Act.put, pu1, pu2, pu3]
      refine g_pure 17 (oi := ⟨some 124, .fieldAddr 59 (.tmp 13) 3, 0, "law.go:81", #[⟨7, .guard⟩], some (7, true)⟩) (v := ?_) (Or.inl ⟨by rfl, ?_⟩) ?_
      rotate_left
      · (intro w; go_simp; try with_reducible rfl)
      simp only [Act.put, pu1, pu2, pu3]
      refine g_take 18 (oi := ⟨some 125, .load 9 (.tmp 124), 9, "law.go:81", #[⟨17, .data⟩, ⟨7, .guard⟩], some (7, true)⟩) (v := ?_) (Or.inl ⟨by rfl, ?_⟩) ?_
      rotate_left
      · (intro w hSw; (obtain ⟨q0, q1, q2, q3, q4, q5, r0, r1, r2, r3, r4, r5, r6⟩ := hSw); go_simp; try with_reducible rfl)
      simp only [Act.put, pu1, pu2, pu3]
      refine g_pure 19 (oi := ⟨some 126, .build 38 #[(0, .tmp 117), (1, .tmp 119), (2, .tmp 121), (3, .tmp 123), (4, .tmp 125)], 38, "law.go:81", #[⟨10, .data⟩, ⟨12, .data⟩, ⟨14, .data⟩, ⟨16, .data⟩, ⟨18, .data⟩, ⟨7, .guard⟩], some (7, true)⟩) (v := ?_) (Or.inl ⟨by rfl, ?_⟩) ?_
      rotate_left
      · (intro w; go_simp; try with_reducible rfl)
      simp only [Act.put, pu1, pu2, pu3]
      refine wpAnyG_ready (rs := [20]) (by kernel_rfl) (by simp) ?_
      refine AllReadyG.cons (o := ⟨some 127, .call { callee := .value (.func 78), args := #[.tmp 115, .tmp 126], argTypes := #[38, 38] }, 4, "law.go:81", #[⟨8, .data⟩, ⟨19, .data⟩, ⟨7, .chain⟩, ⟨7, .guard⟩], some (7, true)⟩) rfl (fun K hK => ?_) AllReadyG.nil
      go_simp
      go_at_call 78
      refine (HL.out _ _ p k1 r1 kL).mono ?_
      rintro e U6 ⟨rfl, u6⟩
      go_wp2_with fail
      have k6 := k5.trans u6 (fun z hz => Or.inl hz)
      refine hK.out _ _ (HX.out _ _ _ _ a11 a13 _ (k35.trans (kd5.trans u6 (fun z hz => Or.inl hz)) (fun z hz => Or.inl hz))) (fun hHeld1 => ?_)
      clear hK K hHeld
      try simp only [Act.put, pu1, pu2, pu3]
      refine g_pure 21 (oi := ⟨some 128, .pick (.tmp 114) (.tmp 127) (.const (.bool false)), 4, "law.go:81", #[⟨7, .data⟩, ⟨20, .data⟩], none⟩) (v := ?_) (Or.inl ⟨by rfl, ?_⟩) ?_
      rotate_left
      · (intro w; go_simp; try with_reducible rfl)
      simp only [Act.put, pu1, pu2, pu3]
      refine g_pure 22 (oi := ⟨some 129, .move (.tmp 128), 4, "law.go:81", #[⟨21, .data⟩, ⟨20, .chain⟩], none⟩) (v := ?_) (Or.inl ⟨by rfl, ?_⟩) ?_
      rotate_left
      · (intro w; go_simp; try with_reducible rfl)
      simp only [Act.put, pu1, pu2, pu3]
      refine g_pure 23 (oi := ⟨some 130, .move (.tmp 0), 22, "law.go:81", #[⟨22, .guard⟩], some (22, true)⟩) (v := ?_) (Or.inl ⟨by rfl, ?_⟩) ?_
      rotate_left
      · (intro w; go_simp; try with_reducible rfl)
      simp only [Act.put, pu1, pu2, pu3]
      refine g_pure 24 (oi := ⟨some 131, .move (.tmp 2), 3, "law.go:81", #[⟨22, .guard⟩], some (22, true)⟩) (v := ?_) (Or.inl ⟨by rfl, ?_⟩) ?_
      rotate_left
      · (intro w; go_simp; try with_reducible rfl)
      simp only [Act.put, pu1, pu2, pu3]
      refine g_pure 26 (oi := ⟨some 133, .fieldAddr 59 (.tmp 13) 5, 0, "law.go:81", #[⟨22, .guard⟩], some (22, true)⟩) (v := ?_) (Or.inl ⟨by rfl, ?_⟩) ?_
      rotate_left
      · (intro w; go_simp; try with_reducible rfl)
      simp only [Act.put, pu1, pu2, pu3]
      refine g_take 27 (oi := ⟨some 134, .load 57 (.tmp 133), 57, "law.go:81", #[⟨26, .data⟩, ⟨22, .guard⟩], some (22, true)⟩) (v := ?_) (Or.inl ⟨by rfl, ?_⟩) ?_
      rotate_left
      · (intro w hSw; (obtain ⟨q0, q1, q2, q3, q4, q5, r0, r1, r2, r3, r4, r5, r6⟩ := hSw); go_simp; try with_reducible rfl)
      simp only [Act.put, pu1, pu2, pu3]
      refine wpAnyG_ready (rs := [25]) (by kernel_rfl) (by simp) ?_
      refine AllReadyG.cons (o := ⟨some 132, .call { callee := .value (.func 45), args := #[.tmp 130, .tmp 131], argTypes := #[22, 3] }, 57, "law.go:81", #[⟨23, .data⟩, ⟨24, .data⟩, ⟨22, .chain⟩, ⟨22, .guard⟩], some (22, true)⟩) rfl (fun K hK => ?_) AllReadyG.nil
      go_simp
      go_at_call 45
      refine (HKi.out _ k6).mono ?_
      rintro e U7 ⟨ao7, n7, c7, rfl, M7⟩
      go_wp2_with fail
      have k7 := k6.trans M7.2.1 (fun z hz => Or.inl hz)
      refine hK.out _ _ (HX.out _ _ _ _ a11 a13 _ ((k35.trans (kd5.trans u6 (fun z hz => Or.inl hz)) (fun z hz => Or.inl hz)).trans M7.2.1 (fun z hz => Or.inl hz))) (fun hHeld2 => ?_)
      clear hK K hHeld1
      try simp only [Act.put, pu1, pu2, pu3]
      refine wpAnyG_ready (rs := [28]) (by kernel_rfl) (by simp) ?_
      refine AllReadyG.cons (o := ⟨some 135, .call { callee := .value (.func 79), args := #[.tmp 132, .tmp 134], argTypes := #[57, 57] }, 4, "law.go:81", #[⟨25, .data⟩, ⟨27, .data⟩, ⟨25, .chain⟩, ⟨22, .guard⟩], some (22, true)⟩) rfl (fun K hK => ?_) AllReadyG.nil
      go_simp
      go_at_call 79
      refine (HS.out _ _ _ _ _ k6 M7).mono ?_
      rintro e U8 ⟨rfl, u8⟩
      go_wp2_with fail
      have k8 : Kp [] w U8 := k7.trans u8 (fun z hz => Or.inl hz)
      refine hK.out _ _ (HX.out _ _ _ _ a11 a13 _ (((k35.trans (kd5.trans u6 (fun z hz => Or.inl hz)) (fun z hz => Or.inl hz)).trans M7.2.1 (fun z hz => Or.inl hz)).trans u8 (fun z hz => Or.inl hz))) (fun hHeld3 => ?_)
      clear hK K hHeld2
      try simp only [Act.put, pu1, pu2, pu3]
      refine g_pure 29 (oi := ⟨some 136, .pick (.tmp 129) (.tmp 135) (.const (.bool false)), 4, "law.go:81", #[⟨22, .data⟩, ⟨28, .data⟩], none⟩) (v := ?_) (Or.inl ⟨by rfl, ?_⟩) ?_
      rotate_left
      · (intro w; go_simp; try with_reducible rfl)
      simp only [Act.put, pu1, pu2, pu3]
      refine g_pure 30 (oi := ⟨some 6, .assign (.tmp 136), 4, "law.go:81", #[⟨29, .data⟩, ⟨28, .chain⟩, ⟨0, .phase⟩, ⟨1, .phase⟩, ⟨2, .phase⟩, ⟨3, .phase⟩, ⟨4, .phase⟩, ⟨5, .phase⟩, ⟨6, .phase⟩, ⟨7, .phase⟩, ⟨8, .phase⟩, ⟨9, .phase⟩, ⟨10, .phase⟩, ⟨11, .phase⟩, ⟨12, .phase⟩, ⟨13, .phase⟩, ⟨14, .phase⟩, ⟨15, .phase⟩, ⟨16, .phase⟩, ⟨17, .phase⟩, ⟨18, .phase⟩, ⟨19, .phase⟩, ⟨20, .phase⟩, ⟨21, .phase⟩, ⟨22, .phase⟩, ⟨23, .phase⟩, ⟨24, .phase⟩, ⟨25, .phase⟩, ⟨26, .phase⟩, ⟨27, .phase⟩, ⟨28, .phase⟩, ⟨29, .phase⟩], none⟩) (v := ?_) (Or.inl ⟨by rfl, ?_⟩) ?_
      rotate_left
      · (intro w; go_simp; try with_reducible rfl)
      simp only [Act.put, pu1, pu2, pu3]
      refine wpAnyG_free (by kernel_rfl) ?_
      refine wpAny_done (by kernel_rfl) ?_ _
      clear hHeld3
      go_wp2
      go_ret
      exact ⟨rfl, k8⟩
    · obtain ⟨rfl, rfl, rfl⟩ := hux
      obtain ⟨hc0, rfl, rfl⟩ := hcx
      go_enter Tryz.func38, Tryz.ntmps38
      go_upto_region 4 with (first | (go_at_call 74; refine (HP).mono ?_; rintro e w9 ⟨rfl, hw⟩; have hw2 := hw.symm; clear hw; subst hw2) | (go_at_call 75; refine (HC).mono ?_; rintro e w9 ⟨rfl, hw⟩; have hw2 := hw.symm; clear hw; subst hw2) | (go_at_call 76; refine HN.mono ?_; rintro e W1 ⟨p, rfl, k1, r1⟩))
      obtain ⟨W2, hW2⟩ : ∃ W, W = W1.alloc (.cells #[.int .i64 (A.lb x).kind, .int .i64 (A.lb x).ns, .string (A.lb x).name, .slice p.1 p.2.1 p.2.2, .string (A.lb x).text, .slice none 0 0] 38) := ⟨_, rfl⟩
      have k12 : Kp [] W1 W2 := by rw [hW2]; exact (Kp.refl _ _).alloc _
      have a11 : At W2 W1.heap.size #[.int .i64 (A.lb x).kind, .int .i64 (A.lb x).ns, .string (A.lb x).name, .slice p.1 p.2.1 p.2.2, .string (A.lb x).text, .slice none 0 0] 38 := by rw [hW2]; exact At.new _ _ _
      rw [← hW2]
      clear hW2
      obtain ⟨g11, hg11⟩ : ∃ g, W1.heap.size = g := ⟨_, rfl⟩
      rw [hg11] at a11 ⊢
      clear hg11
      have k2 : Kp [] w W2 := k1.trans k12 (fun z hz => Or.inl hz)
      obtain ⟨c0, s0, s1, s2, s3, s4, s5, s6⟩ := HD.out _ k2
      go_upto_region 7 with fail
      obtain ⟨W3, hW3⟩ : ∃ W, W = W2.alloc (.cells #[.int .i64 (A.lb x).kind, .int .i64 (A.lb x).ns, .string (A.lb x).name, .string (A.lb x).text, .slice xo xn xc, .slice ko kn kc, .int .i64 (-1)] 59) := ⟨_, rfl⟩
      have k23 : Kp [] W2 W3 := by rw [hW3]; exact (Kp.refl _ _).alloc _
      have a13 : At W3 W2.heap.size #[.int .i64 (A.lb x).kind, .int .i64 (A.lb x).ns, .string (A.lb x).name, .string (A.lb x).text, .slice xo xn xc, .slice ko kn kc, .int .i64 (-1)] 59 := by rw [hW3]; exact At.new _ _ _
      rw [← hW3]
      clear hW3
      obtain ⟨g13, hg13⟩ : ∃ g, W2.heap.size = g := ⟨_, rfl⟩
      rw [hg13] at a13 ⊢
      clear hg13
      have a11 := a11.kept k23 (by simp)
      have k3 : Kp [] w W3 := k2.trans k23 (fun z hz => Or.inl hz)
      clear c0 s0 s1 s2 s3 s4 s5 s6
      have HX0 : Hid (∀ U, Kp [] W3 U → U.cell? ⟨g13, 6, none⟩ = some (.int .i64 (-1))) := fun U kU => (a13.kept kU (by simp)).cell 6
      have e6 := HX0.out _ (Kp.refl _ _)
      go_upto_region 9 with (first | (go_at_call 77; have D4 := k34; refine (HRC.out _ (k3.trans k34 (fun z hz => Or.inl hz))).mono ?_; rintro e W5 ⟨rfl, k45⟩) | (go_at_call 77; refine (HRC.out _ k3).mono ?_; rintro e W4 ⟨rfl, k34⟩; have e7 := HX0.out _ k34))
      have k35 : Kp [] W3 W5 := k34.trans k45 (fun z hz => Or.inl hz)
      clear e6
      obtain ⟨U5, hU5⟩ : ∃ V, V = W5.drew := ⟨_, rfl⟩
      have kd5 : Kp [] W5 U5 := by rw [hU5]; exact (Kp.refl _ _).drew
      have k5 : Kp [] w U5 := (k3.trans k35 (fun z hz => Or.inl hz)).trans kd5 (fun z hz => Or.inl hz)
      have kL : Kp [] W1 U5 := (((k12.trans k23 (fun z hz => Or.inl hz)).trans k35 (fun z hz => Or.inl hz)).trans kd5 (fun z hz => Or.inl hz))
      refine wp_region_g (S := fun V => V.cell? ⟨g11, 0, none⟩ = some (.int .i64 (A.lb x).kind) ∧ V.cell? ⟨g11, 1, none⟩ = some (.int .i64 (A.lb x).ns) ∧ V.cell? ⟨g11, 2, none⟩ = some (.string (A.lb x).name) ∧ V.cell? ⟨g11, 3, none⟩ = some (.slice p.1 p.2.1 p.2.2) ∧ V.cell? ⟨g11, 4, none⟩ = some (.string (A.lb x).text) ∧ V.cell? ⟨g11, 5, none⟩ = some (.slice none 0 0) ∧ V.cell? ⟨g13, 0, none⟩ = some (.int .i64 (A.lb x).kind) ∧ V.cell? ⟨g13, 1, none⟩ = some (.int .i64 (A.lb x).ns) ∧ V.cell? ⟨g13, 2, none⟩ = some (.string (A.lb x).name) ∧ V.cell? ⟨g13, 3, none⟩ = some (.string (A.lb x).text) ∧ V.cell? ⟨g13, 4, none⟩ = some (.slice xo xn xc) ∧ V.cell? ⟨g13, 5, none⟩ = some (.slice ko kn kc) ∧ V.cell? ⟨g13, 6, none⟩ = some (.int .i64 (-1))) (T := []) (by kernel_rfl) (HX.out _ _ _ _ a11 a13 _ (k35.drew)) (fun hHeld => ?_)
      rw [← hU5] at hHeld ⊢
      clear hU5
      refine g_pure 0 (oi := ⟨some 107, .move (.tmp 12), 4, "law.go:81", #[], none⟩) (v := ?_) (Or.inl ⟨by rfl, ?_⟩) ?_
      rotate_left
      · (intro w; go_simp; try with_reducible rfl)
      simp only [Act.put, pu1, pu2, pu3]
      refine g_pure 1 (oi := ⟨some 108, .move (.tmp 107), 4, "law.go:81", #[⟨0, .data⟩], none⟩) (v := ?_) (Or.inl ⟨by rfl, ?_⟩) ?_
      rotate_left
      · (intro w; go_simp; try with_reducible rfl)
      simp only [Act.put, pu1, pu2, pu3]
      refine g_pure 2 (oi := ⟨some 109, .fieldAddr 38 (.tmp 11) 5, 0, "law.go:81", #[⟨1, .guard⟩], some (1, true)⟩) (v := ?_) (Or.inl ⟨by rfl, ?_⟩) ?_
      rotate_left
      · (intro w; go_simp; try with_reducible rfl)
      simp only [Act.put, pu1, pu2, pu3]
      refine g_take 3 (oi := ⟨some 110, .load 36 (.tmp 109), 36, "law.go:81", #[⟨2, .data⟩, ⟨1, .guard⟩], some (1, true)⟩) (v := ?_) (Or.inl ⟨by rfl, ?_⟩) ?_
      rotate_left
      · (intro w hSw; (obtain ⟨q0, q1, q2, q3, q4, q5, r0, r1, r2, r3, r4, r5, r6⟩ := hSw); go_simp; try with_reducible rfl)
      simp only [Act.put, pu1, pu2, pu3]
      refine g_pure 4 (oi := ⟨some 111, .call { callee := .builtin .len, args := #[.tmp 110], argTypes := #[36] }, 3, "law.go:81", #[⟨3, .data⟩, ⟨1, .guard⟩], some (1, true)⟩) (v := ?_) (Or.inl ⟨by rfl, ?_⟩) ?_
      rotate_left
      · (intro w; go_simp; try with_reducible rfl)
      simp only [Act.put, pu1, pu2, pu3]
      refine g_pure 5 (oi := ⟨some 112, .binOp .eql 3 (.tmp 111) (.const (.int .i64 0)) 3, 4, "law.go:81", #[⟨4, .data⟩, ⟨1, .guard⟩], some (1, true)⟩) (v := ?_) (Or.inl ⟨by rfl, ?_⟩) ?_
      rotate_left
      · (intro w; go_simp; try with_reducible rfl)
      simp only [Act.put, pu1, pu2, pu3]
      refine g_pure 6 (oi := ⟨some 113, .pick (.tmp 108) (.tmp 112) (.const (.bool false)), 4, "law.go:81", #[⟨1, .data⟩, ⟨5, .data⟩], none⟩) (v := ?_) (Or.inl ⟨by rfl, ?_⟩) ?_
      rotate_left
      · (intro w; go_simp; try with_reducible rfl)
      simp only [Act.put, pu1, pu2, pu3]
      refine g_pure 7 (oi := ⟨some 114, .move (.tmp 113), 4, "law.go:81", #[⟨6, .data⟩, ⟨1, .chain⟩], none⟩) (v := ?_) (Or.inl ⟨by rfl, ?_⟩) ?_
      rotate_left
      · (intro w; go_simp; try with_reducible rfl)
      simp only [Act.put, pu1, pu2, pu3]
      refine g_take 8 (oi := ⟨some 115, .load 38 (.tmp 11), 38, "law.go:81", #[⟨7, .guard⟩], some (7, true)⟩) (v := ?_) (Or.inl ⟨by rfl, ?_⟩) ?_
      rotate_left
      · (intro w hSw; (obtain ⟨q0, q1, q2, q3, q4, q5, r0, r1, r2, r3, r4, r5, r6⟩ := hSw); go_simp; try with_reducible rfl)
      simp only [Act.put, pu1, pu2, pu3]
      refine g_pure 9 (oi := ⟨some 116, .fieldAddr 59 (.tmp 13) 0, 0, "law.go:81", #[⟨7, .guard⟩], some (7, true)⟩) (v := ?_) (Or.inl ⟨by rfl, ?_⟩) ?_
      rotate_left
      · (intro w; go_simp; try with_reducible rfl)
      simp only [Act.put, pu1, pu2, pu3]
      refine g_take 10 (oi := ⟨some 117, .load 3 (.tmp 116), 3, "law.go:81", #[⟨9, .data⟩, ⟨7, .guard⟩], some (7, true)⟩) (v := ?_) (Or.inl ⟨by rfl, ?_⟩) ?_
      rotate_left
      · (intro w hSw; (obtain ⟨q0, q1, q2, q3, q4, q5, r0, r1, r2, r3, r4, r5, r6⟩ := hSw); go_simp; try with_reducible rfl)
      simp only [Act.put, pu1, pu2, pu3]
      refine g_pure 11 (oi := ⟨some 118, .fieldAddr 59 (.tmp 13) 1, 0, "law.go:81", #[⟨7, .guard⟩], some (7, true)⟩) (v := ?_) (Or.inl ⟨by rfl, ?_⟩) ?_
      rotate_left
      · (intro w; go_simp; try with_reducible rfl)
      simp only [Act.put, pu1, pu2, pu3]
      refine g_take 12 (oi := ⟨some 119, .load 3 (.tmp 118), 3, "law.go:81", #[⟨11, .data⟩, ⟨7, .guard⟩], some (7, true)⟩) (v := ?_) (Or.inl ⟨by rfl, ?_⟩) ?_
      rotate_left
      · (intro w hSw; (obtain ⟨q0, q1, q2, q3, q4, q5, r0, r1, r2, r3, r4, r5, r6⟩ := hSw); go_simp; try with_reducible rfl)
      simp only [Act.put, pu1, pu2, pu3]
      refine g_pure 13 (oi := ⟨some 120, .fieldAddr 59 (.tmp 13) 2, 0, "law.go:81", #[⟨7, .guard⟩], some (7, true)⟩) (v := ?_) (Or.inl ⟨by rfl, ?_⟩) ?_
      rotate_left
      · (intro w; go_simp; try with_reducible rfl)
      simp only [Act.put, pu1, pu2, pu3]
      refine g_take 14 (oi := ⟨some 121, .load 9 (.tmp 120), 9, "law.go:81", #[⟨13, .data⟩, ⟨7, .guard⟩], some (7, true)⟩) (v := ?_) (Or.inl ⟨by rfl, ?_⟩) ?_
      rotate_left
      · (intro w hSw; (obtain ⟨q0, q1, q2, q3, q4, q5, r0, r1, r2, r3, r4, r5, r6⟩ := hSw); go_simp; try with_reducible rfl)
      simp only [Act.put, pu1, pu2, pu3]
      refine g_pure 15 (oi := ⟨some 122, .fieldAddr 59 (.tmp 13) 4, 0, "law.go:81", #[⟨7, .guard⟩], some (7, true)⟩) (v := ?_) (Or.inl ⟨by rfl, ?_⟩) ?_
      rotate_left
      · (intro w; go_simp; try with_reducible rfl)
      simp only [Act.put, pu1, pu2, pu3]
      refine g_take 16 (oi := ⟨some 123, .load 26 (.tmp 122), 26, "law.go:81", #[⟨15, .data⟩, ⟨7, .guard⟩], some (7, true)⟩) (v := ?_) (Or.inl ⟨by rfl, ?_⟩) ?_
      rotate_left
      · (intro w hSw; (obtain ⟨q0, q1, q2, q3, q4, q5, r0, r1, r2, r3, r4, r5, r6⟩ := hSw); go_simp; try with_reducible rfl)
      simp only [Act.put, pu1, pu2, pu3]
      refine g_pure 17 (oi := ⟨some 124, .fieldAddr 59 (.tmp 13) 3, 0, "law.go:81", #[⟨7, .guard⟩], some (7, true)⟩) (v := ?_) (Or.inl ⟨by rfl, ?_⟩) ?_
      rotate_left
      · (intro w; go_simp; try with_reducible rfl)
      simp only [Act.put, pu1, pu2, pu3]
      refine g_take 18 (oi := ⟨some 125, .load 9 (.tmp 124), 9, "law.go:81", #[⟨17, .data⟩, ⟨7, .guard⟩], some (7, true)⟩) (v := ?_) (Or.inl ⟨by rfl, ?_⟩) ?_
      rotate_left
      · (intro w hSw; (obtain ⟨q0, q1, q2, q3, q4, q5, r0, r1, r2, r3, r4, r5, r6⟩ := hSw); go_simp; try with_reducible rfl)
      simp only [Act.put, pu1, pu2, pu3]
      refine g_pure 19 (oi := ⟨some 126, .build 38 #[(0, .tmp 117), (1, .tmp 119), (2, .tmp 121), (3, .tmp 123), (4, .tmp 125)], 38, "law.go:81", #[⟨10, .data⟩, ⟨12, .data⟩, ⟨14, .data⟩, ⟨16, .data⟩, ⟨18, .data⟩, ⟨7, .guard⟩], some (7, true)⟩) (v := ?_) (Or.inl ⟨by rfl, ?_⟩) ?_
      rotate_left
      · (intro w; go_simp; try with_reducible rfl)
      simp only [Act.put, pu1, pu2, pu3]
      refine wpAnyG_ready (rs := [20]) (by kernel_rfl) (by simp) ?_
      refine AllReadyG.cons (o := ⟨some 127, .call { callee := .value (.func 78), args := #[.tmp 115, .tmp 126], argTypes := #[38, 38] }, 4, "law.go:81", #[⟨8, .data⟩, ⟨19, .data⟩, ⟨7, .chain⟩, ⟨7, .guard⟩], some (7, true)⟩) rfl (fun K hK => ?_) AllReadyG.nil
      go_simp
      go_at_call 78
      refine (HL.out _ _ p k1 r1 kL).mono ?_
      rintro e U6 ⟨rfl, u6⟩
      go_wp2_with fail
      have k6 := k5.trans u6 (fun z hz => Or.inl hz)
      refine hK.out _ _ (HX.out _ _ _ _ a11 a13 _ (k35.trans (kd5.trans u6 (fun z hz => Or.inl hz)) (fun z hz => Or.inl hz))) (fun hHeld1 => ?_)
      clear hK K hHeld
      try simp only [Act.put, pu1, pu2, pu3]
      refine g_pure 21 (oi := ⟨some 128, .pick (.tmp 114) (.tmp 127) (.const (.bool false)), 4, "law.go:81", #[⟨7, .data⟩, ⟨20, .data⟩], none⟩) (v := ?_) (Or.inl ⟨by rfl, ?_⟩) ?_
      rotate_left
      · (intro w; go_simp; try with_reducible rfl)
      simp only [Act.put, pu1, pu2, pu3]
      refine g_pure 22 (oi := ⟨some 129, .move (.tmp 128), 4, "law.go:81", #[⟨21, .data⟩, ⟨20, .chain⟩], none⟩) (v := ?_) (Or.inl ⟨by rfl, ?_⟩) ?_
      rotate_left
      · (intro w; go_simp; try with_reducible rfl)
      simp only [Act.put, pu1, pu2, pu3]
      refine g_pure 23 (oi := ⟨some 130, .move (.tmp 0), 22, "law.go:81", #[⟨22, .guard⟩], some (22, true)⟩) (v := ?_) (Or.inl ⟨by rfl, ?_⟩) ?_
      rotate_left
      · (intro w; go_simp; try with_reducible rfl)
      simp only [Act.put, pu1, pu2, pu3]
      refine g_pure 24 (oi := ⟨some 131, .move (.tmp 2), 3, "law.go:81", #[⟨22, .guard⟩], some (22, true)⟩) (v := ?_) (Or.inl ⟨by rfl, ?_⟩) ?_
      rotate_left
      · (intro w; go_simp; try with_reducible rfl)
      simp only [Act.put, pu1, pu2, pu3]
      refine g_pure 26 (oi := ⟨some 133, .fieldAddr 59 (.tmp 13) 5, 0, "law.go:81", #[⟨22, .guard⟩], some (22, true)⟩) (v := ?_) (Or.inl ⟨by rfl, ?_⟩) ?_
      rotate_left
      · (intro w; go_simp; try with_reducible rfl)
      simp only [Act.put, pu1, pu2, pu3]
      refine g_take 27 (oi := ⟨some 134, .load 57 (.tmp 133), 57, "law.go:81", #[⟨26, .data⟩, ⟨22, .guard⟩], some (22, true)⟩) (v := ?_) (Or.inl ⟨by rfl, ?_⟩) ?_
      rotate_left
      · (intro w hSw; (obtain ⟨q0, q1, q2, q3, q4, q5, r0, r1, r2, r3, r4, r5, r6⟩ := hSw); go_simp; try with_reducible rfl)
      simp only [Act.put, pu1, pu2, pu3]
      refine wpAnyG_ready (rs := [25]) (by kernel_rfl) (by simp) ?_
      refine AllReadyG.cons (o := ⟨some 132, .call { callee := .value (.func 45), args := #[.tmp 130, .tmp 131], argTypes := #[22, 3] }, 57, "law.go:81", #[⟨23, .data⟩, ⟨24, .data⟩, ⟨22, .chain⟩, ⟨22, .guard⟩], some (22, true)⟩) rfl (fun K hK => ?_) AllReadyG.nil
      go_simp
      go_at_call 45
      refine (HKi.out _ k6).mono ?_
      rintro e U7 ⟨ao7, n7, c7, rfl, M7⟩
      go_wp2_with fail
      have k7 := k6.trans M7.2.1 (fun z hz => Or.inl hz)
      refine hK.out _ _ (HX.out _ _ _ _ a11 a13 _ ((k35.trans (kd5.trans u6 (fun z hz => Or.inl hz)) (fun z hz => Or.inl hz)).trans M7.2.1 (fun z hz => Or.inl hz))) (fun hHeld2 => ?_)
      clear hK K hHeld1
      try simp only [Act.put, pu1, pu2, pu3]
      refine wpAnyG_ready (rs := [28]) (by kernel_rfl) (by simp) ?_
      refine AllReadyG.cons (o := ⟨some 135, .call { callee := .value (.func 79), args := #[.tmp 132, .tmp 134], argTypes := #[57, 57] }, 4, "law.go:81", #[⟨25, .data⟩, ⟨27, .data⟩, ⟨25, .chain⟩, ⟨22, .guard⟩], some (22, true)⟩) rfl (fun K hK => ?_) AllReadyG.nil
      go_simp
      go_at_call 79
      refine (HS.out _ _ _ _ _ k6 M7).mono ?_
      rintro e U8 ⟨rfl, u8⟩
      go_wp2_with fail
      have k8 : Kp [] w U8 := k7.trans u8 (fun z hz => Or.inl hz)
      refine hK.out _ _ (HX.out _ _ _ _ a11 a13 _ (((k35.trans (kd5.trans u6 (fun z hz => Or.inl hz)) (fun z hz => Or.inl hz)).trans M7.2.1 (fun z hz => Or.inl hz)).trans u8 (fun z hz => Or.inl hz))) (fun hHeld3 => ?_)
      clear hK K hHeld2
      try simp only [Act.put, pu1, pu2, pu3]
      refine g_pure 29 (oi := ⟨some 136, .pick (.tmp 129) (.tmp 135) (.const (.bool false)), 4, "law.go:81", #[⟨22, .data⟩, ⟨28, .data⟩], none⟩) (v := ?_) (Or.inl ⟨by rfl, ?_⟩) ?_
      rotate_left
      · (intro w; go_simp; try with_reducible rfl)
      simp only [Act.put, pu1, pu2, pu3]
      refine g_pure 30 (oi := ⟨some 6, .assign (.tmp 136), 4, "law.go:81", #[⟨29, .data⟩, ⟨28, .chain⟩, ⟨0, .phase⟩, ⟨1, .phase⟩, ⟨2, .phase⟩, ⟨3, .phase⟩, ⟨4, .phase⟩, ⟨5, .phase⟩, ⟨6, .phase⟩, ⟨7, .phase⟩, ⟨8, .phase⟩, ⟨9, .phase⟩, ⟨10, .phase⟩, ⟨11, .phase⟩, ⟨12, .phase⟩, ⟨13, .phase⟩, ⟨14, .phase⟩, ⟨15, .phase⟩, ⟨16, .phase⟩, ⟨17, .phase⟩, ⟨18, .phase⟩, ⟨19, .phase⟩, ⟨20, .phase⟩, ⟨21, .phase⟩, ⟨22, .phase⟩, ⟨23, .phase⟩, ⟨24, .phase⟩, ⟨25, .phase⟩, ⟨26, .phase⟩, ⟨27, .phase⟩, ⟨28, .phase⟩, ⟨29, .phase⟩], none⟩) (v := ?_) (Or.inl ⟨by rfl, ?_⟩) ?_
      rotate_left
      · (intro w; go_simp; try with_reducible rfl)
      simp only [Act.put, pu1, pu2, pu3]
      refine wpAnyG_free (by kernel_rfl) ?_
      refine wpAny_done (by kernel_rfl) ?_ _
      clear hHeld3
      go_wp2
      go_ret
      exact ⟨rfl, k8⟩
  · rcases hcx with hcx | hcx
    · obtain ⟨hu0, rfl, rfl⟩ := hux
      obtain ⟨rfl, rfl, rfl⟩ := hcx
      go_enter Tryz.func38, Tryz.ntmps38
      go_upto_region 4 with (first | (go_at_call 74; refine (HP).mono ?_; rintro e w9 ⟨rfl, hw⟩; have hw2 := hw.symm; clear hw; subst hw2) | (go_at_call 75; refine (HC).mono ?_; rintro e w9 ⟨rfl, hw⟩; have hw2 := hw.symm; clear hw; subst hw2) | (go_at_call 76; refine HN.mono ?_; rintro e W1 ⟨p, rfl, k1, r1⟩))
      obtain ⟨W2, hW2⟩ : ∃ W, W = W1.alloc (.cells #[.int .i64 (A.lb x).kind, .int .i64 (A.lb x).ns, .string (A.lb x).name, .slice p.1 p.2.1 p.2.2, .string (A.lb x).text, .slice none 0 0] 38) := ⟨_, rfl⟩
      have k12 : Kp [] W1 W2 := by rw [hW2]; exact (Kp.refl _ _).alloc _
      have a11 : At W2 W1.heap.size #[.int .i64 (A.lb x).kind, .int .i64 (A.lb x).ns, .string (A.lb x).name, .slice p.1 p.2.1 p.2.2, .string (A.lb x).text, .slice none 0 0] 38 := by rw [hW2]; exact At.new _ _ _
      rw [← hW2]
      clear hW2
      obtain ⟨g11, hg11⟩ : ∃ g, W1.heap.size = g := ⟨_, rfl⟩
      rw [hg11] at a11 ⊢
      clear hg11
      have k2 : Kp [] w W2 := k1.trans k12 (fun z hz => Or.inl hz)
      obtain ⟨c0, s0, s1, s2, s3, s4, s5, s6⟩ := HD.out _ k2
      go_upto_region 7 with fail
      obtain ⟨W3, hW3⟩ : ∃ W, W = W2.alloc (.cells #[.int .i64 (A.lb x).kind, .int .i64 (A.lb x).ns, .string (A.lb x).name, .string (A.lb x).text, .slice xo xn xc, .slice ko kn kc, .int .i64 ux] 59) := ⟨_, rfl⟩
      have k23 : Kp [] W2 W3 := by rw [hW3]; exact (Kp.refl _ _).alloc _
      have a13 : At W3 W2.heap.size #[.int .i64 (A.lb x).kind, .int .i64 (A.lb x).ns, .string (A.lb x).name, .string (A.lb x).text, .slice xo xn xc, .slice ko kn kc, .int .i64 ux] 59 := by rw [hW3]; exact At.new _ _ _
      rw [← hW3]
      clear hW3
      obtain ⟨g13, hg13⟩ : ∃ g, W2.heap.size = g := ⟨_, rfl⟩
      rw [hg13] at a13 ⊢
      clear hg13
      have a11 := a11.kept k23 (by simp)
      have k3 : Kp [] w W3 := k2.trans k23 (fun z hz => Or.inl hz)
      clear c0 s0 s1 s2 s3 s4 s5 s6
      have HX0 : Hid (∀ U, Kp [] W3 U → U.cell? ⟨g13, 6, none⟩ = some (.int .i64 ux)) := fun U kU => (a13.kept kU (by simp)).cell 6
      have e6 := HX0.out _ (Kp.refl _ _)
      go_upto_region 9 with (go_at_call 77; refine (HRC.out _ k3).mono ?_; rintro e W5 ⟨rfl, k35⟩)
      clear e6
      obtain ⟨U5, hU5⟩ : ∃ V, V = W5.drew := ⟨_, rfl⟩
      have kd5 : Kp [] W5 U5 := by rw [hU5]; exact (Kp.refl _ _).drew
      have k5 : Kp [] w U5 := (k3.trans k35 (fun z hz => Or.inl hz)).trans kd5 (fun z hz => Or.inl hz)
      have kL : Kp [] W1 U5 := (((k12.trans k23 (fun z hz => Or.inl hz)).trans k35 (fun z hz => Or.inl hz)).trans kd5 (fun z hz => Or.inl hz))
      refine wp_region_g (S := fun V => V.cell? ⟨g11, 0, none⟩ = some (.int .i64 (A.lb x).kind) ∧ V.cell? ⟨g11, 1, none⟩ = some (.int .i64 (A.lb x).ns) ∧ V.cell? ⟨g11, 2, none⟩ = some (.string (A.lb x).name) ∧ V.cell? ⟨g11, 3, none⟩ = some (.slice p.1 p.2.1 p.2.2) ∧ V.cell? ⟨g11, 4, none⟩ = some (.string (A.lb x).text) ∧ V.cell? ⟨g11, 5, none⟩ = some (.slice none 0 0) ∧ V.cell? ⟨g13, 0, none⟩ = some (.int .i64 (A.lb x).kind) ∧ V.cell? ⟨g13, 1, none⟩ = some (.int .i64 (A.lb x).ns) ∧ V.cell? ⟨g13, 2, none⟩ = some (.string (A.lb x).name) ∧ V.cell? ⟨g13, 3, none⟩ = some (.string (A.lb x).text) ∧ V.cell? ⟨g13, 4, none⟩ = some (.slice xo xn xc) ∧ V.cell? ⟨g13, 5, none⟩ = some (.slice ko kn kc) ∧ V.cell? ⟨g13, 6, none⟩ = some (.int .i64 ux)) (T := []) (by kernel_rfl) (HX.out _ _ _ _ a11 a13 _ (k35.drew)) (fun hHeld => ?_)
      rw [← hU5] at hHeld ⊢
      clear hU5
      refine g_pure 0 (oi := ⟨some 107, .move (.tmp 12), 4, "law.go:81", #[], none⟩) (v := ?_) (Or.inl ⟨by rfl, ?_⟩) ?_
      rotate_left
      · (intro w; go_simp; try with_reducible rfl)
      simp only [Act.put, pu1, pu2, pu3]
      refine g_pure 1 (oi := ⟨some 108, .move (.tmp 107), 4, "law.go:81", #[⟨0, .data⟩], none⟩) (v := ?_) (Or.inl ⟨by rfl, ?_⟩) ?_
      rotate_left
      · (intro w; go_simp; try with_reducible rfl)
      simp only [Act.put, pu1, pu2, pu3]
      refine g_pure 2 (oi := ⟨some 109, .fieldAddr 38 (.tmp 11) 5, 0, "law.go:81", #[⟨1, .guard⟩], some (1, true)⟩) (v := ?_) (Or.inl ⟨by rfl, ?_⟩) ?_
      rotate_left
      · (intro w; go_simp; try with_reducible rfl)
      simp only [Act.put, pu1, pu2, pu3]
      refine g_take 3 (oi := ⟨some 110, .load 36 (.tmp 109), 36, "law.go:81", #[⟨2, .data⟩, ⟨1, .guard⟩], some (1, true)⟩) (v := ?_) (Or.inl ⟨by rfl, ?_⟩) ?_
      rotate_left
      · (intro w hSw; (obtain ⟨q0, q1, q2, q3, q4, q5, r0, r1, r2, r3, r4, r5, r6⟩ := hSw); go_simp; try with_reducible rfl)
      simp only [Act.put, pu1, pu2, pu3]
      refine g_pure 4 (oi := ⟨some 111, .call { callee := .builtin .len, args := #[.tmp 110], argTypes := #[36] }, 3, "law.go:81", #[⟨3, .data⟩, ⟨1, .guard⟩], some (1, true)⟩) (v := ?_) (Or.inl ⟨by rfl, ?_⟩) ?_
      rotate_left
      · (intro w; go_simp; try with_reducible rfl)
      simp only [Act.put, pu1, pu2, pu3]
      refine g_pure 5 (oi := ⟨some 112, .binOp .eql 3 (.tmp 111) (.const (.int .i64 0)) 3, 4, "law.go:81", #[⟨4, .data⟩, ⟨1, .guard⟩], some (1, true)⟩) (v := ?_) (Or.inl ⟨by rfl, ?_⟩) ?_
      rotate_left
      · (intro w; go_simp; try with_reducible rfl)
      simp only [Act.put, pu1, pu2, pu3]
      refine g_pure 6 (oi := ⟨some 113, .pick (.tmp 108) (.tmp 112) (.const (.bool false)), 4, "law.go:81", #[⟨1, .data⟩, ⟨5, .data⟩], none⟩) (v := ?_) (Or.inl ⟨by rfl, ?_⟩) ?_
      rotate_left
      · (intro w; go_simp; try with_reducible rfl)
      simp only [Act.put, pu1, pu2, pu3]
      refine g_pure 7 (oi := ⟨some 114, .move (.tmp 113), 4, "law.go:81", #[⟨6, .data⟩, ⟨1, .chain⟩], none⟩) (v := ?_) (Or.inl ⟨by rfl, ?_⟩) ?_
      rotate_left
      · (intro w; go_simp; try with_reducible rfl)
      simp only [Act.put, pu1, pu2, pu3]
      refine g_take 8 (oi := ⟨some 115, .load 38 (.tmp 11), 38, "law.go:81", #[⟨7, .guard⟩], some (7, true)⟩) (v := ?_) (Or.inl ⟨by rfl, ?_⟩) ?_
      rotate_left
      · (intro w hSw; (obtain ⟨q0, q1, q2, q3, q4, q5, r0, r1, r2, r3, r4, r5, r6⟩ := hSw); go_simp; try with_reducible rfl)
      simp only [Act.put, pu1, pu2, pu3]
      refine g_pure 9 (oi := ⟨some 116, .fieldAddr 59 (.tmp 13) 0, 0, "law.go:81", #[⟨7, .guard⟩], some (7, true)⟩) (v := ?_) (Or.inl ⟨by rfl, ?_⟩) ?_
      rotate_left
      · (intro w; go_simp; try with_reducible rfl)
      simp only [Act.put, pu1, pu2, pu3]
      refine g_take 10 (oi := ⟨some 117, .load 3 (.tmp 116), 3, "law.go:81", #[⟨9, .data⟩, ⟨7, .guard⟩], some (7, true)⟩) (v := ?_) (Or.inl ⟨by rfl, ?_⟩) ?_
      rotate_left
      · (intro w hSw; (obtain ⟨q0, q1, q2, q3, q4, q5, r0, r1, r2, r3, r4, r5, r6⟩ := hSw); go_simp; try with_reducible rfl)
      simp only [Act.put, pu1, pu2, pu3]
      refine g_pure 11 (oi := ⟨some 118, .fieldAddr 59 (.tmp 13) 1, 0, "law.go:81", #[⟨7, .guard⟩], some (7, true)⟩) (v := ?_) (Or.inl ⟨by rfl, ?_⟩) ?_
      rotate_left
      · (intro w; go_simp; try with_reducible rfl)
      simp only [Act.put, pu1, pu2, pu3]
      refine g_take 12 (oi := ⟨some 119, .load 3 (.tmp 118), 3, "law.go:81", #[⟨11, .data⟩, ⟨7, .guard⟩], some (7, true)⟩) (v := ?_) (Or.inl ⟨by rfl, ?_⟩) ?_
      rotate_left
      · (intro w hSw; (obtain ⟨q0, q1, q2, q3, q4, q5, r0, r1, r2, r3, r4, r5, r6⟩ := hSw); go_simp; try with_reducible rfl)
      simp only [Act.put, pu1, pu2, pu3]
      refine g_pure 13 (oi := ⟨some 120, .fieldAddr 59 (.tmp 13) 2, 0, "law.go:81", #[⟨7, .guard⟩], some (7, true)⟩) (v := ?_) (Or.inl ⟨by rfl, ?_⟩) ?_
      rotate_left
      · (intro w; go_simp; try with_reducible rfl)
      simp only [Act.put, pu1, pu2, pu3]
      refine g_take 14 (oi := ⟨some 121, .load 9 (.tmp 120), 9, "law.go:81", #[⟨13, .data⟩, ⟨7, .guard⟩], some (7, true)⟩) (v := ?_) (Or.inl ⟨by rfl, ?_⟩) ?_
      rotate_left
      · (intro w hSw; (obtain ⟨q0, q1, q2, q3, q4, q5, r0, r1, r2, r3, r4, r5, r6⟩ := hSw); go_simp; try with_reducible rfl)
      simp only [Act.put, pu1, pu2, pu3]
      refine g_pure 15 (oi := ⟨some 122, .fieldAddr 59 (.tmp 13) 4, 0, "law.go:81", #[⟨7, .guard⟩], some (7, true)⟩) (v := ?_) (Or.inl ⟨by rfl, ?_⟩) ?_
      rotate_left
      · (intro w; go_simp; try with_reducible rfl)
      simp only [Act.put, pu1, pu2, pu3]
      refine g_take 16 (oi := ⟨some 123, .load 26 (.tmp 122), 26, "law.go:81", #[⟨15, .data⟩, ⟨7, .guard⟩], some (7, true)⟩) (v := ?_) (Or.inl ⟨by rfl, ?_⟩) ?_
      rotate_left
      · (intro w hSw; (obtain ⟨q0, q1, q2, q3, q4, q5, r0, r1, r2, r3, r4, r5, r6⟩ := hSw); go_simp; try with_reducible rfl)
      simp only [Act.put, pu1, pu2, pu3]
      refine g_pure 17 (oi := ⟨some 124, .fieldAddr 59 (.tmp 13) 3, 0, "law.go:81", #[⟨7, .guard⟩], some (7, true)⟩) (v := ?_) (Or.inl ⟨by rfl, ?_⟩) ?_
      rotate_left
      · (intro w; go_simp; try with_reducible rfl)
      simp only [Act.put, pu1, pu2, pu3]
      refine g_take 18 (oi := ⟨some 125, .load 9 (.tmp 124), 9, "law.go:81", #[⟨17, .data⟩, ⟨7, .guard⟩], some (7, true)⟩) (v := ?_) (Or.inl ⟨by rfl, ?_⟩) ?_
      rotate_left
      · (intro w hSw; (obtain ⟨q0, q1, q2, q3, q4, q5, r0, r1, r2, r3, r4, r5, r6⟩ := hSw); go_simp; try with_reducible rfl)
      simp only [Act.put, pu1, pu2, pu3]
      refine g_pure 19 (oi := ⟨some 126, .build 38 #[(0, .tmp 117), (1, .tmp 119), (2, .tmp 121), (3, .tmp 123), (4, .tmp 125)], 38, "law.go:81", #[⟨10, .data⟩, ⟨12, .data⟩, ⟨14, .data⟩, ⟨16, .data⟩, ⟨18, .data⟩, ⟨7, .guard⟩], some (7, true)⟩) (v := ?_) (Or.inl ⟨by rfl, ?_⟩) ?_
      rotate_left
      · (intro w; go_simp; try with_reducible rfl)
      simp only [Act.put, pu1, pu2, pu3]
      refine wpAnyG_ready (rs := [20]) (by kernel_rfl) (by simp) ?_
      refine AllReadyG.cons (o := ⟨some 127, .call { callee := .value (.func 78), args := #[.tmp 115, .tmp 126], argTypes := #[38, 38] }, 4, "law.go:81", #[⟨8, .data⟩, ⟨19, .data⟩, ⟨7, .chain⟩, ⟨7, .guard⟩], some (7, true)⟩) rfl (fun K hK => ?_) AllReadyG.nil
      go_simp
      go_at_call 78
      refine (HL.out _ _ p k1 r1 kL).mono ?_
      rintro e U6 ⟨rfl, u6⟩
      go_wp2_with fail
      have k6 := k5.trans u6 (fun z hz => Or.inl hz)
      refine hK.out _ _ (HX.out _ _ _ _ a11 a13 _ (k35.trans (kd5.trans u6 (fun z hz => Or.inl hz)) (fun z hz => Or.inl hz))) (fun hHeld1 => ?_)
      clear hK K hHeld
      try simp only [Act.put, pu1, pu2, pu3]
      refine g_pure 21 (oi := ⟨some 128, .pick (.tmp 114) (.tmp 127) (.const (.bool false)), 4, "law.go:81", #[⟨7, .data⟩, ⟨20, .data⟩], none⟩) (v := ?_) (Or.inl ⟨by rfl, ?_⟩) ?_
      rotate_left
      · (intro w; go_simp; try with_reducible rfl)
      simp only [Act.put, pu1, pu2, pu3]
      refine g_pure 22 (oi := ⟨some 129, .move (.tmp 128), 4, "law.go:81", #[⟨21, .data⟩, ⟨20, .chain⟩], none⟩) (v := ?_) (Or.inl ⟨by rfl, ?_⟩) ?_
      rotate_left
      · (intro w; go_simp; try with_reducible rfl)
      simp only [Act.put, pu1, pu2, pu3]
      refine g_pure 23 (oi := ⟨some 130, .move (.tmp 0), 22, "law.go:81", #[⟨22, .guard⟩], some (22, true)⟩) (v := ?_) (Or.inl ⟨by rfl, ?_⟩) ?_
      rotate_left
      · (intro w; go_simp; try with_reducible rfl)
      simp only [Act.put, pu1, pu2, pu3]
      refine g_pure 24 (oi := ⟨some 131, .move (.tmp 2), 3, "law.go:81", #[⟨22, .guard⟩], some (22, true)⟩) (v := ?_) (Or.inl ⟨by rfl, ?_⟩) ?_
      rotate_left
      · (intro w; go_simp; try with_reducible rfl)
      simp only [Act.put, pu1, pu2, pu3]
      refine g_pure 26 (oi := ⟨some 133, .fieldAddr 59 (.tmp 13) 5, 0, "law.go:81", #[⟨22, .guard⟩], some (22, true)⟩) (v := ?_) (Or.inl ⟨by rfl, ?_⟩) ?_
      rotate_left
      · (intro w; go_simp; try with_reducible rfl)
      simp only [Act.put, pu1, pu2, pu3]
      refine g_take 27 (oi := ⟨some 134, .load 57 (.tmp 133), 57, "law.go:81", #[⟨26, .data⟩, ⟨22, .guard⟩], some (22, true)⟩) (v := ?_) (Or.inl ⟨by rfl, ?_⟩) ?_
      rotate_left
      · (intro w hSw; (obtain ⟨q0, q1, q2, q3, q4, q5, r0, r1, r2, r3, r4, r5, r6⟩ := hSw); go_simp; try with_reducible rfl)
      simp only [Act.put, pu1, pu2, pu3]
      refine wpAnyG_ready (rs := [25]) (by kernel_rfl) (by simp) ?_
      refine AllReadyG.cons (o := ⟨some 132, .call { callee := .value (.func 45), args := #[.tmp 130, .tmp 131], argTypes := #[22, 3] }, 57, "law.go:81", #[⟨23, .data⟩, ⟨24, .data⟩, ⟨22, .chain⟩, ⟨22, .guard⟩], some (22, true)⟩) rfl (fun K hK => ?_) AllReadyG.nil
      go_simp
      go_at_call 45
      refine (HKi.out _ k6).mono ?_
      rintro e U7 ⟨ao7, n7, c7, rfl, M7⟩
      go_wp2_with fail
      have k7 := k6.trans M7.2.1 (fun z hz => Or.inl hz)
      refine hK.out _ _ (HX.out _ _ _ _ a11 a13 _ ((k35.trans (kd5.trans u6 (fun z hz => Or.inl hz)) (fun z hz => Or.inl hz)).trans M7.2.1 (fun z hz => Or.inl hz))) (fun hHeld2 => ?_)
      clear hK K hHeld1
      try simp only [Act.put, pu1, pu2, pu3]
      refine wpAnyG_ready (rs := [28]) (by kernel_rfl) (by simp) ?_
      refine AllReadyG.cons (o := ⟨some 135, .call { callee := .value (.func 79), args := #[.tmp 132, .tmp 134], argTypes := #[57, 57] }, 4, "law.go:81", #[⟨25, .data⟩, ⟨27, .data⟩, ⟨25, .chain⟩, ⟨22, .guard⟩], some (22, true)⟩) rfl (fun K hK => ?_) AllReadyG.nil
      go_simp
      go_at_call 79
      refine (HS.out _ _ _ _ _ k6 M7).mono ?_
      rintro e U8 ⟨rfl, u8⟩
      go_wp2_with fail
      have k8 : Kp [] w U8 := k7.trans u8 (fun z hz => Or.inl hz)
      refine hK.out _ _ (HX.out _ _ _ _ a11 a13 _ (((k35.trans (kd5.trans u6 (fun z hz => Or.inl hz)) (fun z hz => Or.inl hz)).trans M7.2.1 (fun z hz => Or.inl hz)).trans u8 (fun z hz => Or.inl hz))) (fun hHeld3 => ?_)
      clear hK K hHeld2
      try simp only [Act.put, pu1, pu2, pu3]
      refine g_pure 29 (oi := ⟨some 136, .pick (.tmp 129) (.tmp 135) (.const (.bool false)), 4, "law.go:81", #[⟨22, .data⟩, ⟨28, .data⟩], none⟩) (v := ?_) (Or.inl ⟨by rfl, ?_⟩) ?_
      rotate_left
      · (intro w; go_simp; try with_reducible rfl)
      simp only [Act.put, pu1, pu2, pu3]
      refine g_pure 30 (oi := ⟨some 6, .assign (.tmp 136), 4, "law.go:81", #[⟨29, .data⟩, ⟨28, .chain⟩, ⟨0, .phase⟩, ⟨1, .phase⟩, ⟨2, .phase⟩, ⟨3, .phase⟩, ⟨4, .phase⟩, ⟨5, .phase⟩, ⟨6, .phase⟩, ⟨7, .phase⟩, ⟨8, .phase⟩, ⟨9, .phase⟩, ⟨10, .phase⟩, ⟨11, .phase⟩, ⟨12, .phase⟩, ⟨13, .phase⟩, ⟨14, .phase⟩, ⟨15, .phase⟩, ⟨16, .phase⟩, ⟨17, .phase⟩, ⟨18, .phase⟩, ⟨19, .phase⟩, ⟨20, .phase⟩, ⟨21, .phase⟩, ⟨22, .phase⟩, ⟨23, .phase⟩, ⟨24, .phase⟩, ⟨25, .phase⟩, ⟨26, .phase⟩, ⟨27, .phase⟩, ⟨28, .phase⟩, ⟨29, .phase⟩], none⟩) (v := ?_) (Or.inl ⟨by rfl, ?_⟩) ?_
      rotate_left
      · (intro w; go_simp; try with_reducible rfl)
      simp only [Act.put, pu1, pu2, pu3]
      refine wpAnyG_free (by kernel_rfl) ?_
      refine wpAny_done (by kernel_rfl) ?_ _
      clear hHeld3
      go_wp2
      go_ret
      exact ⟨rfl, k8⟩
    · obtain ⟨hu0, rfl, rfl⟩ := hux
      obtain ⟨hc0, rfl, rfl⟩ := hcx
      go_enter Tryz.func38, Tryz.ntmps38
      go_upto_region 4 with (first | (go_at_call 74; refine (HP).mono ?_; rintro e w9 ⟨rfl, hw⟩; have hw2 := hw.symm; clear hw; subst hw2) | (go_at_call 75; refine (HC).mono ?_; rintro e w9 ⟨rfl, hw⟩; have hw2 := hw.symm; clear hw; subst hw2) | (go_at_call 76; refine HN.mono ?_; rintro e W1 ⟨p, rfl, k1, r1⟩))
      obtain ⟨W2, hW2⟩ : ∃ W, W = W1.alloc (.cells #[.int .i64 (A.lb x).kind, .int .i64 (A.lb x).ns, .string (A.lb x).name, .slice p.1 p.2.1 p.2.2, .string (A.lb x).text, .slice none 0 0] 38) := ⟨_, rfl⟩
      have k12 : Kp [] W1 W2 := by rw [hW2]; exact (Kp.refl _ _).alloc _
      have a11 : At W2 W1.heap.size #[.int .i64 (A.lb x).kind, .int .i64 (A.lb x).ns, .string (A.lb x).name, .slice p.1 p.2.1 p.2.2, .string (A.lb x).text, .slice none 0 0] 38 := by rw [hW2]; exact At.new _ _ _
      rw [← hW2]
      clear hW2
      obtain ⟨g11, hg11⟩ : ∃ g, W1.heap.size = g := ⟨_, rfl⟩
      rw [hg11] at a11 ⊢
      clear hg11
      have k2 : Kp [] w W2 := k1.trans k12 (fun z hz => Or.inl hz)
      obtain ⟨c0, s0, s1, s2, s3, s4, s5, s6⟩ := HD.out _ k2
      go_upto_region 7 with fail
      obtain ⟨W3, hW3⟩ : ∃ W, W = W2.alloc (.cells #[.int .i64 (A.lb x).kind, .int .i64 (A.lb x).ns, .string (A.lb x).name, .string (A.lb x).text, .slice xo xn xc, .slice ko kn kc, .int .i64 ux] 59) := ⟨_, rfl⟩
      have k23 : Kp [] W2 W3 := by rw [hW3]; exact (Kp.refl _ _).alloc _
      have a13 : At W3 W2.heap.size #[.int .i64 (A.lb x).kind, .int .i64 (A.lb x).ns, .string (A.lb x).name, .string (A.lb x).text, .slice xo xn xc, .slice ko kn kc, .int .i64 ux] 59 := by rw [hW3]; exact At.new _ _ _
      rw [← hW3]
      clear hW3
      obtain ⟨g13, hg13⟩ : ∃ g, W2.heap.size = g := ⟨_, rfl⟩
      rw [hg13] at a13 ⊢
      clear hg13
      have a11 := a11.kept k23 (by simp)
      have k3 : Kp [] w W3 := k2.trans k23 (fun z hz => Or.inl hz)
      clear c0 s0 s1 s2 s3 s4 s5 s6
      have HX0 : Hid (∀ U, Kp [] W3 U → U.cell? ⟨g13, 6, none⟩ = some (.int .i64 ux)) := fun U kU => (a13.kept kU (by simp)).cell 6
      have e6 := HX0.out _ (Kp.refl _ _)
      go_upto_region 9 with (first | (go_at_call 77; have D4 := k34; refine (HRC.out _ (k3.trans k34 (fun z hz => Or.inl hz))).mono ?_; rintro e W5 ⟨rfl, k45⟩) | (go_at_call 77; refine (HRC.out _ k3).mono ?_; rintro e W4 ⟨rfl, k34⟩; have e7 := HX0.out _ k34))
      have k35 : Kp [] W3 W5 := k34.trans k45 (fun z hz => Or.inl hz)
      clear e6
      obtain ⟨U5, hU5⟩ : ∃ V, V = W5.drew := ⟨_, rfl⟩
      have kd5 : Kp [] W5 U5 := by rw [hU5]; exact (Kp.refl _ _).drew
      have k5 : Kp [] w U5 := (k3.trans k35 (fun z hz => Or.inl hz)).trans kd5 (fun z hz => Or.inl hz)
      have kL : Kp [] W1 U5 := (((k12.trans k23 (fun z hz => Or.inl hz)).trans k35 (fun z hz => Or.inl hz)).trans kd5 (fun z hz => Or.inl hz))
      refine wp_region_g (S := fun V => V.cell? ⟨g11, 0, none⟩ = some (.int .i64 (A.lb x).kind) ∧ V.cell? ⟨g11, 1, none⟩ = some (.int .i64 (A.lb x).ns) ∧ V.cell? ⟨g11, 2, none⟩ = some (.string (A.lb x).name) ∧ V.cell? ⟨g11, 3, none⟩ = some (.slice p.1 p.2.1 p.2.2) ∧ V.cell? ⟨g11, 4, none⟩ = some (.string (A.lb x).text) ∧ V.cell? ⟨g11, 5, none⟩ = some (.slice none 0 0) ∧ V.cell? ⟨g13, 0, none⟩ = some (.int .i64 (A.lb x).kind) ∧ V.cell? ⟨g13, 1, none⟩ = some (.int .i64 (A.lb x).ns) ∧ V.cell? ⟨g13, 2, none⟩ = some (.string (A.lb x).name) ∧ V.cell? ⟨g13, 3, none⟩ = some (.string (A.lb x).text) ∧ V.cell? ⟨g13, 4, none⟩ = some (.slice xo xn xc) ∧ V.cell? ⟨g13, 5, none⟩ = some (.slice ko kn kc) ∧ V.cell? ⟨g13, 6, none⟩ = some (.int .i64 ux)) (T := []) (by kernel_rfl) (HX.out _ _ _ _ a11 a13 _ (k35.drew)) (fun hHeld => ?_)
      rw [← hU5] at hHeld ⊢
      clear hU5
      refine g_pure 0 (oi := ⟨some 107, .move (.tmp 12), 4, "law.go:81", #[], none⟩) (v := ?_) (Or.inl ⟨by rfl, ?_⟩) ?_
      rotate_left
      · (intro w; go_simp; try with_reducible rfl)
      simp only [Act.put, pu1, pu2, pu3]
      refine g_pure 1 (oi := ⟨some 108, .move (.tmp 107), 4, "law.go:81", #[⟨0, .data⟩], none⟩) (v := ?_) (Or.inl ⟨by rfl, ?_⟩) ?_
      rotate_left
      · (intro w; go_simp; try with_reducible rfl)
      simp only [Act.put, pu1, pu2, pu3]
      refine g_pure 2 (oi := ⟨some 109, .fieldAddr 38 (.tmp 11) 5, 0, "law.go:81", #[⟨1, .guard⟩], some (1, true)⟩) (v := ?_) (Or.inl ⟨by rfl, ?_⟩) ?_
      rotate_left
      · (intro w; go_simp; try with_reducible rfl)
      simp only [Act.put, pu1, pu2, pu3]
      refine g_take 3 (oi := ⟨some 110, .load 36 (.tmp 109), 36, "law.go:81", #[⟨2, .data⟩, ⟨1, .guard⟩], some (1, true)⟩) (v := ?_) (Or.inl ⟨by rfl, ?_⟩) ?_
      rotate_left
      · (intro w hSw; (obtain ⟨q0, q1, q2, q3, q4, q5, r0, r1, r2, r3, r4, r5, r6⟩ := hSw); go_simp; try with_reducible rfl)
      simp only [Act.put, pu1, pu2, pu3]
      refine g_pure 4 (oi := ⟨some 111, .call { callee := .builtin .len, args := #[.tmp 110], argTypes := #[36] }, 3, "law.go:81", #[⟨3, .data⟩, ⟨1, .guard⟩], some (1, true)⟩) (v := ?_) (Or.inl ⟨by rfl, ?_⟩) ?_
      rotate_left
      · (intro w; go_simp; try with_reducible rfl)
      simp only [Act.put, pu1, pu2, pu3]
      refine g_pure 5 (oi := ⟨some 112, .binOp .eql 3 (.tmp 111) (.const (.int .i64 0)) 3, 4, "law.go:81", #[⟨4, .data⟩, ⟨1, .guard⟩], some (1, true)⟩) (v := ?_) (Or.inl ⟨by rfl, ?_⟩) ?_
      rotate_left
      · (intro w; go_simp; try with_reducible rfl)
      simp only [Act.put, pu1, pu2, pu3]
      refine g_pure 6 (oi := ⟨some 113, .pick (.tmp 108) (.tmp 112) (.const (.bool false)), 4, "law.go:81", #[⟨1, .data⟩, ⟨5, .data⟩], none⟩) (v := ?_) (Or.inl ⟨by rfl, ?_⟩) ?_
      rotate_left
      · (intro w; go_simp; try with_reducible rfl)
      simp only [Act.put, pu1, pu2, pu3]
      refine g_pure 7 (oi := ⟨some 114, .move (.tmp 113), 4, "law.go:81", #[⟨6, .data⟩, ⟨1, .chain⟩], none⟩) (v := ?_) (Or.inl ⟨by rfl, ?_⟩) ?_
      rotate_left
      · (intro w; go_simp; try with_reducible rfl)
      simp only [Act.put, pu1, pu2, pu3]
      refine g_take 8 (oi := ⟨some 115, .load 38 (.tmp 11), 38, "law.go:81", #[⟨7, .guard⟩], some (7, true)⟩) (v := ?_) (Or.inl ⟨by rfl, ?_⟩) ?_
      rotate_left
      · (intro w hSw; (obtain ⟨q0, q1, q2, q3, q4, q5, r0, r1, r2, r3, r4, r5, r6⟩ := hSw); go_simp; try with_reducible rfl)
      simp only [Act.put, pu1, pu2, pu3]
      refine g_pure 9 (oi := ⟨some 116, .fieldAddr 59 (.tmp 13) 0, 0, "law.go:81", #[⟨7, .guard⟩], some (7, true)⟩) (v := ?_) (Or.inl ⟨by rfl, ?_⟩) ?_
      rotate_left
      · (intro w; go_simp; try with_reducible rfl)
      simp only [Act.put, pu1, pu2, pu3]
      refine g_take 10 (oi := ⟨some 117, .load 3 (.tmp 116), 3, "law.go:81", #[⟨9, .data⟩, ⟨7, .guard⟩], some (7, true)⟩) (v := ?_) (Or.inl ⟨by rfl, ?_⟩) ?_
      rotate_left
      · (intro w hSw; (obtain ⟨q0, q1, q2, q3, q4, q5, r0, r1, r2, r3, r4, r5, r6⟩ := hSw); go_simp; try with_reducible rfl)
      simp only [Act.put, pu1, pu2, pu3]
      refine g_pure 11 (oi := ⟨some 118, .fieldAddr 59 (.tmp 13) 1, 0, "law.go:81", #[⟨7, .guard⟩], some (7, true)⟩) (v := ?_) (Or.inl ⟨by rfl, ?_⟩) ?_
      rotate_left
      · (intro w; go_simp; try with_reducible rfl)
      simp only [Act.put, pu1, pu2, pu3]
      refine g_take 12 (oi := ⟨some 119, .load 3 (.tmp 118), 3, "law.go:81", #[⟨11, .data⟩, ⟨7, .guard⟩], some (7, true)⟩) (v := ?_) (Or.inl ⟨by rfl, ?_⟩) ?_
      rotate_left
      · (intro w hSw; (obtain ⟨q0, q1, q2, q3, q4, q5, r0, r1, r2, r3, r4, r5, r6⟩ := hSw); go_simp; try with_reducible rfl)
      simp only [Act.put, pu1, pu2, pu3]
      refine g_pure 13 (oi := ⟨some 120, .fieldAddr 59 (.tmp 13) 2, 0, "law.go:81", #[⟨7, .guard⟩], some (7, true)⟩) (v := ?_) (Or.inl ⟨by rfl, ?_⟩) ?_
      rotate_left
      · (intro w; go_simp; try with_reducible rfl)
      simp only [Act.put, pu1, pu2, pu3]
      refine g_take 14 (oi := ⟨some 121, .load 9 (.tmp 120), 9, "law.go:81", #[⟨13, .data⟩, ⟨7, .guard⟩], some (7, true)⟩) (v := ?_) (Or.inl ⟨by rfl, ?_⟩) ?_
      rotate_left
      · (intro w hSw; (obtain ⟨q0, q1, q2, q3, q4, q5, r0, r1, r2, r3, r4, r5, r6⟩ := hSw); go_simp; try with_reducible rfl)
      simp only [Act.put, pu1, pu2, pu3]
      refine g_pure 15 (oi := ⟨some 122, .fieldAddr 59 (.tmp 13) 4, 0, "law.go:81", #[⟨7, .guard⟩], some (7, true)⟩) (v := ?_) (Or.inl ⟨by rfl, ?_⟩) ?_
      rotate_left
      · (intro w; go_simp; try with_reducible rfl)
      simp only [Act.put, pu1, pu2, pu3]
      refine g_take 16 (oi := ⟨some 123, .load 26 (.tmp 122), 26, "law.go:81", #[⟨15, .data⟩, ⟨7, .guard⟩], some (7, true)⟩) (v := ?_) (Or.inl ⟨by rfl, ?_⟩) ?_
      rotate_left
      · (intro w hSw; (obtain ⟨q0, q1, q2, q3, q4, q5, r0, r1, r2, r3, r4, r5, r6⟩ := hSw); go_simp; try with_reducible rfl)
      simp only [Act.put, pu1, pu2, pu3]
      refine g_pure 17 (oi := ⟨some 124, .fieldAddr 59 (.tmp 13) 3, 0, "law.go:81", #[⟨7, .guard⟩], some (7, true)⟩) (v := ?_) (Or.inl ⟨by rfl, ?_⟩) ?_
      rotate_left
      · (intro w; go_simp; try with_reducible rfl)
      simp only [Act.put, pu1, pu2, pu3]
      refine g_take 18 (oi := ⟨some 125, .load 9 (.tmp 124), 9, "law.go:81", #[⟨17, .data⟩, ⟨7, .guard⟩], some (7, true)⟩) (v := ?_) (Or.inl ⟨by rfl, ?_⟩) ?_
      rotate_left
      · (intro w hSw; (obtain ⟨q0, q1, q2, q3, q4, q5, r0, r1, r2, r3, r4, r5, r6⟩ := hSw); go_simp; try with_reducible rfl)
      simp only [Act.put, pu1, pu2, pu3]
      refine g_pure 19 (oi := ⟨some 126, .build 38 #[(0, .tmp 117), (1, .tmp 119), (2, .tmp 121), (3, .tmp 123), (4, .tmp 125)], 38, "law.go:81", #[⟨10, .data⟩, ⟨12, .data⟩, ⟨14, .data⟩, ⟨16, .data⟩, ⟨18, .data⟩, ⟨7, .guard⟩], some (7, true)⟩) (v := ?_) (Or.inl ⟨by rfl, ?_⟩) ?_
      rotate_left
      · (intro w; go_simp; try with_reducible rfl)
      simp only [Act.put, pu1, pu2, pu3]
      refine wpAnyG_ready (rs := [20]) (by kernel_rfl) (by simp) ?_
      refine AllReadyG.cons (o := ⟨some 127, .call { callee := .value (.func 78), args := #[.tmp 115, .tmp 126], argTypes := #[38, 38] }, 4, "law.go:81", #[⟨8, .data⟩, ⟨19, .data⟩, ⟨7, .chain⟩, ⟨7, .guard⟩], some (7, true)⟩) rfl (fun K hK => ?_) AllReadyG.nil
      go_simp
      go_at_call 78
      refine (HL.out _ _ p k1 r1 kL).mono ?_
      rintro e U6 ⟨rfl, u6⟩
      go_wp2_with fail
      have k6 := k5.trans u6 (fun z hz => Or.inl hz)
      refine hK.out _ _ (HX.out _ _ _ _ a11 a13 _ (k35.trans (kd5.trans u6 (fun z hz => Or.inl hz)) (fun z hz => Or.inl hz))) (fun hHeld1 => ?_)
      clear hK K hHeld
      try simp only [Act.put, pu1, pu2, pu3]
      refine g_pure 21 (oi := ⟨some 128, .pick (.tmp 114) (.tmp 127) (.const (.bool false)), 4, "law.go:81", #[⟨7, .data⟩, ⟨20, .data⟩], none⟩) (v := ?_) (Or.inl ⟨by rfl, ?_⟩) ?_
      rotate_left
      · (intro w; go_simp; try with_reducible rfl)
      simp only [Act.put, pu1, pu2, pu3]
      refine g_pure 22 (oi := ⟨some 129, .move (.tmp 128), 4, "law.go:81", #[⟨21, .data⟩, ⟨20, .chain⟩], none⟩) (v := ?_) (Or.inl ⟨by rfl, ?_⟩) ?_
      rotate_left
      · (intro w; go_simp; try with_reducible rfl)
      simp only [Act.put, pu1, pu2, pu3]
      refine g_pure 23 (oi := ⟨some 130, .move (.tmp 0), 22, "law.go:81", #[⟨22, .guard⟩], some (22, true)⟩) (v := ?_) (Or.inl ⟨by rfl, ?_⟩) ?_
      rotate_left
      · (intro w; go_simp; try with_reducible rfl)
      simp only [Act.put, pu1, pu2, pu3]
      refine g_pure 24 (oi := ⟨some 131, .move (.tmp 2), 3, "law.go:81", #[⟨22, .guard⟩], some (22, true)⟩) (v := ?_) (Or.inl ⟨by rfl, ?_⟩) ?_
      rotate_left
      · (intro w; go_simp; try with_reducible rfl)
      simp only [Act.put, pu1, pu2, pu3]
      refine g_pure 26 (oi := ⟨some 133, .fieldAddr 59 (.tmp 13) 5, 0, "law.go:81", #[⟨22, .guard⟩], some (22, true)⟩) (v := ?_) (Or.inl ⟨by rfl, ?_⟩) ?_
      rotate_left
      · (intro w; go_simp; try with_reducible rfl)
      simp only [Act.put, pu1, pu2, pu3]
      refine g_take 27 (oi := ⟨some 134, .load 57 (.tmp 133), 57, "law.go:81", #[⟨26, .data⟩, ⟨22, .guard⟩], some (22, true)⟩) (v := ?_) (Or.inl ⟨by rfl, ?_⟩) ?_
      rotate_left
      · (intro w hSw; (obtain ⟨q0, q1, q2, q3, q4, q5, r0, r1, r2, r3, r4, r5, r6⟩ := hSw); go_simp; try with_reducible rfl)
      simp only [Act.put, pu1, pu2, pu3]
      refine wpAnyG_ready (rs := [25]) (by kernel_rfl) (by simp) ?_
      refine AllReadyG.cons (o := ⟨some 132, .call { callee := .value (.func 45), args := #[.tmp 130, .tmp 131], argTypes := #[22, 3] }, 57, "law.go:81", #[⟨23, .data⟩, ⟨24, .data⟩, ⟨22, .chain⟩, ⟨22, .guard⟩], some (22, true)⟩) rfl (fun K hK => ?_) AllReadyG.nil
      go_simp
      go_at_call 45
      refine (HKi.out _ k6).mono ?_
      rintro e U7 ⟨ao7, n7, c7, rfl, M7⟩
      go_wp2_with fail
      have k7 := k6.trans M7.2.1 (fun z hz => Or.inl hz)
      refine hK.out _ _ (HX.out _ _ _ _ a11 a13 _ ((k35.trans (kd5.trans u6 (fun z hz => Or.inl hz)) (fun z hz => Or.inl hz)).trans M7.2.1 (fun z hz => Or.inl hz))) (fun hHeld2 => ?_)
      clear hK K hHeld1
      try simp only [Act.put, pu1, pu2, pu3]
      refine wpAnyG_ready (rs := [28]) (by kernel_rfl) (by simp) ?_
      refine AllReadyG.cons (o := ⟨some 135, .call { callee := .value (.func 79), args := #[.tmp 132, .tmp 134], argTypes := #[57, 57] }, 4, "law.go:81", #[⟨25, .data⟩, ⟨27, .data⟩, ⟨25, .chain⟩, ⟨22, .guard⟩], some (22, true)⟩) rfl (fun K hK => ?_) AllReadyG.nil
      go_simp
      go_at_call 79
      refine (HS.out _ _ _ _ _ k6 M7).mono ?_
      rintro e U8 ⟨rfl, u8⟩
      go_wp2_with fail
      have k8 : Kp [] w U8 := k7.trans u8 (fun z hz => Or.inl hz)
      refine hK.out _ _ (HX.out _ _ _ _ a11 a13 _ (((k35.trans (kd5.trans u6 (fun z hz => Or.inl hz)) (fun z hz => Or.inl hz)).trans M7.2.1 (fun z hz => Or.inl hz)).trans u8 (fun z hz => Or.inl hz))) (fun hHeld3 => ?_)
      clear hK K hHeld2
      try simp only [Act.put, pu1, pu2, pu3]
      refine g_pure 29 (oi := ⟨some 136, .pick (.tmp 129) (.tmp 135) (.const (.bool false)), 4, "law.go:81", #[⟨22, .data⟩, ⟨28, .data⟩], none⟩) (v := ?_) (Or.inl ⟨by rfl, ?_⟩) ?_
      rotate_left
      · (intro w; go_simp; try with_reducible rfl)
      simp only [Act.put, pu1, pu2, pu3]
      refine g_pure 30 (oi := ⟨some 6, .assign (.tmp 136), 4, "law.go:81", #[⟨29, .data⟩, ⟨28, .chain⟩, ⟨0, .phase⟩, ⟨1, .phase⟩, ⟨2, .phase⟩, ⟨3, .phase⟩, ⟨4, .phase⟩, ⟨5, .phase⟩, ⟨6, .phase⟩, ⟨7, .phase⟩, ⟨8, .phase⟩, ⟨9, .phase⟩, ⟨10, .phase⟩, ⟨11, .phase⟩, ⟨12, .phase⟩, ⟨13, .phase⟩, ⟨14, .phase⟩, ⟨15, .phase⟩, ⟨16, .phase⟩, ⟨17, .phase⟩, ⟨18, .phase⟩, ⟨19, .phase⟩, ⟨20, .phase⟩, ⟨21, .phase⟩, ⟨22, .phase⟩, ⟨23, .phase⟩, ⟨24, .phase⟩, ⟨25, .phase⟩, ⟨26, .phase⟩, ⟨27, .phase⟩, ⟨28, .phase⟩, ⟨29, .phase⟩], none⟩) (v := ?_) (Or.inl ⟨by rfl, ?_⟩) ?_
      rotate_left
      · (intro w; go_simp; try with_reducible rfl)
      simp only [Act.put, pu1, pu2, pu3]
      refine wpAnyG_free (by kernel_rfl) ?_
      refine wpAny_done (by kernel_rfl) ?_ _
      clear hHeld3
      go_wp2
      go_ret
      exact ⟨rfl, k8⟩

theorem one_any (B : Bo tag w b d q A k) (z : Int) :
    Calls Tryz.prog 38 #[.pointer (some ⟨b, 0, none⟩), .pointer (some ⟨d, 0, none⟩), .int .i64 z] w fun e w' => e = .returned (.bool true) ∧ Kp [] w w' := by
  cases hz : A.there z with
  | false => exact one_out B z hz
  | true =>
    obtain ⟨x, rfl, hx⟩ := there_nat hz
    exact one_in B x hx

end

end Go.Proofs.YtgjkfpmhgidpaaaGreat
