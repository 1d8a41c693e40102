/-
  made: the walk.
-/
import Derived.Test.YtpjkpobdkmcedaaDoorMad
import Derived.Test.YtpjkpobdkmcedaaDoorDecC
import Derived.Test.YtpjkpobdkmcedaaDoorHeld
import Derived.BigQuiet
import Derived.Deep.CutRange
namespace Go.Proofs.YtpjkpobdkmcedaaDoor
open Go.RowKit Utf
set_option linter.unusedVariables false
set_option linter.unusedSimpArgs false

/-- A raw operation, as a value. -/
def rv (o : Ot) (p : Sl) (t : Bool) (k : Int) : Value := .agg #[.int .i64 o.kd, .int .i64 o.nd, .int .i64 o.pa, .int .i64 o.rf, .int .i64 o.ty, .int .i64 o.ns, .string o.nm, .slice p.1 p.2.1 p.2.2, .string o.tt, .bool t, .int .i64 k]

/-- Its cells. -/
def rcs (o : Ot) (p : Sl) (t : Bool) (k : Int) : Array Value := #[.int .i64 o.kd, .int .i64 o.nd, .int .i64 o.pa, .int .i64 o.rf, .int .i64 o.ty, .int .i64 o.ns, .string o.nm, .slice p.1 p.2.1 p.2.2, .string o.tt, .bool t, .int .i64 k]

/-- made under way: the box, the result's block (nothing yet), the operation's. -/
structure Mk (w W : World) (o : Ot) (p : Sl) (t : Bool) (k : Int) (o2 : Ot) (p2 : Sl) : Prop where
  bx : W.heap[w.heap.size]? = some (.cells (rcs o p t k) 40 (0, 0))
  hr : W.heap[w.heap.size + 1]? = some (.cells z9 24 (0, 0))
  hg : W.heap[w.heap.size + 2]? = some (.cells (oc o2 p2) 24 (0, 0))
  kp : Kp [] w W

theorem Mk.kept {w W W' : World} {o : Ot} {p : Sl} {t : Bool} {k : Int} {o2 : Ot} {p2 : Sl} (h : Mk w W o p t k o2 p2) (kk : Kp [] W W') : Mk w W' o p t k o2 p2 :=
  ⟨(kk.block _ (lt_of h.bx) (by simp)).trans h.bx, (kk.block _ (lt_of h.hr) (by simp)).trans h.hr, (kk.block _ (lt_of h.hg) (by simp)).trans h.hg, h.kp.trans kk (fun x hx => by simp at hx)⟩

theorem mk_new (w : World) (o : Ot) (p : Sl) (t : Bool) (k : Int) : Mk w (((w.alloc (.cells (rcs o p t k) 40)).alloc (.cells z9 24)).alloc (.cells (oc o p) 24)) o p t k o p :=
  ⟨by rw [Below.heap_alloc _ _ _ (by simp; omega), Below.heap_alloc _ _ _ (by simp)]; exact heap_new w _, by rw [Below.heap_alloc _ _ _ (by simp)]; exact heap_new' _ _ _ (by simp), heap_new' _ _ _ (by simp), (((Kp.refl _ _).alloc _).alloc _).alloc _⟩

/-- Behind the stores into the operation's block. -/
theorem Mk.put {w W : World} {o : Ot} {p : Sl} {t : Bool} {k : Int} {o2 : Ot} {p2 : Sl} (h : Mk w W o p t k o2 p2) (x y : ByteArray) (l : List Att) (q : Sl) :
    Mk w (((W.setCell ⟨w.heap.size + 2, 6, none⟩ (.string x)).setCell ⟨w.heap.size + 2, 8, none⟩ (.string y)).setCell ⟨w.heap.size + 2, 7, none⟩ (.slice q.1 q.2.1 q.2.2)) o p t k ⟨o2.kd, o2.nd, o2.pa, o2.rf, o2.ty, o2.ns, x, l, y⟩ q := by
  have kk : Kp [w.heap.size + 2] W (((W.setCell ⟨w.heap.size + 2, 6, none⟩ (.string x)).setCell ⟨w.heap.size + 2, 8, none⟩ (.string y)).setCell ⟨w.heap.size + 2, 7, none⟩ (.slice q.1 q.2.1 q.2.2)) := (((Kp.refl _ _).setCell (p := ⟨w.heap.size + 2, 6, none⟩) (Or.inl (by simp)) _).setCell (p := ⟨w.heap.size + 2, 8, none⟩) (Or.inl (by simp)) _).setCell (p := ⟨w.heap.size + 2, 7, none⟩) (Or.inl (by simp)) _
  have h0 := h.hg
  simp only [oc] at h0
  have h1 : (W.setCell ⟨w.heap.size + 2, 6, none⟩ (.string x)).heap[w.heap.size + 2]? = some (.cells #[.int .i64 o2.kd, .int .i64 o2.nd, .int .i64 o2.pa, .int .i64 o2.rf, .int .i64 o2.ty, .int .i64 o2.ns, .string x, .slice p2.1 p2.2.1 p2.2.2, .string o2.tt] 24 (0, 0)) := setCell_block h0 6 _
  have h2 : ((W.setCell ⟨w.heap.size + 2, 6, none⟩ (.string x)).setCell ⟨w.heap.size + 2, 8, none⟩ (.string y)).heap[w.heap.size + 2]? = some (.cells #[.int .i64 o2.kd, .int .i64 o2.nd, .int .i64 o2.pa, .int .i64 o2.rf, .int .i64 o2.ty, .int .i64 o2.ns, .string x, .slice p2.1 p2.2.1 p2.2.2, .string y] 24 (0, 0)) := setCell_block h1 8 _
  exact ⟨(kk.block _ (lt_of h.bx) (by simp)).trans h.bx, (kk.block _ (lt_of h.hr) (by simp)).trans h.hr, setCell_block h2 7 _, h.kp.trans kk (fun z hz => Or.inr (by simp at hz; omega))⟩

theorem within31 (W : World) (n : Int) : Calls Tryd.prog 18 #[.int .i64 n, .int .i64 0, .int .i64 2147483647] W fun e w' => e = .returned (.int .i64 (w31 n)) ∧ w' = W := by
  have h := within_any W n 0 2147483647 (by omega) (by omega)
  rw [Nat.zero_add] at h
  exact h
theorem within1000 (W : World) (n : Int) : Calls Tryd.prog 18 #[.int .i64 n, .int .i64 0, .int .i64 1000] W fun e w' => e = .returned (.int .i64 ((wi n 1000 : Nat) : Int)) ∧ w' = W := by
  have h := within_any W n 0 1000 (by omega) (by omega)
  rw [Nat.zero_add] at h
  exact h
theorem within1 (W : World) (n : Int) : Calls Tryd.prog 18 #[.int .i64 n, .int .i64 0, .int .i64 1] W fun e w' => e = .returned (.int .i64 ((wi n 1 : Nat) : Int)) ∧ w' = W := by
  have h := within_any W n 0 1 (by omega) (by omega)
  rw [Nat.zero_add] at h
  exact h
theorem within2 (W : World) (n : Int) : Calls Tryd.prog 18 #[.int .i64 n, .int .i64 0, .int .i64 2] W fun e w' => e = .returned (.int .i64 ((wi n 2 : Nat) : Int)) ∧ w' = W := by
  have h := within_any W n 0 2 (by omega) (by omega)
  rw [Nat.zero_add] at h
  exact h
theorem head20 (W : World) (s : ByteArray) : Calls Tryd.prog 22 #[.string s, .int .i64 20] W fun e w' => e = .returned (.string (cutB s 20)) ∧ w' = W := cut_any W s 20 (by omega)
theorem head30 (W : World) (s : ByteArray) : Calls Tryd.prog 22 #[.string s, .int .i64 30] W fun e w' => e = .returned (.string (cutB s 30)) ∧ w' = W := cut_any W s 30 (by omega)

/-- Made: an operation with its attributes in a block of their own, new since w, and no more. -/
def Ma (w w' : World) (o : Ot) (e : Ending) : Prop := ∃ p : Sl, e = .returned (ov o p) ∧ Ar w' (o, p) ∧ (∀ k, k ∈ blk (.slice p.1 p.2.1 p.2.2) → w.heap.size ≤ k) ∧ Kp [] w w'

/-- Once the result is laid. -/
theorem fin9 {w W : World} {o : Ot} {p : Sl} {t : Bool} {k : Int} {o2 : Ot} {p2 : Sl} (M : Mk w W o p t k o2 p2) (R : Ot) (P : Sl) (hA : Ar W (R, P)) (hn : ∀ j, j ∈ blk (.slice P.1 P.2.1 P.2.2) → w.heap.size + 3 ≤ j) :
    Hid (Nine (put9 W (w.heap.size + 1) (.int .i64 R.kd) (.int .i64 R.nd) (.int .i64 R.pa) (.int .i64 R.rf) (.int .i64 R.ty) (.int .i64 R.ns) (.string R.nm) (.slice P.1 P.2.1 P.2.2) (.string R.tt)) (w.heap.size + 1) 0 R P ∧ Ma w (put9 W (w.heap.size + 1) (.int .i64 R.kd) (.int .i64 R.nd) (.int .i64 R.pa) (.int .i64 R.rf) (.int .i64 R.ty) (.int .i64 R.ns) (.string R.nm) (.slice P.1 P.2.1 P.2.2) (.string R.tt)) R (.returned (ov R P))) := by
  have hr := M.hr
  simp only [z9] at hr
  have D := at9 hr (.int .i64 R.kd) (.int .i64 R.nd) (.int .i64 R.pa) (.int .i64 R.rf) (.int .i64 R.ty) (.int .i64 R.ns) (.string R.nm) (.slice P.1 P.2.1 P.2.2) (.string R.tt)
  have kr : Kp [w.heap.size + 1] W (put9 W (w.heap.size + 1) (.int .i64 R.kd) (.int .i64 R.nd) (.int .i64 R.pa) (.int .i64 R.rf) (.int .i64 R.ty) (.int .i64 R.ns) (.string R.nm) (.slice P.1 P.2.1 P.2.2) (.string R.tt)) := (Kp.refl _ _).put9 (Or.inl (by simp)) _ _ _ _ _ _ _ _ _
  exact ⟨nine_of D, P, rfl, hA.keep kr (fun x hx hs => by have := hn x hx; simp at hs; omega), fun j hj => by have := hn j hj; omega, M.kp.trans kr (fun x hx => Or.inr (by simp at hx; omega))⟩

set_option maxRecDepth 100000 in
set_option maxHeartbeats 2000000 in
theorem made_any (w : World) (o : Ot) (p : Sl) (t : Bool) (k : Int) (hA : At w (o, p)) (hl : p.2.1 ≤ 140737488355328) :
    Calls Tryd.prog 15 #[rv o p t k] w fun e w' => Ma w w' (madeO o t k) e := by
  obtain ⟨o1, o2, o3, o4, o5, o6, o7, l, o9⟩ := o
  obtain ⟨p1, p2, p3⟩ := p
  have M0 := mk_new w ⟨o1, o2, o3, o4, o5, o6, o7, l, o9⟩ (p1, p2, p3) t k
  have HS : Hid (∀ V, Kp [] w V → Calls Tryd.prog 36 #[.slice p1 p2 p3] V fun e w' => ∃ ao' n' c', e = .returned (.slice ao' n' c') ∧ Mp V w' ao' n' c' (short l)) := fun V kV => short_any V l p1 p2 p3 (Rp.kept hA kV) hl
  have H1 : Hid (∀ V, Calls Tryd.prog 22 #[.string o7, .int .i64 20] V fun e w' => e = .returned (.string (cutB o7 20)) ∧ w' = V) := fun V => head20 V o7
  have H2 : Hid (∀ V, Calls Tryd.prog 22 #[.string o9, .int .i64 30] V fun e w' => e = .returned (.string (cutB o9 30)) ∧ w' = V) := fun V => head30 V o9
  obtain ⟨R, hR⟩ : ∃ R, madeO ⟨o1, o2, o3, o4, o5, o6, o7, l, o9⟩ t k = R := ⟨_, rfl⟩
  rw [hR]
  have HR : Hid ((if t then madeT ⟨o1, o2, o3, o4, o5, o6, cutB o7 20, short l, cutB o9 30⟩ (kx k) else ⟨o1, o2, o3, o4, o5, o6, cutB o7 20, short l, cutB o9 30⟩) = R) := hR
  clear hR hA hl
  generalize short l = l' at HS HR
  generalize cutB o7 20 = x at H1 HR
  generalize cutB o9 30 = y at H2 HR
  simp only [rcs, oc, z9] at M0
  simp only [rv]
  go_enter Tryd.func15, Tryd.ntmps15
  go_upto_region 2 with fail
  generalize hW : ((w.alloc (.cells _ 40)).alloc (.cells _ 24)).alloc (.cells _ 24) = W0 at M0 ⊢
  clear hW
  go_cut [9] from 9 to 20 (fun x9 wc => ∃ q : Sl, Mk w wc ⟨o1, o2, o3, o4, o5, o6, o7, l, o9⟩ (p1, p2, p3) t k ⟨o1, o2, o3, o4, o5, o6, x, l', y⟩ q ∧ OwnK 2 wc 26 (.slice q.1 q.2.1 q.2.2) q.2.1 (cs l') ∧ ∀ j, j ∈ blk (.slice q.1 q.2.1 q.2.2) → w.heap.size + 3 ≤ j)
  case first =>
    have HC : Hid (∀ V, Kp [] W0 V → V.cell? ⟨w.heap.size + 2, 6, none⟩ = some (.string o7) ∧ V.cell? ⟨w.heap.size + 2, 7, none⟩ = some (.slice p1 p2 p3) ∧ V.cell? ⟨w.heap.size + 2, 8, none⟩ = some (.string o9)) := fun V kV => by
      have h := (M0.kept kV).hg
      exact ⟨cell_of h 6, cell_of h 7, cell_of h 8⟩
    have HK : Hid (∀ V, Kp [] W0 V → Kp [] w V) := fun V kV => (M0.kept kV).kp
    have HZ : Hid (W0.heap.size = W0.heap.size ∧ w.heap.size + 3 ≤ W0.heap.size) := ⟨rfl, lt_of M0.hg⟩
    have HE : Hid (∀ U1 a7 n7 c7, Kp [] W0 U1 → OwnK 2 U1 26 (.slice a7 n7 c7) n7 (cs l') → (∀ j, j ∈ blk (.slice a7 n7 c7) → W0.heap.size ≤ j) → ∃ q : Sl, Mk w (((U1.setCell ⟨w.heap.size + 2, 6, none⟩ (.string x)).setCell ⟨w.heap.size + 2, 8, none⟩ (.string y)).setCell ⟨w.heap.size + 2, 7, none⟩ (.slice a7 n7 c7)) ⟨o1, o2, o3, o4, o5, o6, o7, l, o9⟩ (p1, p2, p3) t k ⟨o1, o2, o3, o4, o5, o6, x, l', y⟩ q ∧ OwnK 2 (((U1.setCell ⟨w.heap.size + 2, 6, none⟩ (.string x)).setCell ⟨w.heap.size + 2, 8, none⟩ (.string y)).setCell ⟨w.heap.size + 2, 7, none⟩ (.slice a7 n7 c7)) 26 (.slice q.1 q.2.1 q.2.2) q.2.1 (cs l') ∧ ∀ j, j ∈ blk (.slice q.1 q.2.1 q.2.2) → w.heap.size + 3 ≤ j) := fun U1 a7 n7 c7 k1 ow nw => by
      have kk : Kp [w.heap.size + 2] U1 (((U1.setCell ⟨w.heap.size + 2, 6, none⟩ (.string x)).setCell ⟨w.heap.size + 2, 8, none⟩ (.string y)).setCell ⟨w.heap.size + 2, 7, none⟩ (.slice a7 n7 c7)) := (((Kp.refl _ _).setCell (p := ⟨w.heap.size + 2, 6, none⟩) (Or.inl (by simp)) _).setCell (p := ⟨w.heap.size + 2, 8, none⟩) (Or.inl (by simp)) _).setCell (p := ⟨w.heap.size + 2, 7, none⟩) (Or.inl (by simp)) _
      have hz := HZ.out.2
      exact ⟨(a7, n7, c7), (M0.kept k1).put x y l' (a7, n7, c7), ow.keep kk (fun z hz1 hz2 => by have := nw z hz1; simp at hz2; omega), fun j hj => by have := nw j hj; omega⟩
    have HF : Hid (∀ U1, Kp [] W0 U1 → (U1.frozen? ⟨w.heap.size + 2, 6, none⟩ = false) ∧ ((U1.setCell ⟨w.heap.size + 2, 6, none⟩ (.string x)).cell? ⟨w.heap.size + 2, 8, none⟩ = some (.string o9) ∧ (U1.setCell ⟨w.heap.size + 2, 6, none⟩ (.string x)).frozen? ⟨w.heap.size + 2, 8, none⟩ = false) ∧ ((U1.setCell ⟨w.heap.size + 2, 6, none⟩ (.string x)).setCell ⟨w.heap.size + 2, 8, none⟩ (.string y)).cell? ⟨w.heap.size + 2, 7, none⟩ = some (.slice p1 p2 p3) ∧ ((U1.setCell ⟨w.heap.size + 2, 6, none⟩ (.string x)).setCell ⟨w.heap.size + 2, 8, none⟩ (.string y)).frozen? ⟨w.heap.size + 2, 7, none⟩ = false) := fun U1 k1 => by
      have h0 := (M0.kept k1).hg
      simp only [oc] at h0
      have h1 : (U1.setCell ⟨w.heap.size + 2, 6, none⟩ (.string x)).heap[w.heap.size + 2]? = some (.cells #[.int .i64 o1, .int .i64 o2, .int .i64 o3, .int .i64 o4, .int .i64 o5, .int .i64 o6, .string x, .slice p1 p2 p3, .string o9] 24 (0, 0)) := setCell_block h0 6 _
      have h2 : ((U1.setCell ⟨w.heap.size + 2, 6, none⟩ (.string x)).setCell ⟨w.heap.size + 2, 8, none⟩ (.string y)).heap[w.heap.size + 2]? = some (.cells #[.int .i64 o1, .int .i64 o2, .int .i64 o3, .int .i64 o4, .int .i64 o5, .int .i64 o6, .string x, .slice p1 p2 p3, .string y] 24 (0, 0)) := setCell_block h1 8 _
      exact ⟨frozen_of h0 6, ⟨cell_of h1 8, frozen_of h1 8⟩, cell_of h2 7, frozen_of h2 7⟩
    clear M0 HR
    obtain ⟨U0, hU0⟩ : ∃ V, V = W0.drew := ⟨_, rfl⟩
    have k0 : Kp [] W0 U0 := by rw [hU0]; exact (Kp.refl _ _).drew
    refine wp_region_g (S := fun V => V.cell? ⟨w.heap.size + 2, 6, none⟩ = some (.string o7) ∧ V.cell? ⟨w.heap.size + 2, 7, none⟩ = some (.slice p1 p2 p3) ∧ V.cell? ⟨w.heap.size + 2, 8, none⟩ = some (.string o9)) (T := [10, 11, 12, 13, 14]) (by kernel_rfl) (HC.out _ (Kp.refl [] W0).drew) (fun hHeld => ?_)
    rw [← hU0] at hHeld ⊢
    clear hU0
    refine wpAnyG_pure (i := 0) (oi := { dst := some 9, op := Go.Op.fieldAddr 24 (Go.Operand.tmp 3) 6, type := 0, pos := "law.go:22", after := #[], guard := none }) (v := ?_) rfl (by kernel_rfl) (by kernel_rfl) (by kernel_rfl) (by kernel_rfl) (fun _ _ _ h => h) (Or.inl ⟨by rfl, ?_⟩) (by assumption) ?_
    rotate_left
    · (intro w; go_simp; try with_reducible rfl)
    simp only [Act.put, List.setIfInBounds_toArray, List.set_cons_zero, List.set_cons_succ]
    refine wpAnyG_take (i := 1) (oi := { dst := some 10, op := Go.Op.load 9 (Go.Operand.tmp 9), type := 9, pos := "law.go:22", after := #[{ on := 0, ground := Go.Ground.data }], guard := none }) (v := ?_) rfl (by kernel_rfl) (by kernel_rfl) (by kernel_rfl) (by kernel_rfl) (fun _ _ _ h => h) (Or.inl ⟨by rfl, ?_⟩) (by assumption) ?_
    rotate_left
    · (intro w hSw; (obtain ⟨q6, q7, q8⟩ := hSw); go_simp; try with_reducible rfl)
    simp only [Act.put, List.setIfInBounds_toArray, List.set_cons_zero, List.set_cons_succ]
    refine wpAnyG_pure (i := 3) (oi := { dst := some 12, op := Go.Op.fieldAddr 24 (Go.Operand.tmp 3) 8, type := 0, pos := "law.go:22", after := #[], guard := none }) (v := ?_) rfl (by kernel_rfl) (by kernel_rfl) (by kernel_rfl) (by kernel_rfl) (fun _ _ _ h => h) (Or.inl ⟨by rfl, ?_⟩) (by assumption) ?_
    rotate_left
    · (intro w; go_simp; try with_reducible rfl)
    simp only [Act.put, List.setIfInBounds_toArray, List.set_cons_zero, List.set_cons_succ]
    refine wpAnyG_take (i := 4) (oi := { dst := some 13, op := Go.Op.load 9 (Go.Operand.tmp 12), type := 9, pos := "law.go:22", after := #[{ on := 3, ground := Go.Ground.data }], guard := none }) (v := ?_) rfl (by kernel_rfl) (by kernel_rfl) (by kernel_rfl) (by kernel_rfl) (fun _ _ _ h => h) (Or.inl ⟨by rfl, ?_⟩) (by assumption) ?_
    rotate_left
    · (intro w hSw; (obtain ⟨q6, q7, q8⟩ := hSw); go_simp; try with_reducible rfl)
    simp only [Act.put, List.setIfInBounds_toArray, List.set_cons_zero, List.set_cons_succ]
    refine wpAnyG_pure (i := 6) (oi := { dst := some 15, op := Go.Op.fieldAddr 24 (Go.Operand.tmp 3) 7, type := 0, pos := "law.go:22", after := #[], guard := none }) (v := ?_) rfl (by kernel_rfl) (by kernel_rfl) (by kernel_rfl) (by kernel_rfl) (fun _ _ _ h => h) (Or.inl ⟨by rfl, ?_⟩) (by assumption) ?_
    rotate_left
    · (intro w; go_simp; try with_reducible rfl)
    simp only [Act.put, List.setIfInBounds_toArray, List.set_cons_zero, List.set_cons_succ]
    refine wpAnyG_take (i := 7) (oi := { dst := some 16, op := Go.Op.load 22 (Go.Operand.tmp 15), type := 22, pos := "law.go:22", after := #[{ on := 6, ground := Go.Ground.data }], guard := none }) (v := ?_) rfl (by kernel_rfl) (by kernel_rfl) (by kernel_rfl) (by kernel_rfl) (fun _ _ _ h => h) (Or.inl ⟨by rfl, ?_⟩) (by assumption) ?_
    rotate_left
    · (intro w hSw; (obtain ⟨q6, q7, q8⟩ := hSw); go_simp; try with_reducible rfl)
    simp only [Act.put, List.setIfInBounds_toArray, List.set_cons_zero, List.set_cons_succ]
    refine wpAnyG_ready (rs := [2]) (by kernel_rfl) (by simp) ?_
    refine AllReadyG.cons (o := { dst := some 11, op := Go.Op.call { callee := Go.Callee.value (Go.Operand.func 22), args := #[Go.Operand.tmp 10, Go.Operand.const (Go.Value.int Go.IntKind.i64 20)], argTypes := #[9, 3] }, type := 9, pos := "law.go:22", after := #[{ on := 1, ground := Go.Ground.data }], guard := none }) rfl (fun K hK => ?_) AllReadyG.nil
    go_simp
    (go_at_call 22; refine (H1.out _).mono ?_; rintro e w9 ⟨rfl, hw⟩; have hw2 := hw.symm; clear hw; subst hw2)
    go_wp2_with fail
    refine hK.out _ _ (HC.out _ k0) (fun hHeld1 => ?_)
    clear hK K hHeld
    try simp only [Act.put, List.setIfInBounds_toArray, List.set_cons_zero, List.set_cons_succ]
    refine wpAnyG_pure (i := 9) (oi := { dst := some 18, op := Go.Op.fieldAddr 24 (Go.Operand.tmp 3) 6, type := 0, pos := "law.go:22", after := #[{ on := 0, ground := Go.Ground.phase }, { on := 1, ground := Go.Ground.phase }, { on := 2, ground := Go.Ground.phase }, { on := 3, ground := Go.Ground.phase }, { on := 4, ground := Go.Ground.phase }, { on := 5, ground := Go.Ground.textOnly Go.Departure.lateStoresUnsure }, { on := 6, ground := Go.Ground.phase }, { on := 7, ground := Go.Ground.phase }, { on := 8, ground := Go.Ground.textOnly Go.Departure.lateStoresUnsure }], guard := none }) (v := ?_) rfl (by kernel_rfl) (by kernel_rfl) (by kernel_rfl) (by kernel_rfl) (fun _ _ _ h => h) (Or.inl ⟨by rfl, ?_⟩) (by assumption) ?_
    rotate_left
    · (intro w; go_simp; try with_reducible rfl)
    simp only [Act.put, List.setIfInBounds_toArray, List.set_cons_zero, List.set_cons_succ]
    refine wpAnyG_ready (rs := [5]) (by kernel_rfl) (by simp) ?_
    refine AllReadyG.cons (o := { dst := some 14, op := Go.Op.call { callee := Go.Callee.value (Go.Operand.func 22), args := #[Go.Operand.tmp 13, Go.Operand.const (Go.Value.int Go.IntKind.i64 30)], argTypes := #[9, 3] }, type := 9, pos := "law.go:22", after := #[{ on := 4, ground := Go.Ground.data }, { on := 2, ground := Go.Ground.chain }], guard := none }) rfl (fun K hK => ?_) AllReadyG.nil
    go_simp
    (go_at_call 22; refine (H2.out _).mono ?_; rintro e w9 ⟨rfl, hw⟩; have hw2 := hw.symm; clear hw; subst hw2)
    go_wp2_with fail
    refine hK.out _ _ (HC.out _ k0) (fun hHeld2 => ?_)
    clear hK K hHeld1
    try simp only [Act.put, List.setIfInBounds_toArray, List.set_cons_zero, List.set_cons_succ]
    refine wpAnyG_ready (rs := [8]) (by kernel_rfl) (by simp) ?_
    refine AllReadyG.cons (o := { dst := some 17, op := Go.Op.call { callee := Go.Callee.value (Go.Operand.func 36), args := #[Go.Operand.tmp 16], argTypes := #[22] }, type := 22, pos := "law.go:22", after := #[{ on := 7, ground := Go.Ground.data }, { on := 5, ground := Go.Ground.chain }], guard := none }) rfl (fun K hK => ?_) AllReadyG.nil
    go_simp
    go_at_call 36
    refine (HS.out _ (HK.out _ k0)).mono ?_
    rintro e U1 ⟨a7, n7, c7, rfl, P7⟩
    have k1 : Kp [] W0 U1 := k0.trans P7.kp (fun z hz => by simp at hz)
    have E7 := HE.out U1 a7 n7 c7 k1 P7.1 (fun j hj => Nat.le_trans k0.size (P7.2.2 j hj))
    obtain ⟨g1, ⟨g2, g3⟩, g4, g5⟩ := HF.out U1 k1
    obtain ⟨g6, g7, g8⟩ := HC.out U1 k1
    clear P7
    go_wp2_with fail
    refine hK.out _ _ (HC.out _ k1) (fun hHeld3 => ?_)
    clear hK K hHeld2
    try simp only [Act.put, List.setIfInBounds_toArray, List.set_cons_zero, List.set_cons_succ]
    refine wpAnyG_free (by kernel_rfl) ?_
    refine wpAny_ready (rs := [10]) (by kernel_rfl) (by simp) ?_
    refine AllReady.cons (o := { dst := none, op := Go.Op.store 9 (Go.Operand.tmp 18) (Go.Operand.tmp 11), type := 0, pos := "law.go:22", after := #[{ on := 9, ground := Go.Ground.data }, { on := 2, ground := Go.Ground.data }, { on := 8, ground := Go.Ground.chain }, { on := 0, ground := Go.Ground.phase }, { on := 1, ground := Go.Ground.phase }, { on := 2, ground := Go.Ground.phase }, { on := 3, ground := Go.Ground.phase }, { on := 4, ground := Go.Ground.phase }, { on := 5, ground := Go.Ground.textOnly Go.Departure.lateStoresUnsure }, { on := 6, ground := Go.Ground.phase }, { on := 7, ground := Go.Ground.phase }, { on := 8, ground := Go.Ground.textOnly Go.Departure.lateStoresUnsure }], guard := none }) rfl (fun K hK => ?_) AllReady.nil
    go_simp
    refine hK _ _ ?_
    clear hK K
    try simp only [Act.put, List.setIfInBounds_toArray, List.set_cons_zero, List.set_cons_succ]
    refine wpAny_take (i := 11) (oi := { dst := some 19, op := Go.Op.fieldAddr 24 (Go.Operand.tmp 3) 8, type := 0, pos := "law.go:22", after := #[{ on := 0, ground := Go.Ground.phase }, { on := 1, ground := Go.Ground.phase }, { on := 2, ground := Go.Ground.phase }, { on := 3, ground := Go.Ground.phase }, { on := 4, ground := Go.Ground.phase }, { on := 5, ground := Go.Ground.phase }, { on := 6, ground := Go.Ground.phase }, { on := 7, ground := Go.Ground.phase }, { on := 8, ground := Go.Ground.textOnly Go.Departure.lateStoresUnsure }, { on := 9, ground := Go.Ground.phase }, { on := 10, ground := Go.Ground.phase }], guard := none }) (v := ?_) rfl (by kernel_rfl) (by kernel_rfl) (by kernel_rfl) (fun _ _ _ h => h) (Or.inl ⟨by rfl, ?_⟩) ?_
    rotate_left
    · (intro w; go_simp; try with_reducible rfl)
    simp only [Act.put, List.setIfInBounds_toArray, List.set_cons_zero, List.set_cons_succ]
    refine wpAny_ready (rs := [12]) (by kernel_rfl) (by simp) ?_
    refine AllReady.cons (o := { dst := none, op := Go.Op.store 9 (Go.Operand.tmp 19) (Go.Operand.tmp 14), type := 0, pos := "law.go:22", after := #[{ on := 11, ground := Go.Ground.data }, { on := 5, ground := Go.Ground.data }, { on := 10, ground := Go.Ground.chain }, { on := 0, ground := Go.Ground.phase }, { on := 1, ground := Go.Ground.phase }, { on := 2, ground := Go.Ground.phase }, { on := 3, ground := Go.Ground.phase }, { on := 4, ground := Go.Ground.phase }, { on := 5, ground := Go.Ground.phase }, { on := 6, ground := Go.Ground.phase }, { on := 7, ground := Go.Ground.phase }, { on := 8, ground := Go.Ground.textOnly Go.Departure.lateStoresUnsure }, { on := 9, ground := Go.Ground.phase }, { on := 10, ground := Go.Ground.phase }], guard := none }) rfl (fun K hK => ?_) AllReady.nil
    go_simp
    refine hK _ _ ?_
    clear hK K
    try simp only [Act.put, List.setIfInBounds_toArray, List.set_cons_zero, List.set_cons_succ]
    refine wpAny_take (i := 13) (oi := { dst := some 20, op := Go.Op.fieldAddr 24 (Go.Operand.tmp 3) 7, type := 0, pos := "law.go:22", after := #[{ on := 0, ground := Go.Ground.phase }, { on := 1, ground := Go.Ground.phase }, { on := 2, ground := Go.Ground.phase }, { on := 3, ground := Go.Ground.phase }, { on := 4, ground := Go.Ground.phase }, { on := 5, ground := Go.Ground.phase }, { on := 6, ground := Go.Ground.phase }, { on := 7, ground := Go.Ground.phase }, { on := 8, ground := Go.Ground.phase }, { on := 9, ground := Go.Ground.phase }, { on := 10, ground := Go.Ground.phase }, { on := 11, ground := Go.Ground.phase }, { on := 12, ground := Go.Ground.phase }], guard := none }) (v := ?_) rfl (by kernel_rfl) (by kernel_rfl) (by kernel_rfl) (fun _ _ _ h => h) (Or.inl ⟨by rfl, ?_⟩) ?_
    rotate_left
    · (intro w; go_simp; try with_reducible rfl)
    simp only [Act.put, List.setIfInBounds_toArray, List.set_cons_zero, List.set_cons_succ]
    refine wpAny_ready (rs := [14]) (by kernel_rfl) (by simp) ?_
    refine AllReady.cons (o := { dst := none, op := Go.Op.store 22 (Go.Operand.tmp 20) (Go.Operand.tmp 17), type := 0, pos := "law.go:22", after := #[{ on := 13, ground := Go.Ground.data }, { on := 8, ground := Go.Ground.data }, { on := 12, ground := Go.Ground.chain }, { on := 0, ground := Go.Ground.phase }, { on := 1, ground := Go.Ground.phase }, { on := 2, ground := Go.Ground.phase }, { on := 3, ground := Go.Ground.phase }, { on := 4, ground := Go.Ground.phase }, { on := 5, ground := Go.Ground.phase }, { on := 6, ground := Go.Ground.phase }, { on := 7, ground := Go.Ground.phase }, { on := 8, ground := Go.Ground.phase }, { on := 9, ground := Go.Ground.phase }, { on := 10, ground := Go.Ground.phase }, { on := 11, ground := Go.Ground.phase }, { on := 12, ground := Go.Ground.phase }], guard := none }) rfl (fun K hK => ?_) AllReady.nil
    go_simp
    refine hK _ _ ?_
    clear hK K
    try simp only [Act.put, List.setIfInBounds_toArray, List.set_cons_zero, List.set_cons_succ]
    refine wpAny_done (by kernel_rfl) ?_ _
    go_wp2_with fail
    go_meet
    case rel => exact E7
  case rest =>
    obtain ⟨⟨q1, q2, q3⟩, M, ow, nw⟩ := hcut
    clear M0 HS H1 H2
    simp only at ow nw
    have cells : Hid (∀ V, Kp [] wc V → (V.cell? ⟨w.heap.size, 9, none⟩ = some (.bool t) ∧ V.cell? ⟨w.heap.size, 10, none⟩ = some (.int .i64 k)) ∧ Nine V (w.heap.size + 2) 0 ⟨o1, o2, o3, o4, o5, o6, x, l', y⟩ (q1, q2, q3) ∧ Nine V (w.heap.size + 1) 0 ⟨0, 0, 0, 0, 0, 0, ⟨#[]⟩, [], ⟨#[]⟩⟩ (none, 0, 0) ∧ ∀ i, V.frozen? ⟨w.heap.size + 1, i, none⟩ = false) := fun V kV => by
      have h := M.kept kV
      have h1 := h.bx
      simp only [rcs] at h1
      exact ⟨⟨cell_of h1 9, cell_of h1 10⟩, nine_of h.hg, nine_of h.hr, fun i => frozen_of h.hr i⟩
    simp only [Nine, Nat.zero_add] at cells
    cases t
    · have HR2 : Hid (R = ⟨o1, o2, o3, o4, o5, o6, x, l', y⟩) := (by rw [← HR.out]; rfl : R = ⟨o1, o2, o3, o4, o5, o6, x, l', y⟩)
      obtain ⟨⟨b9, b10⟩, ⟨g0, g1, g2, g3, g4, g5, g6, g7, g8⟩, ⟨z0, z1, z2, z3, z4, z5, z6, z7, z8⟩, fz⟩ := cells.out _ (Kp.refl _ _)
      have HZ := fin9 M ⟨o1, o2, o3, o4, o5, o6, x, l', y⟩ (q1, q2, q3) ow nw
      unfold put9 at HZ
      simp only at HZ
      clear M ow nw cells
      go_wp2
      obtain ⟨⟨n0, n1, n2, n3, n4, n5, n6, n7, n8⟩, HZ2⟩ := HZ.out
      simp only [Nat.zero_add] at n0 n1 n2 n3 n4 n5 n6 n7 n8
      refine bodyPost_ret (v := .agg #[.int .i64 (o1), .int .i64 (o2), .int .i64 (o3), .int .i64 (o4), .int .i64 (o5), .int .i64 (o6), .string x, .slice q1 q2 q3, .string y]) (by simp [results, go_sem, n0, n1, n2, n3, n4, n5, n6, n7, n8]) rfl ?_
      rw [HR2.out]
      exact HZ2
    · obtain ⟨m, hm⟩ : ∃ m, wi k 1000 = m := ⟨_, rfl⟩
      have HRm : Hid (R = madeT ⟨o1, o2, o3, o4, o5, o6, x, l', y⟩ (m % 11 + 1)) := (by rw [← HR.out, ← hm]; rfl : R = madeT ⟨o1, o2, o3, o4, o5, o6, x, l', y⟩ (m % 11 + 1))
      have HWk : Hid (∀ W, Calls Tryd.prog 18 #[.int .i64 k, .int .i64 0, .int .i64 1000] W fun e w' => e = .returned (.int .i64 (m : Int)) ∧ w' = W) := fun W => by rw [← hm]; exact within1000 W k
      clear HR hm
      obtain ⟨⟨b9, b10⟩, ⟨g0, g1, g2, g3, g4, g5, g6, g7, g8⟩, ⟨z0, z1, z2, z3, z4, z5, z6, z7, z8⟩, fz⟩ := cells.out _ (Kp.refl _ _)
      go_upto_region 5 with fail
      go_quiet (first | (go_at_call 18; refine Calls.quiet_of_same (within31 _ _)))
      have kq : Kp [] wc (wc.drewN nq) := (Kp.refl _ _).drewN nq
      replace M := M.kept kq
      replace ow := ow.keep kq (fun _ _ => by simp)
      replace cells : Hid (∀ V, Kp [] (wc.drewN nq) V → _) := fun V kV => cells.out V (kq.trans kV (fun z hz => Or.inl hz))
      clear b9 b10 g0 g1 g2 g3 g4 g5 g6 g7 g8 z0 z1 z2 z3 z4 z5 z6 z7 z8 fz
      generalize wc.drewN nq = W1 at M ow cells ⊢
      clear kq
      obtain ⟨⟨b9, b10⟩, ⟨g0, g1, g2, g3, g4, g5, g6, g7, g8⟩, ⟨z0, z1, z2, z3, z4, z5, z6, z7, z8⟩, fz⟩ := cells.out _ (Kp.refl _ _)
      go_wp2_with fail
      refine (HWk.out _).mono ?_
      rintro e w9 ⟨rfl, hw⟩
      have hw2 := hw.symm
      clear hw
      subst hw2
      clear HWk
      have hq1 : (m : Int).tmod 11 = ((m % 11 : Nat) : Int) := by
        rw [Int.tmod_eq_emod_of_nonneg (by omega)]
        omega
      have hq2 : (m : Int) % 11 = ((m % 11 : Nat) : Int) := by omega
      obtain ⟨r, hr⟩ : ∃ r, m % 11 = r := ⟨_, rfl⟩
      have hr11 : r < 11 := by omega
      rw [hr] at hq1 hq2 HRm
      clear hr
      obtain rfl | rfl | rfl | rfl | rfl | rfl | rfl | rfl | rfl | rfl | rfl : r = 0 ∨ r = 1 ∨ r = 2 ∨ r = 3 ∨ r = 4 ∨ r = 5 ∨ r = 6 ∨ r = 7 ∨ r = 8 ∨ r = 9 ∨ r = 10 := by omega
      · have HR2 : Hid (R = ⟨1, w31 o2, 0, 0, 2 + (wi o5 1 : Nat), (wi o6 2 : Nat), x, l', y⟩) := (by rw [HRm.out]; rfl : R = ⟨1, w31 o2, 0, 0, 2 + (wi o5 1 : Nat), (wi o6 2 : Nat), x, l', y⟩)
        clear HRm
        have ht := wi_le o5 1
        have HW1 : Hid (∀ W, Calls Tryd.prog 18 #[.int .i64 o5, .int .i64 0, .int .i64 1] W fun e w' => e = .returned (.int .i64 ((wi o5 1 : Nat) : Int)) ∧ w' = W) := fun W => within1 W o5
        generalize wi o5 1 = a at HR2 ht HW1
        have W64 : Hid (IntKind.i64.wrap (2 + (a : Int)) = 2 + (a : Int)) := wrap_small _ (by omega) (by omega)
        go_upto_region 8 with fail
        obtain ⟨U0, hU0⟩ : ∃ V, V = W1.drew := ⟨_, rfl⟩
        have k0 : Kp [] W1 U0 := by rw [hU0]; exact (Kp.refl _ _).drew
        have HC8 : Hid (∀ V, Kp [] W1 V → (fun V => V.cell? ⟨w.heap.size + 2, 4, none⟩ = some (.int .i64 o5) ∧ V.cell? ⟨w.heap.size + 2, 5, none⟩ = some (.int .i64 o6) ∧ V.cell? ⟨w.heap.size + 2, 6, none⟩ = some (.string x) ∧ V.cell? ⟨w.heap.size + 2, 7, none⟩ = some (.slice q1 q2 q3) ∧ V.cell? ⟨w.heap.size + 2, 8, none⟩ = some (.string y)) V) := fun V kV => by
          obtain ⟨_, ⟨_, _, _, _, h4, h5, h6, h7, h8⟩, _⟩ := cells.out V kV
          exact ⟨h4, h5, h6, h7, h8⟩
        simp only at HC8
        clear b9 b10 g0 g1 g2 g3 g4 g5 g6 g7 g8 z0 z1 z2 z3 z4 z5 z6 z7 z8 fz
        refine wp_region_g (S := fun V => V.cell? ⟨w.heap.size + 2, 4, none⟩ = some (.int .i64 o5) ∧ V.cell? ⟨w.heap.size + 2, 5, none⟩ = some (.int .i64 o6) ∧ V.cell? ⟨w.heap.size + 2, 6, none⟩ = some (.string x) ∧ V.cell? ⟨w.heap.size + 2, 7, none⟩ = some (.slice q1 q2 q3) ∧ V.cell? ⟨w.heap.size + 2, 8, none⟩ = some (.string y)) (T := [15]) (by kernel_rfl) (by rw [← hU0]; exact HC8.out _ k0) (fun hHeld => ?_)
        rw [← hU0] at hHeld ⊢
        clear hU0
        replace M := M.kept k0
        replace ow := ow.keep k0 (fun _ _ => by simp)
        obtain ⟨_, _, ⟨z0, z1, z2, z3, z4, z5, z6, z7, z8⟩, fz⟩ := cells.out _ k0
        refine wpAnyG_pure (i := 0) (oi := { dst := some 41, op := Go.Op.move (Go.Operand.tmp 4), type := 3, pos := "law.go:29", after := #[], guard := none }) (v := ?_) rfl (by kernel_rfl) (by kernel_rfl) (by kernel_rfl) (by kernel_rfl) (fun _ _ _ h => h) (Or.inl ⟨by rfl, ?_⟩) (by assumption) ?_
        rotate_left
        · (intro w; go_simp; try with_reducible rfl)
        simp only [Act.put, List.setIfInBounds_toArray, List.set_cons_zero, List.set_cons_succ]
        refine wpAnyG_pure (i := 1) (oi := { dst := some 42, op := Go.Op.fieldAddr 24 (Go.Operand.tmp 3) 4, type := 0, pos := "law.go:29", after := #[], guard := none }) (v := ?_) rfl (by kernel_rfl) (by kernel_rfl) (by kernel_rfl) (by kernel_rfl) (fun _ _ _ h => h) (Or.inl ⟨by rfl, ?_⟩) (by assumption) ?_
        rotate_left
        · (intro w; go_simp; try with_reducible rfl)
        simp only [Act.put, List.setIfInBounds_toArray, List.set_cons_zero, List.set_cons_succ]
        refine wpAnyG_take (i := 2) (oi := { dst := some 43, op := Go.Op.load 3 (Go.Operand.tmp 42), type := 3, pos := "law.go:29", after := #[{ on := 1, ground := Go.Ground.data }], guard := none }) (v := ?_) rfl (by kernel_rfl) (by kernel_rfl) (by kernel_rfl) (by kernel_rfl) (fun _ _ _ h => h) (Or.inl ⟨by rfl, ?_⟩) (by assumption) ?_
        rotate_left
        · (intro w hSw; (obtain ⟨y4, y5, y6, y7, y8⟩ := hSw); go_simp; try with_reducible rfl)
        simp only [Act.put, List.setIfInBounds_toArray, List.set_cons_zero, List.set_cons_succ]
        refine wpAnyG_pure (i := 5) (oi := { dst := some 46, op := Go.Op.fieldAddr 24 (Go.Operand.tmp 3) 5, type := 0, pos := "law.go:29", after := #[], guard := none }) (v := ?_) rfl (by kernel_rfl) (by kernel_rfl) (by kernel_rfl) (by kernel_rfl) (fun _ _ _ h => h) (Or.inl ⟨by rfl, ?_⟩) (by assumption) ?_
        rotate_left
        · (intro w; go_simp; try with_reducible rfl)
        simp only [Act.put, List.setIfInBounds_toArray, List.set_cons_zero, List.set_cons_succ]
        refine wpAnyG_take (i := 6) (oi := { dst := some 47, op := Go.Op.load 3 (Go.Operand.tmp 46), type := 3, pos := "law.go:29", after := #[{ on := 5, ground := Go.Ground.data }], guard := none }) (v := ?_) rfl (by kernel_rfl) (by kernel_rfl) (by kernel_rfl) (by kernel_rfl) (fun _ _ _ h => h) (Or.inl ⟨by rfl, ?_⟩) (by assumption) ?_
        rotate_left
        · (intro w hSw; (obtain ⟨y4, y5, y6, y7, y8⟩ := hSw); go_simp; try with_reducible rfl)
        simp only [Act.put, List.setIfInBounds_toArray, List.set_cons_zero, List.set_cons_succ]
        refine wpAnyG_pure (i := 8) (oi := { dst := some 49, op := Go.Op.fieldAddr 24 (Go.Operand.tmp 3) 6, type := 0, pos := "law.go:29", after := #[], guard := none }) (v := ?_) rfl (by kernel_rfl) (by kernel_rfl) (by kernel_rfl) (by kernel_rfl) (fun _ _ _ h => h) (Or.inl ⟨by rfl, ?_⟩) (by assumption) ?_
        rotate_left
        · (intro w; go_simp; try with_reducible rfl)
        simp only [Act.put, List.setIfInBounds_toArray, List.set_cons_zero, List.set_cons_succ]
        refine wpAnyG_take (i := 9) (oi := { dst := some 50, op := Go.Op.load 9 (Go.Operand.tmp 49), type := 9, pos := "law.go:29", after := #[{ on := 8, ground := Go.Ground.data }], guard := none }) (v := ?_) rfl (by kernel_rfl) (by kernel_rfl) (by kernel_rfl) (by kernel_rfl) (fun _ _ _ h => h) (Or.inl ⟨by rfl, ?_⟩) (by assumption) ?_
        rotate_left
        · (intro w hSw; (obtain ⟨y4, y5, y6, y7, y8⟩ := hSw); go_simp; try with_reducible rfl)
        simp only [Act.put, List.setIfInBounds_toArray, List.set_cons_zero, List.set_cons_succ]
        refine wpAnyG_pure (i := 10) (oi := { dst := some 51, op := Go.Op.fieldAddr 24 (Go.Operand.tmp 3) 7, type := 0, pos := "law.go:29", after := #[], guard := none }) (v := ?_) rfl (by kernel_rfl) (by kernel_rfl) (by kernel_rfl) (by kernel_rfl) (fun _ _ _ h => h) (Or.inl ⟨by rfl, ?_⟩) (by assumption) ?_
        rotate_left
        · (intro w; go_simp; try with_reducible rfl)
        simp only [Act.put, List.setIfInBounds_toArray, List.set_cons_zero, List.set_cons_succ]
        refine wpAnyG_take (i := 11) (oi := { dst := some 52, op := Go.Op.load 22 (Go.Operand.tmp 51), type := 22, pos := "law.go:29", after := #[{ on := 10, ground := Go.Ground.data }], guard := none }) (v := ?_) rfl (by kernel_rfl) (by kernel_rfl) (by kernel_rfl) (by kernel_rfl) (fun _ _ _ h => h) (Or.inl ⟨by rfl, ?_⟩) (by assumption) ?_
        rotate_left
        · (intro w hSw; (obtain ⟨y4, y5, y6, y7, y8⟩ := hSw); go_simp; try with_reducible rfl)
        simp only [Act.put, List.setIfInBounds_toArray, List.set_cons_zero, List.set_cons_succ]
        refine wpAnyG_pure (i := 12) (oi := { dst := some 53, op := Go.Op.fieldAddr 24 (Go.Operand.tmp 3) 8, type := 0, pos := "law.go:29", after := #[], guard := none }) (v := ?_) rfl (by kernel_rfl) (by kernel_rfl) (by kernel_rfl) (by kernel_rfl) (fun _ _ _ h => h) (Or.inl ⟨by rfl, ?_⟩) (by assumption) ?_
        rotate_left
        · (intro w; go_simp; try with_reducible rfl)
        simp only [Act.put, List.setIfInBounds_toArray, List.set_cons_zero, List.set_cons_succ]
        refine wpAnyG_take (i := 13) (oi := { dst := some 54, op := Go.Op.load 9 (Go.Operand.tmp 53), type := 9, pos := "law.go:29", after := #[{ on := 12, ground := Go.Ground.data }], guard := none }) (v := ?_) rfl (by kernel_rfl) (by kernel_rfl) (by kernel_rfl) (by kernel_rfl) (fun _ _ _ h => h) (Or.inl ⟨by rfl, ?_⟩) (by assumption) ?_
        rotate_left
        · (intro w hSw; (obtain ⟨y4, y5, y6, y7, y8⟩ := hSw); go_simp; try with_reducible rfl)
        simp only [Act.put, List.setIfInBounds_toArray, List.set_cons_zero, List.set_cons_succ]
        refine wpAnyG_ready (rs := [3]) (by kernel_rfl) (by simp) ?_
        refine AllReadyG.cons (o := { dst := some 44, op := Go.Op.call { callee := Go.Callee.value (Go.Operand.func 18), args := #[Go.Operand.tmp 43, Go.Operand.const (Go.Value.int Go.IntKind.i64 0), Go.Operand.const (Go.Value.int Go.IntKind.i64 1)], argTypes := #[3, 3, 3] }, type := 3, pos := "law.go:29", after := #[{ on := 2, ground := Go.Ground.data }], guard := none }) rfl (fun K hK => ?_) AllReadyG.nil
        go_simp
        (go_at_call 18; refine (HW1.out _).mono ?_; rintro e w9 ⟨rfl, hw⟩; have hw2 := hw.symm; clear hw; subst hw2)
        go_wp2_with fail
        refine hK.out _ _ (HC8.out _ k0) (fun hHeld1 => ?_)
        clear hK K hHeld
        try simp only [Act.put, List.setIfInBounds_toArray, List.set_cons_zero, List.set_cons_succ]
        refine wpAnyG_pure (i := 4) (oi := { dst := some 45, op := Go.Op.binOp Go.BinOp.add 3 (Go.Operand.const (Go.Value.int Go.IntKind.i64 2)) (Go.Operand.tmp 44) 3, type := 3, pos := "law.go:29", after := #[{ on := 3, ground := Go.Ground.data }], guard := none }) (v := ?_) rfl (by kernel_rfl) (by kernel_rfl) (by kernel_rfl) (by kernel_rfl) (fun _ _ _ h => h) (Or.inl ⟨by rfl, ?_⟩) (by assumption) ?_
        rotate_left
        · (intro w; go_simp; try with_reducible rfl)
        simp only [Act.put, List.setIfInBounds_toArray, List.set_cons_zero, List.set_cons_succ]
        refine wpAnyG_ready (rs := [7]) (by kernel_rfl) (by simp) ?_
        refine AllReadyG.cons (o := { dst := some 48, op := Go.Op.call { callee := Go.Callee.value (Go.Operand.func 18), args := #[Go.Operand.tmp 47, Go.Operand.const (Go.Value.int Go.IntKind.i64 0), Go.Operand.const (Go.Value.int Go.IntKind.i64 2)], argTypes := #[3, 3, 3] }, type := 3, pos := "law.go:29", after := #[{ on := 6, ground := Go.Ground.data }, { on := 3, ground := Go.Ground.chain }], guard := none }) rfl (fun K hK => ?_) AllReadyG.nil
        go_simp
        (go_at_call 18; refine (within2 _ _).mono ?_; rintro e w9 ⟨rfl, hw⟩; have hw2 := hw.symm; clear hw; subst hw2)
        go_wp2_with fail
        refine hK.out _ _ (HC8.out _ k0) (fun hHeld2 => ?_)
        clear hK K hHeld1
        try simp only [Act.put, List.setIfInBounds_toArray, List.set_cons_zero, List.set_cons_succ]
        refine wpAnyG_pure (i := 14) (oi := { dst := some 55, op := Go.Op.build 24 #[(0, Go.Operand.const (Go.Value.int Go.IntKind.i64 1)), (1, Go.Operand.tmp 41), (4, Go.Operand.tmp 45), (5, Go.Operand.tmp 48), (6, Go.Operand.tmp 50), (7, Go.Operand.tmp 52), (8, Go.Operand.tmp 54)], type := 24, pos := "law.go:29", after := #[{ on := 0, ground := Go.Ground.data }, { on := 4, ground := Go.Ground.data }, { on := 7, ground := Go.Ground.data }, { on := 9, ground := Go.Ground.data }, { on := 11, ground := Go.Ground.data }, { on := 13, ground := Go.Ground.data }], guard := none }) (v := ?_) rfl (by kernel_rfl) (by kernel_rfl) (by kernel_rfl) (by kernel_rfl) (fun _ _ _ h => h) (Or.inl ⟨by rfl, ?_⟩) (by assumption) ?_
        rotate_left
        · (intro w; go_simp; try with_reducible rfl)
        simp only [Act.put, List.setIfInBounds_toArray, List.set_cons_zero, List.set_cons_succ]
        refine wpAnyG_free (by kernel_rfl) ?_
        refine wpAny_ready (rs := [15]) (by kernel_rfl) (by simp) ?_
        refine AllReady.cons (o := { dst := none, op := Go.Op.store 24 (Go.Operand.tmp 2) (Go.Operand.tmp 55), type := 0, pos := "law.go:29", after := #[{ on := 14, ground := Go.Ground.data }, { on := 7, ground := Go.Ground.chain }, { on := 0, ground := Go.Ground.phase }, { on := 1, ground := Go.Ground.phase }, { on := 2, ground := Go.Ground.phase }, { on := 3, ground := Go.Ground.phase }, { on := 4, ground := Go.Ground.phase }, { on := 5, ground := Go.Ground.phase }, { on := 6, ground := Go.Ground.phase }, { on := 7, ground := Go.Ground.phase }, { on := 8, ground := Go.Ground.phase }, { on := 9, ground := Go.Ground.phase }, { on := 10, ground := Go.Ground.phase }, { on := 11, ground := Go.Ground.phase }, { on := 12, ground := Go.Ground.phase }, { on := 13, ground := Go.Ground.phase }, { on := 14, ground := Go.Ground.phase }], guard := none }) rfl (fun K hK => ?_) AllReady.nil
        go_simp
        refine hK _ _ ?_
        clear hK K
        try simp only [Act.put, List.setIfInBounds_toArray, List.set_cons_zero, List.set_cons_succ]
        refine wpAny_done (by kernel_rfl) ?_ _
        have HZ := fin9 M ⟨1, w31 o2, 0, 0, 2 + (a : Nat), (wi o6 2 : Nat), x, l', y⟩ (q1, q2, q3) ow nw
        unfold put9 at HZ
        simp only at HZ
        clear M ow nw cells
        go_wp2
        rw [W64.out]
        obtain ⟨⟨n0, n1, n2, n3, n4, n5, n6, n7, n8⟩, HZ2⟩ := HZ.out
        simp only [Nat.zero_add] at n0 n1 n2 n3 n4 n5 n6 n7 n8
        refine bodyPost_ret (v := .agg #[.int .i64 (1), .int .i64 (w31 o2), .int .i64 (0), .int .i64 (0), .int .i64 (2 + (a : Nat)), .int .i64 ((wi o6 2 : Nat)), .string x, .slice q1 q2 q3, .string y]) (by simp [results, go_sem, n0, n1, n2, n3, n4, n5, n6, n7, n8]) rfl ?_
        rw [HR2.out]
        exact HZ2
      · have HR2 : Hid (R = ⟨2, w31 o2, w31 o3, 0, 0, 0, ⟨#[]⟩, [], ⟨#[]⟩⟩) := (by rw [HRm.out]; rfl : R = ⟨2, w31 o2, w31 o3, 0, 0, 0, ⟨#[]⟩, [], ⟨#[]⟩⟩)
        clear HRm
        have HZ := fin9 M ⟨2, w31 o2, w31 o3, 0, 0, 0, ⟨#[]⟩, [], ⟨#[]⟩⟩ (none, 0, 0) (ar_nil _ _ rfl) (fun j hj => by simp [blk] at hj)
        unfold put9 at HZ
        simp only at HZ
        clear M ow nw cells
        go_wp2
        obtain ⟨⟨n0, n1, n2, n3, n4, n5, n6, n7, n8⟩, HZ2⟩ := HZ.out
        simp only [Nat.zero_add] at n0 n1 n2 n3 n4 n5 n6 n7 n8
        refine bodyPost_ret (v := .agg #[.int .i64 (2), .int .i64 (w31 o2), .int .i64 (w31 o3), .int .i64 (0), .int .i64 (0), .int .i64 (0), .string ⟨#[]⟩, .slice none 0 0, .string ⟨#[]⟩]) (by simp [results, go_sem, n0, n1, n2, n3, n4, n5, n6, n7, n8]) rfl ?_
        rw [HR2.out]
        exact HZ2
      · have HR2 : Hid (R = ⟨3, w31 o2, 0, w31 o4, 0, 0, ⟨#[]⟩, [], ⟨#[]⟩⟩) := (by rw [HRm.out]; rfl : R = ⟨3, w31 o2, 0, w31 o4, 0, 0, ⟨#[]⟩, [], ⟨#[]⟩⟩)
        clear HRm
        have HZ := fin9 M ⟨3, w31 o2, 0, w31 o4, 0, 0, ⟨#[]⟩, [], ⟨#[]⟩⟩ (none, 0, 0) (ar_nil _ _ rfl) (fun j hj => by simp [blk] at hj)
        unfold put9 at HZ
        simp only at HZ
        clear M ow nw cells
        go_wp2
        obtain ⟨⟨n0, n1, n2, n3, n4, n5, n6, n7, n8⟩, HZ2⟩ := HZ.out
        simp only [Nat.zero_add] at n0 n1 n2 n3 n4 n5 n6 n7 n8
        refine bodyPost_ret (v := .agg #[.int .i64 (3), .int .i64 (w31 o2), .int .i64 (0), .int .i64 (w31 o4), .int .i64 (0), .int .i64 (0), .string ⟨#[]⟩, .slice none 0 0, .string ⟨#[]⟩]) (by simp [results, go_sem, n0, n1, n2, n3, n4, n5, n6, n7, n8]) rfl ?_
        rw [HR2.out]
        exact HZ2
      · have HR2 : Hid (R = ⟨4, w31 o2, w31 o3, w31 o4, 0, 0, ⟨#[]⟩, [], ⟨#[]⟩⟩) := (by rw [HRm.out]; rfl : R = ⟨4, w31 o2, w31 o3, w31 o4, 0, 0, ⟨#[]⟩, [], ⟨#[]⟩⟩)
        clear HRm
        have HZ := fin9 M ⟨4, w31 o2, w31 o3, w31 o4, 0, 0, ⟨#[]⟩, [], ⟨#[]⟩⟩ (none, 0, 0) (ar_nil _ _ rfl) (fun j hj => by simp [blk] at hj)
        unfold put9 at HZ
        simp only at HZ
        clear M ow nw cells
        go_wp2
        obtain ⟨⟨n0, n1, n2, n3, n4, n5, n6, n7, n8⟩, HZ2⟩ := HZ.out
        simp only [Nat.zero_add] at n0 n1 n2 n3 n4 n5 n6 n7 n8
        refine bodyPost_ret (v := .agg #[.int .i64 (4), .int .i64 (w31 o2), .int .i64 (w31 o3), .int .i64 (w31 o4), .int .i64 (0), .int .i64 (0), .string ⟨#[]⟩, .slice none 0 0, .string ⟨#[]⟩]) (by simp [results, go_sem, n0, n1, n2, n3, n4, n5, n6, n7, n8]) rfl ?_
        rw [HR2.out]
        exact HZ2
      · have HR2 : Hid (R = ⟨5, 0, w31 o3, 0, 0, 0, ⟨#[]⟩, [], y⟩) := (by rw [HRm.out]; rfl : R = ⟨5, 0, w31 o3, 0, 0, 0, ⟨#[]⟩, [], y⟩)
        clear HRm
        have HZ := fin9 M ⟨5, 0, w31 o3, 0, 0, 0, ⟨#[]⟩, [], y⟩ (none, 0, 0) (ar_nil _ _ rfl) (fun j hj => by simp [blk] at hj)
        unfold put9 at HZ
        simp only at HZ
        clear M ow nw cells
        go_wp2
        obtain ⟨⟨n0, n1, n2, n3, n4, n5, n6, n7, n8⟩, HZ2⟩ := HZ.out
        simp only [Nat.zero_add] at n0 n1 n2 n3 n4 n5 n6 n7 n8
        refine bodyPost_ret (v := .agg #[.int .i64 (5), .int .i64 (0), .int .i64 (w31 o3), .int .i64 (0), .int .i64 (0), .int .i64 (0), .string ⟨#[]⟩, .slice none 0 0, .string y]) (by simp [results, go_sem, n0, n1, n2, n3, n4, n5, n6, n7, n8]) rfl ?_
        rw [HR2.out]
        exact HZ2
      · have HR2 : Hid (R = ⟨6, 0, w31 o3, w31 o4, 0, 0, ⟨#[]⟩, [], y⟩) := (by rw [HRm.out]; rfl : R = ⟨6, 0, w31 o3, w31 o4, 0, 0, ⟨#[]⟩, [], y⟩)
        clear HRm
        have HZ := fin9 M ⟨6, 0, w31 o3, w31 o4, 0, 0, ⟨#[]⟩, [], y⟩ (none, 0, 0) (ar_nil _ _ rfl) (fun j hj => by simp [blk] at hj)
        unfold put9 at HZ
        simp only at HZ
        clear M ow nw cells
        go_wp2
        obtain ⟨⟨n0, n1, n2, n3, n4, n5, n6, n7, n8⟩, HZ2⟩ := HZ.out
        simp only [Nat.zero_add] at n0 n1 n2 n3 n4 n5 n6 n7 n8
        refine bodyPost_ret (v := .agg #[.int .i64 (6), .int .i64 (0), .int .i64 (w31 o3), .int .i64 (w31 o4), .int .i64 (0), .int .i64 (0), .string ⟨#[]⟩, .slice none 0 0, .string y]) (by simp [results, go_sem, n0, n1, n2, n3, n4, n5, n6, n7, n8]) rfl ?_
        rw [HR2.out]
        exact HZ2
      · have HR2 : Hid (R = ⟨7, w31 o2, 0, 0, 0, 0, ⟨#[]⟩, [], ⟨#[]⟩⟩) := (by rw [HRm.out]; rfl : R = ⟨7, w31 o2, 0, 0, 0, 0, ⟨#[]⟩, [], ⟨#[]⟩⟩)
        clear HRm
        have HZ := fin9 M ⟨7, w31 o2, 0, 0, 0, 0, ⟨#[]⟩, [], ⟨#[]⟩⟩ (none, 0, 0) (ar_nil _ _ rfl) (fun j hj => by simp [blk] at hj)
        unfold put9 at HZ
        simp only at HZ
        clear M ow nw cells
        go_wp2
        obtain ⟨⟨n0, n1, n2, n3, n4, n5, n6, n7, n8⟩, HZ2⟩ := HZ.out
        simp only [Nat.zero_add] at n0 n1 n2 n3 n4 n5 n6 n7 n8
        refine bodyPost_ret (v := .agg #[.int .i64 (7), .int .i64 (w31 o2), .int .i64 (0), .int .i64 (0), .int .i64 (0), .int .i64 (0), .string ⟨#[]⟩, .slice none 0 0, .string ⟨#[]⟩]) (by simp [results, go_sem, n0, n1, n2, n3, n4, n5, n6, n7, n8]) rfl ?_
        rw [HR2.out]
        exact HZ2
      · have HR2 : Hid (R = ⟨8, 0, w31 o3, w31 o4, 0, 0, ⟨#[]⟩, [], ⟨#[]⟩⟩) := (by rw [HRm.out]; rfl : R = ⟨8, 0, w31 o3, w31 o4, 0, 0, ⟨#[]⟩, [], ⟨#[]⟩⟩)
        clear HRm
        have HZ := fin9 M ⟨8, 0, w31 o3, w31 o4, 0, 0, ⟨#[]⟩, [], ⟨#[]⟩⟩ (none, 0, 0) (ar_nil _ _ rfl) (fun j hj => by simp [blk] at hj)
        unfold put9 at HZ
        simp only at HZ
        clear M ow nw cells
        go_wp2
        obtain ⟨⟨n0, n1, n2, n3, n4, n5, n6, n7, n8⟩, HZ2⟩ := HZ.out
        simp only [Nat.zero_add] at n0 n1 n2 n3 n4 n5 n6 n7 n8
        refine bodyPost_ret (v := .agg #[.int .i64 (8), .int .i64 (0), .int .i64 (w31 o3), .int .i64 (w31 o4), .int .i64 (0), .int .i64 (0), .string ⟨#[]⟩, .slice none 0 0, .string ⟨#[]⟩]) (by simp [results, go_sem, n0, n1, n2, n3, n4, n5, n6, n7, n8]) rfl ?_
        rw [HR2.out]
        exact HZ2
      · have HR2 : Hid (R = ⟨9, w31 o2, 0, w31 o4, 0, 0, ⟨#[]⟩, [], ⟨#[]⟩⟩) := (by rw [HRm.out]; rfl : R = ⟨9, w31 o2, 0, w31 o4, 0, 0, ⟨#[]⟩, [], ⟨#[]⟩⟩)
        clear HRm
        have HZ := fin9 M ⟨9, w31 o2, 0, w31 o4, 0, 0, ⟨#[]⟩, [], ⟨#[]⟩⟩ (none, 0, 0) (ar_nil _ _ rfl) (fun j hj => by simp [blk] at hj)
        unfold put9 at HZ
        simp only at HZ
        clear M ow nw cells
        go_wp2
        obtain ⟨⟨n0, n1, n2, n3, n4, n5, n6, n7, n8⟩, HZ2⟩ := HZ.out
        simp only [Nat.zero_add] at n0 n1 n2 n3 n4 n5 n6 n7 n8
        refine bodyPost_ret (v := .agg #[.int .i64 (9), .int .i64 (w31 o2), .int .i64 (0), .int .i64 (w31 o4), .int .i64 (0), .int .i64 (0), .string ⟨#[]⟩, .slice none 0 0, .string ⟨#[]⟩]) (by simp [results, go_sem, n0, n1, n2, n3, n4, n5, n6, n7, n8]) rfl ?_
        rw [HR2.out]
        exact HZ2
      · have HR2 : Hid (R = ⟨10, w31 o2, 0, 0, 0, 0, ⟨#[]⟩, l', ⟨#[]⟩⟩) := (by rw [HRm.out]; rfl : R = ⟨10, w31 o2, 0, 0, 0, 0, ⟨#[]⟩, l', ⟨#[]⟩⟩)
        clear HRm
        have HZ := fin9 M ⟨10, w31 o2, 0, 0, 0, 0, ⟨#[]⟩, l', ⟨#[]⟩⟩ (q1, q2, q3) ow nw
        unfold put9 at HZ
        simp only at HZ
        clear M ow nw cells
        go_wp2
        obtain ⟨⟨n0, n1, n2, n3, n4, n5, n6, n7, n8⟩, HZ2⟩ := HZ.out
        simp only [Nat.zero_add] at n0 n1 n2 n3 n4 n5 n6 n7 n8
        refine bodyPost_ret (v := .agg #[.int .i64 (10), .int .i64 (w31 o2), .int .i64 (0), .int .i64 (0), .int .i64 (0), .int .i64 (0), .string ⟨#[]⟩, .slice q1 q2 q3, .string ⟨#[]⟩]) (by simp [results, go_sem, n0, n1, n2, n3, n4, n5, n6, n7, n8]) rfl ?_
        rw [HR2.out]
        exact HZ2
      · have HR2 : Hid (R = ⟨11, 0, 0, 0, 0, 0, ⟨#[]⟩, [], ⟨#[]⟩⟩) := (by rw [HRm.out]; rfl : R = ⟨11, 0, 0, 0, 0, 0, ⟨#[]⟩, [], ⟨#[]⟩⟩)
        clear HRm
        have HZ := fin9 M ⟨11, 0, 0, 0, 0, 0, ⟨#[]⟩, [], ⟨#[]⟩⟩ (none, 0, 0) (ar_nil _ _ rfl) (fun j hj => by simp [blk] at hj)
        unfold put9 at HZ
        simp only at HZ
        clear M ow nw cells
        go_wp2
        obtain ⟨⟨n0, n1, n2, n3, n4, n5, n6, n7, n8⟩, HZ2⟩ := HZ.out
        simp only [Nat.zero_add] at n0 n1 n2 n3 n4 n5 n6 n7 n8
        refine bodyPost_ret (v := .agg #[.int .i64 (11), .int .i64 (0), .int .i64 (0), .int .i64 (0), .int .i64 (0), .int .i64 (0), .string ⟨#[]⟩, .slice none 0 0, .string ⟨#[]⟩]) (by simp [results, go_sem, n0, n1, n2, n3, n4, n5, n6, n7, n8]) rfl ?_
        rw [HR2.out]
        exact HZ2

end Go.Proofs.YtpjkpobdkmcedaaDoor
