/-
  OpOwn: the walk.
-/
import Derived.Test.YtpjkpobdkmcedaaDoorRin
import Derived.Test.YtpjkpobdkmcedaaDoorKn
import Derived.Deep.CutRange
namespace Go.Proofs.YtpjkpobdkmcedaaDoor
open Go.RowKit Utf
set_option linter.unusedVariables false
set_option linter.unusedSimpArgs false

theorem right_64 {o : Ot} (h : rightO o = true) : in64 o := by
  obtain ⟨a1, a2, a3, a4, a5, a6⟩ := right_range h
  unfold in64 i64
  omega

theorem own_x {o : Ot} (h : rightO o = true) : rightO ⟨o.kd, o.nd, o.pa, o.rf, o.ty, 3, o.nm, o.al, o.tt⟩ = false ∧ sameO o ⟨o.kd, o.nd, o.pa, o.rf, o.ty, 3, o.nm, o.al, o.tt⟩ = false := by
  obtain ⟨a1, a2, a3, a4, a5, a6⟩ := right_range h
  refine ⟨by simp [rightO], ?_⟩
  have : (o.ns == 3) = false := by simp; omega
  simp [sameO, this]
theorem own_y (o : Ot) : rightO ⟨o.kd, -1, o.pa, o.rf, o.ty, o.ns, o.nm, o.al, o.tt⟩ = false := by simp [rightO, inR]
theorem own_z {o : Ot} (h : rightO o = true) : rightO ⟨12, o.nd, o.pa, o.rf, o.ty, o.ns, o.nm, o.al, o.tt⟩ = false ∧ sameO o ⟨12, o.nd, o.pa, o.rf, o.ty, o.ns, o.nm, o.al, o.tt⟩ = false := by
  obtain ⟨a1, a2, a3, a4, a5, a6⟩ := right_range h
  refine ⟨by simp [rightO, rightK], ?_⟩
  have : (o.kd == 12) = false := by simp; omega
  simp [sameO, this]
theorem own_w {o : Ot} (h1 : ¬ o.kd = 1) (h2 : ¬ o.kd = 10) (a : Att) : rightO ⟨o.kd, o.nd, o.pa, o.rf, o.ty, o.ns, o.nm, [a], o.tt⟩ = false := by
  have : rightK ⟨o.kd, o.nd, o.pa, o.rf, o.ty, o.ns, o.nm, [a], o.tt⟩ = false := by
    unfold rightK
    simp only
    rw [if_neg h1]
    repeat' split
    all_goals first | omega | (simp [zr]; done) | rfl
  simp [rightO, this]
theorem own_u (o : Ot) : ¬ lnO itb ⟨o.kd, o.nd, o.pa, o.rf, o.ty, o.ns, o.nm, o.al, o.tt ++ ⟨#[120]⟩⟩ = lnO itb o := fun e => by
  have := congrArg ByteArray.size e
  have e1 : (⟨#[120]⟩ : ByteArray).size = 1 := rfl
  simp only [lnO, hdF, ByteArray.size_append, e1] at this
  omega

/-- The operation that is asked, and three copies of it. -/
structure Ow (W wc : World) (g gx gy gz : Nat) (o : Ot) (p : Sl) : Prop where
  h0 : wc.heap[g]? = some (.cells (oc o p) 24 (0, 0))
  hx : wc.heap[gx]? = some (.cells (oc o p) 24 (0, 0))
  hy : wc.heap[gy]? = some (.cells (oc o p) 24 (0, 0))
  hz : wc.heap[gz]? = some (.cells (oc o p) 24 (0, 0))
  ne : g ≠ gx ∧ g ≠ gy ∧ g ≠ gz ∧ gx ≠ gy ∧ gx ≠ gz ∧ gy ≠ gz
  nw : W.heap.size ≤ gx ∧ W.heap.size ≤ gy ∧ W.heap.size ≤ gz
  kp : Kp [] W wc

/-- Block b holds nothing yet. -/
def Zb (U : World) (b : Nat) : Prop := U.heap[b]? = some (.cells #[.int .i64 0, .int .i64 0, .int .i64 0, .int .i64 0, .int .i64 0, .int .i64 0, .string ⟨#[]⟩, .slice none 0 0, .string ⟨#[]⟩] 24 (0, 0))

theorem Zb.cells {U : World} {b : Nat} (h : Zb U b) : U.cell? ⟨b, 0, none⟩ = some (.int .i64 0) ∧ U.cell? ⟨b, 1, none⟩ = some (.int .i64 0) ∧ U.cell? ⟨b, 2, none⟩ = some (.int .i64 0) ∧ U.cell? ⟨b, 3, none⟩ = some (.int .i64 0) ∧ U.cell? ⟨b, 4, none⟩ = some (.int .i64 0) ∧ U.cell? ⟨b, 5, none⟩ = some (.int .i64 0) ∧ U.cell? ⟨b, 6, none⟩ = some (.string ⟨#[]⟩) ∧ U.cell? ⟨b, 7, none⟩ = some (.slice none 0 0) ∧ U.cell? ⟨b, 8, none⟩ = some (.string ⟨#[]⟩) ∧ ∀ i, U.frozen? ⟨b, i, none⟩ = false :=
  ⟨cell_of h 0, cell_of h 1, cell_of h 2, cell_of h 3, cell_of h 4, cell_of h 5, cell_of h 6, cell_of h 7, cell_of h 8, fun i => frozen_of h i⟩

theorem three_new (U : World) : Zb (((U.alloc (.cells #[.int .i64 0, .int .i64 0, .int .i64 0, .int .i64 0, .int .i64 0, .int .i64 0, .string ⟨#[]⟩, .slice none 0 0, .string ⟨#[]⟩] 24)).alloc (.cells #[.int .i64 0, .int .i64 0, .int .i64 0, .int .i64 0, .int .i64 0, .int .i64 0, .string ⟨#[]⟩, .slice none 0 0, .string ⟨#[]⟩] 24)).alloc (.cells #[.int .i64 0, .int .i64 0, .int .i64 0, .int .i64 0, .int .i64 0, .int .i64 0, .string ⟨#[]⟩, .slice none 0 0, .string ⟨#[]⟩] 24)) U.heap.size ∧ Zb (((U.alloc (.cells #[.int .i64 0, .int .i64 0, .int .i64 0, .int .i64 0, .int .i64 0, .int .i64 0, .string ⟨#[]⟩, .slice none 0 0, .string ⟨#[]⟩] 24)).alloc (.cells #[.int .i64 0, .int .i64 0, .int .i64 0, .int .i64 0, .int .i64 0, .int .i64 0, .string ⟨#[]⟩, .slice none 0 0, .string ⟨#[]⟩] 24)).alloc (.cells #[.int .i64 0, .int .i64 0, .int .i64 0, .int .i64 0, .int .i64 0, .int .i64 0, .string ⟨#[]⟩, .slice none 0 0, .string ⟨#[]⟩] 24)) (U.heap.size + 1) ∧ Zb (((U.alloc (.cells #[.int .i64 0, .int .i64 0, .int .i64 0, .int .i64 0, .int .i64 0, .int .i64 0, .string ⟨#[]⟩, .slice none 0 0, .string ⟨#[]⟩] 24)).alloc (.cells #[.int .i64 0, .int .i64 0, .int .i64 0, .int .i64 0, .int .i64 0, .int .i64 0, .string ⟨#[]⟩, .slice none 0 0, .string ⟨#[]⟩] 24)).alloc (.cells #[.int .i64 0, .int .i64 0, .int .i64 0, .int .i64 0, .int .i64 0, .int .i64 0, .string ⟨#[]⟩, .slice none 0 0, .string ⟨#[]⟩] 24)) (U.heap.size + 2) ∧ Kp [] U (((U.alloc (.cells #[.int .i64 0, .int .i64 0, .int .i64 0, .int .i64 0, .int .i64 0, .int .i64 0, .string ⟨#[]⟩, .slice none 0 0, .string ⟨#[]⟩] 24)).alloc (.cells #[.int .i64 0, .int .i64 0, .int .i64 0, .int .i64 0, .int .i64 0, .int .i64 0, .string ⟨#[]⟩, .slice none 0 0, .string ⟨#[]⟩] 24)).alloc (.cells #[.int .i64 0, .int .i64 0, .int .i64 0, .int .i64 0, .int .i64 0, .int .i64 0, .string ⟨#[]⟩, .slice none 0 0, .string ⟨#[]⟩] 24)) :=
  ⟨by unfold Zb; rw [Below.heap_alloc _ _ _ (by simp; omega), Below.heap_alloc _ _ _ (by simp)]; exact heap_new U _, by unfold Zb; rw [Below.heap_alloc _ _ _ (by simp)]; exact heap_new' _ _ _ (by simp), heap_new' _ _ _ (by simp), (((Kp.refl _ _).alloc _).alloc _).alloc _⟩

/-- A copy is laid in block b. -/
def putO (U : World) (b : Nat) (o : Ot) (p : Sl) : World := put9 U b (.int .i64 o.kd) (.int .i64 o.nd) (.int .i64 o.pa) (.int .i64 o.rf) (.int .i64 o.ty) (.int .i64 o.ns) (.string o.nm) (.slice p.1 p.2.1 p.2.2) (.string o.tt)

theorem putO_kp (U : World) (b : Nat) (o : Ot) (p : Sl) : Kp [b] U (putO U b o p) := (Kp.refl _ _).put9 (Or.inl (by simp)) _ _ _ _ _ _ _ _ _

theorem putO_at {U : World} {b : Nat} (h : Zb U b) (o : Ot) (p : Sl) : (putO U b o p).heap[b]? = some (.cells (oc o p) 24 (0, 0)) := at9 h _ _ _ _ _ _ _ _ _

theorem putO_zb {U : World} {b b' : Nat} (h : Zb U b') (hne : b' ≠ b) (o : Ot) (p : Sl) : Zb (putO U b o p) b' := ((putO_kp U b o p).block _ (lt_of h) (by simpa using hne)).trans h

theorem putO_oc {U : World} {b b' : Nat} {o2 : Ot} {p2 : Sl} (h : U.heap[b']? = some (.cells (oc o2 p2) 24 (0, 0))) (hne : b' ≠ b) (o : Ot) (p : Sl) : (putO U b o p).heap[b']? = some (.cells (oc o2 p2) 24 (0, 0)) := ((putO_kp U b o p).block _ (lt_of h) (by simpa using hne)).trans h

/-- All three are laid. -/
theorem ow_of {W U : World} {g b6 b7 b8 : Nat} {o : Ot} {p : Sl} (hg : U.heap[g]? = some (.cells (oc o p) 24 (0, 0))) (h6 : Zb U b6) (h7 : Zb U b7) (h8 : Zb U b8) (ne : g ≠ b6 ∧ g ≠ b7 ∧ g ≠ b8 ∧ b6 ≠ b7 ∧ b6 ≠ b8 ∧ b7 ≠ b8) (nw : W.heap.size ≤ b6 ∧ W.heap.size ≤ b7 ∧ W.heap.size ≤ b8) (k : Kp [] W U) :
    Ow W (putO (putO (putO U b6 o p) b7 o p) b8 o p) g b6 b7 b8 o p := by
  obtain ⟨n1, n2, n3, n4, n5, n6⟩ := ne
  have k1 : Kp [] W (putO U b6 o p) := k.trans (putO_kp _ _ _ _) (fun x hx => Or.inr (by simp at hx; omega))
  have k2 : Kp [] W (putO (putO U b6 o p) b7 o p) := k1.trans (putO_kp _ _ _ _) (fun x hx => Or.inr (by simp at hx; omega))
  have k3 : Kp [] W (putO (putO (putO U b6 o p) b7 o p) b8 o p) := k2.trans (putO_kp _ _ _ _) (fun x hx => Or.inr (by simp at hx; omega))
  exact ⟨putO_oc (putO_oc (putO_oc hg n1 o p) n2 o p) n3 o p, putO_oc (putO_oc (putO_at h6 o p) n4 o p) n5 o p, putO_oc (putO_at (putO_zb h7 (Ne.symm n4) o p) o p) n6 o p, putO_at (putO_zb (putO_zb h8 (Ne.symm n5) o p) (Ne.symm n6) o p) o p, ⟨n1, n2, n3, n4, n5, n6⟩, nw, k3⟩

/-- The copies, turned in one field each. -/
theorem Ow.turn {W wc : World} {g gx gy gz : Nat} {o : Ot} {p : Sl} (O : Ow W wc g gx gy gz o p) :
    (wc.cell? ⟨gx, 5, none⟩ = some (.int .i64 o.ns) ∧ wc.frozen? ⟨gx, 5, none⟩ = false) ∧ ((wc.setCell ⟨gx, 5, none⟩ (.int .i64 3)).cell? ⟨gy, 1, none⟩ = some (.int .i64 o.nd) ∧ (wc.setCell ⟨gx, 5, none⟩ (.int .i64 3)).frozen? ⟨gy, 1, none⟩ = false) ∧ (((wc.setCell ⟨gx, 5, none⟩ (.int .i64 3)).setCell ⟨gy, 1, none⟩ (.int .i64 (-1))).cell? ⟨gz, 0, none⟩ = some (.int .i64 o.kd) ∧ ((wc.setCell ⟨gx, 5, none⟩ (.int .i64 3)).setCell ⟨gy, 1, none⟩ (.int .i64 (-1))).frozen? ⟨gz, 0, none⟩ = false) ∧
    Hid ((((wc.setCell ⟨gx, 5, none⟩ (.int .i64 3)).setCell ⟨gy, 1, none⟩ (.int .i64 (-1))).setCell ⟨gz, 0, none⟩ (.int .i64 12)).heap[g]? = some (.cells (oc o p) 24 (0, 0)) ∧ (((wc.setCell ⟨gx, 5, none⟩ (.int .i64 3)).setCell ⟨gy, 1, none⟩ (.int .i64 (-1))).setCell ⟨gz, 0, none⟩ (.int .i64 12)).heap[gx]? = some (.cells (oc ⟨o.kd, o.nd, o.pa, o.rf, o.ty, 3, o.nm, o.al, o.tt⟩ p) 24 (0, 0)) ∧ (((wc.setCell ⟨gx, 5, none⟩ (.int .i64 3)).setCell ⟨gy, 1, none⟩ (.int .i64 (-1))).setCell ⟨gz, 0, none⟩ (.int .i64 12)).heap[gy]? = some (.cells (oc ⟨o.kd, -1, o.pa, o.rf, o.ty, o.ns, o.nm, o.al, o.tt⟩ p) 24 (0, 0)) ∧ (((wc.setCell ⟨gx, 5, none⟩ (.int .i64 3)).setCell ⟨gy, 1, none⟩ (.int .i64 (-1))).setCell ⟨gz, 0, none⟩ (.int .i64 12)).heap[gz]? = some (.cells (oc ⟨12, o.nd, o.pa, o.rf, o.ty, o.ns, o.nm, o.al, o.tt⟩ p) 24 (0, 0)) ∧ Kp [] W (((wc.setCell ⟨gx, 5, none⟩ (.int .i64 3)).setCell ⟨gy, 1, none⟩ (.int .i64 (-1))).setCell ⟨gz, 0, none⟩ (.int .i64 12))) := by
  obtain ⟨h0, hx, hy, hz, ⟨n1, n2, n3, n4, n5, n6⟩, ⟨w1, w2, w3⟩, kp⟩ := O
  have kx : Kp [gx] wc (wc.setCell ⟨gx, 5, none⟩ (.int .i64 3)) := (Kp.refl _ _).setCell (p := ⟨gx, 5, none⟩) (Or.inl (by simp)) _
  have ky : Kp [gy] (wc.setCell ⟨gx, 5, none⟩ (.int .i64 3)) ((wc.setCell ⟨gx, 5, none⟩ (.int .i64 3)).setCell ⟨gy, 1, none⟩ (.int .i64 (-1))) := (Kp.refl _ _).setCell (p := ⟨gy, 1, none⟩) (Or.inl (by simp)) _
  have kz : Kp [gz] ((wc.setCell ⟨gx, 5, none⟩ (.int .i64 3)).setCell ⟨gy, 1, none⟩ (.int .i64 (-1))) (((wc.setCell ⟨gx, 5, none⟩ (.int .i64 3)).setCell ⟨gy, 1, none⟩ (.int .i64 (-1))).setCell ⟨gz, 0, none⟩ (.int .i64 12)) := (Kp.refl _ _).setCell (p := ⟨gz, 0, none⟩) (Or.inl (by simp)) _
  have hx1 : (wc.setCell ⟨gx, 5, none⟩ (.int .i64 3)).heap[gx]? = some (.cells (oc ⟨o.kd, o.nd, o.pa, o.rf, o.ty, 3, o.nm, o.al, o.tt⟩ p) 24 (0, 0)) := setCell_block hx 5 _
  have hy1 : (wc.setCell ⟨gx, 5, none⟩ (.int .i64 3)).heap[gy]? = some (.cells (oc o p) 24 (0, 0)) := (kx.block _ (lt_of hy) (by simp; omega)).trans hy
  have hz1 : (wc.setCell ⟨gx, 5, none⟩ (.int .i64 3)).heap[gz]? = some (.cells (oc o p) 24 (0, 0)) := (kx.block _ (lt_of hz) (by simp; omega)).trans hz
  have h01 : (wc.setCell ⟨gx, 5, none⟩ (.int .i64 3)).heap[g]? = some (.cells (oc o p) 24 (0, 0)) := (kx.block _ (lt_of h0) (by simp; omega)).trans h0
  have k1 : Kp [] W (wc.setCell ⟨gx, 5, none⟩ (.int .i64 3)) := kp.trans kx (fun x hx => Or.inr (by simp at hx; omega))
  have k2 := k1.trans ky (fun x hx => Or.inr (by simp at hx; omega))
  have k3 := k2.trans kz (fun x hx => Or.inr (by simp at hx; omega))
  have hy2 : ((wc.setCell ⟨gx, 5, none⟩ (.int .i64 3)).setCell ⟨gy, 1, none⟩ (.int .i64 (-1))).heap[gy]? = some (.cells (oc ⟨o.kd, -1, o.pa, o.rf, o.ty, o.ns, o.nm, o.al, o.tt⟩ p) 24 (0, 0)) := setCell_block hy1 1 _
  have hz2 := (ky.block _ (lt_of hz1) (by simp; omega)).trans hz1
  have hx2 := (ky.block _ (lt_of hx1) (by simp; omega)).trans hx1
  have h02 := (ky.block _ (lt_of h01) (by simp; omega)).trans h01
  have hz3 : (((wc.setCell ⟨gx, 5, none⟩ (.int .i64 3)).setCell ⟨gy, 1, none⟩ (.int .i64 (-1))).setCell ⟨gz, 0, none⟩ (.int .i64 12)).heap[gz]? = some (.cells (oc ⟨12, o.nd, o.pa, o.rf, o.ty, o.ns, o.nm, o.al, o.tt⟩ p) 24 (0, 0)) := setCell_block hz2 0 _
  exact ⟨⟨cell_of hx 5, frozen_of hx 5⟩, ⟨cell_of hy1 1, frozen_of hy1 1⟩, ⟨cell_of hz2 0, frozen_of hz2 0⟩, (kz.block _ (lt_of h02) (by simp; omega)).trans h02, (kz.block _ (lt_of hx2) (by simp; omega)).trans hx2, (kz.block _ (lt_of hy2) (by simp; omega)).trans hy2, hz3, k3⟩

/-- An operation with one attribute of its own. -/
theorem one_new (V : World) (o : Ot) (x y : ByteArray) (hl : o.al = [(x, y)]) : Nine ((V.alloc (.cells (oc o (some ⟨V.heap.size + 1, 0, none⟩, 1, 1)) 24)).alloc (.cells #[.string x, .string y] 26)) V.heap.size 0 o (some ⟨V.heap.size + 1, 0, none⟩, 1, 1) ∧ At ((V.alloc (.cells (oc o (some ⟨V.heap.size + 1, 0, none⟩, 1, 1)) 24)).alloc (.cells #[.string x, .string y] 26)) (o, some ⟨V.heap.size + 1, 0, none⟩, 1, 1) ∧ Kp [] V ((V.alloc (.cells (oc o (some ⟨V.heap.size + 1, 0, none⟩, 1, 1)) 24)).alloc (.cells #[.string x, .string y] 26)) := by
  have h1 : ((V.alloc (.cells (oc o (some ⟨V.heap.size + 1, 0, none⟩, 1, 1)) 24)).alloc (.cells #[.string x, .string y] 26)).heap[V.heap.size]? = some (.cells (oc o (some ⟨V.heap.size + 1, 0, none⟩, 1, 1)) 24 (0, 0)) := by
    rw [Below.heap_alloc _ _ _ (by simp)]
    exact heap_new V _
  have h2 : ((V.alloc (.cells (oc o (some ⟨V.heap.size + 1, 0, none⟩, 1, 1)) 24)).alloc (.cells #[.string x, .string y] 26)).heap[V.heap.size + 1]? = some (.cells #[.string x, .string y] 26 (0, 0)) := heap_new' _ _ _ (by simp)
  refine ⟨nine_of h1, ?_, ((Kp.refl _ _).alloc _).alloc _⟩
  unfold At
  simp only [hl]
  refine ⟨rfl, Nat.le_refl _, fun j hj => ⟨_, _, rfl, ?_⟩⟩
  rw [cell_of h2]
  match j, hj with
  | 0, _ => rfl
  | 1, _ => rfl

set_option maxRecDepth 100000 in
set_option maxHeartbeats 1000000 in
theorem own_walk (w : World) (hT : Tb w) (o : Ot) (p : Sl) (t : Bool) (k : Int) (hA : At w (o, p)) (hl : p.2.1 ≤ 140737488355328) (s : ByteArray) :
    Calls Tryd.prog 6 #[rv o p t k, .string s] w fun e w' => e = .returned (.bool true) ∧ Kp [] w w' := by
  have k0 : Kp [] w (w.alloc (.cells (rcs o p true k) 40)) := (Kp.refl _ _).alloc _
  have HM := made_any (w.alloc (.cells (rcs o p true k) 40)) o p true k (hA.kept k0) hl
  have hok := tame_ok o k
  have hsm := madeO_small o true k
  generalize madeO o true k = R at HM hok hsm
  obtain ⟨hR, hfit⟩ := ok_parts hok
  obtain ⟨q1, q2, q3, q4, q5, q6, q7, l, q9⟩ := o
  obtain ⟨p1, p2, p3⟩ := p
  simp only [rcs, rv] at HM k0 ⊢
  clear hA hl hok
  go_enter Tryd.func6, Tryd.ntmps6
  go_wp2_with fail
  refine HM.mono ?_
  rintro e w1 ⟨⟨a, n, c⟩, rfl, A1, nw, k1⟩
  replace k1 := k0.trans k1 (fun z hz => Or.inl hz)
  clear HM k0
  have hn : n = R.al.length := Rp.len A1.rp
  have hn6 : n ≤ 6 := by have := hsm.2.2.1; omega
  have k2 : Kp [] w1 (w1.alloc (.cells (oc R (a, n, c)) 24)) := (Kp.refl _ _).alloc _
  have B2 := heap_new w1 (.cells (oc R (a, n, c)) 24)
  have A2 := A1.kept k2
  have k3 := k1.trans k2 (fun z hz => Or.inl hz)
  have HRt : Hid (∀ V, Ar V (R, a, n, c) → Calls Tryd.prog 8 #[ov R (a, n, c)] V fun e w' => e = .returned (.bool true) ∧ Kp [] V w') := fun V hV => by
    have h := right_any V R (a, n, c) hV.rp (by simp only; omega)
    rw [hR] at h
    exact h
  have HSm : Hid (∀ V, Ar V (R, a, n, c) → Calls Tryd.prog 12 #[ov R (a, n, c), ov R (a, n, c)] V fun e w' => e = .returned (.bool true) ∧ Kp [] V w') := fun V hV => by
    have h := osame_any V R R (a, n, c) (a, n, c) hV.rp hV.rp (by simp only; omega) (by simp only; omega)
    rw [sameO_refl] at h
    exact h
  clear A1 k1 k2 nw hn
  obtain ⟨R1, R2, R3, R4, R5, R6, R7, R8, R9⟩ := R
  simp only [ov, oc] at B2 A2 HRt HSm k3 ⊢
  go_upto_region 3 with fail
  generalize w1.alloc (.cells _ 24) = W at B2 A2 k3 ⊢
  generalize w1.heap.size = g at B2 ⊢
  obtain ⟨f0, f1, f2, f3, f4, f5, f6, f7, f8⟩ := nine_of (o := ⟨R1, R2, R3, R4, R5, R6, R7, R8, R9⟩) (p := (a, n, c)) B2
  simp only [Nat.zero_add] at f0 f1 f2 f3 f4 f5 f6 f7 f8
  go_wp2_with fail
  refine (HRt.out _ A2).mono ?_
  rintro e V1 ⟨rfl, u1⟩
  have A3 := A2.kept u1
  have B3 : V1.heap[g]? = some (.cells (oc ⟨R1, R2, R3, R4, R5, R6, R7, R8, R9⟩ (a, n, c)) 24 (0, 0)) := (u1.block _ (lt_of B2) (by simp)).trans B2
  have k4 := k3.trans u1 (fun z hz => Or.inl hz)
  clear f0 f1 f2 f3 f4 f5 f6 f7 f8 A2 B2 k3 u1 HRt
  obtain ⟨f0, f1, f2, f3, f4, f5, f6, f7, f8⟩ := nine_of B3
  simp only [Nat.zero_add] at f0 f1 f2 f3 f4 f5 f6 f7 f8
  go_wp2_with fail
  refine (HSm.out _ A3).mono ?_
  rintro e V2 ⟨rfl, u2⟩
  have A4 := A3.kept u2
  have B4 : V2.heap[g]? = some (.cells (oc ⟨R1, R2, R3, R4, R5, R6, R7, R8, R9⟩ (a, n, c)) 24 (0, 0)) := (u2.block _ (lt_of B3) (by simp)).trans B3
  have k5 := k4.trans u2 (fun z hz => Or.inl hz)
  clear f0 f1 f2 f3 f4 f5 f6 f7 f8 A3 B3 k4 u2 HSm
  obtain ⟨f0, f1, f2, f3, f4, f5, f6, f7, f8⟩ := nine_of B4
  simp only [Nat.zero_add] at f0 f1 f2 f3 f4 f5 f6 f7 f8
  go_upto_region 5 with fail
  go_cut [6, 7, 8] from 23 to 25 (fun x6 x7 x8 wc => ∃ gx gy gz, x6 = .pointer (some ⟨gx, 0, none⟩) ∧ x7 = .pointer (some ⟨gy, 0, none⟩) ∧ x8 = .pointer (some ⟨gz, 0, none⟩) ∧ Ow V2 wc g gx gy gz ⟨R1, R2, R3, R4, R5, R6, R7, R8, R9⟩ (a, n, c))
  case first =>
    have hgl := lt_of B4
    have HC : Hid (∀ V, Kp [] V2 V → Nine V g 0 ⟨R1, R2, R3, R4, R5, R6, R7, R8, R9⟩ (a, n, c)) := fun V kV => (nine_of B4).kept kV (by simp)
    simp only [Nine, Nat.zero_add] at HC
    have HE : Hid (∀ U b6 b7 b8, Kp [] V2 U → Zb U b6 → Zb U b7 → Zb U b8 → (b6 ≠ b7 ∧ b6 ≠ b8 ∧ b7 ≠ b8) → (V2.heap.size ≤ b6 ∧ V2.heap.size ≤ b7 ∧ V2.heap.size ≤ b8) → Ow V2 (putO (putO (putO U b6 ⟨R1, R2, R3, R4, R5, R6, R7, R8, R9⟩ (a, n, c)) b7 ⟨R1, R2, R3, R4, R5, R6, R7, R8, R9⟩ (a, n, c)) b8 ⟨R1, R2, R3, R4, R5, R6, R7, R8, R9⟩ (a, n, c)) g b6 b7 b8 ⟨R1, R2, R3, R4, R5, R6, R7, R8, R9⟩ (a, n, c)) := fun U b6 b7 b8 kU z6 z7 z8 ne nw => ow_of ((kU.block _ hgl (by simp)).trans B4) z6 z7 z8 ⟨by omega, by omega, by omega, ne.1, ne.2.1, ne.2.2⟩ nw kU
    clear f0 f1 f2 f3 f4 f5 f6 f7 f8 B4 A4 k5
    obtain ⟨U0, hU0⟩ : ∃ V, V = V2.drew := ⟨_, rfl⟩
    have k0 : Kp [] V2 U0 := by rw [hU0]; exact (Kp.refl _ _).drew
    refine wp_region_g (S := fun V => V.cell? ⟨g, 0, none⟩ = some (.int .i64 R1) ∧ V.cell? ⟨g, 1, none⟩ = some (.int .i64 R2) ∧ V.cell? ⟨g, 2, none⟩ = some (.int .i64 R3) ∧ V.cell? ⟨g, 3, none⟩ = some (.int .i64 R4) ∧ V.cell? ⟨g, 4, none⟩ = some (.int .i64 R5) ∧ V.cell? ⟨g, 5, none⟩ = some (.int .i64 R6) ∧ V.cell? ⟨g, 6, none⟩ = some (.string R7) ∧ V.cell? ⟨g, 7, none⟩ = some (.slice a n c) ∧ V.cell? ⟨g, 8, none⟩ = some (.string R9)) (T := [8]) (by kernel_rfl) (HC.out _ (Kp.refl [] V2).drew) (fun hHeld => ?_)
    rw [← hU0] at hHeld ⊢
    clear hU0
    refine wpAnyG_take (i := 0) (oi := { dst := some 23, op := Go.Op.load 24 (Go.Operand.tmp 5), type := 24, pos := "law.go:224", after := #[], guard := none }) (v := ?_) rfl (by kernel_rfl) (by kernel_rfl) (by kernel_rfl) (by kernel_rfl) (fun _ _ _ h => h) (Or.inl ⟨by rfl, ?_⟩) (by assumption) ?_
    rotate_left
    · (intro w hSw; (obtain ⟨y0, y1, y2, y3, y4, y5, y6, y7, y8⟩ := hSw); go_simp; try with_reducible rfl)
    simp only [Act.put, List.setIfInBounds_toArray, List.set_cons_zero, List.set_cons_succ]
    refine wpAnyG_take (i := 1) (oi := { dst := some 24, op := Go.Op.load 24 (Go.Operand.tmp 5), type := 24, pos := "law.go:224", after := #[{ on := 6, ground := Go.Ground.gcOnly Go.Departure.lateStores }], guard := none }) (v := ?_) rfl (by kernel_rfl) (by kernel_rfl) (by kernel_rfl) (by kernel_rfl) (fun _ _ _ h => h) (Or.inl ⟨by rfl, ?_⟩) (by assumption) ?_
    rotate_left
    · (intro w hSw; (obtain ⟨y0, y1, y2, y3, y4, y5, y6, y7, y8⟩ := hSw); go_simp; try with_reducible rfl)
    simp only [Act.put, List.setIfInBounds_toArray, List.set_cons_zero, List.set_cons_succ]
    refine wpAnyG_take (i := 2) (oi := { dst := some 25, op := Go.Op.load 24 (Go.Operand.tmp 5), type := 24, pos := "law.go:224", after := #[{ on := 7, ground := Go.Ground.gcOnly Go.Departure.lateStores }], guard := none }) (v := ?_) rfl (by kernel_rfl) (by kernel_rfl) (by kernel_rfl) (by kernel_rfl) (fun _ _ _ h => h) (Or.inl ⟨by rfl, ?_⟩) (by assumption) ?_
    rotate_left
    · (intro w hSw; (obtain ⟨y0, y1, y2, y3, y4, y5, y6, y7, y8⟩ := hSw); go_simp; try with_reducible rfl)
    simp only [Act.put, List.setIfInBounds_toArray, List.set_cons_zero, List.set_cons_succ]
    refine wpAnyG_ready (rs := [3, 4, 5]) (by kernel_rfl) (by simp) ?_
    refine AllReadyG.cons (o := { dst := some 6, op := Go.Op.alloc 24, type := 0, pos := "law.go:224", after := #[], guard := none }) rfl (fun K hK => ?_) ?_
    · go_simp
      refine hK.out _ _ (HC.out _ (k0.alloc _)) (fun hHeld1 => ?_)
      clear hK K hHeld
      try simp only [Act.put, List.setIfInBounds_toArray, List.set_cons_zero, List.set_cons_succ]
      refine wpAnyG_ready (rs := [4, 5]) (by kernel_rfl) (by simp) ?_
      refine AllReadyG.cons (o := { dst := some 7, op := Go.Op.alloc 24, type := 0, pos := "law.go:224", after := #[], guard := none }) rfl (fun K hK => ?_) ?_
      · go_simp
        refine hK.out _ _ (HC.out _ ((k0.alloc _).alloc _)) (fun hHeld2 => ?_)
        clear hK K hHeld1
        try simp only [Act.put, List.setIfInBounds_toArray, List.set_cons_zero, List.set_cons_succ]
        refine wpAnyG_ready (rs := [5]) (by kernel_rfl) (by simp) ?_
        refine AllReadyG.cons (o := { dst := some 8, op := Go.Op.alloc 24, type := 0, pos := "law.go:224", after := #[], guard := none }) rfl (fun K hK => ?_) AllReadyG.nil
        go_simp
        obtain ⟨zz0, zz1, zz2, kz⟩ := three_new U0
        replace kz := k0.trans kz (fun z hz => Or.inl hz)
        generalize ((U0.alloc (.cells _ 24)).alloc (.cells _ 24)).alloc (.cells _ 24) = U3 at zz0 zz1 zz2 kz ⊢
        have E9 := HE.out U3 (U0.heap.size) (U0.heap.size + 1) (U0.heap.size + 2) kz zz0 zz1 zz2 (by omega) (by have := k0.size; omega)
        have P6 := (zz0).cells
        have P7 := (putO_zb zz1 (b := U0.heap.size) (by omega) ⟨R1, R2, R3, R4, R5, R6, R7, R8, R9⟩ (a, n, c)).cells
        have P8 := (putO_zb (putO_zb zz2 (b := U0.heap.size) (by omega) ⟨R1, R2, R3, R4, R5, R6, R7, R8, R9⟩ (a, n, c)) (b := U0.heap.size + 1) (by omega) ⟨R1, R2, R3, R4, R5, R6, R7, R8, R9⟩ (a, n, c)).cells
        obtain ⟨U4, hU4⟩ : ∃ V, V = putO U3 (U0.heap.size) ⟨R1, R2, R3, R4, R5, R6, R7, R8, R9⟩ (a, n, c) := ⟨_, rfl⟩
        have K4 : Kp [] V2 U4 := by rw [hU4]; exact kz.trans (putO_kp _ _ _ _) (fun z hz => Or.inr (by have := k0.size; simp at hz; omega))
        rw [← hU4] at E9 P7 P8
        obtain ⟨U5, hU5⟩ : ∃ V, V = putO U4 (U0.heap.size + 1) ⟨R1, R2, R3, R4, R5, R6, R7, R8, R9⟩ (a, n, c) := ⟨_, rfl⟩
        have K5 : Kp [] V2 U5 := by rw [hU5]; exact K4.trans (putO_kp _ _ _ _) (fun z hz => Or.inr (by have := k0.size; simp at hz; omega))
        rw [← hU5] at E9 P8
        obtain ⟨U6, hU6⟩ : ∃ V, V = putO U5 (U0.heap.size + 2) ⟨R1, R2, R3, R4, R5, R6, R7, R8, R9⟩ (a, n, c) := ⟨_, rfl⟩
        rw [← hU6] at E9
        unfold putO put9 at hU4 hU5 hU6
        simp only at hU4 hU5 hU6
        have H4 : Hid (_ = U4) := hU4.symm
        have H5 : Hid (_ = U5) := hU5.symm
        have H6 : Hid (_ = U6) := hU6.symm
        have HC3 := HC.out _ kz
        clear hU4 hU5 hU6 zz0 zz1 zz2
        refine hK.out _ _ HC3 (fun hHeld3 => ?_)
        clear hK K hHeld2
        try simp only [Act.put, List.setIfInBounds_toArray, List.set_cons_zero, List.set_cons_succ]
        refine wpAnyG_ready (rs := [6]) (by kernel_rfl) (by simp) ?_
        refine AllReadyG.cons (o := { dst := none, op := Go.Op.store 24 (Go.Operand.tmp 6) (Go.Operand.tmp 23), type := 0, pos := "law.go:224", after := #[{ on := 3, ground := Go.Ground.data }, { on := 0, ground := Go.Ground.data }, { on := 0, ground := Go.Ground.phase }, { on := 1, ground := Go.Ground.textOnly Go.Departure.lateStores }, { on := 2, ground := Go.Ground.textOnly Go.Departure.lateStores }, { on := 3, ground := Go.Ground.phase }, { on := 4, ground := Go.Ground.phase }, { on := 5, ground := Go.Ground.phase }], guard := none }) rfl (fun K hK => ?_) AllReadyG.nil
        obtain ⟨e0, e1, e2, e3, e4, e5, e6, e7, e8, ef⟩ := P6
        go_simp
        rw [H4.out]
        clear e0 e1 e2 e3 e4 e5 e6 e7 e8 ef
        refine hK.out _ _ (HC.out _ K4) (fun hHeld4 => ?_)
        clear hK K hHeld3
        try simp only [Act.put, List.setIfInBounds_toArray, List.set_cons_zero, List.set_cons_succ]
        refine wpAnyG_ready (rs := [7]) (by kernel_rfl) (by simp) ?_
        refine AllReadyG.cons (o := { dst := none, op := Go.Op.store 24 (Go.Operand.tmp 7) (Go.Operand.tmp 24), type := 0, pos := "law.go:224", after := #[{ on := 4, ground := Go.Ground.data }, { on := 1, ground := Go.Ground.data }, { on := 6, ground := Go.Ground.chain }, { on := 0, ground := Go.Ground.phase }, { on := 1, ground := Go.Ground.phase }, { on := 2, ground := Go.Ground.textOnly Go.Departure.lateStores }, { on := 3, ground := Go.Ground.phase }, { on := 4, ground := Go.Ground.phase }, { on := 5, ground := Go.Ground.phase }, { on := 6, ground := Go.Ground.phase }], guard := none }) rfl (fun K hK => ?_) AllReadyG.nil
        obtain ⟨e0, e1, e2, e3, e4, e5, e6, e7, e8, ef⟩ := P7
        go_simp
        rw [H5.out]
        clear e0 e1 e2 e3 e4 e5 e6 e7 e8 ef
        refine hK.out _ _ (HC.out _ K5) (fun hHeld5 => ?_)
        clear hK K hHeld4
        try simp only [Act.put, List.setIfInBounds_toArray, List.set_cons_zero, List.set_cons_succ]
        refine wpAnyG_free (by kernel_rfl) ?_
        refine wpAny_ready (rs := [8]) (by kernel_rfl) (by simp) ?_
        refine AllReady.cons (o := { dst := none, op := Go.Op.store 24 (Go.Operand.tmp 8) (Go.Operand.tmp 25), type := 0, pos := "law.go:224", after := #[{ on := 5, ground := Go.Ground.data }, { on := 2, ground := Go.Ground.data }, { on := 7, ground := Go.Ground.chain }, { on := 0, ground := Go.Ground.phase }, { on := 1, ground := Go.Ground.phase }, { on := 2, ground := Go.Ground.phase }, { on := 3, ground := Go.Ground.phase }, { on := 4, ground := Go.Ground.phase }, { on := 5, ground := Go.Ground.phase }, { on := 6, ground := Go.Ground.phase }, { on := 7, ground := Go.Ground.phase }], guard := none }) rfl (fun K hK => ?_) AllReady.nil
        obtain ⟨e0, e1, e2, e3, e4, e5, e6, e7, e8, ef⟩ := P8
        go_simp
        rw [H6.out]
        clear e0 e1 e2 e3 e4 e5 e6 e7 e8 ef
        refine hK _ _ ?_
        clear hK K
        try simp only [Act.put, List.setIfInBounds_toArray, List.set_cons_zero, List.set_cons_succ]
        refine wpAny_done (by kernel_rfl) ?_ _
        go_wp2_with fail
        go_meet
        case rel => exact ⟨_, _, _, rfl, rfl, rfl, E9⟩
      refine AllReadyG.cons (o := { dst := some 8, op := Go.Op.alloc 24, type := 0, pos := "law.go:224", after := #[], guard := none }) rfl (fun K hK => ?_) AllReadyG.nil
      go_simp
      refine hK.out _ _ (HC.out _ ((k0.alloc _).alloc _)) (fun hHeld2 => ?_)
      clear hK K hHeld1
      try simp only [Act.put, List.setIfInBounds_toArray, List.set_cons_zero, List.set_cons_succ]
      refine wpAnyG_ready (rs := [4]) (by kernel_rfl) (by simp) ?_
      refine AllReadyG.cons (o := { dst := some 7, op := Go.Op.alloc 24, type := 0, pos := "law.go:224", after := #[], guard := none }) rfl (fun K hK => ?_) AllReadyG.nil
      go_simp
      obtain ⟨zz0, zz1, zz2, kz⟩ := three_new U0
      replace kz := k0.trans kz (fun z hz => Or.inl hz)
      generalize ((U0.alloc (.cells _ 24)).alloc (.cells _ 24)).alloc (.cells _ 24) = U3 at zz0 zz1 zz2 kz ⊢
      have E9 := HE.out U3 (U0.heap.size) (U0.heap.size + 2) (U0.heap.size + 1) kz zz0 zz2 zz1 (by omega) (by have := k0.size; omega)
      have P6 := (zz0).cells
      have P7 := (putO_zb zz2 (b := U0.heap.size) (by omega) ⟨R1, R2, R3, R4, R5, R6, R7, R8, R9⟩ (a, n, c)).cells
      have P8 := (putO_zb (putO_zb zz1 (b := U0.heap.size) (by omega) ⟨R1, R2, R3, R4, R5, R6, R7, R8, R9⟩ (a, n, c)) (b := U0.heap.size + 2) (by omega) ⟨R1, R2, R3, R4, R5, R6, R7, R8, R9⟩ (a, n, c)).cells
      obtain ⟨U4, hU4⟩ : ∃ V, V = putO U3 (U0.heap.size) ⟨R1, R2, R3, R4, R5, R6, R7, R8, R9⟩ (a, n, c) := ⟨_, rfl⟩
      have K4 : Kp [] V2 U4 := by rw [hU4]; exact kz.trans (putO_kp _ _ _ _) (fun z hz => Or.inr (by have := k0.size; simp at hz; omega))
      rw [← hU4] at E9 P7 P8
      obtain ⟨U5, hU5⟩ : ∃ V, V = putO U4 (U0.heap.size + 2) ⟨R1, R2, R3, R4, R5, R6, R7, R8, R9⟩ (a, n, c) := ⟨_, rfl⟩
      have K5 : Kp [] V2 U5 := by rw [hU5]; exact K4.trans (putO_kp _ _ _ _) (fun z hz => Or.inr (by have := k0.size; simp at hz; omega))
      rw [← hU5] at E9 P8
      obtain ⟨U6, hU6⟩ : ∃ V, V = putO U5 (U0.heap.size + 1) ⟨R1, R2, R3, R4, R5, R6, R7, R8, R9⟩ (a, n, c) := ⟨_, rfl⟩
      rw [← hU6] at E9
      unfold putO put9 at hU4 hU5 hU6
      simp only at hU4 hU5 hU6
      have H4 : Hid (_ = U4) := hU4.symm
      have H5 : Hid (_ = U5) := hU5.symm
      have H6 : Hid (_ = U6) := hU6.symm
      have HC3 := HC.out _ kz
      clear hU4 hU5 hU6 zz0 zz1 zz2
      refine hK.out _ _ HC3 (fun hHeld3 => ?_)
      clear hK K hHeld2
      try simp only [Act.put, List.setIfInBounds_toArray, List.set_cons_zero, List.set_cons_succ]
      refine wpAnyG_ready (rs := [6]) (by kernel_rfl) (by simp) ?_
      refine AllReadyG.cons (o := { dst := none, op := Go.Op.store 24 (Go.Operand.tmp 6) (Go.Operand.tmp 23), type := 0, pos := "law.go:224", after := #[{ on := 3, ground := Go.Ground.data }, { on := 0, ground := Go.Ground.data }, { on := 0, ground := Go.Ground.phase }, { on := 1, ground := Go.Ground.textOnly Go.Departure.lateStores }, { on := 2, ground := Go.Ground.textOnly Go.Departure.lateStores }, { on := 3, ground := Go.Ground.phase }, { on := 4, ground := Go.Ground.phase }, { on := 5, ground := Go.Ground.phase }], guard := none }) rfl (fun K hK => ?_) AllReadyG.nil
      obtain ⟨e0, e1, e2, e3, e4, e5, e6, e7, e8, ef⟩ := P6
      go_simp
      rw [H4.out]
      clear e0 e1 e2 e3 e4 e5 e6 e7 e8 ef
      refine hK.out _ _ (HC.out _ K4) (fun hHeld4 => ?_)
      clear hK K hHeld3
      try simp only [Act.put, List.setIfInBounds_toArray, List.set_cons_zero, List.set_cons_succ]
      refine wpAnyG_ready (rs := [7]) (by kernel_rfl) (by simp) ?_
      refine AllReadyG.cons (o := { dst := none, op := Go.Op.store 24 (Go.Operand.tmp 7) (Go.Operand.tmp 24), type := 0, pos := "law.go:224", after := #[{ on := 4, ground := Go.Ground.data }, { on := 1, ground := Go.Ground.data }, { on := 6, ground := Go.Ground.chain }, { on := 0, ground := Go.Ground.phase }, { on := 1, ground := Go.Ground.phase }, { on := 2, ground := Go.Ground.textOnly Go.Departure.lateStores }, { on := 3, ground := Go.Ground.phase }, { on := 4, ground := Go.Ground.phase }, { on := 5, ground := Go.Ground.phase }, { on := 6, ground := Go.Ground.phase }], guard := none }) rfl (fun K hK => ?_) AllReadyG.nil
      obtain ⟨e0, e1, e2, e3, e4, e5, e6, e7, e8, ef⟩ := P7
      go_simp
      rw [H5.out]
      clear e0 e1 e2 e3 e4 e5 e6 e7 e8 ef
      refine hK.out _ _ (HC.out _ K5) (fun hHeld5 => ?_)
      clear hK K hHeld4
      try simp only [Act.put, List.setIfInBounds_toArray, List.set_cons_zero, List.set_cons_succ]
      refine wpAnyG_free (by kernel_rfl) ?_
      refine wpAny_ready (rs := [8]) (by kernel_rfl) (by simp) ?_
      refine AllReady.cons (o := { dst := none, op := Go.Op.store 24 (Go.Operand.tmp 8) (Go.Operand.tmp 25), type := 0, pos := "law.go:224", after := #[{ on := 5, ground := Go.Ground.data }, { on := 2, ground := Go.Ground.data }, { on := 7, ground := Go.Ground.chain }, { on := 0, ground := Go.Ground.phase }, { on := 1, ground := Go.Ground.phase }, { on := 2, ground := Go.Ground.phase }, { on := 3, ground := Go.Ground.phase }, { on := 4, ground := Go.Ground.phase }, { on := 5, ground := Go.Ground.phase }, { on := 6, ground := Go.Ground.phase }, { on := 7, ground := Go.Ground.phase }], guard := none }) rfl (fun K hK => ?_) AllReady.nil
      obtain ⟨e0, e1, e2, e3, e4, e5, e6, e7, e8, ef⟩ := P8
      go_simp
      rw [H6.out]
      clear e0 e1 e2 e3 e4 e5 e6 e7 e8 ef
      refine hK _ _ ?_
      clear hK K
      try simp only [Act.put, List.setIfInBounds_toArray, List.set_cons_zero, List.set_cons_succ]
      refine wpAny_done (by kernel_rfl) ?_ _
      go_wp2_with fail
      go_meet
      case rel => exact ⟨_, _, _, rfl, rfl, rfl, E9⟩
    refine AllReadyG.cons (o := { dst := some 7, op := Go.Op.alloc 24, type := 0, pos := "law.go:224", after := #[], guard := none }) rfl (fun K hK => ?_) ?_
    · go_simp
      refine hK.out _ _ (HC.out _ (k0.alloc _)) (fun hHeld1 => ?_)
      clear hK K hHeld
      try simp only [Act.put, List.setIfInBounds_toArray, List.set_cons_zero, List.set_cons_succ]
      refine wpAnyG_ready (rs := [3, 5]) (by kernel_rfl) (by simp) ?_
      refine AllReadyG.cons (o := { dst := some 6, op := Go.Op.alloc 24, type := 0, pos := "law.go:224", after := #[], guard := none }) rfl (fun K hK => ?_) ?_
      · go_simp
        refine hK.out _ _ (HC.out _ ((k0.alloc _).alloc _)) (fun hHeld2 => ?_)
        clear hK K hHeld1
        try simp only [Act.put, List.setIfInBounds_toArray, List.set_cons_zero, List.set_cons_succ]
        refine wpAnyG_ready (rs := [5]) (by kernel_rfl) (by simp) ?_
        refine AllReadyG.cons (o := { dst := some 8, op := Go.Op.alloc 24, type := 0, pos := "law.go:224", after := #[], guard := none }) rfl (fun K hK => ?_) AllReadyG.nil
        go_simp
        obtain ⟨zz0, zz1, zz2, kz⟩ := three_new U0
        replace kz := k0.trans kz (fun z hz => Or.inl hz)
        generalize ((U0.alloc (.cells _ 24)).alloc (.cells _ 24)).alloc (.cells _ 24) = U3 at zz0 zz1 zz2 kz ⊢
        have E9 := HE.out U3 (U0.heap.size + 1) (U0.heap.size) (U0.heap.size + 2) kz zz1 zz0 zz2 (by omega) (by have := k0.size; omega)
        have P6 := (zz1).cells
        have P7 := (putO_zb zz0 (b := U0.heap.size + 1) (by omega) ⟨R1, R2, R3, R4, R5, R6, R7, R8, R9⟩ (a, n, c)).cells
        have P8 := (putO_zb (putO_zb zz2 (b := U0.heap.size + 1) (by omega) ⟨R1, R2, R3, R4, R5, R6, R7, R8, R9⟩ (a, n, c)) (b := U0.heap.size) (by omega) ⟨R1, R2, R3, R4, R5, R6, R7, R8, R9⟩ (a, n, c)).cells
        obtain ⟨U4, hU4⟩ : ∃ V, V = putO U3 (U0.heap.size + 1) ⟨R1, R2, R3, R4, R5, R6, R7, R8, R9⟩ (a, n, c) := ⟨_, rfl⟩
        have K4 : Kp [] V2 U4 := by rw [hU4]; exact kz.trans (putO_kp _ _ _ _) (fun z hz => Or.inr (by have := k0.size; simp at hz; omega))
        rw [← hU4] at E9 P7 P8
        obtain ⟨U5, hU5⟩ : ∃ V, V = putO U4 (U0.heap.size) ⟨R1, R2, R3, R4, R5, R6, R7, R8, R9⟩ (a, n, c) := ⟨_, rfl⟩
        have K5 : Kp [] V2 U5 := by rw [hU5]; exact K4.trans (putO_kp _ _ _ _) (fun z hz => Or.inr (by have := k0.size; simp at hz; omega))
        rw [← hU5] at E9 P8
        obtain ⟨U6, hU6⟩ : ∃ V, V = putO U5 (U0.heap.size + 2) ⟨R1, R2, R3, R4, R5, R6, R7, R8, R9⟩ (a, n, c) := ⟨_, rfl⟩
        rw [← hU6] at E9
        unfold putO put9 at hU4 hU5 hU6
        simp only at hU4 hU5 hU6
        have H4 : Hid (_ = U4) := hU4.symm
        have H5 : Hid (_ = U5) := hU5.symm
        have H6 : Hid (_ = U6) := hU6.symm
        have HC3 := HC.out _ kz
        clear hU4 hU5 hU6 zz0 zz1 zz2
        refine hK.out _ _ HC3 (fun hHeld3 => ?_)
        clear hK K hHeld2
        try simp only [Act.put, List.setIfInBounds_toArray, List.set_cons_zero, List.set_cons_succ]
        refine wpAnyG_ready (rs := [6]) (by kernel_rfl) (by simp) ?_
        refine AllReadyG.cons (o := { dst := none, op := Go.Op.store 24 (Go.Operand.tmp 6) (Go.Operand.tmp 23), type := 0, pos := "law.go:224", after := #[{ on := 3, ground := Go.Ground.data }, { on := 0, ground := Go.Ground.data }, { on := 0, ground := Go.Ground.phase }, { on := 1, ground := Go.Ground.textOnly Go.Departure.lateStores }, { on := 2, ground := Go.Ground.textOnly Go.Departure.lateStores }, { on := 3, ground := Go.Ground.phase }, { on := 4, ground := Go.Ground.phase }, { on := 5, ground := Go.Ground.phase }], guard := none }) rfl (fun K hK => ?_) AllReadyG.nil
        obtain ⟨e0, e1, e2, e3, e4, e5, e6, e7, e8, ef⟩ := P6
        go_simp
        rw [H4.out]
        clear e0 e1 e2 e3 e4 e5 e6 e7 e8 ef
        refine hK.out _ _ (HC.out _ K4) (fun hHeld4 => ?_)
        clear hK K hHeld3
        try simp only [Act.put, List.setIfInBounds_toArray, List.set_cons_zero, List.set_cons_succ]
        refine wpAnyG_ready (rs := [7]) (by kernel_rfl) (by simp) ?_
        refine AllReadyG.cons (o := { dst := none, op := Go.Op.store 24 (Go.Operand.tmp 7) (Go.Operand.tmp 24), type := 0, pos := "law.go:224", after := #[{ on := 4, ground := Go.Ground.data }, { on := 1, ground := Go.Ground.data }, { on := 6, ground := Go.Ground.chain }, { on := 0, ground := Go.Ground.phase }, { on := 1, ground := Go.Ground.phase }, { on := 2, ground := Go.Ground.textOnly Go.Departure.lateStores }, { on := 3, ground := Go.Ground.phase }, { on := 4, ground := Go.Ground.phase }, { on := 5, ground := Go.Ground.phase }, { on := 6, ground := Go.Ground.phase }], guard := none }) rfl (fun K hK => ?_) AllReadyG.nil
        obtain ⟨e0, e1, e2, e3, e4, e5, e6, e7, e8, ef⟩ := P7
        go_simp
        rw [H5.out]
        clear e0 e1 e2 e3 e4 e5 e6 e7 e8 ef
        refine hK.out _ _ (HC.out _ K5) (fun hHeld5 => ?_)
        clear hK K hHeld4
        try simp only [Act.put, List.setIfInBounds_toArray, List.set_cons_zero, List.set_cons_succ]
        refine wpAnyG_free (by kernel_rfl) ?_
        refine wpAny_ready (rs := [8]) (by kernel_rfl) (by simp) ?_
        refine AllReady.cons (o := { dst := none, op := Go.Op.store 24 (Go.Operand.tmp 8) (Go.Operand.tmp 25), type := 0, pos := "law.go:224", after := #[{ on := 5, ground := Go.Ground.data }, { on := 2, ground := Go.Ground.data }, { on := 7, ground := Go.Ground.chain }, { on := 0, ground := Go.Ground.phase }, { on := 1, ground := Go.Ground.phase }, { on := 2, ground := Go.Ground.phase }, { on := 3, ground := Go.Ground.phase }, { on := 4, ground := Go.Ground.phase }, { on := 5, ground := Go.Ground.phase }, { on := 6, ground := Go.Ground.phase }, { on := 7, ground := Go.Ground.phase }], guard := none }) rfl (fun K hK => ?_) AllReady.nil
        obtain ⟨e0, e1, e2, e3, e4, e5, e6, e7, e8, ef⟩ := P8
        go_simp
        rw [H6.out]
        clear e0 e1 e2 e3 e4 e5 e6 e7 e8 ef
        refine hK _ _ ?_
        clear hK K
        try simp only [Act.put, List.setIfInBounds_toArray, List.set_cons_zero, List.set_cons_succ]
        refine wpAny_done (by kernel_rfl) ?_ _
        go_wp2_with fail
        go_meet
        case rel => exact ⟨_, _, _, rfl, rfl, rfl, E9⟩
      refine AllReadyG.cons (o := { dst := some 8, op := Go.Op.alloc 24, type := 0, pos := "law.go:224", after := #[], guard := none }) rfl (fun K hK => ?_) AllReadyG.nil
      go_simp
      refine hK.out _ _ (HC.out _ ((k0.alloc _).alloc _)) (fun hHeld2 => ?_)
      clear hK K hHeld1
      try simp only [Act.put, List.setIfInBounds_toArray, List.set_cons_zero, List.set_cons_succ]
      refine wpAnyG_ready (rs := [3]) (by kernel_rfl) (by simp) ?_
      refine AllReadyG.cons (o := { dst := some 6, op := Go.Op.alloc 24, type := 0, pos := "law.go:224", after := #[], guard := none }) rfl (fun K hK => ?_) AllReadyG.nil
      go_simp
      obtain ⟨zz0, zz1, zz2, kz⟩ := three_new U0
      replace kz := k0.trans kz (fun z hz => Or.inl hz)
      generalize ((U0.alloc (.cells _ 24)).alloc (.cells _ 24)).alloc (.cells _ 24) = U3 at zz0 zz1 zz2 kz ⊢
      have E9 := HE.out U3 (U0.heap.size + 2) (U0.heap.size) (U0.heap.size + 1) kz zz2 zz0 zz1 (by omega) (by have := k0.size; omega)
      have P6 := (zz2).cells
      have P7 := (putO_zb zz0 (b := U0.heap.size + 2) (by omega) ⟨R1, R2, R3, R4, R5, R6, R7, R8, R9⟩ (a, n, c)).cells
      have P8 := (putO_zb (putO_zb zz1 (b := U0.heap.size + 2) (by omega) ⟨R1, R2, R3, R4, R5, R6, R7, R8, R9⟩ (a, n, c)) (b := U0.heap.size) (by omega) ⟨R1, R2, R3, R4, R5, R6, R7, R8, R9⟩ (a, n, c)).cells
      obtain ⟨U4, hU4⟩ : ∃ V, V = putO U3 (U0.heap.size + 2) ⟨R1, R2, R3, R4, R5, R6, R7, R8, R9⟩ (a, n, c) := ⟨_, rfl⟩
      have K4 : Kp [] V2 U4 := by rw [hU4]; exact kz.trans (putO_kp _ _ _ _) (fun z hz => Or.inr (by have := k0.size; simp at hz; omega))
      rw [← hU4] at E9 P7 P8
      obtain ⟨U5, hU5⟩ : ∃ V, V = putO U4 (U0.heap.size) ⟨R1, R2, R3, R4, R5, R6, R7, R8, R9⟩ (a, n, c) := ⟨_, rfl⟩
      have K5 : Kp [] V2 U5 := by rw [hU5]; exact K4.trans (putO_kp _ _ _ _) (fun z hz => Or.inr (by have := k0.size; simp at hz; omega))
      rw [← hU5] at E9 P8
      obtain ⟨U6, hU6⟩ : ∃ V, V = putO U5 (U0.heap.size + 1) ⟨R1, R2, R3, R4, R5, R6, R7, R8, R9⟩ (a, n, c) := ⟨_, rfl⟩
      rw [← hU6] at E9
      unfold putO put9 at hU4 hU5 hU6
      simp only at hU4 hU5 hU6
      have H4 : Hid (_ = U4) := hU4.symm
      have H5 : Hid (_ = U5) := hU5.symm
      have H6 : Hid (_ = U6) := hU6.symm
      have HC3 := HC.out _ kz
      clear hU4 hU5 hU6 zz0 zz1 zz2
      refine hK.out _ _ HC3 (fun hHeld3 => ?_)
      clear hK K hHeld2
      try simp only [Act.put, List.setIfInBounds_toArray, List.set_cons_zero, List.set_cons_succ]
      refine wpAnyG_ready (rs := [6]) (by kernel_rfl) (by simp) ?_
      refine AllReadyG.cons (o := { dst := none, op := Go.Op.store 24 (Go.Operand.tmp 6) (Go.Operand.tmp 23), type := 0, pos := "law.go:224", after := #[{ on := 3, ground := Go.Ground.data }, { on := 0, ground := Go.Ground.data }, { on := 0, ground := Go.Ground.phase }, { on := 1, ground := Go.Ground.textOnly Go.Departure.lateStores }, { on := 2, ground := Go.Ground.textOnly Go.Departure.lateStores }, { on := 3, ground := Go.Ground.phase }, { on := 4, ground := Go.Ground.phase }, { on := 5, ground := Go.Ground.phase }], guard := none }) rfl (fun K hK => ?_) AllReadyG.nil
      obtain ⟨e0, e1, e2, e3, e4, e5, e6, e7, e8, ef⟩ := P6
      go_simp
      rw [H4.out]
      clear e0 e1 e2 e3 e4 e5 e6 e7 e8 ef
      refine hK.out _ _ (HC.out _ K4) (fun hHeld4 => ?_)
      clear hK K hHeld3
      try simp only [Act.put, List.setIfInBounds_toArray, List.set_cons_zero, List.set_cons_succ]
      refine wpAnyG_ready (rs := [7]) (by kernel_rfl) (by simp) ?_
      refine AllReadyG.cons (o := { dst := none, op := Go.Op.store 24 (Go.Operand.tmp 7) (Go.Operand.tmp 24), type := 0, pos := "law.go:224", after := #[{ on := 4, ground := Go.Ground.data }, { on := 1, ground := Go.Ground.data }, { on := 6, ground := Go.Ground.chain }, { on := 0, ground := Go.Ground.phase }, { on := 1, ground := Go.Ground.phase }, { on := 2, ground := Go.Ground.textOnly Go.Departure.lateStores }, { on := 3, ground := Go.Ground.phase }, { on := 4, ground := Go.Ground.phase }, { on := 5, ground := Go.Ground.phase }, { on := 6, ground := Go.Ground.phase }], guard := none }) rfl (fun K hK => ?_) AllReadyG.nil
      obtain ⟨e0, e1, e2, e3, e4, e5, e6, e7, e8, ef⟩ := P7
      go_simp
      rw [H5.out]
      clear e0 e1 e2 e3 e4 e5 e6 e7 e8 ef
      refine hK.out _ _ (HC.out _ K5) (fun hHeld5 => ?_)
      clear hK K hHeld4
      try simp only [Act.put, List.setIfInBounds_toArray, List.set_cons_zero, List.set_cons_succ]
      refine wpAnyG_free (by kernel_rfl) ?_
      refine wpAny_ready (rs := [8]) (by kernel_rfl) (by simp) ?_
      refine AllReady.cons (o := { dst := none, op := Go.Op.store 24 (Go.Operand.tmp 8) (Go.Operand.tmp 25), type := 0, pos := "law.go:224", after := #[{ on := 5, ground := Go.Ground.data }, { on := 2, ground := Go.Ground.data }, { on := 7, ground := Go.Ground.chain }, { on := 0, ground := Go.Ground.phase }, { on := 1, ground := Go.Ground.phase }, { on := 2, ground := Go.Ground.phase }, { on := 3, ground := Go.Ground.phase }, { on := 4, ground := Go.Ground.phase }, { on := 5, ground := Go.Ground.phase }, { on := 6, ground := Go.Ground.phase }, { on := 7, ground := Go.Ground.phase }], guard := none }) rfl (fun K hK => ?_) AllReady.nil
      obtain ⟨e0, e1, e2, e3, e4, e5, e6, e7, e8, ef⟩ := P8
      go_simp
      rw [H6.out]
      clear e0 e1 e2 e3 e4 e5 e6 e7 e8 ef
      refine hK _ _ ?_
      clear hK K
      try simp only [Act.put, List.setIfInBounds_toArray, List.set_cons_zero, List.set_cons_succ]
      refine wpAny_done (by kernel_rfl) ?_ _
      go_wp2_with fail
      go_meet
      case rel => exact ⟨_, _, _, rfl, rfl, rfl, E9⟩
    refine AllReadyG.cons (o := { dst := some 8, op := Go.Op.alloc 24, type := 0, pos := "law.go:224", after := #[], guard := none }) rfl (fun K hK => ?_) AllReadyG.nil
    go_simp
    refine hK.out _ _ (HC.out _ (k0.alloc _)) (fun hHeld1 => ?_)
    clear hK K hHeld
    try simp only [Act.put, List.setIfInBounds_toArray, List.set_cons_zero, List.set_cons_succ]
    refine wpAnyG_ready (rs := [3, 4]) (by kernel_rfl) (by simp) ?_
    refine AllReadyG.cons (o := { dst := some 6, op := Go.Op.alloc 24, type := 0, pos := "law.go:224", after := #[], guard := none }) rfl (fun K hK => ?_) ?_
    · go_simp
      refine hK.out _ _ (HC.out _ ((k0.alloc _).alloc _)) (fun hHeld2 => ?_)
      clear hK K hHeld1
      try simp only [Act.put, List.setIfInBounds_toArray, List.set_cons_zero, List.set_cons_succ]
      refine wpAnyG_ready (rs := [4]) (by kernel_rfl) (by simp) ?_
      refine AllReadyG.cons (o := { dst := some 7, op := Go.Op.alloc 24, type := 0, pos := "law.go:224", after := #[], guard := none }) rfl (fun K hK => ?_) AllReadyG.nil
      go_simp
      obtain ⟨zz0, zz1, zz2, kz⟩ := three_new U0
      replace kz := k0.trans kz (fun z hz => Or.inl hz)
      generalize ((U0.alloc (.cells _ 24)).alloc (.cells _ 24)).alloc (.cells _ 24) = U3 at zz0 zz1 zz2 kz ⊢
      have E9 := HE.out U3 (U0.heap.size + 1) (U0.heap.size + 2) (U0.heap.size) kz zz1 zz2 zz0 (by omega) (by have := k0.size; omega)
      have P6 := (zz1).cells
      have P7 := (putO_zb zz2 (b := U0.heap.size + 1) (by omega) ⟨R1, R2, R3, R4, R5, R6, R7, R8, R9⟩ (a, n, c)).cells
      have P8 := (putO_zb (putO_zb zz0 (b := U0.heap.size + 1) (by omega) ⟨R1, R2, R3, R4, R5, R6, R7, R8, R9⟩ (a, n, c)) (b := U0.heap.size + 2) (by omega) ⟨R1, R2, R3, R4, R5, R6, R7, R8, R9⟩ (a, n, c)).cells
      obtain ⟨U4, hU4⟩ : ∃ V, V = putO U3 (U0.heap.size + 1) ⟨R1, R2, R3, R4, R5, R6, R7, R8, R9⟩ (a, n, c) := ⟨_, rfl⟩
      have K4 : Kp [] V2 U4 := by rw [hU4]; exact kz.trans (putO_kp _ _ _ _) (fun z hz => Or.inr (by have := k0.size; simp at hz; omega))
      rw [← hU4] at E9 P7 P8
      obtain ⟨U5, hU5⟩ : ∃ V, V = putO U4 (U0.heap.size + 2) ⟨R1, R2, R3, R4, R5, R6, R7, R8, R9⟩ (a, n, c) := ⟨_, rfl⟩
      have K5 : Kp [] V2 U5 := by rw [hU5]; exact K4.trans (putO_kp _ _ _ _) (fun z hz => Or.inr (by have := k0.size; simp at hz; omega))
      rw [← hU5] at E9 P8
      obtain ⟨U6, hU6⟩ : ∃ V, V = putO U5 (U0.heap.size) ⟨R1, R2, R3, R4, R5, R6, R7, R8, R9⟩ (a, n, c) := ⟨_, rfl⟩
      rw [← hU6] at E9
      unfold putO put9 at hU4 hU5 hU6
      simp only at hU4 hU5 hU6
      have H4 : Hid (_ = U4) := hU4.symm
      have H5 : Hid (_ = U5) := hU5.symm
      have H6 : Hid (_ = U6) := hU6.symm
      have HC3 := HC.out _ kz
      clear hU4 hU5 hU6 zz0 zz1 zz2
      refine hK.out _ _ HC3 (fun hHeld3 => ?_)
      clear hK K hHeld2
      try simp only [Act.put, List.setIfInBounds_toArray, List.set_cons_zero, List.set_cons_succ]
      refine wpAnyG_ready (rs := [6]) (by kernel_rfl) (by simp) ?_
      refine AllReadyG.cons (o := { dst := none, op := Go.Op.store 24 (Go.Operand.tmp 6) (Go.Operand.tmp 23), type := 0, pos := "law.go:224", after := #[{ on := 3, ground := Go.Ground.data }, { on := 0, ground := Go.Ground.data }, { on := 0, ground := Go.Ground.phase }, { on := 1, ground := Go.Ground.textOnly Go.Departure.lateStores }, { on := 2, ground := Go.Ground.textOnly Go.Departure.lateStores }, { on := 3, ground := Go.Ground.phase }, { on := 4, ground := Go.Ground.phase }, { on := 5, ground := Go.Ground.phase }], guard := none }) rfl (fun K hK => ?_) AllReadyG.nil
      obtain ⟨e0, e1, e2, e3, e4, e5, e6, e7, e8, ef⟩ := P6
      go_simp
      rw [H4.out]
      clear e0 e1 e2 e3 e4 e5 e6 e7 e8 ef
      refine hK.out _ _ (HC.out _ K4) (fun hHeld4 => ?_)
      clear hK K hHeld3
      try simp only [Act.put, List.setIfInBounds_toArray, List.set_cons_zero, List.set_cons_succ]
      refine wpAnyG_ready (rs := [7]) (by kernel_rfl) (by simp) ?_
      refine AllReadyG.cons (o := { dst := none, op := Go.Op.store 24 (Go.Operand.tmp 7) (Go.Operand.tmp 24), type := 0, pos := "law.go:224", after := #[{ on := 4, ground := Go.Ground.data }, { on := 1, ground := Go.Ground.data }, { on := 6, ground := Go.Ground.chain }, { on := 0, ground := Go.Ground.phase }, { on := 1, ground := Go.Ground.phase }, { on := 2, ground := Go.Ground.textOnly Go.Departure.lateStores }, { on := 3, ground := Go.Ground.phase }, { on := 4, ground := Go.Ground.phase }, { on := 5, ground := Go.Ground.phase }, { on := 6, ground := Go.Ground.phase }], guard := none }) rfl (fun K hK => ?_) AllReadyG.nil
      obtain ⟨e0, e1, e2, e3, e4, e5, e6, e7, e8, ef⟩ := P7
      go_simp
      rw [H5.out]
      clear e0 e1 e2 e3 e4 e5 e6 e7 e8 ef
      refine hK.out _ _ (HC.out _ K5) (fun hHeld5 => ?_)
      clear hK K hHeld4
      try simp only [Act.put, List.setIfInBounds_toArray, List.set_cons_zero, List.set_cons_succ]
      refine wpAnyG_free (by kernel_rfl) ?_
      refine wpAny_ready (rs := [8]) (by kernel_rfl) (by simp) ?_
      refine AllReady.cons (o := { dst := none, op := Go.Op.store 24 (Go.Operand.tmp 8) (Go.Operand.tmp 25), type := 0, pos := "law.go:224", after := #[{ on := 5, ground := Go.Ground.data }, { on := 2, ground := Go.Ground.data }, { on := 7, ground := Go.Ground.chain }, { on := 0, ground := Go.Ground.phase }, { on := 1, ground := Go.Ground.phase }, { on := 2, ground := Go.Ground.phase }, { on := 3, ground := Go.Ground.phase }, { on := 4, ground := Go.Ground.phase }, { on := 5, ground := Go.Ground.phase }, { on := 6, ground := Go.Ground.phase }, { on := 7, ground := Go.Ground.phase }], guard := none }) rfl (fun K hK => ?_) AllReady.nil
      obtain ⟨e0, e1, e2, e3, e4, e5, e6, e7, e8, ef⟩ := P8
      go_simp
      rw [H6.out]
      clear e0 e1 e2 e3 e4 e5 e6 e7 e8 ef
      refine hK _ _ ?_
      clear hK K
      try simp only [Act.put, List.setIfInBounds_toArray, List.set_cons_zero, List.set_cons_succ]
      refine wpAny_done (by kernel_rfl) ?_ _
      go_wp2_with fail
      go_meet
      case rel => exact ⟨_, _, _, rfl, rfl, rfl, E9⟩
    refine AllReadyG.cons (o := { dst := some 7, op := Go.Op.alloc 24, type := 0, pos := "law.go:224", after := #[], guard := none }) rfl (fun K hK => ?_) AllReadyG.nil
    go_simp
    refine hK.out _ _ (HC.out _ ((k0.alloc _).alloc _)) (fun hHeld2 => ?_)
    clear hK K hHeld1
    try simp only [Act.put, List.setIfInBounds_toArray, List.set_cons_zero, List.set_cons_succ]
    refine wpAnyG_ready (rs := [3]) (by kernel_rfl) (by simp) ?_
    refine AllReadyG.cons (o := { dst := some 6, op := Go.Op.alloc 24, type := 0, pos := "law.go:224", after := #[], guard := none }) rfl (fun K hK => ?_) AllReadyG.nil
    go_simp
    obtain ⟨zz0, zz1, zz2, kz⟩ := three_new U0
    replace kz := k0.trans kz (fun z hz => Or.inl hz)
    generalize ((U0.alloc (.cells _ 24)).alloc (.cells _ 24)).alloc (.cells _ 24) = U3 at zz0 zz1 zz2 kz ⊢
    have E9 := HE.out U3 (U0.heap.size + 2) (U0.heap.size + 1) (U0.heap.size) kz zz2 zz1 zz0 (by omega) (by have := k0.size; omega)
    have P6 := (zz2).cells
    have P7 := (putO_zb zz1 (b := U0.heap.size + 2) (by omega) ⟨R1, R2, R3, R4, R5, R6, R7, R8, R9⟩ (a, n, c)).cells
    have P8 := (putO_zb (putO_zb zz0 (b := U0.heap.size + 2) (by omega) ⟨R1, R2, R3, R4, R5, R6, R7, R8, R9⟩ (a, n, c)) (b := U0.heap.size + 1) (by omega) ⟨R1, R2, R3, R4, R5, R6, R7, R8, R9⟩ (a, n, c)).cells
    obtain ⟨U4, hU4⟩ : ∃ V, V = putO U3 (U0.heap.size + 2) ⟨R1, R2, R3, R4, R5, R6, R7, R8, R9⟩ (a, n, c) := ⟨_, rfl⟩
    have K4 : Kp [] V2 U4 := by rw [hU4]; exact kz.trans (putO_kp _ _ _ _) (fun z hz => Or.inr (by have := k0.size; simp at hz; omega))
    rw [← hU4] at E9 P7 P8
    obtain ⟨U5, hU5⟩ : ∃ V, V = putO U4 (U0.heap.size + 1) ⟨R1, R2, R3, R4, R5, R6, R7, R8, R9⟩ (a, n, c) := ⟨_, rfl⟩
    have K5 : Kp [] V2 U5 := by rw [hU5]; exact K4.trans (putO_kp _ _ _ _) (fun z hz => Or.inr (by have := k0.size; simp at hz; omega))
    rw [← hU5] at E9 P8
    obtain ⟨U6, hU6⟩ : ∃ V, V = putO U5 (U0.heap.size) ⟨R1, R2, R3, R4, R5, R6, R7, R8, R9⟩ (a, n, c) := ⟨_, rfl⟩
    rw [← hU6] at E9
    unfold putO put9 at hU4 hU5 hU6
    simp only at hU4 hU5 hU6
    have H4 : Hid (_ = U4) := hU4.symm
    have H5 : Hid (_ = U5) := hU5.symm
    have H6 : Hid (_ = U6) := hU6.symm
    have HC3 := HC.out _ kz
    clear hU4 hU5 hU6 zz0 zz1 zz2
    refine hK.out _ _ HC3 (fun hHeld3 => ?_)
    clear hK K hHeld2
    try simp only [Act.put, List.setIfInBounds_toArray, List.set_cons_zero, List.set_cons_succ]
    refine wpAnyG_ready (rs := [6]) (by kernel_rfl) (by simp) ?_
    refine AllReadyG.cons (o := { dst := none, op := Go.Op.store 24 (Go.Operand.tmp 6) (Go.Operand.tmp 23), type := 0, pos := "law.go:224", after := #[{ on := 3, ground := Go.Ground.data }, { on := 0, ground := Go.Ground.data }, { on := 0, ground := Go.Ground.phase }, { on := 1, ground := Go.Ground.textOnly Go.Departure.lateStores }, { on := 2, ground := Go.Ground.textOnly Go.Departure.lateStores }, { on := 3, ground := Go.Ground.phase }, { on := 4, ground := Go.Ground.phase }, { on := 5, ground := Go.Ground.phase }], guard := none }) rfl (fun K hK => ?_) AllReadyG.nil
    obtain ⟨e0, e1, e2, e3, e4, e5, e6, e7, e8, ef⟩ := P6
    go_simp
    rw [H4.out]
    clear e0 e1 e2 e3 e4 e5 e6 e7 e8 ef
    refine hK.out _ _ (HC.out _ K4) (fun hHeld4 => ?_)
    clear hK K hHeld3
    try simp only [Act.put, List.setIfInBounds_toArray, List.set_cons_zero, List.set_cons_succ]
    refine wpAnyG_ready (rs := [7]) (by kernel_rfl) (by simp) ?_
    refine AllReadyG.cons (o := { dst := none, op := Go.Op.store 24 (Go.Operand.tmp 7) (Go.Operand.tmp 24), type := 0, pos := "law.go:224", after := #[{ on := 4, ground := Go.Ground.data }, { on := 1, ground := Go.Ground.data }, { on := 6, ground := Go.Ground.chain }, { on := 0, ground := Go.Ground.phase }, { on := 1, ground := Go.Ground.phase }, { on := 2, ground := Go.Ground.textOnly Go.Departure.lateStores }, { on := 3, ground := Go.Ground.phase }, { on := 4, ground := Go.Ground.phase }, { on := 5, ground := Go.Ground.phase }, { on := 6, ground := Go.Ground.phase }], guard := none }) rfl (fun K hK => ?_) AllReadyG.nil
    obtain ⟨e0, e1, e2, e3, e4, e5, e6, e7, e8, ef⟩ := P7
    go_simp
    rw [H5.out]
    clear e0 e1 e2 e3 e4 e5 e6 e7 e8 ef
    refine hK.out _ _ (HC.out _ K5) (fun hHeld5 => ?_)
    clear hK K hHeld4
    try simp only [Act.put, List.setIfInBounds_toArray, List.set_cons_zero, List.set_cons_succ]
    refine wpAnyG_free (by kernel_rfl) ?_
    refine wpAny_ready (rs := [8]) (by kernel_rfl) (by simp) ?_
    refine AllReady.cons (o := { dst := none, op := Go.Op.store 24 (Go.Operand.tmp 8) (Go.Operand.tmp 25), type := 0, pos := "law.go:224", after := #[{ on := 5, ground := Go.Ground.data }, { on := 2, ground := Go.Ground.data }, { on := 7, ground := Go.Ground.chain }, { on := 0, ground := Go.Ground.phase }, { on := 1, ground := Go.Ground.phase }, { on := 2, ground := Go.Ground.phase }, { on := 3, ground := Go.Ground.phase }, { on := 4, ground := Go.Ground.phase }, { on := 5, ground := Go.Ground.phase }, { on := 6, ground := Go.Ground.phase }, { on := 7, ground := Go.Ground.phase }], guard := none }) rfl (fun K hK => ?_) AllReady.nil
    obtain ⟨e0, e1, e2, e3, e4, e5, e6, e7, e8, ef⟩ := P8
    go_simp
    rw [H6.out]
    clear e0 e1 e2 e3 e4 e5 e6 e7 e8 ef
    refine hK _ _ ?_
    clear hK K
    try simp only [Act.put, List.setIfInBounds_toArray, List.set_cons_zero, List.set_cons_succ]
    refine wpAny_done (by kernel_rfl) ?_ _
    go_wp2_with fail
    go_meet
    case rel => exact ⟨_, _, _, rfl, rfl, rfl, E9⟩
  case rest =>
    obtain ⟨gx, gy, gz, rfl, rfl, rfl, O⟩ := hcut
    clear f0 f1 f2 f3 f4 f5 f6 f7 f8 B4
    obtain ⟨⟨x1, x2⟩, ⟨x3, x4⟩, ⟨x5, x6⟩, HT3⟩ := O.turn
    clear O
    simp only at x1 x3 x5 HT3
    go_upto_region 9 with fail
    clear x1 x2 x3 x4 x5 x6
    generalize ((wc.setCell ⟨gx, 5, none⟩ (.int .i64 3)).setCell ⟨gy, 1, none⟩ (.int .i64 (-1))).setCell ⟨gz, 0, none⟩ (.int .i64 12) = W3 at HT3 ⊢
    obtain ⟨b0, bx, by_, bz, kW⟩ := HT3.out
    have HN : Hid (∀ V, Kp [] W3 V → Nine V g 0 ⟨R1, R2, R3, R4, R5, R6, R7, R8, R9⟩ (a, n, c) ∧ Nine V gx 0 ⟨R1, R2, R3, R4, R5, 3, R7, R8, R9⟩ (a, n, c) ∧ Nine V gy 0 ⟨R1, -1, R3, R4, R5, R6, R7, R8, R9⟩ (a, n, c) ∧ Nine V gz 0 ⟨12, R2, R3, R4, R5, R6, R7, R8, R9⟩ (a, n, c) ∧ Ar V (⟨R1, R2, R3, R4, R5, R6, R7, R8, R9⟩, a, n, c) ∧ Kp [] w V) := fun V kV => ⟨(nine_of b0).kept kV (by simp), (nine_of bx).kept kV (by simp), (nine_of by_).kept kV (by simp), (nine_of bz).kept kV (by simp), (A4.kept kW).kept kV, (k5.trans kW (fun z hz => Or.inl hz)).trans kV (fun z hz => Or.inl hz)⟩
    have CX : Hid (∀ V, Ar V (⟨R1, R2, R3, R4, R5, R6, R7, R8, R9⟩, a, n, c) → Calls Tryd.prog 8 #[ov ⟨R1, R2, R3, R4, R5, 3, R7, R8, R9⟩ (a, n, c)] V fun e w' => e = .returned (.bool false) ∧ Kp [] V w') := fun V hV => by
      have h := right_any V ⟨R1, R2, R3, R4, R5, 3, R7, R8, R9⟩ (a, n, c) hV.rp (by simp only; omega)
      rw [(own_x hR).1] at h
      exact h
    have CY : Hid (∀ V, Ar V (⟨R1, R2, R3, R4, R5, R6, R7, R8, R9⟩, a, n, c) → Calls Tryd.prog 8 #[ov ⟨R1, -1, R3, R4, R5, R6, R7, R8, R9⟩ (a, n, c)] V fun e w' => e = .returned (.bool false) ∧ Kp [] V w') := fun V hV => by
      have h := right_any V ⟨R1, -1, R3, R4, R5, R6, R7, R8, R9⟩ (a, n, c) hV.rp (by simp only; omega)
      rw [own_y ⟨R1, R2, R3, R4, R5, R6, R7, R8, R9⟩] at h
      exact h
    have CZ : Hid (∀ V, Ar V (⟨R1, R2, R3, R4, R5, R6, R7, R8, R9⟩, a, n, c) → Calls Tryd.prog 8 #[ov ⟨12, R2, R3, R4, R5, R6, R7, R8, R9⟩ (a, n, c)] V fun e w' => e = .returned (.bool false) ∧ Kp [] V w') := fun V hV => by
      have h := right_any V ⟨12, R2, R3, R4, R5, R6, R7, R8, R9⟩ (a, n, c) hV.rp (by simp only; omega)
      rw [(own_z hR).1] at h
      exact h
    have SX : Hid (∀ V, Ar V (⟨R1, R2, R3, R4, R5, R6, R7, R8, R9⟩, a, n, c) → Calls Tryd.prog 12 #[ov ⟨R1, R2, R3, R4, R5, R6, R7, R8, R9⟩ (a, n, c), ov ⟨R1, R2, R3, R4, R5, 3, R7, R8, R9⟩ (a, n, c)] V fun e w' => e = .returned (.bool false) ∧ Kp [] V w') := fun V hV => by
      have h := osame_any V ⟨R1, R2, R3, R4, R5, R6, R7, R8, R9⟩ ⟨R1, R2, R3, R4, R5, 3, R7, R8, R9⟩ (a, n, c) (a, n, c) hV.rp hV.rp (by simp only; omega) (by simp only; omega)
      rw [(own_x hR).2] at h
      exact h
    have SZ : Hid (∀ V, Ar V (⟨R1, R2, R3, R4, R5, R6, R7, R8, R9⟩, a, n, c) → Calls Tryd.prog 12 #[ov ⟨R1, R2, R3, R4, R5, R6, R7, R8, R9⟩ (a, n, c), ov ⟨12, R2, R3, R4, R5, R6, R7, R8, R9⟩ (a, n, c)] V fun e w' => e = .returned (.bool false) ∧ Kp [] V w') := fun V hV => by
      have h := osame_any V ⟨R1, R2, R3, R4, R5, R6, R7, R8, R9⟩ ⟨12, R2, R3, R4, R5, R6, R7, R8, R9⟩ (a, n, c) (a, n, c) hV.rp hV.rp (by simp only; omega) (by simp only; omega)
      rw [(own_z hR).2] at h
      exact h
    clear b0 bx by_ bz HT3 A4 k5 kW
    simp only [ov, Nine, Nat.zero_add] at HN CX CY CZ SX SZ
    have kk : Kp [] W3 W3 := Kp.refl _ _
    obtain ⟨⟨f0, f1, f2, f3, f4, f5, f6, f7, f8⟩, ⟨x0, x1, x2, x3, x4, x5, x6, x7, x8⟩, ⟨y0, y1, y2, y3, y4, y5, y6, y7, y8⟩, ⟨z0, z1, z2, z3, z4, z5, z6, z7, z8⟩, A5, k6⟩ := HN.out _ kk
    go_wp2_with fail
    refine (CX.out _ A5).mono ?_
    rintro e V3 ⟨rfl, u⟩
    replace kk := kk.trans u (fun z hz => Or.inl hz)
    clear u A5 k6 CX
    clear f0 f1 f2 f3 f4 f5 f6 f7 f8 x0 x1 x2 x3 x4 x5 x6 x7 x8 y0 y1 y2 y3 y4 y5 y6 y7 y8 z0 z1 z2 z3 z4 z5 z6 z7 z8
    obtain ⟨⟨f0, f1, f2, f3, f4, f5, f6, f7, f8⟩, ⟨x0, x1, x2, x3, x4, x5, x6, x7, x8⟩, ⟨y0, y1, y2, y3, y4, y5, y6, y7, y8⟩, ⟨z0, z1, z2, z3, z4, z5, z6, z7, z8⟩, A5, k6⟩ := HN.out _ kk
    go_wp2_with fail
    refine (CY.out _ A5).mono ?_
    rintro e V4 ⟨rfl, u⟩
    replace kk := kk.trans u (fun z hz => Or.inl hz)
    clear u A5 k6 CY
    clear f0 f1 f2 f3 f4 f5 f6 f7 f8 x0 x1 x2 x3 x4 x5 x6 x7 x8 y0 y1 y2 y3 y4 y5 y6 y7 y8 z0 z1 z2 z3 z4 z5 z6 z7 z8
    obtain ⟨⟨f0, f1, f2, f3, f4, f5, f6, f7, f8⟩, ⟨x0, x1, x2, x3, x4, x5, x6, x7, x8⟩, ⟨y0, y1, y2, y3, y4, y5, y6, y7, y8⟩, ⟨z0, z1, z2, z3, z4, z5, z6, z7, z8⟩, A5, k6⟩ := HN.out _ kk
    go_wp2_with fail
    refine (CZ.out _ A5).mono ?_
    rintro e V5 ⟨rfl, u⟩
    replace kk := kk.trans u (fun z hz => Or.inl hz)
    clear u A5 k6 CZ
    clear f0 f1 f2 f3 f4 f5 f6 f7 f8 x0 x1 x2 x3 x4 x5 x6 x7 x8 y0 y1 y2 y3 y4 y5 y6 y7 y8 z0 z1 z2 z3 z4 z5 z6 z7 z8
    obtain ⟨⟨f0, f1, f2, f3, f4, f5, f6, f7, f8⟩, ⟨x0, x1, x2, x3, x4, x5, x6, x7, x8⟩, ⟨y0, y1, y2, y3, y4, y5, y6, y7, y8⟩, ⟨z0, z1, z2, z3, z4, z5, z6, z7, z8⟩, A5, k6⟩ := HN.out _ kk
    go_wp2_with fail
    refine (SX.out _ A5).mono ?_
    rintro e V6 ⟨rfl, u⟩
    replace kk := kk.trans u (fun z hz => Or.inl hz)
    clear u A5 k6 SX
    clear f0 f1 f2 f3 f4 f5 f6 f7 f8 x0 x1 x2 x3 x4 x5 x6 x7 x8 y0 y1 y2 y3 y4 y5 y6 y7 y8 z0 z1 z2 z3 z4 z5 z6 z7 z8
    obtain ⟨⟨f0, f1, f2, f3, f4, f5, f6, f7, f8⟩, ⟨x0, x1, x2, x3, x4, x5, x6, x7, x8⟩, ⟨y0, y1, y2, y3, y4, y5, y6, y7, y8⟩, ⟨z0, z1, z2, z3, z4, z5, z6, z7, z8⟩, A5, k6⟩ := HN.out _ kk
    go_wp2_with fail
    refine (SZ.out _ A5).mono ?_
    rintro e V7 ⟨rfl, u⟩
    replace kk := kk.trans u (fun z hz => Or.inl hz)
    clear u A5 k6 SZ
    clear f0 f1 f2 f3 f4 f5 f6 f7 f8 x0 x1 x2 x3 x4 x5 x6 x7 x8 y0 y1 y2 y3 y4 y5 y6 y7 y8 z0 z1 z2 z3 z4 z5 z6 z7 z8
    have HN2 : Hid (∀ V, Kp [] W3 V → _ ∧ _ ∧ _) := fun V kV => (⟨(HN.out V kV).1, (HN.out V kV).2.2.2.2.1, (HN.out V kV).2.2.2.2.2⟩)
    clear HN
    obtain ⟨⟨f0, f1, f2, f3, f4, f5, f6, f7, f8⟩, A5, k6⟩ := HN2.out _ kk
    generalize V7 = V at kk f0 f1 f2 f3 f4 f5 f6 f7 f8 A5 k6 ⊢
    obtain ⟨RX, hRX⟩ : ∃ z : ByteArray, z = R9 ++ ⟨#[120]⟩ := ⟨_, rfl⟩
    have hTV : Hid (∀ V, Kp [] w V → Tb V) := fun V kV => hT.kept kV
    have h64 := right_64 hR
    have h64u : in64 ⟨R1, R2, R3, R4, R5, R6, R7, R8, RX⟩ := by unfold in64 at h64 ⊢; exact h64
    have hru : ∀ V, Ar V (⟨R1, R2, R3, R4, R5, R6, R7, R8, R9⟩, a, n, c) → At V (⟨R1, R2, R3, R4, R5, R6, R7, R8, RX⟩, a, n, c) := fun V hV => by
      have h := hV.rp
      unfold At at h ⊢
      exact h
    have hlen : Hid (R7.size + RX.size + (ab R8).length ≤ 800000 ∧ R7.size + R9.size + (ab R8).length ≤ 800000) := by
      have h1 := small_ab hsm
      have h2 := hsm.1
      have h3 := hsm.2.1
      simp only at h1 h2 h3
      have e1 : (⟨#[120]⟩ : ByteArray).size = 1 := rfl
      refine ⟨?_, by omega⟩
      rw [hRX, ByteArray.size_append, e1]
      omega
    have HTU : Hid (∀ V, Kp [] w V → Ar V (⟨R1, R2, R3, R4, R5, R6, R7, R8, R9⟩, a, n, c) → Calls Tryd.prog 10 #[ov ⟨R1, R2, R3, R4, R5, R6, R7, R8, RX⟩ (a, n, c)] V fun e w' => e = .returned (.string (lnO itb ⟨R1, R2, R3, R4, R5, R6, R7, R8, RX⟩)) ∧ Kp [] V w') := fun V kV hV => text_any V (hTV.out V kV) ⟨R1, R2, R3, R4, R5, R6, R7, R8, RX⟩ (a, n, c) (hru V hV) h64u hlen.out.1
    have HTO : Hid (∀ V, Kp [] w V → Ar V (⟨R1, R2, R3, R4, R5, R6, R7, R8, R9⟩, a, n, c) → Calls Tryd.prog 10 #[ov ⟨R1, R2, R3, R4, R5, R6, R7, R8, R9⟩ (a, n, c)] V fun e w' => e = .returned (.string (lnO itb ⟨R1, R2, R3, R4, R5, R6, R7, R8, R9⟩)) ∧ Kp [] V w') := fun V kV hV => text_any V (hTV.out V kV) ⟨R1, R2, R3, R4, R5, R6, R7, R8, R9⟩ (a, n, c) hV.rp h64 hlen.out.2
    have hne : ¬ lnO itb ⟨R1, R2, R3, R4, R5, R6, R7, R8, RX⟩ = lnO itb ⟨R1, R2, R3, R4, R5, R6, R7, R8, R9⟩ := by rw [hRX]; exact own_u ⟨R1, R2, R3, R4, R5, R6, R7, R8, R9⟩
    generalize lnO itb ⟨R1, R2, R3, R4, R5, R6, R7, R8, RX⟩ = TU at HTU hne
    generalize lnO itb ⟨R1, R2, R3, R4, R5, R6, R7, R8, R9⟩ = TO at HTO hne
    have hneB : (TU.toList == TO.toList) = false := by
      cases hx : eqs TU TO with
      | false => exact hx
      | true => exact absurd (eqs_iff.1 hx) hne
    have HKN : Hid (∀ V, Kp [] w V → Calls Tryd.prog 14 #[] V fun e w' => e = .returned (.bool true) ∧ Kp [] V w') := fun V kV => known_any V (hTV.out V kV)
    have h9s : R9.size ≤ 30 := hsm.2.1
    simp only [ov] at HTU HTO
    clear hTV h64 h64u hru hlen hne hT
    subst hRX
    have HW : Hid (R1 ≠ 1 → R1 ≠ 10 → ∀ V (x : Att) (q : Sl), At V (⟨R1, R2, R3, R4, R5, R6, R7, [x], R9⟩, q) → q.2.1 ≤ 100000 → Calls Tryd.prog 8 #[ov ⟨R1, R2, R3, R4, R5, R6, R7, [x], R9⟩ q] V fun e w' => e = .returned (.bool false) ∧ Kp [] V w') := fun z1 z2 V x q hV hq => by
      have h := right_any V ⟨R1, R2, R3, R4, R5, R6, R7, [x], R9⟩ q hV hq
      rw [own_w (o := ⟨R1, R2, R3, R4, R5, R6, R7, R8, R9⟩) z1 z2 x] at h
      exact h
    clear hR hsm hfit
    go_upto_region 11 with fail
    by_cases z1 : R1 = 1
    · subst z1
      have ka : Kp [] V (V.alloc (.cells (oc ⟨1, R2, R3, R4, R5, R6, R7, R8, R9⟩ (a, n, c)) 24)) := (Kp.refl _ _).alloc _
      have e8 : (V.alloc (.cells (oc ⟨1, R2, R3, R4, R5, R6, R7, R8, R9⟩ (a, n, c)) 24)).cell? ⟨g, 8, none⟩ = some (.string R9) := by rw [ka.cell (block_lt_of_cell f8) (by simp)]; exact f8
      have kb : Kp [] V (V.alloc (.cells (oc ⟨1, R2, R3, R4, R5, R6, R7, R8, R9 ++ ⟨#[120]⟩⟩ (a, n, c)) 24)) := (Kp.refl _ _).alloc _
      have bu := nine_of (heap_new V (.cells (oc ⟨1, R2, R3, R4, R5, R6, R7, R8, R9 ++ ⟨#[120]⟩⟩ (a, n, c)) 24))
      have bo : Nine (V.alloc (.cells (oc ⟨1, R2, R3, R4, R5, R6, R7, R8, R9 ++ ⟨#[120]⟩⟩ (a, n, c)) 24)) g 0 ⟨1, R2, R3, R4, R5, R6, R7, R8, R9⟩ (a, n, c) := Nine.kept (⟨f0, f1, f2, f3, f4, f5, f6, f7, f8⟩ : Nine V g 0 ⟨1, R2, R3, R4, R5, R6, R7, R8, R9⟩ (a, n, c)) kb (by simp)
      have A6 := A5.kept kb
      have k7 := k6.trans kb (fun z hz => Or.inl hz)
      simp only [oc] at e8 bu bo A6 k7
      clear ka kb A5
      go_upto_region 18 with fail
      clear f0 f1 f2 f3 f4 f5 f6 f7 f8 e8
      generalize V.alloc (.cells _ 24) = W8 at bu bo A6 k7 ⊢
      generalize V.heap.size = gu at bu ⊢
      have HC : Hid (∀ U, Kp [] W8 U → Nine U gu 0 ⟨1, R2, R3, R4, R5, R6, R7, R8, R9 ++ ⟨#[120]⟩⟩ (a, n, c) ∧ Nine U g 0 ⟨1, R2, R3, R4, R5, R6, R7, R8, R9⟩ (a, n, c)) := fun U kU => ⟨bu.kept kU (by simp), bo.kept kU (by simp)⟩
      have HA : Hid (∀ U, Kp [] W8 U → Kp [] w U ∧ Ar U (⟨1, R2, R3, R4, R5, R6, R7, R8, R9⟩, a, n, c)) := fun U kU => ⟨k7.trans kU (fun z hz => Or.inl hz), A6.kept kU⟩
      simp only [Nine, Nat.zero_add] at HC
      clear bu bo A6 k7
      obtain ⟨U0, hU0⟩ : ∃ U, U = W8.drew := ⟨_, rfl⟩
      have k0 : Kp [] W8 U0 := by rw [hU0]; exact (Kp.refl _ _).drew
      refine wp_region_g (S := fun U => (U.cell? ⟨gu, 0, none⟩ = some (.int .i64 1) ∧ U.cell? ⟨gu, 1, none⟩ = some (.int .i64 R2) ∧ U.cell? ⟨gu, 2, none⟩ = some (.int .i64 R3) ∧ U.cell? ⟨gu, 3, none⟩ = some (.int .i64 R4) ∧ U.cell? ⟨gu, 4, none⟩ = some (.int .i64 R5) ∧ U.cell? ⟨gu, 5, none⟩ = some (.int .i64 R6) ∧ U.cell? ⟨gu, 6, none⟩ = some (.string R7) ∧ U.cell? ⟨gu, 7, none⟩ = some (.slice a n c) ∧ U.cell? ⟨gu, 8, none⟩ = some (.string (R9 ++ ⟨#[120]⟩))) ∧ U.cell? ⟨g, 0, none⟩ = some (.int .i64 1) ∧ U.cell? ⟨g, 1, none⟩ = some (.int .i64 R2) ∧ U.cell? ⟨g, 2, none⟩ = some (.int .i64 R3) ∧ U.cell? ⟨g, 3, none⟩ = some (.int .i64 R4) ∧ U.cell? ⟨g, 4, none⟩ = some (.int .i64 R5) ∧ U.cell? ⟨g, 5, none⟩ = some (.int .i64 R6) ∧ U.cell? ⟨g, 6, none⟩ = some (.string R7) ∧ U.cell? ⟨g, 7, none⟩ = some (.slice a n c) ∧ U.cell? ⟨g, 8, none⟩ = some (.string R9)) (T := []) (by kernel_rfl) (by rw [← hU0]; exact HC.out _ k0) (fun hHeld => ?_)
      rw [← hU0] at hHeld ⊢
      clear hU0
      refine wpAnyG_take (i := 0) (oi := { dst := some 70, op := Go.Op.load 24 (Go.Operand.tmp 10), type := 24, pos := "law.go:240", after := #[], guard := none }) (v := ?_) rfl (by kernel_rfl) (by kernel_rfl) (by kernel_rfl) (by kernel_rfl) (fun _ _ _ h => h) (Or.inl ⟨by rfl, ?_⟩) (by assumption) ?_
      rotate_left
      · (intro w hSw; (obtain ⟨⟨u0, u1, u2, u3, u4, u5, u6, u7, u8⟩, y0, y1, y2, y3, y4, y5, y6, y7, y8⟩ := hSw); go_simp; try with_reducible rfl)
      simp only [Act.put, List.setIfInBounds_toArray, List.set_cons_zero, List.set_cons_succ]
      refine wpAnyG_take (i := 2) (oi := { dst := some 72, op := Go.Op.load 24 (Go.Operand.tmp 5), type := 24, pos := "law.go:240", after := #[], guard := none }) (v := ?_) rfl (by kernel_rfl) (by kernel_rfl) (by kernel_rfl) (by kernel_rfl) (fun _ _ _ h => h) (Or.inl ⟨by rfl, ?_⟩) (by assumption) ?_
      rotate_left
      · (intro w hSw; (obtain ⟨⟨u0, u1, u2, u3, u4, u5, u6, u7, u8⟩, y0, y1, y2, y3, y4, y5, y6, y7, y8⟩ := hSw); go_simp; try with_reducible rfl)
      simp only [Act.put, List.setIfInBounds_toArray, List.set_cons_zero, List.set_cons_succ]
      refine wpAnyG_ready (rs := [1]) (by kernel_rfl) (by simp) ?_
      refine AllReadyG.cons (o := { dst := some 71, op := Go.Op.call { callee := Go.Callee.value (Go.Operand.func 10), args := #[Go.Operand.tmp 70], argTypes := #[24] }, type := 9, pos := "law.go:240", after := #[{ on := 0, ground := Go.Ground.data }], guard := none }) rfl (fun K hK => ?_) AllReadyG.nil
      go_simp
      go_at_call 10
      refine (HTU.out _ (HA.out _ k0).1 (HA.out _ k0).2).mono ?_
      rintro e U1 ⟨rfl, v1⟩
      have k1 : Kp [] W8 U1 := k0.trans v1 (fun z hz => Or.inl hz)
      go_wp2_with fail
      refine hK.out _ _ (HC.out _ k1) (fun hHeld1 => ?_)
      clear hK K hHeld
      try simp only [Act.put, List.setIfInBounds_toArray, List.set_cons_zero, List.set_cons_succ]
      refine wpAnyG_ready (rs := [3]) (by kernel_rfl) (by simp) ?_
      refine AllReadyG.cons (o := { dst := some 73, op := Go.Op.call { callee := Go.Callee.value (Go.Operand.func 10), args := #[Go.Operand.tmp 72], argTypes := #[24] }, type := 9, pos := "law.go:240", after := #[{ on := 2, ground := Go.Ground.data }, { on := 1, ground := Go.Ground.chain }], guard := none }) rfl (fun K hK => ?_) AllReadyG.nil
      go_simp
      go_at_call 10
      refine (HTO.out _ (HA.out _ k1).1 (HA.out _ k1).2).mono ?_
      rintro e U2 ⟨rfl, v2⟩
      have k2 : Kp [] W8 U2 := k1.trans v2 (fun z hz => Or.inl hz)
      go_wp2_with fail
      refine hK.out _ _ (HC.out _ k2) (fun hHeld2 => ?_)
      clear hK K hHeld1
      try simp only [Act.put, List.setIfInBounds_toArray, List.set_cons_zero, List.set_cons_succ]
      refine wpAnyG_pure (i := 4) (oi := { dst := some 74, op := Go.Op.binOp Go.BinOp.neq 9 (Go.Operand.tmp 71) (Go.Operand.tmp 73) 9, type := 4, pos := "law.go:240", after := #[{ on := 1, ground := Go.Ground.data }, { on := 3, ground := Go.Ground.data }], guard := none }) (v := ?_) rfl (by kernel_rfl) (by kernel_rfl) (by kernel_rfl) (by kernel_rfl) (fun _ _ _ h => h) (Or.inl ⟨by rfl, ?_⟩) (by assumption) ?_
      rotate_left
      · (intro w; go_simp; try with_reducible rfl)
      simp only [Act.put, List.setIfInBounds_toArray, List.set_cons_zero, List.set_cons_succ]
      refine wpAnyG_pure (i := 5) (oi := { dst := some 75, op := Go.Op.move (Go.Operand.tmp 74), type := 4, pos := "law.go:240", after := #[{ on := 4, ground := Go.Ground.data }, { on := 3, ground := Go.Ground.chain }], guard := none }) (v := ?_) rfl (by kernel_rfl) (by kernel_rfl) (by kernel_rfl) (by kernel_rfl) (fun _ _ _ h => h) (Or.inl ⟨by rfl, ?_⟩) (by assumption) ?_
      rotate_left
      · (intro w; go_simp; try with_reducible rfl)
      simp only [Act.put, List.setIfInBounds_toArray, List.set_cons_zero, List.set_cons_succ]
      refine wpAnyG_ready (rs := [6]) (by kernel_rfl) (by simp) ?_
      refine AllReadyG.cons (o := { dst := some 76, op := Go.Op.call { callee := Go.Callee.value (Go.Operand.func 14), args := #[], argTypes := #[] }, type := 4, pos := "law.go:240", after := #[{ on := 5, ground := Go.Ground.chain }, { on := 5, ground := Go.Ground.guard }], guard := some (5, true) }) rfl (fun K hK => ?_) AllReadyG.nil
      go_simp
      go_at_call 14
      refine (HKN.out _ (HA.out _ k2).1).mono ?_
      rintro e U3 ⟨rfl, v3⟩
      have k3 : Kp [] W8 U3 := k2.trans v3 (fun z hz => Or.inl hz)
      go_wp2_with fail
      refine hK.out _ _ (HC.out _ k3) (fun hHeld3 => ?_)
      clear hK K hHeld2
      try simp only [Act.put, List.setIfInBounds_toArray, List.set_cons_zero, List.set_cons_succ]
      refine wpAnyG_pure (i := 7) (oi := { dst := some 77, op := Go.Op.pick (Go.Operand.tmp 75) (Go.Operand.tmp 76) (Go.Operand.const (Go.Value.bool false)), type := 4, pos := "law.go:240", after := #[{ on := 5, ground := Go.Ground.data }, { on := 6, ground := Go.Ground.data }], guard := none }) (v := ?_) rfl (by kernel_rfl) (by kernel_rfl) (by kernel_rfl) (by kernel_rfl) (fun _ _ _ h => h) (Or.inl ⟨by rfl, ?_⟩) (by assumption) ?_
      rotate_left
      · (intro w; go_simp; try with_reducible rfl)
      simp only [Act.put, List.setIfInBounds_toArray, List.set_cons_zero, List.set_cons_succ]
      refine wpAnyG_pure (i := 8) (oi := { dst := some 4, op := Go.Op.assign (Go.Operand.tmp 77), type := 4, pos := "law.go:240", after := #[{ on := 7, ground := Go.Ground.data }, { on := 6, ground := Go.Ground.chain }, { on := 0, ground := Go.Ground.phase }, { on := 1, ground := Go.Ground.phase }, { on := 2, ground := Go.Ground.phase }, { on := 3, ground := Go.Ground.phase }, { on := 4, ground := Go.Ground.phase }, { on := 5, ground := Go.Ground.phase }, { on := 6, ground := Go.Ground.phase }, { on := 7, ground := Go.Ground.phase }], guard := none }) (v := ?_) rfl (by kernel_rfl) (by kernel_rfl) (by kernel_rfl) (by kernel_rfl) (fun _ _ _ h => h) (Or.inl ⟨by rfl, ?_⟩) (by assumption) ?_
      rotate_left
      · (intro w; go_simp; try with_reducible rfl)
      simp only [Act.put, List.setIfInBounds_toArray, List.set_cons_zero, List.set_cons_succ]
      refine wpAnyG_free (by kernel_rfl) ?_
      refine wpAny_done (by kernel_rfl) ?_ _
      have kz := (HA.out _ k3).1
      go_wp2
      go_ret
      exact ⟨rfl, kz⟩
    · by_cases z2 : R1 = 10
      · subst z2
        have ka : Kp [] V (V.alloc (.cells (oc ⟨10, R2, R3, R4, R5, R6, R7, R8, R9⟩ (a, n, c)) 24)) := (Kp.refl _ _).alloc _
        have e8 : (V.alloc (.cells (oc ⟨10, R2, R3, R4, R5, R6, R7, R8, R9⟩ (a, n, c)) 24)).cell? ⟨g, 8, none⟩ = some (.string R9) := by rw [ka.cell (block_lt_of_cell f8) (by simp)]; exact f8
        have kb : Kp [] V (V.alloc (.cells (oc ⟨10, R2, R3, R4, R5, R6, R7, R8, R9 ++ ⟨#[120]⟩⟩ (a, n, c)) 24)) := (Kp.refl _ _).alloc _
        have bu := nine_of (heap_new V (.cells (oc ⟨10, R2, R3, R4, R5, R6, R7, R8, R9 ++ ⟨#[120]⟩⟩ (a, n, c)) 24))
        have bo : Nine (V.alloc (.cells (oc ⟨10, R2, R3, R4, R5, R6, R7, R8, R9 ++ ⟨#[120]⟩⟩ (a, n, c)) 24)) g 0 ⟨10, R2, R3, R4, R5, R6, R7, R8, R9⟩ (a, n, c) := Nine.kept (⟨f0, f1, f2, f3, f4, f5, f6, f7, f8⟩ : Nine V g 0 ⟨10, R2, R3, R4, R5, R6, R7, R8, R9⟩ (a, n, c)) kb (by simp)
        have A6 := A5.kept kb
        have k7 := k6.trans kb (fun z hz => Or.inl hz)
        simp only [oc] at e8 bu bo A6 k7
        clear ka kb A5
        go_upto_region 18 with fail
        clear f0 f1 f2 f3 f4 f5 f6 f7 f8 e8
        generalize V.alloc (.cells _ 24) = W8 at bu bo A6 k7 ⊢
        generalize V.heap.size = gu at bu ⊢
        have HC : Hid (∀ U, Kp [] W8 U → Nine U gu 0 ⟨10, R2, R3, R4, R5, R6, R7, R8, R9 ++ ⟨#[120]⟩⟩ (a, n, c) ∧ Nine U g 0 ⟨10, R2, R3, R4, R5, R6, R7, R8, R9⟩ (a, n, c)) := fun U kU => ⟨bu.kept kU (by simp), bo.kept kU (by simp)⟩
        have HA : Hid (∀ U, Kp [] W8 U → Kp [] w U ∧ Ar U (⟨10, R2, R3, R4, R5, R6, R7, R8, R9⟩, a, n, c)) := fun U kU => ⟨k7.trans kU (fun z hz => Or.inl hz), A6.kept kU⟩
        simp only [Nine, Nat.zero_add] at HC
        clear bu bo A6 k7
        obtain ⟨U0, hU0⟩ : ∃ U, U = W8.drew := ⟨_, rfl⟩
        have k0 : Kp [] W8 U0 := by rw [hU0]; exact (Kp.refl _ _).drew
        refine wp_region_g (S := fun U => (U.cell? ⟨gu, 0, none⟩ = some (.int .i64 10) ∧ U.cell? ⟨gu, 1, none⟩ = some (.int .i64 R2) ∧ U.cell? ⟨gu, 2, none⟩ = some (.int .i64 R3) ∧ U.cell? ⟨gu, 3, none⟩ = some (.int .i64 R4) ∧ U.cell? ⟨gu, 4, none⟩ = some (.int .i64 R5) ∧ U.cell? ⟨gu, 5, none⟩ = some (.int .i64 R6) ∧ U.cell? ⟨gu, 6, none⟩ = some (.string R7) ∧ U.cell? ⟨gu, 7, none⟩ = some (.slice a n c) ∧ U.cell? ⟨gu, 8, none⟩ = some (.string (R9 ++ ⟨#[120]⟩))) ∧ U.cell? ⟨g, 0, none⟩ = some (.int .i64 10) ∧ U.cell? ⟨g, 1, none⟩ = some (.int .i64 R2) ∧ U.cell? ⟨g, 2, none⟩ = some (.int .i64 R3) ∧ U.cell? ⟨g, 3, none⟩ = some (.int .i64 R4) ∧ U.cell? ⟨g, 4, none⟩ = some (.int .i64 R5) ∧ U.cell? ⟨g, 5, none⟩ = some (.int .i64 R6) ∧ U.cell? ⟨g, 6, none⟩ = some (.string R7) ∧ U.cell? ⟨g, 7, none⟩ = some (.slice a n c) ∧ U.cell? ⟨g, 8, none⟩ = some (.string R9)) (T := []) (by kernel_rfl) (by rw [← hU0]; exact HC.out _ k0) (fun hHeld => ?_)
        rw [← hU0] at hHeld ⊢
        clear hU0
        refine wpAnyG_take (i := 0) (oi := { dst := some 70, op := Go.Op.load 24 (Go.Operand.tmp 10), type := 24, pos := "law.go:240", after := #[], guard := none }) (v := ?_) rfl (by kernel_rfl) (by kernel_rfl) (by kernel_rfl) (by kernel_rfl) (fun _ _ _ h => h) (Or.inl ⟨by rfl, ?_⟩) (by assumption) ?_
        rotate_left
        · (intro w hSw; (obtain ⟨⟨u0, u1, u2, u3, u4, u5, u6, u7, u8⟩, y0, y1, y2, y3, y4, y5, y6, y7, y8⟩ := hSw); go_simp; try with_reducible rfl)
        simp only [Act.put, List.setIfInBounds_toArray, List.set_cons_zero, List.set_cons_succ]
        refine wpAnyG_take (i := 2) (oi := { dst := some 72, op := Go.Op.load 24 (Go.Operand.tmp 5), type := 24, pos := "law.go:240", after := #[], guard := none }) (v := ?_) rfl (by kernel_rfl) (by kernel_rfl) (by kernel_rfl) (by kernel_rfl) (fun _ _ _ h => h) (Or.inl ⟨by rfl, ?_⟩) (by assumption) ?_
        rotate_left
        · (intro w hSw; (obtain ⟨⟨u0, u1, u2, u3, u4, u5, u6, u7, u8⟩, y0, y1, y2, y3, y4, y5, y6, y7, y8⟩ := hSw); go_simp; try with_reducible rfl)
        simp only [Act.put, List.setIfInBounds_toArray, List.set_cons_zero, List.set_cons_succ]
        refine wpAnyG_ready (rs := [1]) (by kernel_rfl) (by simp) ?_
        refine AllReadyG.cons (o := { dst := some 71, op := Go.Op.call { callee := Go.Callee.value (Go.Operand.func 10), args := #[Go.Operand.tmp 70], argTypes := #[24] }, type := 9, pos := "law.go:240", after := #[{ on := 0, ground := Go.Ground.data }], guard := none }) rfl (fun K hK => ?_) AllReadyG.nil
        go_simp
        go_at_call 10
        refine (HTU.out _ (HA.out _ k0).1 (HA.out _ k0).2).mono ?_
        rintro e U1 ⟨rfl, v1⟩
        have k1 : Kp [] W8 U1 := k0.trans v1 (fun z hz => Or.inl hz)
        go_wp2_with fail
        refine hK.out _ _ (HC.out _ k1) (fun hHeld1 => ?_)
        clear hK K hHeld
        try simp only [Act.put, List.setIfInBounds_toArray, List.set_cons_zero, List.set_cons_succ]
        refine wpAnyG_ready (rs := [3]) (by kernel_rfl) (by simp) ?_
        refine AllReadyG.cons (o := { dst := some 73, op := Go.Op.call { callee := Go.Callee.value (Go.Operand.func 10), args := #[Go.Operand.tmp 72], argTypes := #[24] }, type := 9, pos := "law.go:240", after := #[{ on := 2, ground := Go.Ground.data }, { on := 1, ground := Go.Ground.chain }], guard := none }) rfl (fun K hK => ?_) AllReadyG.nil
        go_simp
        go_at_call 10
        refine (HTO.out _ (HA.out _ k1).1 (HA.out _ k1).2).mono ?_
        rintro e U2 ⟨rfl, v2⟩
        have k2 : Kp [] W8 U2 := k1.trans v2 (fun z hz => Or.inl hz)
        go_wp2_with fail
        refine hK.out _ _ (HC.out _ k2) (fun hHeld2 => ?_)
        clear hK K hHeld1
        try simp only [Act.put, List.setIfInBounds_toArray, List.set_cons_zero, List.set_cons_succ]
        refine wpAnyG_pure (i := 4) (oi := { dst := some 74, op := Go.Op.binOp Go.BinOp.neq 9 (Go.Operand.tmp 71) (Go.Operand.tmp 73) 9, type := 4, pos := "law.go:240", after := #[{ on := 1, ground := Go.Ground.data }, { on := 3, ground := Go.Ground.data }], guard := none }) (v := ?_) rfl (by kernel_rfl) (by kernel_rfl) (by kernel_rfl) (by kernel_rfl) (fun _ _ _ h => h) (Or.inl ⟨by rfl, ?_⟩) (by assumption) ?_
        rotate_left
        · (intro w; go_simp; try with_reducible rfl)
        simp only [Act.put, List.setIfInBounds_toArray, List.set_cons_zero, List.set_cons_succ]
        refine wpAnyG_pure (i := 5) (oi := { dst := some 75, op := Go.Op.move (Go.Operand.tmp 74), type := 4, pos := "law.go:240", after := #[{ on := 4, ground := Go.Ground.data }, { on := 3, ground := Go.Ground.chain }], guard := none }) (v := ?_) rfl (by kernel_rfl) (by kernel_rfl) (by kernel_rfl) (by kernel_rfl) (fun _ _ _ h => h) (Or.inl ⟨by rfl, ?_⟩) (by assumption) ?_
        rotate_left
        · (intro w; go_simp; try with_reducible rfl)
        simp only [Act.put, List.setIfInBounds_toArray, List.set_cons_zero, List.set_cons_succ]
        refine wpAnyG_ready (rs := [6]) (by kernel_rfl) (by simp) ?_
        refine AllReadyG.cons (o := { dst := some 76, op := Go.Op.call { callee := Go.Callee.value (Go.Operand.func 14), args := #[], argTypes := #[] }, type := 4, pos := "law.go:240", after := #[{ on := 5, ground := Go.Ground.chain }, { on := 5, ground := Go.Ground.guard }], guard := some (5, true) }) rfl (fun K hK => ?_) AllReadyG.nil
        go_simp
        go_at_call 14
        refine (HKN.out _ (HA.out _ k2).1).mono ?_
        rintro e U3 ⟨rfl, v3⟩
        have k3 : Kp [] W8 U3 := k2.trans v3 (fun z hz => Or.inl hz)
        go_wp2_with fail
        refine hK.out _ _ (HC.out _ k3) (fun hHeld3 => ?_)
        clear hK K hHeld2
        try simp only [Act.put, List.setIfInBounds_toArray, List.set_cons_zero, List.set_cons_succ]
        refine wpAnyG_pure (i := 7) (oi := { dst := some 77, op := Go.Op.pick (Go.Operand.tmp 75) (Go.Operand.tmp 76) (Go.Operand.const (Go.Value.bool false)), type := 4, pos := "law.go:240", after := #[{ on := 5, ground := Go.Ground.data }, { on := 6, ground := Go.Ground.data }], guard := none }) (v := ?_) rfl (by kernel_rfl) (by kernel_rfl) (by kernel_rfl) (by kernel_rfl) (fun _ _ _ h => h) (Or.inl ⟨by rfl, ?_⟩) (by assumption) ?_
        rotate_left
        · (intro w; go_simp; try with_reducible rfl)
        simp only [Act.put, List.setIfInBounds_toArray, List.set_cons_zero, List.set_cons_succ]
        refine wpAnyG_pure (i := 8) (oi := { dst := some 4, op := Go.Op.assign (Go.Operand.tmp 77), type := 4, pos := "law.go:240", after := #[{ on := 7, ground := Go.Ground.data }, { on := 6, ground := Go.Ground.chain }, { on := 0, ground := Go.Ground.phase }, { on := 1, ground := Go.Ground.phase }, { on := 2, ground := Go.Ground.phase }, { on := 3, ground := Go.Ground.phase }, { on := 4, ground := Go.Ground.phase }, { on := 5, ground := Go.Ground.phase }, { on := 6, ground := Go.Ground.phase }, { on := 7, ground := Go.Ground.phase }], guard := none }) (v := ?_) rfl (by kernel_rfl) (by kernel_rfl) (by kernel_rfl) (by kernel_rfl) (fun _ _ _ h => h) (Or.inl ⟨by rfl, ?_⟩) (by assumption) ?_
        rotate_left
        · (intro w; go_simp; try with_reducible rfl)
        simp only [Act.put, List.setIfInBounds_toArray, List.set_cons_zero, List.set_cons_succ]
        refine wpAnyG_free (by kernel_rfl) ?_
        refine wpAny_done (by kernel_rfl) ?_ _
        have kz := (HA.out _ k3).1
        go_wp2
        go_ret
        exact ⟨rfl, kz⟩
      · have z1b : (R1 != 1) = true := by simpa using z1
        have z2b : (R1 != 10) = true := by simpa using z2
        go_upto_region 14 with (go_at_call 22; refine (cut_any _ s 5 (by omega)).mono ?_; rintro e w9 ⟨rfl, hw⟩; have hw2 := hw.symm; clear hw; subst hw2)
        obtain ⟨bn, Aw, kn⟩ := one_new V ⟨R1, R2, R3, R4, R5, R6, R7, [(if 5 < s.size then s.extract 0 5 else s, ⟨#[]⟩)], R9⟩ (if 5 < s.size then s.extract 0 5 else s) ⟨#[]⟩ rfl
        replace kk := kk.trans kn (fun z hz => Or.inl hz)
        simp only [oc] at bn Aw kk
        clear f0 f1 f2 f3 f4 f5 f6 f7 f8 A5 k6 kn
        generalize (V.alloc (.cells _ 24)).alloc (.cells _ 26) = V8 at bn Aw kk ⊢
        generalize V.heap.size = gw at bn Aw ⊢
        have CW := HW.out z1 z2 _ _ _ Aw (by simp only; omega)
        simp only [ov] at CW
        generalize (if 5 < s.size then s.extract 0 5 else s) = s5 at bn Aw CW ⊢
        clear Aw
        obtain ⟨f0, f1, f2, f3, f4, f5, f6, f7, f8⟩ := bn
        simp only [Nat.zero_add] at f0 f1 f2 f3 f4 f5 f6 f7 f8
        go_wp2_with fail
        refine CW.mono ?_
        rintro e V9 ⟨rfl, u⟩
        replace kk := kk.trans u (fun z hz => Or.inl hz)
        clear u CW f0 f1 f2 f3 f4 f5 f6 f7 f8
        obtain ⟨⟨f0, f1, f2, f3, f4, f5, f6, f7, f8⟩, A5, k6⟩ := HN2.out _ kk
        have ka : Kp [] V9 (V9.alloc (.cells (oc ⟨R1, R2, R3, R4, R5, R6, R7, R8, R9⟩ (a, n, c)) 24)) := (Kp.refl _ _).alloc _
        have e8 : (V9.alloc (.cells (oc ⟨R1, R2, R3, R4, R5, R6, R7, R8, R9⟩ (a, n, c)) 24)).cell? ⟨g, 8, none⟩ = some (.string R9) := by rw [ka.cell (block_lt_of_cell f8) (by simp)]; exact f8
        have kb : Kp [] V9 (V9.alloc (.cells (oc ⟨R1, R2, R3, R4, R5, R6, R7, R8, R9 ++ ⟨#[120]⟩⟩ (a, n, c)) 24)) := (Kp.refl _ _).alloc _
        have bu := nine_of (heap_new V9 (.cells (oc ⟨R1, R2, R3, R4, R5, R6, R7, R8, R9 ++ ⟨#[120]⟩⟩ (a, n, c)) 24))
        have bo : Nine (V9.alloc (.cells (oc ⟨R1, R2, R3, R4, R5, R6, R7, R8, R9 ++ ⟨#[120]⟩⟩ (a, n, c)) 24)) g 0 ⟨R1, R2, R3, R4, R5, R6, R7, R8, R9⟩ (a, n, c) := Nine.kept (⟨f0, f1, f2, f3, f4, f5, f6, f7, f8⟩ : Nine V9 g 0 ⟨R1, R2, R3, R4, R5, R6, R7, R8, R9⟩ (a, n, c)) kb (by simp)
        have A6 := A5.kept kb
        have k7 := k6.trans kb (fun z hz => Or.inl hz)
        simp only [oc] at e8 bu bo A6 k7
        clear ka kb A5
        go_upto_region 18 with fail
        clear f0 f1 f2 f3 f4 f5 f6 f7 f8 e8
        generalize V9.alloc (.cells _ 24) = W8 at bu bo A6 k7 ⊢
        generalize V9.heap.size = gu at bu ⊢
        have HC : Hid (∀ U, Kp [] W8 U → Nine U gu 0 ⟨R1, R2, R3, R4, R5, R6, R7, R8, R9 ++ ⟨#[120]⟩⟩ (a, n, c) ∧ Nine U g 0 ⟨R1, R2, R3, R4, R5, R6, R7, R8, R9⟩ (a, n, c)) := fun U kU => ⟨bu.kept kU (by simp), bo.kept kU (by simp)⟩
        have HA : Hid (∀ U, Kp [] W8 U → Kp [] w U ∧ Ar U (⟨R1, R2, R3, R4, R5, R6, R7, R8, R9⟩, a, n, c)) := fun U kU => ⟨k7.trans kU (fun z hz => Or.inl hz), A6.kept kU⟩
        simp only [Nine, Nat.zero_add] at HC
        clear bu bo A6 k7
        obtain ⟨U0, hU0⟩ : ∃ U, U = W8.drew := ⟨_, rfl⟩
        have k0 : Kp [] W8 U0 := by rw [hU0]; exact (Kp.refl _ _).drew
        refine wp_region_g (S := fun U => (U.cell? ⟨gu, 0, none⟩ = some (.int .i64 R1) ∧ U.cell? ⟨gu, 1, none⟩ = some (.int .i64 R2) ∧ U.cell? ⟨gu, 2, none⟩ = some (.int .i64 R3) ∧ U.cell? ⟨gu, 3, none⟩ = some (.int .i64 R4) ∧ U.cell? ⟨gu, 4, none⟩ = some (.int .i64 R5) ∧ U.cell? ⟨gu, 5, none⟩ = some (.int .i64 R6) ∧ U.cell? ⟨gu, 6, none⟩ = some (.string R7) ∧ U.cell? ⟨gu, 7, none⟩ = some (.slice a n c) ∧ U.cell? ⟨gu, 8, none⟩ = some (.string (R9 ++ ⟨#[120]⟩))) ∧ U.cell? ⟨g, 0, none⟩ = some (.int .i64 R1) ∧ U.cell? ⟨g, 1, none⟩ = some (.int .i64 R2) ∧ U.cell? ⟨g, 2, none⟩ = some (.int .i64 R3) ∧ U.cell? ⟨g, 3, none⟩ = some (.int .i64 R4) ∧ U.cell? ⟨g, 4, none⟩ = some (.int .i64 R5) ∧ U.cell? ⟨g, 5, none⟩ = some (.int .i64 R6) ∧ U.cell? ⟨g, 6, none⟩ = some (.string R7) ∧ U.cell? ⟨g, 7, none⟩ = some (.slice a n c) ∧ U.cell? ⟨g, 8, none⟩ = some (.string R9)) (T := []) (by kernel_rfl) (by rw [← hU0]; exact HC.out _ k0) (fun hHeld => ?_)
        rw [← hU0] at hHeld ⊢
        clear hU0
        refine wpAnyG_take (i := 0) (oi := { dst := some 70, op := Go.Op.load 24 (Go.Operand.tmp 10), type := 24, pos := "law.go:240", after := #[], guard := none }) (v := ?_) rfl (by kernel_rfl) (by kernel_rfl) (by kernel_rfl) (by kernel_rfl) (fun _ _ _ h => h) (Or.inl ⟨by rfl, ?_⟩) (by assumption) ?_
        rotate_left
        · (intro w hSw; (obtain ⟨⟨u0, u1, u2, u3, u4, u5, u6, u7, u8⟩, y0, y1, y2, y3, y4, y5, y6, y7, y8⟩ := hSw); go_simp; try with_reducible rfl)
        simp only [Act.put, List.setIfInBounds_toArray, List.set_cons_zero, List.set_cons_succ]
        refine wpAnyG_take (i := 2) (oi := { dst := some 72, op := Go.Op.load 24 (Go.Operand.tmp 5), type := 24, pos := "law.go:240", after := #[], guard := none }) (v := ?_) rfl (by kernel_rfl) (by kernel_rfl) (by kernel_rfl) (by kernel_rfl) (fun _ _ _ h => h) (Or.inl ⟨by rfl, ?_⟩) (by assumption) ?_
        rotate_left
        · (intro w hSw; (obtain ⟨⟨u0, u1, u2, u3, u4, u5, u6, u7, u8⟩, y0, y1, y2, y3, y4, y5, y6, y7, y8⟩ := hSw); go_simp; try with_reducible rfl)
        simp only [Act.put, List.setIfInBounds_toArray, List.set_cons_zero, List.set_cons_succ]
        refine wpAnyG_ready (rs := [1]) (by kernel_rfl) (by simp) ?_
        refine AllReadyG.cons (o := { dst := some 71, op := Go.Op.call { callee := Go.Callee.value (Go.Operand.func 10), args := #[Go.Operand.tmp 70], argTypes := #[24] }, type := 9, pos := "law.go:240", after := #[{ on := 0, ground := Go.Ground.data }], guard := none }) rfl (fun K hK => ?_) AllReadyG.nil
        go_simp
        go_at_call 10
        refine (HTU.out _ (HA.out _ k0).1 (HA.out _ k0).2).mono ?_
        rintro e U1 ⟨rfl, v1⟩
        have k1 : Kp [] W8 U1 := k0.trans v1 (fun z hz => Or.inl hz)
        go_wp2_with fail
        refine hK.out _ _ (HC.out _ k1) (fun hHeld1 => ?_)
        clear hK K hHeld
        try simp only [Act.put, List.setIfInBounds_toArray, List.set_cons_zero, List.set_cons_succ]
        refine wpAnyG_ready (rs := [3]) (by kernel_rfl) (by simp) ?_
        refine AllReadyG.cons (o := { dst := some 73, op := Go.Op.call { callee := Go.Callee.value (Go.Operand.func 10), args := #[Go.Operand.tmp 72], argTypes := #[24] }, type := 9, pos := "law.go:240", after := #[{ on := 2, ground := Go.Ground.data }, { on := 1, ground := Go.Ground.chain }], guard := none }) rfl (fun K hK => ?_) AllReadyG.nil
        go_simp
        go_at_call 10
        refine (HTO.out _ (HA.out _ k1).1 (HA.out _ k1).2).mono ?_
        rintro e U2 ⟨rfl, v2⟩
        have k2 : Kp [] W8 U2 := k1.trans v2 (fun z hz => Or.inl hz)
        go_wp2_with fail
        refine hK.out _ _ (HC.out _ k2) (fun hHeld2 => ?_)
        clear hK K hHeld1
        try simp only [Act.put, List.setIfInBounds_toArray, List.set_cons_zero, List.set_cons_succ]
        refine wpAnyG_pure (i := 4) (oi := { dst := some 74, op := Go.Op.binOp Go.BinOp.neq 9 (Go.Operand.tmp 71) (Go.Operand.tmp 73) 9, type := 4, pos := "law.go:240", after := #[{ on := 1, ground := Go.Ground.data }, { on := 3, ground := Go.Ground.data }], guard := none }) (v := ?_) rfl (by kernel_rfl) (by kernel_rfl) (by kernel_rfl) (by kernel_rfl) (fun _ _ _ h => h) (Or.inl ⟨by rfl, ?_⟩) (by assumption) ?_
        rotate_left
        · (intro w; go_simp; try with_reducible rfl)
        simp only [Act.put, List.setIfInBounds_toArray, List.set_cons_zero, List.set_cons_succ]
        refine wpAnyG_pure (i := 5) (oi := { dst := some 75, op := Go.Op.move (Go.Operand.tmp 74), type := 4, pos := "law.go:240", after := #[{ on := 4, ground := Go.Ground.data }, { on := 3, ground := Go.Ground.chain }], guard := none }) (v := ?_) rfl (by kernel_rfl) (by kernel_rfl) (by kernel_rfl) (by kernel_rfl) (fun _ _ _ h => h) (Or.inl ⟨by rfl, ?_⟩) (by assumption) ?_
        rotate_left
        · (intro w; go_simp; try with_reducible rfl)
        simp only [Act.put, List.setIfInBounds_toArray, List.set_cons_zero, List.set_cons_succ]
        refine wpAnyG_ready (rs := [6]) (by kernel_rfl) (by simp) ?_
        refine AllReadyG.cons (o := { dst := some 76, op := Go.Op.call { callee := Go.Callee.value (Go.Operand.func 14), args := #[], argTypes := #[] }, type := 4, pos := "law.go:240", after := #[{ on := 5, ground := Go.Ground.chain }, { on := 5, ground := Go.Ground.guard }], guard := some (5, true) }) rfl (fun K hK => ?_) AllReadyG.nil
        go_simp
        go_at_call 14
        refine (HKN.out _ (HA.out _ k2).1).mono ?_
        rintro e U3 ⟨rfl, v3⟩
        have k3 : Kp [] W8 U3 := k2.trans v3 (fun z hz => Or.inl hz)
        go_wp2_with fail
        refine hK.out _ _ (HC.out _ k3) (fun hHeld3 => ?_)
        clear hK K hHeld2
        try simp only [Act.put, List.setIfInBounds_toArray, List.set_cons_zero, List.set_cons_succ]
        refine wpAnyG_pure (i := 7) (oi := { dst := some 77, op := Go.Op.pick (Go.Operand.tmp 75) (Go.Operand.tmp 76) (Go.Operand.const (Go.Value.bool false)), type := 4, pos := "law.go:240", after := #[{ on := 5, ground := Go.Ground.data }, { on := 6, ground := Go.Ground.data }], guard := none }) (v := ?_) rfl (by kernel_rfl) (by kernel_rfl) (by kernel_rfl) (by kernel_rfl) (fun _ _ _ h => h) (Or.inl ⟨by rfl, ?_⟩) (by assumption) ?_
        rotate_left
        · (intro w; go_simp; try with_reducible rfl)
        simp only [Act.put, List.setIfInBounds_toArray, List.set_cons_zero, List.set_cons_succ]
        refine wpAnyG_pure (i := 8) (oi := { dst := some 4, op := Go.Op.assign (Go.Operand.tmp 77), type := 4, pos := "law.go:240", after := #[{ on := 7, ground := Go.Ground.data }, { on := 6, ground := Go.Ground.chain }, { on := 0, ground := Go.Ground.phase }, { on := 1, ground := Go.Ground.phase }, { on := 2, ground := Go.Ground.phase }, { on := 3, ground := Go.Ground.phase }, { on := 4, ground := Go.Ground.phase }, { on := 5, ground := Go.Ground.phase }, { on := 6, ground := Go.Ground.phase }, { on := 7, ground := Go.Ground.phase }], guard := none }) (v := ?_) rfl (by kernel_rfl) (by kernel_rfl) (by kernel_rfl) (by kernel_rfl) (fun _ _ _ h => h) (Or.inl ⟨by rfl, ?_⟩) (by assumption) ?_
        rotate_left
        · (intro w; go_simp; try with_reducible rfl)
        simp only [Act.put, List.setIfInBounds_toArray, List.set_cons_zero, List.set_cons_succ]
        refine wpAnyG_free (by kernel_rfl) ?_
        refine wpAny_done (by kernel_rfl) ?_ _
        have kz := (HA.out _ k3).1
        go_wp2
        go_ret
        exact ⟨rfl, kz⟩

end Go.Proofs.YtpjkpobdkmcedaaDoor
