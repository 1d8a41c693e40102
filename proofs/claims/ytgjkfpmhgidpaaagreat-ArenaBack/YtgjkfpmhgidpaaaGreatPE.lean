/-
  Joined: PrE PrF PrG.
-/
import Derived.Test.YtgjkfpmhgidpaaaGreatPA
import Derived.Deep.RegionWith
import Derived.Deep.CutRange

/-
  The program's arena: eleven cells at once; nodeOf, add, New, Make.
-/
namespace Go.Proofs.YtgjkfpmhgidpaaaGreat
open Go.RowKit Go.Maps Utf
set_option linter.unusedVariables false
set_option linter.unusedSimpArgs false

/-- Eleven cells of a block are written, from its head on. -/
def putE (w : World) (g : Nat) (v0 v1 v2 v3 v4 v5 v6 v7 v8 v9 v10 : Value) : World := ((((((((((w.setCell ⟨g, 0, none⟩ v0).setCell ⟨g, 1, none⟩ v1).setCell ⟨g, 2, none⟩ v2).setCell ⟨g, 3, none⟩ v3).setCell ⟨g, 4, none⟩ v4).setCell ⟨g, 5, none⟩ v5).setCell ⟨g, 6, none⟩ v6).setCell ⟨g, 7, none⟩ v7).setCell ⟨g, 8, none⟩ v8).setCell ⟨g, 9, none⟩ v9).setCell ⟨g, 10, none⟩ v10
theorem Kp.putE {S : List Nat} {a w : World} (h : Kp S a w) {g : Nat} (hg : g ∈ S ∨ a.heap.size ≤ g) (v0 v1 v2 v3 v4 v5 v6 v7 v8 v9 v10 : Value) : Kp S a (putE w g v0 v1 v2 v3 v4 v5 v6 v7 v8 v9 v10) := (((((((((((h.setCell hg v0).setCell hg v1).setCell hg v2).setCell hg v3).setCell hg v4).setCell hg v5).setCell hg v6).setCell hg v7).setCell hg v8).setCell hg v9).setCell hg v10)
theorem At.putE {w : World} {g : Nat} {e : TypeId} {u0 u1 u2 u3 u4 u5 u6 u7 u8 u9 u10 : Value} (h : At w g #[u0, u1, u2, u3, u4, u5, u6, u7, u8, u9, u10] e) (v0 v1 v2 v3 v4 v5 v6 v7 v8 v9 v10 : Value) : At (putE w g v0 v1 v2 v3 v4 v5 v6 v7 v8 v9 v10) g #[v0, v1, v2, v3, v4, v5, v6, v7, v8, v9, v10] e := by
  have h0 : At _ g #[v0, u1, u2, u3, u4, u5, u6, u7, u8, u9, u10] e := h.set 0 v0
  have h1 : At _ g #[v0, v1, u2, u3, u4, u5, u6, u7, u8, u9, u10] e := h0.set 1 v1
  have h2 : At _ g #[v0, v1, v2, u3, u4, u5, u6, u7, u8, u9, u10] e := h1.set 2 v2
  have h3 : At _ g #[v0, v1, v2, v3, u4, u5, u6, u7, u8, u9, u10] e := h2.set 3 v3
  have h4 : At _ g #[v0, v1, v2, v3, v4, u5, u6, u7, u8, u9, u10] e := h3.set 4 v4
  have h5 : At _ g #[v0, v1, v2, v3, v4, v5, u6, u7, u8, u9, u10] e := h4.set 5 v5
  have h6 : At _ g #[v0, v1, v2, v3, v4, v5, v6, u7, u8, u9, u10] e := h5.set 6 v6
  have h7 : At _ g #[v0, v1, v2, v3, v4, v5, v6, v7, u8, u9, u10] e := h6.set 7 v7
  have h8 : At _ g #[v0, v1, v2, v3, v4, v5, v6, v7, v8, u9, u10] e := h7.set 8 v8
  have h9 : At _ g #[v0, v1, v2, v3, v4, v5, v6, v7, v8, v9, u10] e := h8.set 9 v9
  have h10 : At _ g #[v0, v1, v2, v3, v4, v5, v6, v7, v8, v9, v10] e := h9.set 10 v10
  exact h10
theorem At.eleven {w : World} {g : Nat} {e : TypeId} {v0 v1 v2 v3 v4 v5 v6 v7 v8 v9 v10 : Value} (h : At w g #[v0, v1, v2, v3, v4, v5, v6, v7, v8, v9, v10] e) : w.cell? ⟨g, 0, none⟩ = some v0 ∧ w.cell? ⟨g, 1, none⟩ = some v1 ∧ w.cell? ⟨g, 2, none⟩ = some v2 ∧ w.cell? ⟨g, 3, none⟩ = some v3 ∧ w.cell? ⟨g, 4, none⟩ = some v4 ∧ w.cell? ⟨g, 5, none⟩ = some v5 ∧ w.cell? ⟨g, 6, none⟩ = some v6 ∧ w.cell? ⟨g, 7, none⟩ = some v7 ∧ w.cell? ⟨g, 8, none⟩ = some v8 ∧ w.cell? ⟨g, 9, none⟩ = some v9 ∧ w.cell? ⟨g, 10, none⟩ = some v10 :=
  ⟨h.cell 0, h.cell 1, h.cell 2, h.cell 3, h.cell 4, h.cell 5, h.cell 6, h.cell 7, h.cell 8, h.cell 9, h.cell 10⟩
/-- Once the result is laid. -/
theorem laidE {w W : World} {g : Nat} {e : TypeId} {u0 u1 u2 u3 u4 u5 u6 u7 u8 u9 u10 : Value} (k : Kp [] w W) (r : At W g #[u0, u1, u2, u3, u4, u5, u6, u7, u8, u9, u10] e) (hg : w.heap.size ≤ g) (v0 v1 v2 v3 v4 v5 v6 v7 v8 v9 v10 : Value) : Hid ((putE W g v0 v1 v2 v3 v4 v5 v6 v7 v8 v9 v10).cell? ⟨g, 0, none⟩ = some v0 ∧ (putE W g v0 v1 v2 v3 v4 v5 v6 v7 v8 v9 v10).cell? ⟨g, 1, none⟩ = some v1 ∧ (putE W g v0 v1 v2 v3 v4 v5 v6 v7 v8 v9 v10).cell? ⟨g, 2, none⟩ = some v2 ∧ (putE W g v0 v1 v2 v3 v4 v5 v6 v7 v8 v9 v10).cell? ⟨g, 3, none⟩ = some v3 ∧ (putE W g v0 v1 v2 v3 v4 v5 v6 v7 v8 v9 v10).cell? ⟨g, 4, none⟩ = some v4 ∧ (putE W g v0 v1 v2 v3 v4 v5 v6 v7 v8 v9 v10).cell? ⟨g, 5, none⟩ = some v5 ∧ (putE W g v0 v1 v2 v3 v4 v5 v6 v7 v8 v9 v10).cell? ⟨g, 6, none⟩ = some v6 ∧ (putE W g v0 v1 v2 v3 v4 v5 v6 v7 v8 v9 v10).cell? ⟨g, 7, none⟩ = some v7 ∧ (putE W g v0 v1 v2 v3 v4 v5 v6 v7 v8 v9 v10).cell? ⟨g, 8, none⟩ = some v8 ∧ (putE W g v0 v1 v2 v3 v4 v5 v6 v7 v8 v9 v10).cell? ⟨g, 9, none⟩ = some v9 ∧ (putE W g v0 v1 v2 v3 v4 v5 v6 v7 v8 v9 v10).cell? ⟨g, 10, none⟩ = some v10 ∧ Kp [] w (putE W g v0 v1 v2 v3 v4 v5 v6 v7 v8 v9 v10)) :=
  ⟨(r.putE v0 v1 v2 v3 v4 v5 v6 v7 v8 v9 v10).cell 0, (r.putE v0 v1 v2 v3 v4 v5 v6 v7 v8 v9 v10).cell 1, (r.putE v0 v1 v2 v3 v4 v5 v6 v7 v8 v9 v10).cell 2, (r.putE v0 v1 v2 v3 v4 v5 v6 v7 v8 v9 v10).cell 3, (r.putE v0 v1 v2 v3 v4 v5 v6 v7 v8 v9 v10).cell 4, (r.putE v0 v1 v2 v3 v4 v5 v6 v7 v8 v9 v10).cell 5, (r.putE v0 v1 v2 v3 v4 v5 v6 v7 v8 v9 v10).cell 6, (r.putE v0 v1 v2 v3 v4 v5 v6 v7 v8 v9 v10).cell 7, (r.putE v0 v1 v2 v3 v4 v5 v6 v7 v8 v9 v10).cell 8, (r.putE v0 v1 v2 v3 v4 v5 v6 v7 v8 v9 v10).cell 9, (r.putE v0 v1 v2 v3 v4 v5 v6 v7 v8 v9 v10).cell 10, k.putE (Or.inr hg) v0 v1 v2 v3 v4 v5 v6 v7 v8 v9 v10⟩

/-- What is kept of a node: what its Kind may have. -/
def keptL (l : Lb) : Lb :=
  if l.kind = 3 then (3, l.ns, l.name, uniq l.attrs, ⟨#[]⟩)
  else if l.kind = 2 then (2, 0, l.name, [], ⟨#[]⟩)
  else if l.kind = 4 ∨ l.kind = 5 then (l.kind, 0, ⟨#[]⟩, [], l.text)
  else (l.kind, 0, ⟨#[]⟩, [], ⟨#[]⟩)

/-- A node's lists, made since w. -/
structure Fr (w w' : World) (l : Lb) (p : Np) : Prop where
  kp : Kp [] w w'
  at' : OwnK 2 w' 30 (.slice p.ao p.an p.ac) p.an (cs l.attrs)
  atN : ∀ x, x ∈ blk (.slice p.ao p.an p.ac) → w.heap.size ≤ x
  tx : OwT w' (.slice p.to p.tn p.tc) l.text
  txN : ∀ x, x ∈ blk (.slice p.to p.tn p.tc) → w.heap.size ≤ x
  ap : ∀ x, x ∈ blk (.slice p.ao p.an p.ac) → x ∉ blk (.slice p.to p.tn p.tc)
  nm : p.nm = none

def np0 : Np := ⟨none, 0, 0, none, none, 0, 0⟩

theorem Fr.none {w w' : World} (k : Kp [] w w') {l : Lb} (h1 : l.attrs = []) (h2 : l.text = ⟨#[]⟩) : Fr w w' l np0 :=
  ⟨k, by rw [h1]; exact ⟨rfl, Or.inl ⟨rfl, rfl⟩⟩, fun x hx => by simp [np0, blk] at hx, by rw [h2]; exact OwT.nil w', fun x hx => by simp [np0, blk] at hx, fun x hx => by simp [np0, blk] at hx, rfl⟩

def Z11 : Array Value := #[.int .i64 0, .int .i64 0, .string ⟨#[]⟩, .slice none 0 0, .map none, .slice none 0 0, .int .i64 0, .int .i64 0, .int .i64 0, .int .i64 0, .int .i64 0]

/-- The value that nodeOf tells. -/
def nv (l : Lb) (p : Np) : Value := .agg #[.int .i64 l.kind, .int .i64 l.ns, .string l.name, .slice p.ao p.an p.ac, .map p.nm, .slice p.to p.tn p.tc, .int .i64 0, .int .i64 0, .int .i64 0, .int .i64 0, .int .i64 0]

set_option maxRecDepth 100000 in
set_option maxHeartbeats 1000000 in
theorem nodeof_else (w : World) (b1 off : Nat) (l : Lb) (p : Pl) (hc : Cl w b1 off l p) (h3 : l.kind ≠ 3) (h2 : l.kind ≠ 2) (h4 : l.kind ≠ 4) (h5 : l.kind ≠ 5) :
    Calls Tryz.prog 42 #[.pointer (some ⟨b1, off, none⟩)] w fun e w' => e = .returned (nv (l.kind, 0, ⟨#[]⟩, [], ⟨#[]⟩) np0) ∧ Kp [] w w' := by
  obtain ⟨c0, _⟩ := hc.cells
  have hb := hc.lt
  have t3 : (l.kind == 3) = false := beq_false_of_ne h3
  have t2 : (l.kind == 2) = false := beq_false_of_ne h2
  have t4 : (l.kind == 4) = false := beq_false_of_ne h4
  have t5 : (l.kind == 5) = false := beq_false_of_ne h5
  generalize l.kind = kd at c0 t3 t2 t4 t5 ⊢
  clear hc h3 h2 h4 h5
  unfold nv np0
  go_enter Tryz.func42, Tryz.ntmps42
  go_wp2
  refine bodyPost_ret (v := .agg #[.int .i64 kd, .int .i64 0, .string ⟨#[]⟩, .slice none 0 0, .map none, .slice none 0 0, .int .i64 0, .int .i64 0, .int .i64 0, .int .i64 0, .int .i64 0]) (by simp [results, go_sem]) rfl ⟨rfl, ((Kp.refl [] w).alloc _).alloc _⟩

set_option maxRecDepth 100000 in
set_option maxHeartbeats 1000000 in
theorem nodeof_text4 (w : World) (b1 off : Nat) (l : Lb) (p : Pl) (hc : Cl w b1 off l p) (hk : l.kind = 4) (hs : l.text.size ≤ 1000000) :
    Calls Tryz.prog 42 #[.pointer (some ⟨b1, off, none⟩)] w fun e w' => ∃ np, e = .returned (nv (4, 0, ⟨#[]⟩, [], l.text) np) ∧ Fr w w' (4, 0, ⟨#[]⟩, [], l.text) np := by
  obtain ⟨c0, _, _, _, c4, _⟩ := hc.cells
  have hb := hc.lt
  rw [hk] at c0
  clear hc hk
  obtain ⟨B, hB⟩ : ∃ B, B = (w.alloc (.cells #[.int .i64 0, .int .i64 0, .string ⟨#[]⟩, .slice none 0 0, .map none, .slice none 0 0, .int .i64 0, .int .i64 0, .int .i64 0, .int .i64 0, .int .i64 0] 56)).alloc (.cells #[.int .i64 4, .int .i64 0, .string ⟨#[]⟩, .slice none 0 0, .map none, .slice none 0 0, .int .i64 0, .int .i64 0, .int .i64 0, .int .i64 0, .int .i64 0] 56) := ⟨_, rfl⟩
  have kB : Kp [] w B := by rw [hB]; exact ((Kp.refl _ _).alloc _).alloc _
  have sB : B.heap.size = w.heap.size + 2 := by rw [hB]; simp
  have AR : At B w.heap.size #[.int .i64 0, .int .i64 0, .string ⟨#[]⟩, .slice none 0 0, .map none, .slice none 0 0, .int .i64 0, .int .i64 0, .int .i64 0, .int .i64 0, .int .i64 0] 56 := by rw [hB]; exact (At.new w _ _).kept ((Kp.refl [] _).alloc _) (by simp)
  have AX : At B (w.heap.size + 1) #[.int .i64 4, .int .i64 0, .string ⟨#[]⟩, .slice none 0 0, .map none, .slice none 0 0, .int .i64 0, .int .i64 0, .int .i64 0, .int .i64 0, .int .i64 0] 56 := by rw [hB]; exact At.new' _ _ _ _ (by simp)
  obtain ⟨W, c2, hrun, O2, K2⟩ := to_text B l.text hs
  rw [sB] at hrun O2
  have AR := AR.kept K2 (by simp)
  have AX := AX.kept K2 (by simp)
  have kW : Kp [] w W := kB.trans K2 (fun x hx => Or.inl hx)
  rw [hB] at hrun
  clear hB kB K2 sB
  obtain ⟨F, hF⟩ : ∃ F, F = W.setCell ⟨w.heap.size + 1, 5, none⟩ (.slice (some ⟨w.heap.size + 2, 0, none⟩) l.text.size c2) := ⟨_, rfl⟩
  have AXF : At F (w.heap.size + 1) #[.int .i64 4, .int .i64 0, .string ⟨#[]⟩, .slice none 0 0, .map none, .slice (some ⟨w.heap.size + 2, 0, none⟩) l.text.size c2, .int .i64 0, .int .i64 0, .int .i64 0, .int .i64 0, .int .i64 0] 56 := by rw [hF]; exact AX.set 5 _
  have kF1 : Kp [w.heap.size + 1] W F := by rw [hF]; exact (Kp.refl _ _).setCell (Or.inl (by simp)) _
  have ARF := AR.kept kF1 (by simp)
  have kF : Kp [] w F := kW.trans kF1 (fun x hx => Or.inr (by simp at hx; omega))
  have OF : Hid (OwT F (.slice (some ⟨w.heap.size + 2, 0, none⟩) l.text.size c2) l.text) := O2.keep kF1 (fun x hx => by simp [blk] at hx; simp; omega)
  have D := laidE kF ARF (Nat.le_refl _) (.int .i64 4) (.int .i64 0) (.string ⟨#[]⟩) (.slice none 0 0) (.map none) (.slice (some ⟨w.heap.size + 2, 0, none⟩) l.text.size c2) (.int .i64 0) (.int .i64 0) (.int .i64 0) (.int .i64 0) (.int .i64 0)
  have OD : Hid (Kp [w.heap.size] F (putE F w.heap.size (.int .i64 4) (.int .i64 0) (.string ⟨#[]⟩) (.slice none 0 0) (.map none) (.slice (some ⟨w.heap.size + 2, 0, none⟩) l.text.size c2) (.int .i64 0) (.int .i64 0) (.int .i64 0) (.int .i64 0) (.int .i64 0))) := (Kp.refl _ _).putE (Or.inl (by simp)) (.int .i64 4) (.int .i64 0) (.string ⟨#[]⟩) (.slice none 0 0) (.map none) (.slice (some ⟨w.heap.size + 2, 0, none⟩) l.text.size c2) (.int .i64 0) (.int .i64 0) (.int .i64 0) (.int .i64 0) (.int .i64 0)
  unfold putE at D OD
  obtain ⟨_, _, _, _, _, x5, _⟩ := AX.eleven
  have fx := AX.free 5
  have HF : Hid (W.setCell ⟨w.heap.size + 1, 5, none⟩ (.slice (some ⟨w.heap.size + 2, 0, none⟩) l.text.size c2) = F) := hF.symm
  clear AX AR hF O2 kW kF1 kF
  go_enter Tryz.func42, Tryz.ntmps42
  go_upto_region 10 with fail
  rw [HF.out]
  clear hrun x5 fx HF
  obtain ⟨y0, y1, y2, y3, y4, y5, y6, y7, y8, y9, y10⟩ := AXF.eleven
  obtain ⟨z0, z1, z2, z3, z4, z5, z6, z7, z8, z9, z10⟩ := ARF.eleven
  have fr := ARF.free
  clear AXF ARF
  go_wp2
  obtain ⟨x0, x1, x2, x3, x4, x5, x6, x7, x8, x9, x10, kD⟩ := D.out
  refine bodyPost_ret (v := .agg #[.int .i64 4, .int .i64 0, .string ⟨#[]⟩, .slice none 0 0, .map none, .slice (some ⟨w.heap.size + 2, 0, none⟩) l.text.size c2, .int .i64 0, .int .i64 0, .int .i64 0, .int .i64 0, .int .i64 0]) (by simp [results, go_sem, x0, x1, x2, x3, x4, x5, x6, x7, x8, x9, x10]) rfl ⟨⟨none, 0, 0, none, some ⟨w.heap.size + 2, 0, none⟩, l.text.size, c2⟩, rfl, ⟨kD, ⟨rfl, Or.inl ⟨rfl, rfl⟩⟩, fun x hx => by simp [blk] at hx, OF.out.keep OD.out (fun x hx => by simp [blk] at hx; simp; omega), fun x hx => by simp [blk] at hx; omega, fun x hx => by simp [blk] at hx, rfl⟩⟩

set_option maxRecDepth 100000 in
set_option maxHeartbeats 1000000 in
theorem nodeof_text5 (w : World) (b1 off : Nat) (l : Lb) (p : Pl) (hc : Cl w b1 off l p) (hk : l.kind = 5) (hs : l.text.size ≤ 1000000) :
    Calls Tryz.prog 42 #[.pointer (some ⟨b1, off, none⟩)] w fun e w' => ∃ np, e = .returned (nv (5, 0, ⟨#[]⟩, [], l.text) np) ∧ Fr w w' (5, 0, ⟨#[]⟩, [], l.text) np := by
  obtain ⟨c0, _, _, _, c4, _⟩ := hc.cells
  have hb := hc.lt
  rw [hk] at c0
  clear hc hk
  obtain ⟨B, hB⟩ : ∃ B, B = (w.alloc (.cells #[.int .i64 0, .int .i64 0, .string ⟨#[]⟩, .slice none 0 0, .map none, .slice none 0 0, .int .i64 0, .int .i64 0, .int .i64 0, .int .i64 0, .int .i64 0] 56)).alloc (.cells #[.int .i64 5, .int .i64 0, .string ⟨#[]⟩, .slice none 0 0, .map none, .slice none 0 0, .int .i64 0, .int .i64 0, .int .i64 0, .int .i64 0, .int .i64 0] 56) := ⟨_, rfl⟩
  have kB : Kp [] w B := by rw [hB]; exact ((Kp.refl _ _).alloc _).alloc _
  have sB : B.heap.size = w.heap.size + 2 := by rw [hB]; simp
  have AR : At B w.heap.size #[.int .i64 0, .int .i64 0, .string ⟨#[]⟩, .slice none 0 0, .map none, .slice none 0 0, .int .i64 0, .int .i64 0, .int .i64 0, .int .i64 0, .int .i64 0] 56 := by rw [hB]; exact (At.new w _ _).kept ((Kp.refl [] _).alloc _) (by simp)
  have AX : At B (w.heap.size + 1) #[.int .i64 5, .int .i64 0, .string ⟨#[]⟩, .slice none 0 0, .map none, .slice none 0 0, .int .i64 0, .int .i64 0, .int .i64 0, .int .i64 0, .int .i64 0] 56 := by rw [hB]; exact At.new' _ _ _ _ (by simp)
  obtain ⟨W, c2, hrun, O2, K2⟩ := to_text B l.text hs
  rw [sB] at hrun O2
  have AR := AR.kept K2 (by simp)
  have AX := AX.kept K2 (by simp)
  have kW : Kp [] w W := kB.trans K2 (fun x hx => Or.inl hx)
  rw [hB] at hrun
  clear hB kB K2 sB
  obtain ⟨F, hF⟩ : ∃ F, F = W.setCell ⟨w.heap.size + 1, 5, none⟩ (.slice (some ⟨w.heap.size + 2, 0, none⟩) l.text.size c2) := ⟨_, rfl⟩
  have AXF : At F (w.heap.size + 1) #[.int .i64 5, .int .i64 0, .string ⟨#[]⟩, .slice none 0 0, .map none, .slice (some ⟨w.heap.size + 2, 0, none⟩) l.text.size c2, .int .i64 0, .int .i64 0, .int .i64 0, .int .i64 0, .int .i64 0] 56 := by rw [hF]; exact AX.set 5 _
  have kF1 : Kp [w.heap.size + 1] W F := by rw [hF]; exact (Kp.refl _ _).setCell (Or.inl (by simp)) _
  have ARF := AR.kept kF1 (by simp)
  have kF : Kp [] w F := kW.trans kF1 (fun x hx => Or.inr (by simp at hx; omega))
  have OF : Hid (OwT F (.slice (some ⟨w.heap.size + 2, 0, none⟩) l.text.size c2) l.text) := O2.keep kF1 (fun x hx => by simp [blk] at hx; simp; omega)
  have D := laidE kF ARF (Nat.le_refl _) (.int .i64 5) (.int .i64 0) (.string ⟨#[]⟩) (.slice none 0 0) (.map none) (.slice (some ⟨w.heap.size + 2, 0, none⟩) l.text.size c2) (.int .i64 0) (.int .i64 0) (.int .i64 0) (.int .i64 0) (.int .i64 0)
  have OD : Hid (Kp [w.heap.size] F (putE F w.heap.size (.int .i64 5) (.int .i64 0) (.string ⟨#[]⟩) (.slice none 0 0) (.map none) (.slice (some ⟨w.heap.size + 2, 0, none⟩) l.text.size c2) (.int .i64 0) (.int .i64 0) (.int .i64 0) (.int .i64 0) (.int .i64 0))) := (Kp.refl _ _).putE (Or.inl (by simp)) (.int .i64 5) (.int .i64 0) (.string ⟨#[]⟩) (.slice none 0 0) (.map none) (.slice (some ⟨w.heap.size + 2, 0, none⟩) l.text.size c2) (.int .i64 0) (.int .i64 0) (.int .i64 0) (.int .i64 0) (.int .i64 0)
  unfold putE at D OD
  obtain ⟨_, _, _, _, _, x5, _⟩ := AX.eleven
  have fx := AX.free 5
  have HF : Hid (W.setCell ⟨w.heap.size + 1, 5, none⟩ (.slice (some ⟨w.heap.size + 2, 0, none⟩) l.text.size c2) = F) := hF.symm
  clear AX AR hF O2 kW kF1 kF
  go_enter Tryz.func42, Tryz.ntmps42
  go_upto_region 10 with fail
  rw [HF.out]
  clear hrun x5 fx HF
  obtain ⟨y0, y1, y2, y3, y4, y5, y6, y7, y8, y9, y10⟩ := AXF.eleven
  obtain ⟨z0, z1, z2, z3, z4, z5, z6, z7, z8, z9, z10⟩ := ARF.eleven
  have fr := ARF.free
  clear AXF ARF
  go_wp2
  obtain ⟨x0, x1, x2, x3, x4, x5, x6, x7, x8, x9, x10, kD⟩ := D.out
  refine bodyPost_ret (v := .agg #[.int .i64 5, .int .i64 0, .string ⟨#[]⟩, .slice none 0 0, .map none, .slice (some ⟨w.heap.size + 2, 0, none⟩) l.text.size c2, .int .i64 0, .int .i64 0, .int .i64 0, .int .i64 0, .int .i64 0]) (by simp [results, go_sem, x0, x1, x2, x3, x4, x5, x6, x7, x8, x9, x10]) rfl ⟨⟨none, 0, 0, none, some ⟨w.heap.size + 2, 0, none⟩, l.text.size, c2⟩, rfl, ⟨kD, ⟨rfl, Or.inl ⟨rfl, rfl⟩⟩, fun x hx => by simp [blk] at hx, OF.out.keep OD.out (fun x hx => by simp [blk] at hx; simp; omega), fun x hx => by simp [blk] at hx; omega, fun x hx => by simp [blk] at hx, rfl⟩⟩

set_option maxRecDepth 100000 in
set_option maxHeartbeats 1000000 in
theorem nodeof_doctype (w : World) (b1 off : Nat) (l : Lb) (p : Pl) (hc : Cl w b1 off l p) (hk : l.kind = 2) (hs : l.name.size ≤ 1000000) :
    Calls Tryz.prog 42 #[.pointer (some ⟨b1, off, none⟩)] w fun e w' => e = .returned (nv (2, 0, l.name, [], ⟨#[]⟩) np0) ∧ Kp [] w w' := by
  obtain ⟨c0, _, cn, _⟩ := hc.cells
  have hb := hc.lt
  rw [hk] at c0
  clear hc hk
  obtain ⟨B, hB⟩ : ∃ B, B = (w.alloc (.cells #[.int .i64 0, .int .i64 0, .string ⟨#[]⟩, .slice none 0 0, .map none, .slice none 0 0, .int .i64 0, .int .i64 0, .int .i64 0, .int .i64 0, .int .i64 0] 56)).alloc (.cells #[.int .i64 2, .int .i64 0, .string ⟨#[]⟩, .slice none 0 0, .map none, .slice none 0 0, .int .i64 0, .int .i64 0, .int .i64 0, .int .i64 0, .int .i64 0] 56) := ⟨_, rfl⟩
  have kB : Kp [] w B := by rw [hB]; exact ((Kp.refl _ _).alloc _).alloc _
  have AR : At B w.heap.size #[.int .i64 0, .int .i64 0, .string ⟨#[]⟩, .slice none 0 0, .map none, .slice none 0 0, .int .i64 0, .int .i64 0, .int .i64 0, .int .i64 0, .int .i64 0] 56 := by rw [hB]; exact (At.new w _ _).kept ((Kp.refl [] _).alloc _) (by simp)
  have AX : At B (w.heap.size + 1) #[.int .i64 2, .int .i64 0, .string ⟨#[]⟩, .slice none 0 0, .map none, .slice none 0 0, .int .i64 0, .int .i64 0, .int .i64 0, .int .i64 0, .int .i64 0] 56 := by rw [hB]; exact At.new' _ _ _ _ (by simp)
  have HN := clone_any B l.name (by omega)
  rw [hB] at HN
  unfold nv np0
  have HB : Hid ((w.alloc (.cells #[.int .i64 0, .int .i64 0, .string ⟨#[]⟩, .slice none 0 0, .map none, .slice none 0 0, .int .i64 0, .int .i64 0, .int .i64 0, .int .i64 0, .int .i64 0] 56)).alloc (.cells #[.int .i64 2, .int .i64 0, .string ⟨#[]⟩, .slice none 0 0, .map none, .slice none 0 0, .int .i64 0, .int .i64 0, .int .i64 0, .int .i64 0, .int .i64 0] 56) = B) := hB.symm
  clear hB
  go_enter Tryz.func42, Tryz.ntmps42
  go_wp2_with fail
  refine HN.mono ?_
  rintro e W ⟨rfl, K2⟩
  rw [HB.out] at K2
  have AR := AR.kept K2 (by simp)
  have AX := AX.kept K2 (by simp)
  have kW : Kp [] w W := kB.trans K2 (fun x hx => Or.inl hx)
  obtain ⟨F, hF⟩ : ∃ F, F = W.setCell ⟨w.heap.size + 1, 2, none⟩ (.string l.name) := ⟨_, rfl⟩
  have AXF : At F (w.heap.size + 1) #[.int .i64 2, .int .i64 0, .string l.name, .slice none 0 0, .map none, .slice none 0 0, .int .i64 0, .int .i64 0, .int .i64 0, .int .i64 0, .int .i64 0] 56 := by rw [hF]; exact AX.set 2 _
  have kF1 : Kp [w.heap.size + 1] W F := by rw [hF]; exact (Kp.refl _ _).setCell (Or.inl (by simp)) _
  have ARF := AR.kept kF1 (by simp)
  have kF : Kp [] w F := kW.trans kF1 (fun x hx => Or.inr (by simp at hx; omega))
  have D := laidE kF ARF (Nat.le_refl _) (.int .i64 2) (.int .i64 0) (.string l.name) (.slice none 0 0) (.map none) (.slice none 0 0) (.int .i64 0) (.int .i64 0) (.int .i64 0) (.int .i64 0) (.int .i64 0)
  unfold putE at D
  obtain ⟨_, _, x5, _⟩ := AX.eleven
  have fx := AX.free 2
  have HF : Hid (W.setCell ⟨w.heap.size + 1, 2, none⟩ (.string l.name) = F) := hF.symm
  clear AX AR hF kW kF1 kF kB K2 HN HB
  go_upto_region 10 with fail
  rw [HF.out]
  clear x5 fx HF
  obtain ⟨y0, y1, y2, y3, y4, y5, y6, y7, y8, y9, y10⟩ := AXF.eleven
  obtain ⟨z0, z1, z2, z3, z4, z5, z6, z7, z8, z9, z10⟩ := ARF.eleven
  have fr := ARF.free
  clear AXF ARF
  go_wp2
  obtain ⟨x0, x1, x2, x3, x4, x5, x6, x7, x8, x9, x10, kD⟩ := D.out
  refine bodyPost_ret (v := .agg #[.int .i64 2, .int .i64 0, .string l.name, .slice none 0 0, .map none, .slice none 0 0, .int .i64 0, .int .i64 0, .int .i64 0, .int .i64 0, .int .i64 0]) (by simp [results, go_sem, x0, x1, x2, x3, x4, x5, x6, x7, x8, x9, x10]) rfl ⟨rfl, kD⟩

set_option maxRecDepth 100000 in
set_option maxHeartbeats 1000000 in
theorem nodeof_element (w : World) (b1 off : Nat) (l : Lb) (p : Pl) (hc : Cl w b1 off l p) (hr : Rp w p.1.1 p.1.2.1 p.1.2.2 l.attrs) (hk : l.kind = 3) (hs : l.name.size ≤ 1000000) (ha : p.1.2.1 ≤ 10000) (hf : fits l.attrs) :
    Calls Tryz.prog 42 #[.pointer (some ⟨b1, off, none⟩)] w fun e w' => ∃ np, e = .returned (nv (3, l.ns, l.name, uniq l.attrs, ⟨#[]⟩) np) ∧ Fr w w' (3, l.ns, l.name, uniq l.attrs, ⟨#[]⟩) np := by
  obtain ⟨c0, cm, cn, ca, _⟩ := hc.cells
  have hb := hc.lt
  rw [hk] at c0
  obtain ⟨B, hB⟩ : ∃ B, B = (w.alloc (.cells #[.int .i64 0, .int .i64 0, .string ⟨#[]⟩, .slice none 0 0, .map none, .slice none 0 0, .int .i64 0, .int .i64 0, .int .i64 0, .int .i64 0, .int .i64 0] 56)).alloc (.cells #[.int .i64 3, .int .i64 0, .string ⟨#[]⟩, .slice none 0 0, .map none, .slice none 0 0, .int .i64 0, .int .i64 0, .int .i64 0, .int .i64 0, .int .i64 0] 56) := ⟨_, rfl⟩
  have kB : Kp [] w B := by rw [hB]; exact ((Kp.refl _ _).alloc _).alloc _
  have AR : At B w.heap.size #[.int .i64 0, .int .i64 0, .string ⟨#[]⟩, .slice none 0 0, .map none, .slice none 0 0, .int .i64 0, .int .i64 0, .int .i64 0, .int .i64 0, .int .i64 0] 56 := by rw [hB]; exact (At.new w _ _).kept ((Kp.refl [] _).alloc _) (by simp)
  have AX : At B (w.heap.size + 1) #[.int .i64 3, .int .i64 0, .string ⟨#[]⟩, .slice none 0 0, .map none, .slice none 0 0, .int .i64 0, .int .i64 0, .int .i64 0, .int .i64 0, .int .i64 0] 56 := by rw [hB]; exact At.new' _ _ _ _ (by simp)
  have HN : Hid (∀ W, Calls Tryz.prog 82 #[.string l.name] W fun e w' => e = .returned (.string l.name) ∧ Kp [] W w') := fun W => clone_any W l.name (by omega)
  have HU : Hid (∀ W, Kp [] w W → Calls Tryz.prog 72 #[.slice p.1.1 p.1.2.1 p.1.2.2] W fun e w' => ∃ ao' n' c', e = .returned (.slice ao' n' c') ∧ Mp W w' ao' n' c' (uniq l.attrs)) := fun W kW => uniq_any W l.attrs p.1.1 p.1.2.1 p.1.2.2 (hr.kept kW) ha hf
  have HS : Hid (∀ W, Kp [] w W → W.cell? ⟨b1, off + 1, none⟩ = some (.int .i64 l.ns) ∧ W.cell? ⟨b1, off + 2, none⟩ = some (.string l.name) ∧ W.cell? ⟨b1, off + 3, none⟩ = some (.slice p.1.1 p.1.2.1 p.1.2.2)) := fun W kW => by
    obtain ⟨_, g1, g2, g3, _⟩ := (hc.keep kW (by simp)).cells
    exact ⟨g1, g2, g3⟩
  have HB : Hid ((w.alloc (.cells #[.int .i64 0, .int .i64 0, .string ⟨#[]⟩, .slice none 0 0, .map none, .slice none 0 0, .int .i64 0, .int .i64 0, .int .i64 0, .int .i64 0, .int .i64 0] 56)).alloc (.cells #[.int .i64 3, .int .i64 0, .string ⟨#[]⟩, .slice none 0 0, .map none, .slice none 0 0, .int .i64 0, .int .i64 0, .int .i64 0, .int .i64 0, .int .i64 0] 56) = B) := hB.symm
  have sB : w.heap.size + 1 < B.heap.size := AX.lt
  have hs1 : w.heap.size ≤ w.heap.size + 1 := Nat.le_succ _
  clear hB hc hr hk
  generalize uniq l.attrs = ul at HU ⊢
  go_enter Tryz.func42, Tryz.ntmps42
  go_wp2_with fail
  rw [HB.out]
  go_region_held3 (fun V => V.cell? ⟨b1, off + 1, none⟩ = some (.int .i64 l.ns) ∧ V.cell? ⟨b1, off + 2, none⟩ = some (.string l.name) ∧ V.cell? ⟨b1, off + 3, none⟩ = some (.slice p.1.1 p.1.2.1 p.1.2.2))
    (first
      | with_reducible exact HS.out _ (((K2.out.setCell (Or.inr hs1) _).setCell (Or.inr hs1) _).setCell (Or.inr hs1) _)
      | with_reducible exact HS.out _ ((K2.out.setCell (Or.inr hs1) _).setCell (Or.inr hs1) _)
      | with_reducible exact HS.out _ (K2.out.setCell (Or.inr hs1) _)
      | with_reducible exact HS.out _ K2.out
      | with_reducible exact HS.out _ K1.out
      | with_reducible exact HS.out _ kB.drew)
    (first
      | (go_at_call 72; refine (HU.out _ K1.out).mono ?_; rintro e W2 ⟨ao2, n2, c2, rfl, M2⟩; have K2 : Hid (Kp [] w W2) := (K1.out.trans M2.kp (fun x hx => Or.inl hx)); have KB2 : Hid (Kp [] B W2) := (KB1.out.trans M2.kp (fun x hx => Or.inl hx)); obtain ⟨_, x1, x2, x3, _⟩ := (AX.kept KB2.out (by simp)).eleven; have fx := (AX.kept KB2.out (by simp)).free)
      | (go_at_call 82; refine (HN.out _).mono ?_; rintro e W1 ⟨rfl, k1⟩; have KB1 : Hid (Kp [] B W1) := ((Kp.refl [] B).drew.trans k1 (fun x hx => Or.inl hx)); have K1 : Hid (Kp [] w W1) := (kB.trans KB1.out (fun x hx => Or.inl hx))))
  have AR := AR.kept KB2.out (by simp)
  have AX := AX.kept KB2.out (by simp)
  obtain ⟨F, hF⟩ : ∃ F, F = ((W2.setCell ⟨w.heap.size + 1, 1, none⟩ (.int .i64 l.ns)).setCell ⟨w.heap.size + 1, 2, none⟩ (.string l.name)).setCell ⟨w.heap.size + 1, 3, none⟩ (.slice ao2 n2 c2) := ⟨_, rfl⟩
  have AXF : At F (w.heap.size + 1) #[.int .i64 3, .int .i64 l.ns, .string l.name, .slice ao2 n2 c2, .map none, .slice none 0 0, .int .i64 0, .int .i64 0, .int .i64 0, .int .i64 0, .int .i64 0] 56 := by rw [hF]; exact ((AX.set 1 _).set 2 _).set 3 _
  have kF1 : Kp [w.heap.size + 1] W2 F := by rw [hF]; exact (((Kp.refl _ _).setCell (Or.inl (by simp)) _).setCell (Or.inl (by simp)) _).setCell (Or.inl (by simp)) _
  have ARF := AR.kept kF1 (by simp)
  have kF : Kp [] w F := K2.out.trans kF1 (fun x hx => Or.inr (by simp at hx; omega))
  have hbl : ∀ x, x ∈ blk (.slice ao2 n2 c2) → w.heap.size + 1 < x := fun x hx => by have := M2.2.2 x hx; have := KB1.out.size; omega
  have OF : Hid (OwnK 2 F 30 (.slice ao2 n2 c2) n2 (cs ul)) := M2.1.keep kF1 (fun x hx => by have := hbl x hx; simp; omega)
  have D := laidE kF ARF (Nat.le_refl _) (.int .i64 3) (.int .i64 l.ns) (.string l.name) (.slice ao2 n2 c2) (.map none) (.slice none 0 0) (.int .i64 0) (.int .i64 0) (.int .i64 0) (.int .i64 0) (.int .i64 0)
  have OD : Hid (Kp [w.heap.size] F (putE F w.heap.size (.int .i64 3) (.int .i64 l.ns) (.string l.name) (.slice ao2 n2 c2) (.map none) (.slice none 0 0) (.int .i64 0) (.int .i64 0) (.int .i64 0) (.int .i64 0) (.int .i64 0))) := (Kp.refl _ _).putE (Or.inl (by simp)) (.int .i64 3) (.int .i64 l.ns) (.string l.name) (.slice ao2 n2 c2) (.map none) (.slice none 0 0) (.int .i64 0) (.int .i64 0) (.int .i64 0) (.int .i64 0) (.int .i64 0)
  unfold putE at D OD
  have HF : Hid (((W2.setCell ⟨w.heap.size + 1, 1, none⟩ (.int .i64 l.ns)).setCell ⟨w.heap.size + 1, 2, none⟩ (.string l.name)).setCell ⟨w.heap.size + 1, 3, none⟩ (.slice ao2 n2 c2) = F) := hF.symm
  have HBL : Hid (∀ x, x ∈ blk (.slice ao2 n2 c2) → w.heap.size + 1 < x) := hbl
  clear AX AR hF kF1 kF kB M2 HN HB K1 K2 KB1 KB2 k1 HS HU x1 x2 x3 fx cm cn ca c0 hbl
  rw [HF.out]
  clear HF
  obtain ⟨y0, y1, y2, y3, y4, y5, y6, y7, y8, y9, y10⟩ := AXF.eleven
  obtain ⟨z0, z1, z2, z3, z4, z5, z6, z7, z8, z9, z10⟩ := ARF.eleven
  have fr := ARF.free
  clear AXF ARF
  go_wp2
  obtain ⟨x0, x1, x2, x3, x4, x5, x6, x7, x8, x9, x10, kD⟩ := D.out
  refine bodyPost_ret (v := .agg #[.int .i64 3, .int .i64 l.ns, .string l.name, .slice ao2 n2 c2, .map none, .slice none 0 0, .int .i64 0, .int .i64 0, .int .i64 0, .int .i64 0, .int .i64 0]) (by simp [results, go_sem, x0, x1, x2, x3, x4, x5, x6, x7, x8, x9, x10]) rfl ⟨⟨ao2, n2, c2, none, none, 0, 0⟩, rfl, ⟨kD, OF.out.keep OD.out (fun x hx => by have := HBL.out x hx; simp; omega), fun x hx => by have := HBL.out x hx; omega, OwT.nil _, fun x hx => by simp [blk] at hx, fun x hx => by simp [blk], rfl⟩⟩

/-- nodeOf: what is kept of a node, in memory of its own. -/
theorem nodeof_any (w : World) (b1 off : Nat) (l : Lb) (p : Pl) (hc : Cl w b1 off l p) (hr : Rp w p.1.1 p.1.2.1 p.1.2.2 l.attrs) (ha : p.1.2.1 ≤ 10000) (hf : fits l.attrs) (h1 : l.name.size ≤ 1000000) (h2 : l.text.size ≤ 1000000) :
    Calls Tryz.prog 42 #[.pointer (some ⟨b1, off, none⟩)] w fun e w' => ∃ np, e = .returned (nv (keptL l) np) ∧ Fr w w' (keptL l) np := by
  unfold keptL
  by_cases e3 : l.kind = 3
  · rw [if_pos e3]; exact nodeof_element w b1 off l p hc hr e3 h1 ha hf
  · rw [if_neg e3]
    by_cases e2 : l.kind = 2
    · rw [if_pos e2]
      refine (nodeof_doctype w b1 off l p hc e2 h1).mono ?_
      rintro e w' ⟨rfl, k⟩
      exact ⟨np0, rfl, Fr.none k rfl rfl⟩
    · rw [if_neg e2]
      by_cases e4 : l.kind = 4
      · rw [if_pos (.inl e4), e4]; exact nodeof_text4 w b1 off l p hc e4 h2
      · by_cases e5 : l.kind = 5
        · rw [if_pos (.inr e5), e5]; exact nodeof_text5 w b1 off l p hc e5 h2
        · rw [if_neg (by omega)]
          refine (nodeof_else w b1 off l p hc e3 e2 e4 e5).mono ?_
          rintro e w' ⟨rfl, k⟩
          exact ⟨np0, rfl, Fr.none k rfl rfl⟩

end Go.Proofs.YtgjkfpmhgidpaaaGreat

/-
  The program's arena: add.
-/
namespace Go.Proofs.YtgjkfpmhgidpaaaGreat
open Go.RowKit Go.Maps Utf
set_option linter.unusedVariables false
set_option linter.unusedSimpArgs false

/-- From w to w' the blocks of the program's arena alone have turned; marks stay. -/
structure Mv (tag : Nat → Nat) (w : World) (tag' : Nat → Nat) (w' : World) : Prop where
  os : w'.os = w.os
  tape : w'.tape = w.tape
  output : w'.output = w.output
  size : w.heap.size ≤ w'.heap.size
  block : ∀ k, k < w.heap.size → ¬ isP (tag k) → w'.heap[k]? = w.heap[k]?
  tg : ∀ k, k < w.heap.size → tag' k = tag k

theorem Mv.of_kp {S : List Nat} {w w' : World} {tag tag' : Nat → Nat} (k : Kp S w w') (hS : ∀ x, x ∈ S → x < w.heap.size → isP (tag x)) (ht : ∀ x, x < w.heap.size → tag' x = tag x) : Mv tag w tag' w' :=
  ⟨k.os, k.tape, k.output, k.size, fun x hx hn => k.block x hx (fun hs => hn (hS x hs hx)), ht⟩
theorem Mv.refl (tag : Nat → Nat) (w : World) : Mv tag w tag w := Mv.of_kp (Kp.refl [] w) (fun x hx => by simp at hx) (fun _ _ => rfl)
theorem Mv.trans {w w1 w2 : World} {tag tag1 tag2 : Nat → Nat} (h : Mv tag w tag1 w1) (k : Mv tag1 w1 tag2 w2) : Mv tag w tag2 w2 :=
  ⟨k.os.trans h.os, k.tape.trans h.tape, k.output.trans h.output, Nat.le_trans h.size k.size, fun x hx hn => (k.block x (Nat.lt_of_lt_of_le hx h.size) (by rw [h.tg x hx]; exact hn)).trans (h.block x hx hn), fun x hx => (k.tg x (Nat.lt_of_lt_of_le hx h.size)).trans (h.tg x hx)⟩
theorem Rz.mv {w0 w : World} {tag : Nat → Nat} {b g o c : Nat} {q : Bool} {n : Nat} {N : Nat → Pn} {pl : Nat → Np} (h : Rz w0 tag w b g o c q n N pl) : Mv tag w0 tag w :=
  Mv.of_kp h.2 (fun x hx _ => by rw [List.mem_singleton.1 hx]; exact .inr (.inl h.1.tg)) (fun _ _ => rfl)

/-- The arena is there, somewhere. -/
def Pa (tag : Nat → Nat) (w : World) (b : Nat) (q : Bool) (n : Nat) (N : Nat → Pn) : Prop := ∃ g o c pl, Rw tag w b g o c q n N pl

theorem Pa.mv {tag tag' : Nat → Nat} {w w' : World} {b : Nat} {q : Bool} {n : Nat} {N : Nat → Pn} (h : Pa tag w b q n N) (k : Kp [] w w') (ht : ∀ x, x < w.heap.size → tag' x = tag x) : Pa tag' w' b q n N := by
  obtain ⟨g, o, c, pl, h⟩ := h
  exact ⟨g, o, c, pl, h.keep k (fun x hx => by simp at hx) ht⟩

theorem infoN : (Tryz.prog.info? 56).map (fun i => (i.zero, i.size, i.bytes)) = some (some (.agg Z11), 11, 128) := by kernel_rfl

/-- One node more. -/
def addN (N : Nat → Pn) (n : Nat) (l : Lb) : Nat → Pn := fun i => if i = n then ⟨l, -1, -1, -1, -1, -1⟩ else N i
def addP (pl : Nat → Np) (n : Nat) (p : Np) : Nat → Np := fun i => if i = n then p else pl i

def ten (l : Lb) (p : Np) : Array Value := #[.int .i64 l.kind, .int .i64 l.ns, .string l.name, .slice p.ao p.an p.ac, .map p.nm, .slice p.to p.tn p.tc, .int .i64 (-1), .int .i64 (-1), .int .i64 (-1), .int .i64 (-1), .int .i64 (-1)]

theorem ten_el (l : Lb) (p : Np) : ten l p = (el ⟨l, -1, -1, -1, -1, -1⟩ p).toArray := rfl

theorem el_one (x : Pn) (p : Np) : ∀ u, u ∈ el x p → u.oneCell' = true := fun u hu => by
  simp [el] at hu
  rcases hu with rfl | rfl | rfl | rfl | rfl | rfl | rfl | rfl | rfl | rfl | rfl <;> rfl

section
variable {tag : Nat → Nat} {w w0 : World} {b g o c : Nat} {q : Bool} {n : Nat} {N : Nat → Pn} {pl : Nat → Np}

/-- The nodes as one list of cells. -/
theorem Rw.own (h : Rw tag w b g o c q n N pl) : ∃ xs, OwnK 11 w 56 (.slice (some ⟨g, o, none⟩) n c) n xs ∧ ∀ i, i < n → ∀ k, k < 11 → xs[i * 11 + k]? = (el (N i) (pl i))[k]? := by
  obtain ⟨cur, h1, h2, h3⟩ := h.body
  have hcap := h.cap
  refine ⟨(cur.toList.drop o).take (n * 11), ⟨by rw [List.length_take, List.length_drop]; simp; omega, Or.inr ⟨g, o, c, cur, rfl, h1, h.cap, h.max, h2, fun j hj => ?_⟩⟩, fun i hi k hk => ?_⟩
  · rw [List.getElem?_take_of_lt hj, List.getElem?_drop]; simp
  · rw [List.getElem?_take_of_lt (by omega), List.getElem?_drop, ← h3 i hi k hk]
    simp [Nat.add_assoc]

/-- The nodes with one more behind them, told by the list of cells. -/
theorem Rw.grown {tag' : Nat → Nat} {w2 : World} {xs : List Value} {l : Lb} {p : Np} {v' : Value} (h : Rw tag w0 b g o c q n N pl) (hx : xs.length = n * 11) (hxs : ∀ i, i < n → ∀ k, k < 11 → xs[i * 11 + k]? = (el (N i) (pl i))[k]?) (fr : Fr w0 w l p)
    (k : Kp [b, g] w0 w2) (kw : ∀ x, x < w.heap.size → x ≠ b → x ≠ g → w2.heap[x]? = w.heap[x]?) (hb : At w2 b #[v', .bool q] 51) (ho : OwnK 11 w2 56 v' (n + 1) (xs ++ el ⟨l, -1, -1, -1, -1, -1⟩ p)) (hv : ∀ x, x ∈ blk v' → x = g ∨ w.heap.size ≤ x) :
    ∃ tag' g' o' c', Rw tag' w2 b g' o' c' q (n + 1) (addN N n l) (addP pl n p) ∧ Mv tag w0 tag' w2 ∧ ∃ a c, v' = .slice (some a) (n + 1) c := by
  obtain ⟨hol, ho⟩ := ho
  rcases ho with ⟨_, h0⟩ | ⟨g2, o2, c2, cur2, hv2, hg2, hc1, hc2, hc3, hc4⟩
  · omega
  have hgm : g2 = g ∨ w.heap.size ≤ g2 := hv g2 (by rw [hv2]; simp [blk])
  have hlt := h.lt
  have hk0 := fr.kp.size
  have hne := h.ne
  have atlt := fr.at'.lt
  have txlt := fr.tx.lt
  obtain ⟨T, hT⟩ : ∃ T : Nat → Nat, T = fun x => if x < w0.heap.size then tag x else if x ∈ blk (.slice p.ao p.an p.ac) then 8 + 3 * n else if x ∈ blk (.slice p.to p.tn p.tc) then 10 + 3 * n else 2 := ⟨_, rfl⟩
  have T0 : ∀ x, x < w0.heap.size → T x = tag x := fun x hx => by rw [hT]; simp only [if_pos hx]
  have keepw : ∀ x, x < w.heap.size → w0.heap.size ≤ x → w2.heap[x]? = w.heap[x]? := fun x h1 h2 => kw x h1 (by omega) (by omega)
  refine ⟨T, g2, o2, c2, ⟨by rw [← hv2]; exact hb, by rw [T0 b hlt.1]; exact h.tb, hc1, hc2, ⟨cur2, hg2, hc3, fun i hi k hk => ?_⟩, ?_, fun i hi => ?_⟩, ?_, ⟨_, _, hv2⟩⟩
  · rw [Nat.add_assoc, hc4 _ (by omega)]
    unfold addN addP
    by_cases hin : i = n
    · subst hin
      rw [if_pos rfl, if_pos rfl, List.getElem?_append_right (by omega), hx, show i * 11 + k - i * 11 = k by omega]
    · rw [if_neg hin, if_neg hin, List.getElem?_append_left (by omega), hxs i (by omega) k hk]
  · rcases hgm with e | e
    · rw [e, T0 g hlt.2]; exact h.tg
    · have n1 : g2 ∉ blk (.slice p.ao p.an p.ac) := fun hm => by have := atlt _ hm; omega
      have n2 : g2 ∉ blk (.slice p.to p.tn p.tc) := fun hm => by have := txlt _ hm; omega
      rw [hT]
      simp only [if_neg (show ¬ g2 < w0.heap.size by omega), if_neg n1, if_neg n2]
  · unfold addN addP
    by_cases hin : i = n
    · subst hin
      rw [if_pos rfl, if_pos rfl]
      have kk : ∀ x, x ∈ blk (.slice p.ao p.an p.ac) ∨ x ∈ blk (.slice p.to p.tn p.tc) → w2.heap[x]? = w.heap[x]? := fun x hx => by
        rcases hx with hx | hx
        · exact keepw x (atlt x hx) (fr.atN x hx)
        · exact keepw x (txlt x hx) (fr.txN x hx)
      refine ⟨?_, fun x hx => ?_, ?_, fun x hx => ?_, fun y hy => ?_⟩
      · obtain ⟨a1, a2⟩ := fr.at'
        refine ⟨a1, ?_⟩
        rcases a2 with a2 | ⟨g3, o3, c3, cur3, e3, hg3, r3⟩
        · exact Or.inl a2
        · exact Or.inr ⟨g3, o3, c3, cur3, e3, by rw [kk g3 (.inl (by rw [e3]; simp [blk]))]; exact hg3, r3⟩
      · rw [hT]
        simp only [if_neg (show ¬ x < w0.heap.size by have := fr.atN x hx; omega), if_pos hx]
      · rcases fr.tx with a2 | ⟨g3, c3, cur3, lo, hi, e3, hg3, r3⟩
        · exact Or.inl a2
        · exact Or.inr ⟨g3, c3, cur3, lo, hi, e3, by rw [kk g3 (.inr (by rw [e3]; simp [blk]))]; exact hg3, r3⟩
      · rw [hT]
        simp only [if_neg (show ¬ x < w0.heap.size by have := fr.txN x hx; omega), if_neg (fun hm => fr.ap x hm hx), if_pos hx]
      · rw [fr.nm] at hy; cases hy
    · rw [if_neg hin, if_neg hin]
      refine (h.side i (by omega)).keep k (fun x hx _ => ?_) T0
      rcases List.mem_cons.1 hx with rfl | hx
      · rw [h.tb]; omega
      · rw [List.mem_singleton.1 hx, h.tg]; omega
  · refine Mv.of_kp k (fun x hx _ => ?_) T0
    rcases List.mem_cons.1 hx with rfl | hx
    · exact .inl h.tb
    · rw [List.mem_singleton.1 hx]; exact .inr (.inl h.tg)

set_option maxRecDepth 100000 in
set_option maxHeartbeats 1000000 in
theorem add_any (h : Rw tag w0 b g o c q n N pl) (hn : n < 50000) (l : Lb) (p : Np) (fr : Fr w0 w l p) :
    Calls Tryz.prog 17 #[.pointer (some ⟨b, 0, none⟩), nv l p] w fun e w' => e = .returned (.int .i64 (n : Int)) ∧ ∃ tag', Pa tag' w' b q (n + 1) (addN N n l) ∧ Mv tag w0 tag' w' := by
  have hw := h.kept fr.kp
  obtain ⟨xs, ox, hxs⟩ := hw.own
  obtain ⟨hb0, hb1⟩ := hw.head
  have hlt := hw.lt
  have hne := h.ne
  obtain ⟨w1, hw1⟩ : ∃ w1, w1 = ((w.alloc (.cells (ten l p) 56)).alloc (.cells (ten l p) 56)).drew := ⟨_, rfl⟩
  have hk1 : Kp [] w w1 := by rw [hw1]; exact (((Kp.refl _ _).alloc _).alloc _).drew
  have hown1 : OwnK 11 w1 56 (.slice (some ⟨g, o, none⟩) n c) n xs := ox.keep hk1 (fun _ _ => by simp)
  have hq : w1.heap[w.heap.size + 1]? = some (.cells (ten l p) 56 (0, 0)) := by rw [hw1]; exact heap_new' _ _ _ (by simp)
  obtain ⟨v', w2, hrun, hown2, hk2, hb2, a2, c2, hv2⟩ := appK Tryz.underlying49 infoN rfl (by decide) w1 _ n xs hown1 _ 1 _ (src_new Tryz.underlying49 hq (el ⟨l, -1, -1, -1, -1, -1⟩ p) rfl (el_one _ _)) (fun _ => by omega) (by omega)
  have hsz : w1.heap.size = w.heap.size + 2 := by rw [hw1]; simp
  have hk2' : Kp [g] w1 w2 := hk2
  have hp1 : At w1 b #[.slice (some ⟨g, o, none⟩) n c, .bool q] 51 := hw.hd.kept hk1 (by simp)
  have hp2 : At w2 b #[.slice (some ⟨g, o, none⟩) n c, .bool q] 51 := hp1.kept hk2' (by simpa using hne)
  have hc2 : w2.cell? ⟨b, 0, none⟩ = some (.slice (some ⟨g, o, none⟩) n c) := hp2.cell 0
  have hf2 : w2.frozen? ⟨b, 0, none⟩ = false := hp2.free 0
  have k3 : Kp [b] w2 (w2.setCell ⟨b, 0, none⟩ v') := (Kp.refl _ _).setCell (Or.inl (by simp)) _
  have hbl : ∀ x, x ∈ blk v' → x = g ∨ w.heap.size ≤ x := fun x hx => by
    rcases hb2 x hx with h1 | h1
    · exact .inl (by simpa [blk] using h1)
    · exact .inr (by omega)
  have hfin : Hid (∃ tag' g' o' c', Rw tag' (w2.setCell ⟨b, 0, none⟩ v') b g' o' c' q (n + 1) (addN N n l) (addP pl n p) ∧ Mv tag w0 tag' (w2.setCell ⟨b, 0, none⟩ v') ∧ ∃ a c, v' = .slice (some a) (n + 1) c) := by
    refine h.grown (w := w) (tag' := tag) ox.1 hxs fr ?_ (fun x hx h1 h2 => ?_) (hp2.set 0 v') ?_ hbl
    · exact ((fr.kp.mono (T := [b, g]) (fun x hx => by simp at hx)).trans (hk1.trans (S := []) (T := []) (Kp.refl [] w1) (fun x hx => Or.inl hx)) (fun x hx => by simp at hx)).trans ((hk2'.mono (T := [b, g]) (fun x hx => Or.inl (by simp at hx; simp [hx]))).trans k3 (fun x hx => Or.inl (by simp at hx; simp [hx]))) (fun x hx => Or.inl hx)
    · rw [k3.block x (by have := hk2.size; omega) (by simpa using h1), hk2'.block x (by omega) (by simpa using h2), hk1.block x hx (by simp)]
    · exact hown2.keep k3 (fun x hx hs => by
        rw [List.mem_singleton.1 hs] at hx
        rcases hbl b hx with h1 | h1
        · exact hne h1
        · omega)
  have hn2 : Hid (∃ ao c, v' = .slice ao (n + 1) c) := by
    obtain ⟨_, _, _, _, _, _, a, c, e⟩ := hfin
    exact ⟨some a, c, e⟩
  have c3 : Hid ((w2.setCell ⟨b, 0, none⟩ v').cell? ⟨b, 0, none⟩ = some v') := (hp2.set 0 v').cell 0
  rw [hw1] at hrun
  subst hv2
  have hbs := hlt.1
  unfold ten at hrun
  unfold nv
  have c3' := c3.out
  clear hk1 hown1 hown2 hk2 hb2 hp2 hq hsz hw1 hp1 h hw ox hxs hbl k3 hk2' hn2 c3
  go_enter Tryz.func17, Tryz.ntmps17
  go_wp2_with fail
  refine wp_region_any (by kernel_rfl) ?_
  change wpAny _ _ _ _ _ _ _ (World.drew _)
  refine wpAny_take (i := 0) (v := ?_) rfl (by kernel_rfl) (by kernel_rfl) (by kernel_rfl) (fun _ _ _ h => h) (Or.inl ⟨by rfl, ?_⟩) ?_
  rotate_left
  · intro w; go_simp <;> with_reducible rfl
  refine wpAny_take (i := 1) (v := ?_) rfl (by kernel_rfl) (by kernel_rfl) (by kernel_rfl) (fun _ _ _ h => h) (Or.inl ⟨by rfl, ?_⟩) ?_
  rotate_left
  · intro w; go_simp <;> with_reducible rfl
  refine wpAny_take (i := 2) (v := ?_) rfl (by kernel_rfl) (by kernel_rfl) (by kernel_rfl) (fun _ _ _ h => h) (Or.inl ⟨by rfl, ?_⟩) ?_
  rotate_left
  · intro w; go_simp <;> with_reducible rfl
  refine wpAny_take (i := 3) (v := ?_) rfl (by kernel_rfl) (by kernel_rfl) (by kernel_rfl) (fun _ _ _ h => h) (Or.inl ⟨by rfl, ?_⟩) ?_
  rotate_left
  · intro w; go_simp <;> with_reducible rfl
  refine wpAny_ready (rs := [4, 5]) (by kernel_rfl) (by simp) (AllReady.cons rfl (fun K hK => ?_) (AllReady.cons rfl (fun K hK => ?_) AllReady.nil))
  · go_simp; refine hK _ _ ?_; clear hK K
    refine wpAny_ready (rs := [5]) (by kernel_rfl) (by simp) (AllReady.cons rfl (fun K hK => ?_) AllReady.nil)
    go_simp; refine hK _ _ ?_; clear hK K
    refine wpAny_ready (rs := [6]) (by kernel_rfl) (by simp) (AllReady.cons rfl (fun K hK => ?_) AllReady.nil)
    go_simp; refine hK _ _ ?_; clear hK K
    refine wpAny_ready (rs := [7]) (by kernel_rfl) (by simp) (AllReady.cons rfl (fun K hK => ?_) AllReady.nil)
    refine step_appR (by rfl) _ _ 49 (by rfl) _ _ (by rfl) (by rfl) hrun ?_; refine hK _ _ ?_; clear hK K
    refine wpAny_take (i := 8) (v := ?_) rfl (by kernel_rfl) (by kernel_rfl) (by kernel_rfl) (fun _ _ _ h => h) (Or.inl ⟨by rfl, ?_⟩) ?_
    rotate_left
    · intro w; go_simp <;> with_reducible rfl
    refine wpAny_take (i := 9) (v := ?_) rfl (by kernel_rfl) (by kernel_rfl) (by kernel_rfl) (fun _ _ _ h => h) (Or.inl ⟨by rfl, ?_⟩) ?_
    rotate_left
    · intro w; go_simp <;> with_reducible rfl
    refine wpAny_ready (rs := [10]) (by kernel_rfl) (by simp) (AllReady.cons rfl (fun K hK => ?_) AllReady.nil)
    go_simp; refine hK _ _ ?_; clear hK K
    refine wpAny_done (by kernel_rfl) ?_ _
    go_wp2
    go_ret
    obtain ⟨t1, g1, o1, d1, r1, m1, _⟩ := hfin.out
    exact ⟨rfl, t1, ⟨_, _, _, _, r1⟩, m1⟩
  · go_simp; refine hK _ _ ?_; clear hK K
    refine wpAny_ready (rs := [4, 6]) (by kernel_rfl) (by simp) (AllReady.cons rfl (fun K hK => ?_) (AllReady.cons rfl (fun K hK => ?_) AllReady.nil))
    · go_simp; refine hK _ _ ?_; clear hK K
      refine wpAny_ready (rs := [6]) (by kernel_rfl) (by simp) (AllReady.cons rfl (fun K hK => ?_) AllReady.nil)
      go_simp; refine hK _ _ ?_; clear hK K
      refine wpAny_ready (rs := [7]) (by kernel_rfl) (by simp) (AllReady.cons rfl (fun K hK => ?_) AllReady.nil)
      refine step_appR (by rfl) _ _ 49 (by rfl) _ _ (by rfl) (by rfl) hrun ?_; refine hK _ _ ?_; clear hK K
      refine wpAny_take (i := 8) (v := ?_) rfl (by kernel_rfl) (by kernel_rfl) (by kernel_rfl) (fun _ _ _ h => h) (Or.inl ⟨by rfl, ?_⟩) ?_
      rotate_left
      · intro w; go_simp <;> with_reducible rfl
      refine wpAny_take (i := 9) (v := ?_) rfl (by kernel_rfl) (by kernel_rfl) (by kernel_rfl) (fun _ _ _ h => h) (Or.inl ⟨by rfl, ?_⟩) ?_
      rotate_left
      · intro w; go_simp <;> with_reducible rfl
      refine wpAny_ready (rs := [10]) (by kernel_rfl) (by simp) (AllReady.cons rfl (fun K hK => ?_) AllReady.nil)
      go_simp; refine hK _ _ ?_; clear hK K
      refine wpAny_done (by kernel_rfl) ?_ _
      go_wp2
      go_ret
      obtain ⟨t1, g1, o1, d1, r1, m1, _⟩ := hfin.out
      exact ⟨rfl, t1, ⟨_, _, _, _, r1⟩, m1⟩
    · go_simp; refine hK _ _ ?_; clear hK K
      refine wpAny_ready (rs := [4]) (by kernel_rfl) (by simp) (AllReady.cons rfl (fun K hK => ?_) AllReady.nil)
      go_simp; refine hK _ _ ?_; clear hK K
      refine wpAny_ready (rs := [7]) (by kernel_rfl) (by simp) (AllReady.cons rfl (fun K hK => ?_) AllReady.nil)
      refine step_appR (by rfl) _ _ 49 (by rfl) _ _ (by rfl) (by rfl) hrun ?_; refine hK _ _ ?_; clear hK K
      refine wpAny_take (i := 8) (v := ?_) rfl (by kernel_rfl) (by kernel_rfl) (by kernel_rfl) (fun _ _ _ h => h) (Or.inl ⟨by rfl, ?_⟩) ?_
      rotate_left
      · intro w; go_simp <;> with_reducible rfl
      refine wpAny_take (i := 9) (v := ?_) rfl (by kernel_rfl) (by kernel_rfl) (by kernel_rfl) (fun _ _ _ h => h) (Or.inl ⟨by rfl, ?_⟩) ?_
      rotate_left
      · intro w; go_simp <;> with_reducible rfl
      refine wpAny_ready (rs := [10]) (by kernel_rfl) (by simp) (AllReady.cons rfl (fun K hK => ?_) AllReady.nil)
      go_simp; refine hK _ _ ?_; clear hK K
      refine wpAny_done (by kernel_rfl) ?_ _
      go_wp2
      go_ret
      obtain ⟨t1, g1, o1, d1, r1, m1, _⟩ := hfin.out
      exact ⟨rfl, t1, ⟨_, _, _, _, r1⟩, m1⟩

end

end Go.Proofs.YtgjkfpmhgidpaaaGreat

/-
  The program's arena: New, Make.
-/
namespace Go.Proofs.YtgjkfpmhgidpaaaGreat
open Go.RowKit Go.Maps Utf
set_option linter.unusedVariables false
set_option linter.unusedSimpArgs false

set_option maxRecDepth 100000 in
set_option maxHeartbeats 1000000 in
theorem add_first (w : World) (b : Nat) (hb : At w b #[.slice none 0 0, .bool false] 51) (l : Lb) :
    Calls Tryz.prog 17 #[.pointer (some ⟨b, 0, none⟩), nv l np0] w fun e w' => e = .returned (.int .i64 0) ∧ Kp [b] w w' ∧ ∃ g o c, At w' b #[.slice (some ⟨g, o, none⟩) 1 c, .bool false] 51 ∧ w.heap.size ≤ g ∧ 1 ≤ c ∧ c ≤ maxLen ∧ ∃ cur, At w' g cur 56 ∧ o + c * 11 ≤ cur.size ∧ ∀ k, k < 11 → cur[o + k]? = (el ⟨l, -1, -1, -1, -1, -1⟩ np0)[k]? := by
  have hb0 : w.cell? ⟨b, 0, none⟩ = some (.slice none 0 0) := hb.cell 0
  have hlt := hb.lt
  obtain ⟨w1, hw1⟩ : ∃ w1, w1 = ((w.alloc (.cells (ten l np0) 56)).alloc (.cells (ten l np0) 56)).drew := ⟨_, rfl⟩
  have hk1 : Kp [] w w1 := by rw [hw1]; exact (((Kp.refl _ _).alloc _).alloc _).drew
  have hown1 : OwnK 11 w1 56 (.slice none 0 0) 0 [] := ⟨rfl, Or.inl ⟨rfl, rfl⟩⟩
  have hq : w1.heap[w.heap.size + 1]? = some (.cells (ten l np0) 56 (0, 0)) := by rw [hw1]; exact heap_new' _ _ _ (by simp)
  obtain ⟨v', w2, hrun, hown2, hk2, hb2, a2, c2, hv2⟩ := appK Tryz.underlying49 infoN rfl (by decide) w1 _ 0 [] hown1 _ 1 _ (src_new Tryz.underlying49 hq (el ⟨l, -1, -1, -1, -1, -1⟩ np0) rfl (el_one _ _)) (fun _ => by omega) (by omega)
  have hsz : w1.heap.size = w.heap.size + 2 := by rw [hw1]; simp
  have hk2' : Kp [] w1 w2 := hk2
  have hp2 : At w2 b #[.slice none 0 0, .bool false] 51 := (hb.kept hk1 (by simp)).kept hk2' (by simp)
  have hc2 : w2.cell? ⟨b, 0, none⟩ = some (.slice none 0 0) := hp2.cell 0
  have hf2 : w2.frozen? ⟨b, 0, none⟩ = false := hp2.free 0
  have k3 : Kp [b] w2 (w2.setCell ⟨b, 0, none⟩ v') := (Kp.refl _ _).setCell (Or.inl (by simp)) _
  have hbl : ∀ x, x ∈ blk v' → w.heap.size ≤ x := fun x hx => by
    rcases hb2 x hx with h1 | h1
    · simp [blk] at h1
    · omega
  have hfin : Hid (Kp [b] w (w2.setCell ⟨b, 0, none⟩ v') ∧ ∃ g o c, At (w2.setCell ⟨b, 0, none⟩ v') b #[.slice (some ⟨g, o, none⟩) 1 c, .bool false] 51 ∧ w.heap.size ≤ g ∧ 1 ≤ c ∧ c ≤ maxLen ∧ ∃ cur, At (w2.setCell ⟨b, 0, none⟩ v') g cur 56 ∧ o + c * 11 ≤ cur.size ∧ ∀ k, k < 11 → cur[o + k]? = (el ⟨l, -1, -1, -1, -1, -1⟩ np0)[k]?) := by
    refine ⟨((hk1.trans hk2' (fun x hx => Or.inl hx)).mono (T := [b]) (fun x hx => by simp at hx)).trans k3 (fun x hx => Or.inl hx), ?_⟩
    obtain ⟨hol, ho⟩ := hown2
    rcases ho with ⟨_, h0⟩ | ⟨g2, o2, c3, cur2, e2, hg2, hc1, hc2, hc3, hc4⟩
    · omega
    have hg : w.heap.size ≤ g2 := hbl g2 (by rw [e2]; simp [blk])
    refine ⟨g2, o2, c3, ?_, hg, hc1, hc2, cur2, ?_, hc3, fun k hk => ?_⟩
    · have := hp2.set 0 v'
      rw [e2] at this ⊢
      exact this
    · exact At.kept (w := w2) hg2 k3 (by simp; omega)
    · exact hc4 k (by omega)
  have c3' : (w2.setCell ⟨b, 0, none⟩ v').cell? ⟨b, 0, none⟩ = some v' := (hp2.set 0 v').cell 0
  rw [hw1] at hrun
  subst hv2
  unfold ten np0 at hrun
  unfold nv np0
  unfold np0 at hfin
  clear hk1 hown1 hown2 hk2 hb2 hp2 hq hsz hw1 hbl k3 hk2' hb
  simp only at hrun hfin ⊢
  go_enter Tryz.func17, Tryz.ntmps17
  go_wp2_with fail
  refine wp_region_any (by kernel_rfl) ?_
  change wpAny _ _ _ _ _ _ _ (World.drew _)
  refine wpAny_take (i := 0) (v := ?_) rfl (by kernel_rfl) (by kernel_rfl) (by kernel_rfl) (fun _ _ _ h => h) (Or.inl ⟨by rfl, ?_⟩) ?_
  rotate_left
  · intro w; go_simp <;> with_reducible rfl
  refine wpAny_take (i := 1) (v := ?_) rfl (by kernel_rfl) (by kernel_rfl) (by kernel_rfl) (fun _ _ _ h => h) (Or.inl ⟨by rfl, ?_⟩) ?_
  rotate_left
  · intro w; go_simp <;> with_reducible rfl
  refine wpAny_take (i := 2) (v := ?_) rfl (by kernel_rfl) (by kernel_rfl) (by kernel_rfl) (fun _ _ _ h => h) (Or.inl ⟨by rfl, ?_⟩) ?_
  rotate_left
  · intro w; go_simp <;> with_reducible rfl
  refine wpAny_take (i := 3) (v := ?_) rfl (by kernel_rfl) (by kernel_rfl) (by kernel_rfl) (fun _ _ _ h => h) (Or.inl ⟨by rfl, ?_⟩) ?_
  rotate_left
  · intro w; go_simp <;> with_reducible rfl
  refine wpAny_ready (rs := [4, 5]) (by kernel_rfl) (by simp) (AllReady.cons rfl (fun K hK => ?_) (AllReady.cons rfl (fun K hK => ?_) AllReady.nil))
  · go_simp; refine hK _ _ ?_; clear hK K
    refine wpAny_ready (rs := [5]) (by kernel_rfl) (by simp) (AllReady.cons rfl (fun K hK => ?_) AllReady.nil)
    go_simp; refine hK _ _ ?_; clear hK K
    refine wpAny_ready (rs := [6]) (by kernel_rfl) (by simp) (AllReady.cons rfl (fun K hK => ?_) AllReady.nil)
    go_simp; refine hK _ _ ?_; clear hK K
    refine wpAny_ready (rs := [7]) (by kernel_rfl) (by simp) (AllReady.cons rfl (fun K hK => ?_) AllReady.nil)
    refine step_appR (by rfl) _ _ 49 (by rfl) _ _ (by rfl) (by rfl) hrun ?_; refine hK _ _ ?_; clear hK K
    refine wpAny_take (i := 8) (v := ?_) rfl (by kernel_rfl) (by kernel_rfl) (by kernel_rfl) (fun _ _ _ h => h) (Or.inl ⟨by rfl, ?_⟩) ?_
    rotate_left
    · intro w; go_simp <;> with_reducible rfl
    refine wpAny_take (i := 9) (v := ?_) rfl (by kernel_rfl) (by kernel_rfl) (by kernel_rfl) (fun _ _ _ h => h) (Or.inl ⟨by rfl, ?_⟩) ?_
    rotate_left
    · intro w; go_simp <;> with_reducible rfl
    refine wpAny_ready (rs := [10]) (by kernel_rfl) (by simp) (AllReady.cons rfl (fun K hK => ?_) AllReady.nil)
    go_simp; refine hK _ _ ?_; clear hK K
    refine wpAny_done (by kernel_rfl) ?_ _
    go_wp2
    go_ret
    exact ⟨rfl, hfin.out⟩
  · go_simp; refine hK _ _ ?_; clear hK K
    refine wpAny_ready (rs := [4, 6]) (by kernel_rfl) (by simp) (AllReady.cons rfl (fun K hK => ?_) (AllReady.cons rfl (fun K hK => ?_) AllReady.nil))
    · go_simp; refine hK _ _ ?_; clear hK K
      refine wpAny_ready (rs := [6]) (by kernel_rfl) (by simp) (AllReady.cons rfl (fun K hK => ?_) AllReady.nil)
      go_simp; refine hK _ _ ?_; clear hK K
      refine wpAny_ready (rs := [7]) (by kernel_rfl) (by simp) (AllReady.cons rfl (fun K hK => ?_) AllReady.nil)
      refine step_appR (by rfl) _ _ 49 (by rfl) _ _ (by rfl) (by rfl) hrun ?_; refine hK _ _ ?_; clear hK K
      refine wpAny_take (i := 8) (v := ?_) rfl (by kernel_rfl) (by kernel_rfl) (by kernel_rfl) (fun _ _ _ h => h) (Or.inl ⟨by rfl, ?_⟩) ?_
      rotate_left
      · intro w; go_simp <;> with_reducible rfl
      refine wpAny_take (i := 9) (v := ?_) rfl (by kernel_rfl) (by kernel_rfl) (by kernel_rfl) (fun _ _ _ h => h) (Or.inl ⟨by rfl, ?_⟩) ?_
      rotate_left
      · intro w; go_simp <;> with_reducible rfl
      refine wpAny_ready (rs := [10]) (by kernel_rfl) (by simp) (AllReady.cons rfl (fun K hK => ?_) AllReady.nil)
      go_simp; refine hK _ _ ?_; clear hK K
      refine wpAny_done (by kernel_rfl) ?_ _
      go_wp2
      go_ret
      exact ⟨rfl, hfin.out⟩
    · go_simp; refine hK _ _ ?_; clear hK K
      refine wpAny_ready (rs := [4]) (by kernel_rfl) (by simp) (AllReady.cons rfl (fun K hK => ?_) AllReady.nil)
      go_simp; refine hK _ _ ?_; clear hK K
      refine wpAny_ready (rs := [7]) (by kernel_rfl) (by simp) (AllReady.cons rfl (fun K hK => ?_) AllReady.nil)
      refine step_appR (by rfl) _ _ 49 (by rfl) _ _ (by rfl) (by rfl) hrun ?_; refine hK _ _ ?_; clear hK K
      refine wpAny_take (i := 8) (v := ?_) rfl (by kernel_rfl) (by kernel_rfl) (by kernel_rfl) (fun _ _ _ h => h) (Or.inl ⟨by rfl, ?_⟩) ?_
      rotate_left
      · intro w; go_simp <;> with_reducible rfl
      refine wpAny_take (i := 9) (v := ?_) rfl (by kernel_rfl) (by kernel_rfl) (by kernel_rfl) (fun _ _ _ h => h) (Or.inl ⟨by rfl, ?_⟩) ?_
      rotate_left
      · intro w; go_simp <;> with_reducible rfl
      refine wpAny_ready (rs := [10]) (by kernel_rfl) (by simp) (AllReady.cons rfl (fun K hK => ?_) AllReady.nil)
      go_simp; refine hK _ _ ?_; clear hK K
      refine wpAny_done (by kernel_rfl) ?_ _
      go_wp2
      go_ret
      exact ⟨rfl, hfin.out⟩

set_option maxHeartbeats 1000000 in
theorem new_any (w : World) (tag : Nat → Nat) :
    Calls Tryz.prog 5 #[] w fun e w' => ∃ b tag', e = .returned (.pointer (some ⟨b, 0, none⟩)) ∧ Pa tag' w' b false 1 Ar.first.raw ∧ Kp [] w w' ∧ w.heap.size ≤ b ∧ ∀ x, x < w.heap.size → tag' x = tag x := by
  have HA := add_first (w.alloc (.cells #[.slice none 0 0, .bool false] 51)) w.heap.size (At.new w _ _) (1, 0, ⟨#[]⟩, [], ⟨#[]⟩)
  unfold nv np0 at HA
  simp only at HA
  go_enter Tryz.func5, Tryz.ntmps5
  go_wp2_with fail
  refine HA.mono ?_
  rintro e w2 ⟨rfl, k2, g, o, c, hb, hg, hc, hm, cur, hcur, hsz, hcs⟩
  clear HA
  have hfin : Hid (∃ b tag', Value.pointer (some ⟨w.heap.size, 0, none⟩) = Value.pointer (some ⟨b, 0, none⟩) ∧ Pa tag' w2 b false 1 Ar.first.raw ∧ Kp [] w w2 ∧ w.heap.size ≤ b ∧ ∀ x, x < w.heap.size → tag' x = tag x) := by
    have hg' : w.heap.size + 1 ≤ g := by simpa using hg
    refine ⟨w.heap.size, fun x => if x < w.heap.size then tag x else if x = w.heap.size then 1 else 2, rfl, ⟨g, o, c, fun _ => np0, ⟨hb, by simp, hc, hm, ⟨cur, hcur, hsz, fun i hi k hk => ?_⟩, ?_, fun i hi => ?_⟩⟩, ((Kp.refl [] w).alloc _).trans k2 (fun x hx => Or.inr (by simp at hx; omega)), Nat.le_refl _, fun x hx => by simp [hx]⟩
    · obtain rfl : i = 0 := by omega
      rw [show o + 0 * 11 + k = o + k by omega, hcs k hk]
      rfl
    · simp only [if_neg (show ¬ g < w.heap.size by omega), if_neg (show ¬ g = w.heap.size by omega)]
    · have : Fr w2 w2 (1, 0, ⟨#[]⟩, [], ⟨#[]⟩) np0 := Fr.none (Kp.refl _ _) rfl rfl
      exact ⟨this.at', fun x hx => by simp [np0, blk] at hx, this.tx, fun x hx => by simp [np0, blk] at hx, fun b hb => by cases hb⟩
  clear k2 hb hg hc hm hcur hsz hcs
  go_wp2
  go_ret
  obtain ⟨b, tag', e, r⟩ := hfin.out
  obtain rfl : w.heap.size = b := by simpa using e
  exact ⟨_, tag', rfl, r⟩

theorem Fr.back {w0 w w' : World} {l : Lb} {p : Np} (k : Kp [] w0 w) (h : Fr w w' l p) : Fr w0 w' l p :=
  ⟨k.trans h.kp (fun x hx => Or.inl hx), h.at', fun x hx => Nat.le_trans k.size (h.atN x hx), h.tx, fun x hx => Nat.le_trans k.size (h.txN x hx), h.ap, h.nm⟩

theorem ne_empty {s : ByteArray} (h : s.size ≠ 0) : s.toList.isEmpty = false := by
  rw [ByteArray.toList_eq]
  cases e : s.data.toList with
  | nil => exact absurd (by rw [← ByteArray.size_data, ← Array.length_toList, e]; rfl) h
  | cons x r => rfl

section
variable {tag : Nat → Nat} {w : World} {b g o c : Nat} {q : Bool} {A : Ar} {pl : Nat → Np}

theorem pa_new {tag' : Nat → Nat} {w' : World} (ok : A.Ok) {l : Lb} (h : Pa tag' w' b q (A.n + 1) (addN A.raw A.n l)) : Pa tag' w' b q (A.new l).n (A.new l).raw := by
  rw [ok.raw_new l]; exact h

set_option maxRecDepth 100000 in
set_option maxHeartbeats 1000000 in
/-- Make, once the arguments are right, of no template; K what is kept. -/
theorem mk_good (h : Rw tag w b g o c q A.n A.raw pl) (ok : A.Ok) (hn : A.n < 40000) (kind ns : Int) (name text : ByteArray) (l : List Att) (ao : Option Addr) (n' c' : Nat) (hr : Rp w ao n' c' l) (ha : n' ≤ 10000) (hf : fits l) (h1 : name.size ≤ 1000000) (h2 : text.size ≤ 1000000)
    (hk : kind = 2 ∨ kind = 4 ∨ kind = 5 ∨ (kind = 3 ∧ ns = 1 ∧ name.size ≠ 0) ∨ (kind = 3 ∧ ns = 2 ∧ name.size ≠ 0)) (ht : tmplF (keptL (kind, ns, name, l, text)) = false) :
    Calls Tryz.prog 20 #[.pointer (some ⟨b, 0, none⟩), .int .i64 kind, .int .i64 ns, .string name, .slice ao n' c', .string text] w fun e w' => e = .returned (.tuple #[.int .i64 (A.n : Int), .int .i64 0]) ∧ ∃ tag', Pa tag' w' b q (A.new (keptL (kind, ns, name, l, text))).n (A.new (keptL (kind, ns, name, l, text))).raw ∧ Mv tag w tag' w' := by
  rcases hk with rfl | rfl | rfl | ⟨rfl, rfl, h0⟩ | ⟨rfl, rfl, h0⟩
  · have k1 : Kp [] w (w.alloc (.cells #[.int .i64 2, .int .i64 ns, .string name, .slice ao n' c', .string text, .slice none 0 0] 38)) := (Kp.refl _ _).alloc _
    have CL : Cl (w.alloc (.cells #[.int .i64 2, .int .i64 ns, .string name, .slice ao n' c', .string text, .slice none 0 0] 38)) w.heap.size 0 (2, ns, name, l, text) ((ao, n', c'), (none, 0, 0)) := ⟨_, _, heap_new w _, fun i hi => by rw [Nat.zero_add]; simp [six]⟩
    have HN := nodeof_any _ _ _ (2, ns, name, l, text) ((ao, n', c'), (none, 0, 0)) CL (hr.kept k1) ha hf h1 h2
    have HA : Hid (∀ w2 np, Fr w w2 (keptL (2, ns, name, l, text)) np → Calls Tryz.prog 17 #[.pointer (some ⟨b, 0, none⟩), nv (keptL (2, ns, name, l, text)) np] w2 fun e w' => e = .returned (.int .i64 (A.n : Int)) ∧ ∃ tag', Pa tag' w' b q (A.new (keptL (2, ns, name, l, text))).n (A.new (keptL (2, ns, name, l, text))).raw ∧ Mv tag w tag' w') := fun w2 np fr => by
      refine (add_any h (by omega) _ np fr).mono ?_
      rintro e w3 ⟨rfl, t3, p3, m3⟩
      exact ⟨rfl, t3, pa_new ok p3, m3⟩
    generalize keptL (2, ns, name, l, text) = K at HN HA ht ⊢
    clear CL h hr
    go_enter Tryz.func20, Tryz.ntmps20
    go_wp2_with fail
    refine HN.mono ?_
    rintro e w2 ⟨np, rfl, fr⟩
    have HA2 := HA.out _ _ (Fr.back k1 fr)
    clear HN HA k1 fr
    generalize nv K np = V at HA2
    go_wp2_with fail
    refine HA2.mono ?_
    rintro e w3 ⟨rfl, t3, ⟨g3, o3, c3, pl3, h3⟩, m3⟩
    have HT := tmpl_any h3 (show A.n + 1 < 100000 by omega) A.n (Nat.lt_succ_self _)
    rw [show ((A.new K).raw A.n).lb = K by show (if A.n = A.n then K else A.lb A.n) = K; rw [if_pos rfl], ht] at HT
    clear HA2
    have hfin : Hid (∃ tag', Pa tag' w3 b q (A.new K).n (A.new K).raw ∧ Mv tag w tag' w3) := ⟨t3, ⟨g3, o3, c3, pl3, h3⟩, m3⟩
    clear h3 m3
    go_wp2_with (go_at_call 56; refine (HT).mono ?_; rintro e w9 ⟨rfl, hw⟩; have hw2 := hw.symm; clear hw; subst hw2)
    go_ret2
    exact ⟨rfl, hfin.out⟩
  · have k1 : Kp [] w (w.alloc (.cells #[.int .i64 4, .int .i64 ns, .string name, .slice ao n' c', .string text, .slice none 0 0] 38)) := (Kp.refl _ _).alloc _
    have CL : Cl (w.alloc (.cells #[.int .i64 4, .int .i64 ns, .string name, .slice ao n' c', .string text, .slice none 0 0] 38)) w.heap.size 0 (4, ns, name, l, text) ((ao, n', c'), (none, 0, 0)) := ⟨_, _, heap_new w _, fun i hi => by rw [Nat.zero_add]; simp [six]⟩
    have HN := nodeof_any _ _ _ (4, ns, name, l, text) ((ao, n', c'), (none, 0, 0)) CL (hr.kept k1) ha hf h1 h2
    have HA : Hid (∀ w2 np, Fr w w2 (keptL (4, ns, name, l, text)) np → Calls Tryz.prog 17 #[.pointer (some ⟨b, 0, none⟩), nv (keptL (4, ns, name, l, text)) np] w2 fun e w' => e = .returned (.int .i64 (A.n : Int)) ∧ ∃ tag', Pa tag' w' b q (A.new (keptL (4, ns, name, l, text))).n (A.new (keptL (4, ns, name, l, text))).raw ∧ Mv tag w tag' w') := fun w2 np fr => by
      refine (add_any h (by omega) _ np fr).mono ?_
      rintro e w3 ⟨rfl, t3, p3, m3⟩
      exact ⟨rfl, t3, pa_new ok p3, m3⟩
    generalize keptL (4, ns, name, l, text) = K at HN HA ht ⊢
    clear CL h hr
    go_enter Tryz.func20, Tryz.ntmps20
    go_wp2_with fail
    refine HN.mono ?_
    rintro e w2 ⟨np, rfl, fr⟩
    have HA2 := HA.out _ _ (Fr.back k1 fr)
    clear HN HA k1 fr
    generalize nv K np = V at HA2
    go_wp2_with fail
    refine HA2.mono ?_
    rintro e w3 ⟨rfl, t3, ⟨g3, o3, c3, pl3, h3⟩, m3⟩
    have HT := tmpl_any h3 (show A.n + 1 < 100000 by omega) A.n (Nat.lt_succ_self _)
    rw [show ((A.new K).raw A.n).lb = K by show (if A.n = A.n then K else A.lb A.n) = K; rw [if_pos rfl], ht] at HT
    clear HA2
    have hfin : Hid (∃ tag', Pa tag' w3 b q (A.new K).n (A.new K).raw ∧ Mv tag w tag' w3) := ⟨t3, ⟨g3, o3, c3, pl3, h3⟩, m3⟩
    clear h3 m3
    go_wp2_with (go_at_call 56; refine (HT).mono ?_; rintro e w9 ⟨rfl, hw⟩; have hw2 := hw.symm; clear hw; subst hw2)
    go_ret2
    exact ⟨rfl, hfin.out⟩
  · have k1 : Kp [] w (w.alloc (.cells #[.int .i64 5, .int .i64 ns, .string name, .slice ao n' c', .string text, .slice none 0 0] 38)) := (Kp.refl _ _).alloc _
    have CL : Cl (w.alloc (.cells #[.int .i64 5, .int .i64 ns, .string name, .slice ao n' c', .string text, .slice none 0 0] 38)) w.heap.size 0 (5, ns, name, l, text) ((ao, n', c'), (none, 0, 0)) := ⟨_, _, heap_new w _, fun i hi => by rw [Nat.zero_add]; simp [six]⟩
    have HN := nodeof_any _ _ _ (5, ns, name, l, text) ((ao, n', c'), (none, 0, 0)) CL (hr.kept k1) ha hf h1 h2
    have HA : Hid (∀ w2 np, Fr w w2 (keptL (5, ns, name, l, text)) np → Calls Tryz.prog 17 #[.pointer (some ⟨b, 0, none⟩), nv (keptL (5, ns, name, l, text)) np] w2 fun e w' => e = .returned (.int .i64 (A.n : Int)) ∧ ∃ tag', Pa tag' w' b q (A.new (keptL (5, ns, name, l, text))).n (A.new (keptL (5, ns, name, l, text))).raw ∧ Mv tag w tag' w') := fun w2 np fr => by
      refine (add_any h (by omega) _ np fr).mono ?_
      rintro e w3 ⟨rfl, t3, p3, m3⟩
      exact ⟨rfl, t3, pa_new ok p3, m3⟩
    generalize keptL (5, ns, name, l, text) = K at HN HA ht ⊢
    clear CL h hr
    go_enter Tryz.func20, Tryz.ntmps20
    go_wp2_with fail
    refine HN.mono ?_
    rintro e w2 ⟨np, rfl, fr⟩
    have HA2 := HA.out _ _ (Fr.back k1 fr)
    clear HN HA k1 fr
    generalize nv K np = V at HA2
    go_wp2_with fail
    refine HA2.mono ?_
    rintro e w3 ⟨rfl, t3, ⟨g3, o3, c3, pl3, h3⟩, m3⟩
    have HT := tmpl_any h3 (show A.n + 1 < 100000 by omega) A.n (Nat.lt_succ_self _)
    rw [show ((A.new K).raw A.n).lb = K by show (if A.n = A.n then K else A.lb A.n) = K; rw [if_pos rfl], ht] at HT
    clear HA2
    have hfin : Hid (∃ tag', Pa tag' w3 b q (A.new K).n (A.new K).raw ∧ Mv tag w tag' w3) := ⟨t3, ⟨g3, o3, c3, pl3, h3⟩, m3⟩
    clear h3 m3
    go_wp2_with (go_at_call 56; refine (HT).mono ?_; rintro e w9 ⟨rfl, hw⟩; have hw2 := hw.symm; clear hw; subst hw2)
    go_ret2
    exact ⟨rfl, hfin.out⟩
  · have t9 : name.toList.isEmpty = false := ne_empty h0
    have k1 : Kp [] w (w.alloc (.cells #[.int .i64 3, .int .i64 1, .string name, .slice ao n' c', .string text, .slice none 0 0] 38)) := (Kp.refl _ _).alloc _
    have CL : Cl (w.alloc (.cells #[.int .i64 3, .int .i64 1, .string name, .slice ao n' c', .string text, .slice none 0 0] 38)) w.heap.size 0 (3, 1, name, l, text) ((ao, n', c'), (none, 0, 0)) := ⟨_, _, heap_new w _, fun i hi => by rw [Nat.zero_add]; simp [six]⟩
    have HN := nodeof_any _ _ _ (3, 1, name, l, text) ((ao, n', c'), (none, 0, 0)) CL (hr.kept k1) ha hf h1 h2
    have HA : Hid (∀ w2 np, Fr w w2 (keptL (3, 1, name, l, text)) np → Calls Tryz.prog 17 #[.pointer (some ⟨b, 0, none⟩), nv (keptL (3, 1, name, l, text)) np] w2 fun e w' => e = .returned (.int .i64 (A.n : Int)) ∧ ∃ tag', Pa tag' w' b q (A.new (keptL (3, 1, name, l, text))).n (A.new (keptL (3, 1, name, l, text))).raw ∧ Mv tag w tag' w') := fun w2 np fr => by
      refine (add_any h (by omega) _ np fr).mono ?_
      rintro e w3 ⟨rfl, t3, p3, m3⟩
      exact ⟨rfl, t3, pa_new ok p3, m3⟩
    generalize keptL (3, 1, name, l, text) = K at HN HA ht ⊢
    clear CL h hr
    go_enter Tryz.func20, Tryz.ntmps20
    go_wp2_with fail
    refine HN.mono ?_
    rintro e w2 ⟨np, rfl, fr⟩
    have HA2 := HA.out _ _ (Fr.back k1 fr)
    clear HN HA k1 fr
    generalize nv K np = V at HA2
    go_wp2_with fail
    refine HA2.mono ?_
    rintro e w3 ⟨rfl, t3, ⟨g3, o3, c3, pl3, h3⟩, m3⟩
    have HT := tmpl_any h3 (show A.n + 1 < 100000 by omega) A.n (Nat.lt_succ_self _)
    rw [show ((A.new K).raw A.n).lb = K by show (if A.n = A.n then K else A.lb A.n) = K; rw [if_pos rfl], ht] at HT
    clear HA2
    have hfin : Hid (∃ tag', Pa tag' w3 b q (A.new K).n (A.new K).raw ∧ Mv tag w tag' w3) := ⟨t3, ⟨g3, o3, c3, pl3, h3⟩, m3⟩
    clear h3 m3
    go_wp2_with (go_at_call 56; refine (HT).mono ?_; rintro e w9 ⟨rfl, hw⟩; have hw2 := hw.symm; clear hw; subst hw2)
    go_ret2
    exact ⟨rfl, hfin.out⟩
  · have t9 : name.toList.isEmpty = false := ne_empty h0
    have k1 : Kp [] w (w.alloc (.cells #[.int .i64 3, .int .i64 2, .string name, .slice ao n' c', .string text, .slice none 0 0] 38)) := (Kp.refl _ _).alloc _
    have CL : Cl (w.alloc (.cells #[.int .i64 3, .int .i64 2, .string name, .slice ao n' c', .string text, .slice none 0 0] 38)) w.heap.size 0 (3, 2, name, l, text) ((ao, n', c'), (none, 0, 0)) := ⟨_, _, heap_new w _, fun i hi => by rw [Nat.zero_add]; simp [six]⟩
    have HN := nodeof_any _ _ _ (3, 2, name, l, text) ((ao, n', c'), (none, 0, 0)) CL (hr.kept k1) ha hf h1 h2
    have HA : Hid (∀ w2 np, Fr w w2 (keptL (3, 2, name, l, text)) np → Calls Tryz.prog 17 #[.pointer (some ⟨b, 0, none⟩), nv (keptL (3, 2, name, l, text)) np] w2 fun e w' => e = .returned (.int .i64 (A.n : Int)) ∧ ∃ tag', Pa tag' w' b q (A.new (keptL (3, 2, name, l, text))).n (A.new (keptL (3, 2, name, l, text))).raw ∧ Mv tag w tag' w') := fun w2 np fr => by
      refine (add_any h (by omega) _ np fr).mono ?_
      rintro e w3 ⟨rfl, t3, p3, m3⟩
      exact ⟨rfl, t3, pa_new ok p3, m3⟩
    generalize keptL (3, 2, name, l, text) = K at HN HA ht ⊢
    clear CL h hr
    go_enter Tryz.func20, Tryz.ntmps20
    go_wp2_with fail
    refine HN.mono ?_
    rintro e w2 ⟨np, rfl, fr⟩
    have HA2 := HA.out _ _ (Fr.back k1 fr)
    clear HN HA k1 fr
    generalize nv K np = V at HA2
    go_wp2_with fail
    refine HA2.mono ?_
    rintro e w3 ⟨rfl, t3, ⟨g3, o3, c3, pl3, h3⟩, m3⟩
    have HT := tmpl_any h3 (show A.n + 1 < 100000 by omega) A.n (Nat.lt_succ_self _)
    rw [show ((A.new K).raw A.n).lb = K by show (if A.n = A.n then K else A.lb A.n) = K; rw [if_pos rfl], ht] at HT
    clear HA2
    have hfin : Hid (∃ tag', Pa tag' w3 b q (A.new K).n (A.new K).raw ∧ Mv tag w tag' w3) := ⟨t3, ⟨g3, o3, c3, pl3, h3⟩, m3⟩
    clear h3 m3
    go_wp2_with (go_at_call 56; refine (HT).mono ?_; rintro e w9 ⟨rfl, hw⟩; have hw2 := hw.symm; clear hw; subst hw2)
    go_ret2
    exact ⟨rfl, hfin.out⟩

set_option maxRecDepth 100000 in
set_option maxHeartbeats 1000000 in
/-- Make of a template. -/
theorem mk_tmpl (h : Rw tag w b g o c q A.n A.raw pl) (ok : A.Ok) (hn : A.n < 40000) (name text : ByteArray) (l : List Att) (ao : Option Addr) (n' c' : Nat) (hr : Rp w ao n' c' l) (ha : n' ≤ 10000) (hf : fits l) (h1 : name.size ≤ 1000000) (h2 : text.size ≤ 1000000) (h0 : name.size ≠ 0)
    (ht : tmplF (keptL (3, 1, name, l, text)) = true) :
    Calls Tryz.prog 20 #[.pointer (some ⟨b, 0, none⟩), .int .i64 3, .int .i64 1, .string name, .slice ao n' c', .string text] w fun e w' => e = .returned (.tuple #[.int .i64 (A.n : Int), .int .i64 0]) ∧ ∃ tag', Pa tag' w' b q (A.newT (keptL (3, 1, name, l, text))).n (A.newT (keptL (3, 1, name, l, text))).raw ∧ Mv tag w tag' w' := by
  have t9 : name.toList.isEmpty = false := ne_empty h0
  have k1 : Kp [] w (w.alloc (.cells #[.int .i64 3, .int .i64 1, .string name, .slice ao n' c', .string text, .slice none 0 0] 38)) := (Kp.refl _ _).alloc _
  have CL : Cl (w.alloc (.cells #[.int .i64 3, .int .i64 1, .string name, .slice ao n' c', .string text, .slice none 0 0] 38)) w.heap.size 0 (3, 1, name, l, text) ((ao, n', c'), (none, 0, 0)) := ⟨_, _, heap_new w _, fun i hi => by rw [Nat.zero_add]; simp [six]⟩
  have HN := nodeof_any _ _ _ (3, 1, name, l, text) ((ao, n', c'), (none, 0, 0)) CL (hr.kept k1) ha hf h1 h2
  have HA : Hid (∀ w2 np, Fr w w2 (keptL (3, 1, name, l, text)) np → Calls Tryz.prog 17 #[.pointer (some ⟨b, 0, none⟩), nv (keptL (3, 1, name, l, text)) np] w2 fun e w' => e = .returned (.int .i64 (A.n : Int)) ∧ ∃ tag', Pa tag' w' b q (A.new (keptL (3, 1, name, l, text))).n (A.new (keptL (3, 1, name, l, text))).raw ∧ Mv tag w tag' w') := fun w2 np fr => by
    refine (add_any h (by omega) _ np fr).mono ?_
    rintro e w3 ⟨rfl, t3, p3, m3⟩
    exact ⟨rfl, t3, pa_new ok p3, m3⟩
  generalize keptL (3, 1, name, l, text) = K at HN HA ht ⊢
  clear CL h hr
  go_enter Tryz.func20, Tryz.ntmps20
  go_wp2_with fail
  refine HN.mono ?_
  rintro e w2 ⟨np, rfl, fr⟩
  have HA2 := HA.out _ _ (Fr.back k1 fr)
  clear HN HA k1 fr
  generalize nv K np = V at HA2
  go_wp2_with fail
  refine HA2.mono ?_
  rintro e w3 ⟨rfl, t3, ⟨g3, o3, c3, pl3, h3⟩, m3⟩
  have HT := tmpl_any h3 (show A.n + 1 < 100000 by omega) A.n (Nat.lt_succ_self _)
  rw [show ((A.new K).raw A.n).lb = K by show (if A.n = A.n then K else A.lb A.n) = K; rw [if_pos rfl], ht] at HT
  clear HA2
  have oN : (A.new K).Ok := ok.new K
  have HC := add_any h3 (show A.n + 1 < 50000 by omega) (6, 0, ⟨#[]⟩, [], ⟨#[]⟩) np0 (Fr.none (Kp.refl [] w3) rfl rfl)
  rw [show (A.new K).n = A.n + 1 from rfl] at HC
  unfold nv np0 at HC
  simp only at HC
  clear h3
  have cst : ((A.n + 1 : Nat) : Int) = (A.n : Int) + 1 := by omega
  rw [cst] at HC
  go_wp2_with (first | (go_at_call 56; refine (HT).mono ?_; rintro e w9 ⟨rfl, hw⟩; have hw2 := hw.symm; clear hw; subst hw2) | (go_at_call 17; refine HC.mono ?_; rintro e w4 ⟨rfl, t4, p4, m4⟩; refine Hid.out ?_))
  unfold Hid
  obtain ⟨g4, o4, c4, pl4, h4⟩ := pa_new (A := A.new K) oN p4
  have HL := rz_link (Rz.mk h4 (Kp.refl [g4] w4)) rfl (oN.new _) (show A.n + 1 + 1 < 50000 by omega) (p := A.n) (x := A.n + 1) (show A.n < A.n + 1 + 1 by omega) (show A.n + 1 < A.n + 1 + 1 by omega) (ok.out (A.n + 1) (by omega)).2
  rw [show (((A.new K).new (6, 0, ⟨#[]⟩, [], ⟨#[]⟩)).kids A.n) = [] from (ok.out A.n (Nat.le_refl _)).1, cst] at HL
  have mm : Hid (Mv tag w t4 w4) := m3.trans m4
  clear HC HT p4 m4 h4 m3
  go_wp2_with (go_at_call 43; refine HL.mono ?_; rintro e w5 ⟨rfl, z5⟩)
  go_ret2
  exact ⟨rfl, t4, ⟨g4, o4, c4, pl4, z5.1⟩, mm.out.trans z5.mv⟩

end

end Go.Proofs.YtgjkfpmhgidpaaaGreat
