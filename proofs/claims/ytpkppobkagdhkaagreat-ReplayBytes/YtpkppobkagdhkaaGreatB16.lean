/-
 PrE.
-/
import Derived.Test.YtpkppobkagdhkaaGreatB15
import Derived.Deep.RegionWith
import Derived.Deep.CutRange
set_option linter.unusedVariables false
set_option linter.unusedSimpArgs false
set_option maxRecDepth 100000
set_option maxHeartbeats 1000000
namespace Go.Proofs.YtpkppobkagdhkaaGreat
open Go.RowKit Go.Maps Utf
def putE (w : World) (g : Nat) (v0 v1 v2 v3 v4 v5 v6 v7 v8 v9 v10 : Value) : World := ((((((((((w.setCell ⟨g,0,none⟩ v0).setCell ⟨g,1,none⟩ v1).setCell ⟨g,2,none⟩ v2).setCell ⟨g,3,none⟩ v3).setCell ⟨g,4,none⟩ v4).setCell ⟨g,5,none⟩ v5).setCell ⟨g,6,none⟩ v6).setCell ⟨g,7,none⟩ v7).setCell ⟨g,8,none⟩ v8).setCell ⟨g,9,none⟩ v9).setCell ⟨g,10,none⟩ v10
theorem Kp.putE {S : List Nat} {a w : World} (h : Kp S a w) {g : Nat} (hg : g ∈ S ∨ a.heap.size ≤ g) (v0 v1 v2 v3 v4 v5 v6 v7 v8 v9 v10 : Value) : Kp S a (putE w g v0 v1 v2 v3 v4 v5 v6 v7 v8 v9 v10) := (((((((((((h.setCell hg v0).setCell hg v1).setCell hg v2).setCell hg v3).setCell hg v4).setCell hg v5).setCell hg v6).setCell hg v7).setCell hg v8).setCell hg v9).setCell hg v10)
theorem At.putE {w : World} {g : Nat} {e : TypeId} {u0 u1 u2 u3 u4 u5 u6 u7 u8 u9 u10 : Value} (h : At w g #[u0,u1,u2,u3,u4,u5,u6,u7,u8,u9,u10] e) (v0 v1 v2 v3 v4 v5 v6 v7 v8 v9 v10 : Value) : At (putE w g v0 v1 v2 v3 v4 v5 v6 v7 v8 v9 v10) g #[v0,v1,v2,v3,v4,v5,v6,v7,v8,v9,v10] e := by
 have h0 : At _ g #[v0,u1,u2,u3,u4,u5,u6,u7,u8,u9,u10] e := h.set 0 v0
 have h1 : At _ g #[v0,v1,u2,u3,u4,u5,u6,u7,u8,u9,u10] e := h0.set 1 v1
 have h2 : At _ g #[v0,v1,v2,u3,u4,u5,u6,u7,u8,u9,u10] e := h1.set 2 v2
 have h3 : At _ g #[v0,v1,v2,v3,u4,u5,u6,u7,u8,u9,u10] e := h2.set 3 v3
 have h4 : At _ g #[v0,v1,v2,v3,v4,u5,u6,u7,u8,u9,u10] e := h3.set 4 v4
 have h5 : At _ g #[v0,v1,v2,v3,v4,v5,u6,u7,u8,u9,u10] e := h4.set 5 v5
 have h6 : At _ g #[v0,v1,v2,v3,v4,v5,v6,u7,u8,u9,u10] e := h5.set 6 v6
 have h7 : At _ g #[v0,v1,v2,v3,v4,v5,v6,v7,u8,u9,u10] e := h6.set 7 v7
 have h8 : At _ g #[v0,v1,v2,v3,v4,v5,v6,v7,v8,u9,u10] e := h7.set 8 v8
 have h9 : At _ g #[v0,v1,v2,v3,v4,v5,v6,v7,v8,v9,u10] e := h8.set 9 v9
 have h10 : At _ g #[v0,v1,v2,v3,v4,v5,v6,v7,v8,v9,v10] e := h9.set 10 v10
 exact h10
theorem At.eleven {w : World} {g : Nat} {e : TypeId} {v0 v1 v2 v3 v4 v5 v6 v7 v8 v9 v10 : Value} (h : At w g #[v0,v1,v2,v3,v4,v5,v6,v7,v8,v9,v10] e) : w.cell? ⟨g,0,none⟩ = some v0 ∧ w.cell? ⟨g,1,none⟩ = some v1 ∧ w.cell? ⟨g,2,none⟩ = some v2 ∧ w.cell? ⟨g,3,none⟩ = some v3 ∧ w.cell? ⟨g,4,none⟩ = some v4 ∧ w.cell? ⟨g,5,none⟩ = some v5 ∧ w.cell? ⟨g,6,none⟩ = some v6 ∧ w.cell? ⟨g,7,none⟩ = some v7 ∧ w.cell? ⟨g,8,none⟩ = some v8 ∧ w.cell? ⟨g,9,none⟩ = some v9 ∧ w.cell? ⟨g,10,none⟩ = some v10 :=
 ⟨h.cell 0,h.cell 1,h.cell 2,h.cell 3,h.cell 4,h.cell 5,h.cell 6,h.cell 7,h.cell 8,h.cell 9,h.cell 10⟩
theorem laidE {w W : World} {g : Nat} {e : TypeId} {u0 u1 u2 u3 u4 u5 u6 u7 u8 u9 u10 : Value} (k : Kp [] w W) (r : At W g #[u0,u1,u2,u3,u4,u5,u6,u7,u8,u9,u10] e) (hg : w.heap.size ≤ g) (v0 v1 v2 v3 v4 v5 v6 v7 v8 v9 v10 : Value) : Hid ((putE W g v0 v1 v2 v3 v4 v5 v6 v7 v8 v9 v10).cell? ⟨g,0,none⟩ = some v0 ∧ (putE W g v0 v1 v2 v3 v4 v5 v6 v7 v8 v9 v10).cell? ⟨g,1,none⟩ = some v1 ∧ (putE W g v0 v1 v2 v3 v4 v5 v6 v7 v8 v9 v10).cell? ⟨g,2,none⟩ = some v2 ∧ (putE W g v0 v1 v2 v3 v4 v5 v6 v7 v8 v9 v10).cell? ⟨g,3,none⟩ = some v3 ∧ (putE W g v0 v1 v2 v3 v4 v5 v6 v7 v8 v9 v10).cell? ⟨g,4,none⟩ = some v4 ∧ (putE W g v0 v1 v2 v3 v4 v5 v6 v7 v8 v9 v10).cell? ⟨g,5,none⟩ = some v5 ∧ (putE W g v0 v1 v2 v3 v4 v5 v6 v7 v8 v9 v10).cell? ⟨g,6,none⟩ = some v6 ∧ (putE W g v0 v1 v2 v3 v4 v5 v6 v7 v8 v9 v10).cell? ⟨g,7,none⟩ = some v7 ∧ (putE W g v0 v1 v2 v3 v4 v5 v6 v7 v8 v9 v10).cell? ⟨g,8,none⟩ = some v8 ∧ (putE W g v0 v1 v2 v3 v4 v5 v6 v7 v8 v9 v10).cell? ⟨g,9,none⟩ = some v9 ∧ (putE W g v0 v1 v2 v3 v4 v5 v6 v7 v8 v9 v10).cell? ⟨g,10,none⟩ = some v10 ∧ Kp [] w (putE W g v0 v1 v2 v3 v4 v5 v6 v7 v8 v9 v10)) :=
 ⟨(r.putE v0 v1 v2 v3 v4 v5 v6 v7 v8 v9 v10).cell 0,(r.putE v0 v1 v2 v3 v4 v5 v6 v7 v8 v9 v10).cell 1,(r.putE v0 v1 v2 v3 v4 v5 v6 v7 v8 v9 v10).cell 2,(r.putE v0 v1 v2 v3 v4 v5 v6 v7 v8 v9 v10).cell 3,(r.putE v0 v1 v2 v3 v4 v5 v6 v7 v8 v9 v10).cell 4,(r.putE v0 v1 v2 v3 v4 v5 v6 v7 v8 v9 v10).cell 5,(r.putE v0 v1 v2 v3 v4 v5 v6 v7 v8 v9 v10).cell 6,(r.putE v0 v1 v2 v3 v4 v5 v6 v7 v8 v9 v10).cell 7,(r.putE v0 v1 v2 v3 v4 v5 v6 v7 v8 v9 v10).cell 8,(r.putE v0 v1 v2 v3 v4 v5 v6 v7 v8 v9 v10).cell 9,(r.putE v0 v1 v2 v3 v4 v5 v6 v7 v8 v9 v10).cell 10,k.putE (Or.inr hg) v0 v1 v2 v3 v4 v5 v6 v7 v8 v9 v10⟩
def keptL (l : Lb) : Lb :=
 if l.kind = 3 then (3,l.ns,l.name,uniq l.attrs,⟨#[]⟩)
 else if l.kind = 2 then (2,0,l.name,[],⟨#[]⟩)
 else if l.kind = 4 ∨ l.kind = 5 then (l.kind,0,⟨#[]⟩,[],l.text)
 else (l.kind,0,⟨#[]⟩,[],⟨#[]⟩)
structure Fr (w w' : World) (l : Lb) (p : Np) : Prop where
 kp : Kp [] w w'
 at' : OwnK 2 w' 102 (.slice p.ao p.an p.ac) p.an (cs l.attrs)
 atN : ∀ x,x ∈ blk (.slice p.ao p.an p.ac) → w.heap.size ≤ x
 tx : OwT w' (.slice p.to p.tn p.tc) l.text
 txN : ∀ x,x ∈ blk (.slice p.to p.tn p.tc) → w.heap.size ≤ x
 ap : ∀ x,x ∈ blk (.slice p.ao p.an p.ac) → x ∉ blk (.slice p.to p.tn p.tc)
 nm : p.nm = none
def np0 : Np := ⟨none,0,0,none,none,0,0⟩
theorem Fr.none {w w' : World} (k : Kp [] w w') {l : Lb} (h1 : l.attrs = []) (h2 : l.text = ⟨#[]⟩) : Fr w w' l np0 :=
 ⟨k,by rw [h1]; exact ⟨rfl,Or.inl ⟨rfl,rfl⟩⟩,fun x hx => by simp [np0,blk] at hx,by rw [h2]; exact OwT.nil w',fun x hx => by simp [np0,blk] at hx,fun x hx => by simp [np0,blk] at hx,rfl⟩
def Z11 : Array Value := #[.int .i64 0,.int .i64 0,.string ⟨#[]⟩,.slice none 0 0,.map none,.slice none 0 0,.int .i64 0,.int .i64 0,.int .i64 0,.int .i64 0,.int .i64 0]
def nv (l : Lb) (p : Np) : Value := .agg #[.int .i64 l.kind,.int .i64 l.ns,.string l.name,.slice p.ao p.an p.ac,.map p.nm,.slice p.to p.tn p.tc,.int .i64 0,.int .i64 0,.int .i64 0,.int .i64 0,.int .i64 0]
theorem nodeof_else (w : World) (b1 off : Nat) (l : Lb) (p : Pl) (hc : Cl w b1 off l p) (h3 : l.kind ≠ 3) (h2 : l.kind ≠ 2) (h4 : l.kind ≠ 4) (h5 : l.kind ≠ 5) :
  Calls Tryz.prog 122 #[.pointer (some ⟨b1,off,none⟩)] w fun e w' => e = .returned (nv (l.kind,0,⟨#[]⟩,[],⟨#[]⟩) np0) ∧ Kp [] w w' := by
 obtain ⟨c0,_⟩ := hc.cells
 have hb := hc.lt
 have t3 : (l.kind == 3) = false := beq_false_of_ne h3
 have t2 : (l.kind == 2) = false := beq_false_of_ne h2
 have t4 : (l.kind == 4) = false := beq_false_of_ne h4
 have t5 : (l.kind == 5) = false := beq_false_of_ne h5
 generalize l.kind = kd at c0 t3 t2 t4 t5 ⊢
 clear hc h3 h2 h4 h5
 unfold nv np0
 go_enter Tryz.func122,Tryz.ntmps122
 go_wp2
 refine bodyPost_ret (v := .agg #[.int .i64 kd,.int .i64 0,.string ⟨#[]⟩,.slice none 0 0,.map none,.slice none 0 0,.int .i64 0,.int .i64 0,.int .i64 0,.int .i64 0,.int .i64 0]) (by simp [results,go_sem]) rfl ⟨rfl,((Kp.refl [] w).alloc _).alloc _⟩
theorem nodeof_text4 (w : World) (b1 off : Nat) (l : Lb) (p : Pl) (hc : Cl w b1 off l p) (hk : l.kind = 4) (hs : l.text.size ≤ 1000000) :
  Calls Tryz.prog 122 #[.pointer (some ⟨b1,off,none⟩)] w fun e w' => ∃ np,e = .returned (nv (4,0,⟨#[]⟩,[],l.text) np) ∧ Fr w w' (4,0,⟨#[]⟩,[],l.text) np := by
 obtain ⟨c0,_,_,_,c4,_⟩ := hc.cells
 have hb := hc.lt
 rw [hk] at c0
 clear hc hk
 obtain ⟨B,hB⟩ : ∃ B,B = (w.alloc (.cells #[.int .i64 0,.int .i64 0,.string ⟨#[]⟩,.slice none 0 0,.map none,.slice none 0 0,.int .i64 0,.int .i64 0,.int .i64 0,.int .i64 0,.int .i64 0] 109)).alloc (.cells #[.int .i64 4,.int .i64 0,.string ⟨#[]⟩,.slice none 0 0,.map none,.slice none 0 0,.int .i64 0,.int .i64 0,.int .i64 0,.int .i64 0,.int .i64 0] 109) := ⟨_,rfl⟩
 have kB : Kp [] w B := by rw [hB]; exact ((Kp.refl _ _).alloc _).alloc _
 have sB : B.heap.size = w.heap.size + 2 := by rw [hB]; simp
 have AR : At B w.heap.size #[.int .i64 0,.int .i64 0,.string ⟨#[]⟩,.slice none 0 0,.map none,.slice none 0 0,.int .i64 0,.int .i64 0,.int .i64 0,.int .i64 0,.int .i64 0] 109 := by rw [hB]; exact (At.new w _ _).kept ((Kp.refl [] _).alloc _) (by simp)
 have AX : At B (w.heap.size + 1) #[.int .i64 4,.int .i64 0,.string ⟨#[]⟩,.slice none 0 0,.map none,.slice none 0 0,.int .i64 0,.int .i64 0,.int .i64 0,.int .i64 0,.int .i64 0] 109 := by rw [hB]; exact At.new' _ _ _ _ (by simp)
 obtain ⟨W,c2,hrun,O2,K2⟩ := to_text B l.text hs
 rw [sB] at hrun O2
 have AR := AR.kept K2 (by simp)
 have AX := AX.kept K2 (by simp)
 have kW : Kp [] w W := kB.trans K2 (fun x hx => Or.inl hx)
 rw [hB] at hrun
 clear hB kB K2 sB
 obtain ⟨F,hF⟩ : ∃ F,F = W.setCell ⟨w.heap.size + 1,5,none⟩ (.slice (some ⟨w.heap.size + 2,0,none⟩) l.text.size c2) := ⟨_,rfl⟩
 have AXF : At F (w.heap.size + 1) #[.int .i64 4,.int .i64 0,.string ⟨#[]⟩,.slice none 0 0,.map none,.slice (some ⟨w.heap.size + 2,0,none⟩) l.text.size c2,.int .i64 0,.int .i64 0,.int .i64 0,.int .i64 0,.int .i64 0] 109 := by rw [hF]; exact AX.set 5 _
 have kF1 : Kp [w.heap.size + 1] W F := by rw [hF]; exact (Kp.refl _ _).setCell (Or.inl (by simp)) _
 have ARF := AR.kept kF1 (by simp)
 have kF : Kp [] w F := kW.trans kF1 (fun x hx => Or.inr (by simp at hx; omega))
 have OF : Hid (OwT F (.slice (some ⟨w.heap.size + 2,0,none⟩) l.text.size c2) l.text) := O2.keep kF1 (fun x hx => by simp [blk] at hx; simp; omega)
 have D := laidE kF ARF (Nat.le_refl _) (.int .i64 4) (.int .i64 0) (.string ⟨#[]⟩) (.slice none 0 0) (.map none) (.slice (some ⟨w.heap.size + 2,0,none⟩) l.text.size c2) (.int .i64 0) (.int .i64 0) (.int .i64 0) (.int .i64 0) (.int .i64 0)
 have OD : Hid (Kp [w.heap.size] F (putE F w.heap.size (.int .i64 4) (.int .i64 0) (.string ⟨#[]⟩) (.slice none 0 0) (.map none) (.slice (some ⟨w.heap.size + 2,0,none⟩) l.text.size c2) (.int .i64 0) (.int .i64 0) (.int .i64 0) (.int .i64 0) (.int .i64 0))) := (Kp.refl _ _).putE (Or.inl (by simp)) (.int .i64 4) (.int .i64 0) (.string ⟨#[]⟩) (.slice none 0 0) (.map none) (.slice (some ⟨w.heap.size + 2,0,none⟩) l.text.size c2) (.int .i64 0) (.int .i64 0) (.int .i64 0) (.int .i64 0) (.int .i64 0)
 unfold putE at D OD
 obtain ⟨_,_,_,_,_,x5,_⟩ := AX.eleven
 have fx := AX.free 5
 have HF : Hid (W.setCell ⟨w.heap.size + 1,5,none⟩ (.slice (some ⟨w.heap.size + 2,0,none⟩) l.text.size c2) = F) := hF.symm
 clear AX AR hF O2 kW kF1 kF
 go_enter Tryz.func122,Tryz.ntmps122
 go_upto_region 10 with fail
 rw [HF.out]
 clear hrun x5 fx HF
 obtain ⟨y0,y1,y2,y3,y4,y5,y6,y7,y8,y9,y10⟩ := AXF.eleven
 obtain ⟨z0,z1,z2,z3,z4,z5,z6,z7,z8,z9,z10⟩ := ARF.eleven
 have fr := ARF.free
 clear AXF ARF
 go_wp2
 obtain ⟨x0,x1,x2,x3,x4,x5,x6,x7,x8,x9,x10,kD⟩ := D.out
 refine bodyPost_ret (v := .agg #[.int .i64 4,.int .i64 0,.string ⟨#[]⟩,.slice none 0 0,.map none,.slice (some ⟨w.heap.size + 2,0,none⟩) l.text.size c2,.int .i64 0,.int .i64 0,.int .i64 0,.int .i64 0,.int .i64 0]) (by simp [results,go_sem,x0,x1,x2,x3,x4,x5,x6,x7,x8,x9,x10]) rfl ⟨⟨none,0,0,none,some ⟨w.heap.size + 2,0,none⟩,l.text.size,c2⟩,rfl,⟨kD,⟨rfl,Or.inl ⟨rfl,rfl⟩⟩,fun x hx => by simp [blk] at hx,OF.out.keep OD.out (fun x hx => by simp [blk] at hx; simp; omega),fun x hx => by simp [blk] at hx; omega,fun x hx => by simp [blk] at hx,rfl⟩⟩
theorem nodeof_text5 (w : World) (b1 off : Nat) (l : Lb) (p : Pl) (hc : Cl w b1 off l p) (hk : l.kind = 5) (hs : l.text.size ≤ 1000000) :
  Calls Tryz.prog 122 #[.pointer (some ⟨b1,off,none⟩)] w fun e w' => ∃ np,e = .returned (nv (5,0,⟨#[]⟩,[],l.text) np) ∧ Fr w w' (5,0,⟨#[]⟩,[],l.text) np := by
 obtain ⟨c0,_,_,_,c4,_⟩ := hc.cells
 have hb := hc.lt
 rw [hk] at c0
 clear hc hk
 obtain ⟨B,hB⟩ : ∃ B,B = (w.alloc (.cells #[.int .i64 0,.int .i64 0,.string ⟨#[]⟩,.slice none 0 0,.map none,.slice none 0 0,.int .i64 0,.int .i64 0,.int .i64 0,.int .i64 0,.int .i64 0] 109)).alloc (.cells #[.int .i64 5,.int .i64 0,.string ⟨#[]⟩,.slice none 0 0,.map none,.slice none 0 0,.int .i64 0,.int .i64 0,.int .i64 0,.int .i64 0,.int .i64 0] 109) := ⟨_,rfl⟩
 have kB : Kp [] w B := by rw [hB]; exact ((Kp.refl _ _).alloc _).alloc _
 have sB : B.heap.size = w.heap.size + 2 := by rw [hB]; simp
 have AR : At B w.heap.size #[.int .i64 0,.int .i64 0,.string ⟨#[]⟩,.slice none 0 0,.map none,.slice none 0 0,.int .i64 0,.int .i64 0,.int .i64 0,.int .i64 0,.int .i64 0] 109 := by rw [hB]; exact (At.new w _ _).kept ((Kp.refl [] _).alloc _) (by simp)
 have AX : At B (w.heap.size + 1) #[.int .i64 5,.int .i64 0,.string ⟨#[]⟩,.slice none 0 0,.map none,.slice none 0 0,.int .i64 0,.int .i64 0,.int .i64 0,.int .i64 0,.int .i64 0] 109 := by rw [hB]; exact At.new' _ _ _ _ (by simp)
 obtain ⟨W,c2,hrun,O2,K2⟩ := to_text B l.text hs
 rw [sB] at hrun O2
 have AR := AR.kept K2 (by simp)
 have AX := AX.kept K2 (by simp)
 have kW : Kp [] w W := kB.trans K2 (fun x hx => Or.inl hx)
 rw [hB] at hrun
 clear hB kB K2 sB
 obtain ⟨F,hF⟩ : ∃ F,F = W.setCell ⟨w.heap.size + 1,5,none⟩ (.slice (some ⟨w.heap.size + 2,0,none⟩) l.text.size c2) := ⟨_,rfl⟩
 have AXF : At F (w.heap.size + 1) #[.int .i64 5,.int .i64 0,.string ⟨#[]⟩,.slice none 0 0,.map none,.slice (some ⟨w.heap.size + 2,0,none⟩) l.text.size c2,.int .i64 0,.int .i64 0,.int .i64 0,.int .i64 0,.int .i64 0] 109 := by rw [hF]; exact AX.set 5 _
 have kF1 : Kp [w.heap.size + 1] W F := by rw [hF]; exact (Kp.refl _ _).setCell (Or.inl (by simp)) _
 have ARF := AR.kept kF1 (by simp)
 have kF : Kp [] w F := kW.trans kF1 (fun x hx => Or.inr (by simp at hx; omega))
 have OF : Hid (OwT F (.slice (some ⟨w.heap.size + 2,0,none⟩) l.text.size c2) l.text) := O2.keep kF1 (fun x hx => by simp [blk] at hx; simp; omega)
 have D := laidE kF ARF (Nat.le_refl _) (.int .i64 5) (.int .i64 0) (.string ⟨#[]⟩) (.slice none 0 0) (.map none) (.slice (some ⟨w.heap.size + 2,0,none⟩) l.text.size c2) (.int .i64 0) (.int .i64 0) (.int .i64 0) (.int .i64 0) (.int .i64 0)
 have OD : Hid (Kp [w.heap.size] F (putE F w.heap.size (.int .i64 5) (.int .i64 0) (.string ⟨#[]⟩) (.slice none 0 0) (.map none) (.slice (some ⟨w.heap.size + 2,0,none⟩) l.text.size c2) (.int .i64 0) (.int .i64 0) (.int .i64 0) (.int .i64 0) (.int .i64 0))) := (Kp.refl _ _).putE (Or.inl (by simp)) (.int .i64 5) (.int .i64 0) (.string ⟨#[]⟩) (.slice none 0 0) (.map none) (.slice (some ⟨w.heap.size + 2,0,none⟩) l.text.size c2) (.int .i64 0) (.int .i64 0) (.int .i64 0) (.int .i64 0) (.int .i64 0)
 unfold putE at D OD
 obtain ⟨_,_,_,_,_,x5,_⟩ := AX.eleven
 have fx := AX.free 5
 have HF : Hid (W.setCell ⟨w.heap.size + 1,5,none⟩ (.slice (some ⟨w.heap.size + 2,0,none⟩) l.text.size c2) = F) := hF.symm
 clear AX AR hF O2 kW kF1 kF
 go_enter Tryz.func122,Tryz.ntmps122
 go_upto_region 10 with fail
 rw [HF.out]
 clear hrun x5 fx HF
 obtain ⟨y0,y1,y2,y3,y4,y5,y6,y7,y8,y9,y10⟩ := AXF.eleven
 obtain ⟨z0,z1,z2,z3,z4,z5,z6,z7,z8,z9,z10⟩ := ARF.eleven
 have fr := ARF.free
 clear AXF ARF
 go_wp2
 obtain ⟨x0,x1,x2,x3,x4,x5,x6,x7,x8,x9,x10,kD⟩ := D.out
 refine bodyPost_ret (v := .agg #[.int .i64 5,.int .i64 0,.string ⟨#[]⟩,.slice none 0 0,.map none,.slice (some ⟨w.heap.size + 2,0,none⟩) l.text.size c2,.int .i64 0,.int .i64 0,.int .i64 0,.int .i64 0,.int .i64 0]) (by simp [results,go_sem,x0,x1,x2,x3,x4,x5,x6,x7,x8,x9,x10]) rfl ⟨⟨none,0,0,none,some ⟨w.heap.size + 2,0,none⟩,l.text.size,c2⟩,rfl,⟨kD,⟨rfl,Or.inl ⟨rfl,rfl⟩⟩,fun x hx => by simp [blk] at hx,OF.out.keep OD.out (fun x hx => by simp [blk] at hx; simp; omega),fun x hx => by simp [blk] at hx; omega,fun x hx => by simp [blk] at hx,rfl⟩⟩
theorem nodeof_doctype (w : World) (b1 off : Nat) (l : Lb) (p : Pl) (hc : Cl w b1 off l p) (hk : l.kind = 2) (hs : l.name.size ≤ 1000000) :
  Calls Tryz.prog 122 #[.pointer (some ⟨b1,off,none⟩)] w fun e w' => e = .returned (nv (2,0,l.name,[],⟨#[]⟩) np0) ∧ Kp [] w w' := by
 obtain ⟨c0,_,cn,_⟩ := hc.cells
 have hb := hc.lt
 rw [hk] at c0
 clear hc hk
 obtain ⟨B,hB⟩ : ∃ B,B = (w.alloc (.cells #[.int .i64 0,.int .i64 0,.string ⟨#[]⟩,.slice none 0 0,.map none,.slice none 0 0,.int .i64 0,.int .i64 0,.int .i64 0,.int .i64 0,.int .i64 0] 109)).alloc (.cells #[.int .i64 2,.int .i64 0,.string ⟨#[]⟩,.slice none 0 0,.map none,.slice none 0 0,.int .i64 0,.int .i64 0,.int .i64 0,.int .i64 0,.int .i64 0] 109) := ⟨_,rfl⟩
 have kB : Kp [] w B := by rw [hB]; exact ((Kp.refl _ _).alloc _).alloc _
 have AR : At B w.heap.size #[.int .i64 0,.int .i64 0,.string ⟨#[]⟩,.slice none 0 0,.map none,.slice none 0 0,.int .i64 0,.int .i64 0,.int .i64 0,.int .i64 0,.int .i64 0] 109 := by rw [hB]; exact (At.new w _ _).kept ((Kp.refl [] _).alloc _) (by simp)
 have AX : At B (w.heap.size + 1) #[.int .i64 2,.int .i64 0,.string ⟨#[]⟩,.slice none 0 0,.map none,.slice none 0 0,.int .i64 0,.int .i64 0,.int .i64 0,.int .i64 0,.int .i64 0] 109 := by rw [hB]; exact At.new' _ _ _ _ (by simp)
 have HN := clone_any B l.name (by omega)
 rw [hB] at HN
 unfold nv np0
 have HB : Hid ((w.alloc (.cells #[.int .i64 0,.int .i64 0,.string ⟨#[]⟩,.slice none 0 0,.map none,.slice none 0 0,.int .i64 0,.int .i64 0,.int .i64 0,.int .i64 0,.int .i64 0] 109)).alloc (.cells #[.int .i64 2,.int .i64 0,.string ⟨#[]⟩,.slice none 0 0,.map none,.slice none 0 0,.int .i64 0,.int .i64 0,.int .i64 0,.int .i64 0,.int .i64 0] 109) = B) := hB.symm
 clear hB
 go_enter Tryz.func122,Tryz.ntmps122
 go_wp2_with fail
 refine HN.mono ?_
 rintro e W ⟨rfl,K2⟩
 rw [HB.out] at K2
 have AR := AR.kept K2 (by simp)
 have AX := AX.kept K2 (by simp)
 have kW : Kp [] w W := kB.trans K2 (fun x hx => Or.inl hx)
 obtain ⟨F,hF⟩ : ∃ F,F = W.setCell ⟨w.heap.size + 1,2,none⟩ (.string l.name) := ⟨_,rfl⟩
 have AXF : At F (w.heap.size + 1) #[.int .i64 2,.int .i64 0,.string l.name,.slice none 0 0,.map none,.slice none 0 0,.int .i64 0,.int .i64 0,.int .i64 0,.int .i64 0,.int .i64 0] 109 := by rw [hF]; exact AX.set 2 _
 have kF1 : Kp [w.heap.size + 1] W F := by rw [hF]; exact (Kp.refl _ _).setCell (Or.inl (by simp)) _
 have ARF := AR.kept kF1 (by simp)
 have kF : Kp [] w F := kW.trans kF1 (fun x hx => Or.inr (by simp at hx; omega))
 have D := laidE kF ARF (Nat.le_refl _) (.int .i64 2) (.int .i64 0) (.string l.name) (.slice none 0 0) (.map none) (.slice none 0 0) (.int .i64 0) (.int .i64 0) (.int .i64 0) (.int .i64 0) (.int .i64 0)
 unfold putE at D
 obtain ⟨_,_,x5,_⟩ := AX.eleven
 have fx := AX.free 2
 have HF : Hid (W.setCell ⟨w.heap.size + 1,2,none⟩ (.string l.name) = F) := hF.symm
 clear AX AR hF kW kF1 kF kB K2 HN HB
 go_upto_region 10 with fail
 rw [HF.out]
 clear x5 fx HF
 obtain ⟨y0,y1,y2,y3,y4,y5,y6,y7,y8,y9,y10⟩ := AXF.eleven
 obtain ⟨z0,z1,z2,z3,z4,z5,z6,z7,z8,z9,z10⟩ := ARF.eleven
 have fr := ARF.free
 clear AXF ARF
 go_wp2
 obtain ⟨x0,x1,x2,x3,x4,x5,x6,x7,x8,x9,x10,kD⟩ := D.out
 refine bodyPost_ret (v := .agg #[.int .i64 2,.int .i64 0,.string l.name,.slice none 0 0,.map none,.slice none 0 0,.int .i64 0,.int .i64 0,.int .i64 0,.int .i64 0,.int .i64 0]) (by simp [results,go_sem,x0,x1,x2,x3,x4,x5,x6,x7,x8,x9,x10]) rfl ⟨rfl,kD⟩
theorem nodeof_element (w : World) (b1 off : Nat) (l : Lb) (p : Pl) (hc : Cl w b1 off l p) (hr : Rp w p.1.1 p.1.2.1 p.1.2.2 l.attrs) (hk : l.kind = 3) (hs : l.name.size ≤ 1000000) (ha : p.1.2.1 ≤ 10000) (hf : fits l.attrs) :
  Calls Tryz.prog 122 #[.pointer (some ⟨b1,off,none⟩)] w fun e w' => ∃ np,e = .returned (nv (3,l.ns,l.name,uniq l.attrs,⟨#[]⟩) np) ∧ Fr w w' (3,l.ns,l.name,uniq l.attrs,⟨#[]⟩) np := by
 obtain ⟨c0,cm,cn,ca,_⟩ := hc.cells
 have hb := hc.lt
 rw [hk] at c0
 obtain ⟨B,hB⟩ : ∃ B,B = (w.alloc (.cells #[.int .i64 0,.int .i64 0,.string ⟨#[]⟩,.slice none 0 0,.map none,.slice none 0 0,.int .i64 0,.int .i64 0,.int .i64 0,.int .i64 0,.int .i64 0] 109)).alloc (.cells #[.int .i64 3,.int .i64 0,.string ⟨#[]⟩,.slice none 0 0,.map none,.slice none 0 0,.int .i64 0,.int .i64 0,.int .i64 0,.int .i64 0,.int .i64 0] 109) := ⟨_,rfl⟩
 have kB : Kp [] w B := by rw [hB]; exact ((Kp.refl _ _).alloc _).alloc _
 have AR : At B w.heap.size #[.int .i64 0,.int .i64 0,.string ⟨#[]⟩,.slice none 0 0,.map none,.slice none 0 0,.int .i64 0,.int .i64 0,.int .i64 0,.int .i64 0,.int .i64 0] 109 := by rw [hB]; exact (At.new w _ _).kept ((Kp.refl [] _).alloc _) (by simp)
 have AX : At B (w.heap.size + 1) #[.int .i64 3,.int .i64 0,.string ⟨#[]⟩,.slice none 0 0,.map none,.slice none 0 0,.int .i64 0,.int .i64 0,.int .i64 0,.int .i64 0,.int .i64 0] 109 := by rw [hB]; exact At.new' _ _ _ _ (by simp)
 have HN : Hid (∀ W,Calls Tryz.prog 61 #[.string l.name] W fun e w' => e = .returned (.string l.name) ∧ Kp [] W w') := fun W => clone_any W l.name (by omega)
 have HU : Hid (∀ W,Kp [] w W → Calls Tryz.prog 116 #[.slice p.1.1 p.1.2.1 p.1.2.2] W fun e w' => ∃ ao' n' c',e = .returned (.slice ao' n' c') ∧ Mp W w' ao' n' c' (uniq l.attrs)) := fun W kW => uniq_any W l.attrs p.1.1 p.1.2.1 p.1.2.2 (hr.kept kW) ha hf
 have HS : Hid (∀ W,Kp [] w W → W.cell? ⟨b1,off + 1,none⟩ = some (.int .i64 l.ns) ∧ W.cell? ⟨b1,off + 2,none⟩ = some (.string l.name) ∧ W.cell? ⟨b1,off + 3,none⟩ = some (.slice p.1.1 p.1.2.1 p.1.2.2)) := fun W kW => by
  obtain ⟨_,g1,g2,g3,_⟩ := (hc.keep kW (by simp)).cells
  exact ⟨g1,g2,g3⟩
 have HB : Hid ((w.alloc (.cells #[.int .i64 0,.int .i64 0,.string ⟨#[]⟩,.slice none 0 0,.map none,.slice none 0 0,.int .i64 0,.int .i64 0,.int .i64 0,.int .i64 0,.int .i64 0] 109)).alloc (.cells #[.int .i64 3,.int .i64 0,.string ⟨#[]⟩,.slice none 0 0,.map none,.slice none 0 0,.int .i64 0,.int .i64 0,.int .i64 0,.int .i64 0,.int .i64 0] 109) = B) := hB.symm
 have sB : w.heap.size + 1 < B.heap.size := AX.lt
 have hs1 : w.heap.size ≤ w.heap.size + 1 := Nat.le_succ _
 clear hB hc hr hk
 generalize uniq l.attrs = ul at HU ⊢
 go_enter Tryz.func122,Tryz.ntmps122
 go_wp2_with fail
 rw [HB.out]
 go_region_held3 (fun V => V.cell? ⟨b1,off + 1,none⟩ = some (.int .i64 l.ns) ∧ V.cell? ⟨b1,off + 2,none⟩ = some (.string l.name) ∧ V.cell? ⟨b1,off + 3,none⟩ = some (.slice p.1.1 p.1.2.1 p.1.2.2))
  (first
   | with_reducible exact HS.out _ (((K2.out.setCell (Or.inr hs1) _).setCell (Or.inr hs1) _).setCell (Or.inr hs1) _)
   | with_reducible exact HS.out _ ((K2.out.setCell (Or.inr hs1) _).setCell (Or.inr hs1) _)
   | with_reducible exact HS.out _ (K2.out.setCell (Or.inr hs1) _)
   | with_reducible exact HS.out _ K2.out
   | with_reducible exact HS.out _ K1.out
   | with_reducible exact HS.out _ kB.drew)
  (first
   | (go_at_call 116; refine (HU.out _ K1.out).mono ?_; rintro e W2 ⟨ao2,n2,c2,rfl,M2⟩; have K2 : Hid (Kp [] w W2) := (K1.out.trans M2.kp (fun x hx => Or.inl hx)); have KB2 : Hid (Kp [] B W2) := (KB1.out.trans M2.kp (fun x hx => Or.inl hx)); obtain ⟨_,x1,x2,x3,_⟩ := (AX.kept KB2.out (by simp)).eleven; have fx := (AX.kept KB2.out (by simp)).free)
   | (go_at_call 61; refine (HN.out _).mono ?_; rintro e W1 ⟨rfl,k1⟩; have KB1 : Hid (Kp [] B W1) := ((Kp.refl [] B).drew.trans k1 (fun x hx => Or.inl hx)); have K1 : Hid (Kp [] w W1) := (kB.trans KB1.out (fun x hx => Or.inl hx))))
 have AR := AR.kept KB2.out (by simp)
 have AX := AX.kept KB2.out (by simp)
 obtain ⟨F,hF⟩ : ∃ F,F = ((W2.setCell ⟨w.heap.size + 1,1,none⟩ (.int .i64 l.ns)).setCell ⟨w.heap.size + 1,2,none⟩ (.string l.name)).setCell ⟨w.heap.size + 1,3,none⟩ (.slice ao2 n2 c2) := ⟨_,rfl⟩
 have AXF : At F (w.heap.size + 1) #[.int .i64 3,.int .i64 l.ns,.string l.name,.slice ao2 n2 c2,.map none,.slice none 0 0,.int .i64 0,.int .i64 0,.int .i64 0,.int .i64 0,.int .i64 0] 109 := by rw [hF]; exact ((AX.set 1 _).set 2 _).set 3 _
 have kF1 : Kp [w.heap.size + 1] W2 F := by rw [hF]; exact (((Kp.refl _ _).setCell (Or.inl (by simp)) _).setCell (Or.inl (by simp)) _).setCell (Or.inl (by simp)) _
 have ARF := AR.kept kF1 (by simp)
 have kF : Kp [] w F := K2.out.trans kF1 (fun x hx => Or.inr (by simp at hx; omega))
 have hbl : ∀ x,x ∈ blk (.slice ao2 n2 c2) → w.heap.size + 1 < x := fun x hx => by have := M2.2.2 x hx; have := KB1.out.size; omega
 have OF : Hid (OwnK 2 F 102 (.slice ao2 n2 c2) n2 (cs ul)) := M2.1.keep kF1 (fun x hx => by have := hbl x hx; simp; omega)
 have D := laidE kF ARF (Nat.le_refl _) (.int .i64 3) (.int .i64 l.ns) (.string l.name) (.slice ao2 n2 c2) (.map none) (.slice none 0 0) (.int .i64 0) (.int .i64 0) (.int .i64 0) (.int .i64 0) (.int .i64 0)
 have OD : Hid (Kp [w.heap.size] F (putE F w.heap.size (.int .i64 3) (.int .i64 l.ns) (.string l.name) (.slice ao2 n2 c2) (.map none) (.slice none 0 0) (.int .i64 0) (.int .i64 0) (.int .i64 0) (.int .i64 0) (.int .i64 0))) := (Kp.refl _ _).putE (Or.inl (by simp)) (.int .i64 3) (.int .i64 l.ns) (.string l.name) (.slice ao2 n2 c2) (.map none) (.slice none 0 0) (.int .i64 0) (.int .i64 0) (.int .i64 0) (.int .i64 0) (.int .i64 0)
 unfold putE at D OD
 have HF : Hid (((W2.setCell ⟨w.heap.size + 1,1,none⟩ (.int .i64 l.ns)).setCell ⟨w.heap.size + 1,2,none⟩ (.string l.name)).setCell ⟨w.heap.size + 1,3,none⟩ (.slice ao2 n2 c2) = F) := hF.symm
 have HBL : Hid (∀ x,x ∈ blk (.slice ao2 n2 c2) → w.heap.size + 1 < x) := hbl
 clear AX AR hF kF1 kF kB M2 HN HB K1 K2 KB1 KB2 k1 HS HU x1 x2 x3 fx cm cn ca c0 hbl
 rw [HF.out]
 clear HF
 obtain ⟨y0,y1,y2,y3,y4,y5,y6,y7,y8,y9,y10⟩ := AXF.eleven
 obtain ⟨z0,z1,z2,z3,z4,z5,z6,z7,z8,z9,z10⟩ := ARF.eleven
 have fr := ARF.free
 clear AXF ARF
 go_wp2
 obtain ⟨x0,x1,x2,x3,x4,x5,x6,x7,x8,x9,x10,kD⟩ := D.out
 refine bodyPost_ret (v := .agg #[.int .i64 3,.int .i64 l.ns,.string l.name,.slice ao2 n2 c2,.map none,.slice none 0 0,.int .i64 0,.int .i64 0,.int .i64 0,.int .i64 0,.int .i64 0]) (by simp [results,go_sem,x0,x1,x2,x3,x4,x5,x6,x7,x8,x9,x10]) rfl ⟨⟨ao2,n2,c2,none,none,0,0⟩,rfl,⟨kD,OF.out.keep OD.out (fun x hx => by have := HBL.out x hx; simp; omega),fun x hx => by have := HBL.out x hx; omega,OwT.nil _,fun x hx => by simp [blk] at hx,fun x hx => by simp [blk],rfl⟩⟩
theorem nodeof_any (w : World) (b1 off : Nat) (l : Lb) (p : Pl) (hc : Cl w b1 off l p) (hr : Rp w p.1.1 p.1.2.1 p.1.2.2 l.attrs) (ha : p.1.2.1 ≤ 10000) (hf : fits l.attrs) (h1 : l.name.size ≤ 1000000) (h2 : l.text.size ≤ 1000000) :
  Calls Tryz.prog 122 #[.pointer (some ⟨b1,off,none⟩)] w fun e w' => ∃ np,e = .returned (nv (keptL l) np) ∧ Fr w w' (keptL l) np := by
 unfold keptL
 by_cases e3 : l.kind = 3
 ·rw [if_pos e3]; exact nodeof_element w b1 off l p hc hr e3 h1 ha hf
 ·rw [if_neg e3]
  by_cases e2 : l.kind = 2
  ·rw [if_pos e2]
   refine (nodeof_doctype w b1 off l p hc e2 h1).mono ?_
   rintro e w' ⟨rfl,k⟩
   exact ⟨np0,rfl,Fr.none k rfl rfl⟩
  ·rw [if_neg e2]
   by_cases e4 : l.kind = 4
   ·rw [if_pos (.inl e4),e4]; exact nodeof_text4 w b1 off l p hc e4 h2
   ·by_cases e5 : l.kind = 5
    ·rw [if_pos (.inr e5),e5]; exact nodeof_text5 w b1 off l p hc e5 h2
    ·rw [if_neg (by omega)]
     refine (nodeof_else w b1 off l p hc e3 e2 e4 e5).mono ?_
     rintro e w' ⟨rfl,k⟩
     exact ⟨np0,rfl,Fr.none k rfl rfl⟩
end Go.Proofs.YtpkppobkagdhkaaGreat
