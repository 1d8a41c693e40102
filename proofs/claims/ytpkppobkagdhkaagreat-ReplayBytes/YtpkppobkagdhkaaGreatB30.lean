/-
 Mde.
-/
import Derived.Test.YtpkppobkagdhkaaGreatB29
import Derived.BigQuiet
import Derived.Deep.CutRange
set_option linter.unusedVariables false
set_option linter.unusedSimpArgs false
set_option maxRecDepth 100000
set_option maxHeartbeats 1000000
namespace Go.Proofs.YtpkppobkagdhkaaGreat
open Go.RowKit Utf
def put9 (w : World) (g : Nat) (v0 v1 v2 v3 v4 v5 v6 v7 v8 : Value) : World := ((((((((w.setCell ⟨g,0,none⟩ v0).setCell ⟨g,1,none⟩ v1).setCell ⟨g,2,none⟩ v2).setCell ⟨g,3,none⟩ v3).setCell ⟨g,4,none⟩ v4).setCell ⟨g,5,none⟩ v5).setCell ⟨g,6,none⟩ v6).setCell ⟨g,7,none⟩ v7).setCell ⟨g,8,none⟩ v8
theorem Kp.put9 {S : List Nat} {a w : World} (h : Kp S a w) {g : Nat} (hg : g ∈ S ∨ a.heap.size ≤ g) (v0 v1 v2 v3 v4 v5 v6 v7 v8 : Value) : Kp S a (put9 w g v0 v1 v2 v3 v4 v5 v6 v7 v8) :=
 ((((((((h.setCell (p := ⟨g,0,none⟩) hg v0).setCell (p := ⟨g,1,none⟩) hg v1).setCell (p := ⟨g,2,none⟩) hg v2).setCell (p := ⟨g,3,none⟩) hg v3).setCell (p := ⟨g,4,none⟩) hg v4).setCell (p := ⟨g,5,none⟩) hg v5).setCell (p := ⟨g,6,none⟩) hg v6).setCell (p := ⟨g,7,none⟩) hg v7).setCell (p := ⟨g,8,none⟩) hg v8
theorem At.put9 {w : World} {g : Nat} {e : TypeId} {u0 u1 u2 u3 u4 u5 u6 u7 u8 : Value} (h : At w g #[u0,u1,u2,u3,u4,u5,u6,u7,u8] e) (v0 v1 v2 v3 v4 v5 v6 v7 v8 : Value) : At (put9 w g v0 v1 v2 v3 v4 v5 v6 v7 v8) g #[v0,v1,v2,v3,v4,v5,v6,v7,v8] e := by
 have h0 : At (w.setCell ⟨g,0,none⟩ v0) g #[v0,u1,u2,u3,u4,u5,u6,u7,u8] e := h.set 0 v0
 have h1 : At ((w.setCell ⟨g,0,none⟩ v0).setCell ⟨g,1,none⟩ v1) g #[v0,v1,u2,u3,u4,u5,u6,u7,u8] e := h0.set 1 v1
 have h2 : At (((w.setCell ⟨g,0,none⟩ v0).setCell ⟨g,1,none⟩ v1).setCell ⟨g,2,none⟩ v2) g #[v0,v1,v2,u3,u4,u5,u6,u7,u8] e := h1.set 2 v2
 have h3 : At ((((w.setCell ⟨g,0,none⟩ v0).setCell ⟨g,1,none⟩ v1).setCell ⟨g,2,none⟩ v2).setCell ⟨g,3,none⟩ v3) g #[v0,v1,v2,v3,u4,u5,u6,u7,u8] e := h2.set 3 v3
 have h4 : At (((((w.setCell ⟨g,0,none⟩ v0).setCell ⟨g,1,none⟩ v1).setCell ⟨g,2,none⟩ v2).setCell ⟨g,3,none⟩ v3).setCell ⟨g,4,none⟩ v4) g #[v0,v1,v2,v3,v4,u5,u6,u7,u8] e := h3.set 4 v4
 have h5 : At ((((((w.setCell ⟨g,0,none⟩ v0).setCell ⟨g,1,none⟩ v1).setCell ⟨g,2,none⟩ v2).setCell ⟨g,3,none⟩ v3).setCell ⟨g,4,none⟩ v4).setCell ⟨g,5,none⟩ v5) g #[v0,v1,v2,v3,v4,v5,u6,u7,u8] e := h4.set 5 v5
 have h6 : At (((((((w.setCell ⟨g,0,none⟩ v0).setCell ⟨g,1,none⟩ v1).setCell ⟨g,2,none⟩ v2).setCell ⟨g,3,none⟩ v3).setCell ⟨g,4,none⟩ v4).setCell ⟨g,5,none⟩ v5).setCell ⟨g,6,none⟩ v6) g #[v0,v1,v2,v3,v4,v5,v6,u7,u8] e := h5.set 6 v6
 have h7 : At ((((((((w.setCell ⟨g,0,none⟩ v0).setCell ⟨g,1,none⟩ v1).setCell ⟨g,2,none⟩ v2).setCell ⟨g,3,none⟩ v3).setCell ⟨g,4,none⟩ v4).setCell ⟨g,5,none⟩ v5).setCell ⟨g,6,none⟩ v6).setCell ⟨g,7,none⟩ v7) g #[v0,v1,v2,v3,v4,v5,v6,v7,u8] e := h6.set 7 v7
 have h8 : At (((((((((w.setCell ⟨g,0,none⟩ v0).setCell ⟨g,1,none⟩ v1).setCell ⟨g,2,none⟩ v2).setCell ⟨g,3,none⟩ v3).setCell ⟨g,4,none⟩ v4).setCell ⟨g,5,none⟩ v5).setCell ⟨g,6,none⟩ v6).setCell ⟨g,7,none⟩ v7).setCell ⟨g,8,none⟩ v8) g #[v0,v1,v2,v3,v4,v5,v6,v7,v8] e := h7.set 8 v8
 exact h8
def z9 : Array Value := #[.int .i64 0,.int .i64 0,.int .i64 0,.int .i64 0,.int .i64 0,.int .i64 0,.string ⟨#[]⟩,.slice none 0 0,.string ⟨#[]⟩]
def Ma (w w' : World) (o : Ot) (e : Ending) : Prop := ∃ p : Sl,e = .returned (ov o p) ∧ Ao w' (o,p) ∧ (∀ k,k ∈ blk (.slice p.1 p.2.1 p.2.2) → w.heap.size ≤ k) ∧ Kp [] w w'
structure Mx (w W : World) (r : Rx) (p : Sl) : Prop where
 bx : At W w.heap.size (rxc r p) 28
 hr : At W (w.heap.size + 1) z9 24
 kp : Kp [] w W
theorem Mx.kept {w W W' : World} {r : Rx} {p : Sl} (h : Mx w W r p) (k : Kp [] W W') : Mx w W' r p := ⟨h.bx.kept k (by simp),h.hr.kept k (by simp),h.kp.trans k (fun x hx => Or.inl hx)⟩
theorem mx_new (w : World) (r : Rx) (p : Sl) : Mx w ((w.alloc (.cells (rxc r p) 28)).alloc (.cells z9 24)) r p := by
 have h := At.new (w.alloc (.cells (rxc r p) 28)) z9 24
 rw [show (w.alloc (.cells (rxc r p) 28)).heap.size = w.heap.size + 1 by simp] at h
 exact ⟨(At.new w _ _).kept ((Kp.refl [] _).alloc _) (by simp),h,((Kp.refl _ _).alloc _).alloc _⟩
theorem Mx.fin {w W : World} {r : Rx} {p : Sl} (M : Mx w W r p) (R : Ot) (P : Sl) (hA : Ao W (R,P)) (hn : ∀ j,j ∈ blk (.slice P.1 P.2.1 P.2.2) → w.heap.size + 2 ≤ j) :
  Hid (Nine (put9 W (w.heap.size + 1) (.int .i64 R.kd) (.int .i64 R.nd) (.int .i64 R.pa) (.int .i64 R.rf) (.int .i64 R.ty) (.int .i64 R.ns) (.string R.nm) (.slice P.1 P.2.1 P.2.2) (.string R.tt)) (w.heap.size + 1) 0 R P ∧ Ma w (put9 W (w.heap.size + 1) (.int .i64 R.kd) (.int .i64 R.nd) (.int .i64 R.pa) (.int .i64 R.rf) (.int .i64 R.ty) (.int .i64 R.ns) (.string R.nm) (.slice P.1 P.2.1 P.2.2) (.string R.tt)) R (.returned (ov R P))) := by
 have hr := M.hr
 unfold z9 at hr
 have D := hr.put9 (.int .i64 R.kd) (.int .i64 R.nd) (.int .i64 R.pa) (.int .i64 R.rf) (.int .i64 R.ty) (.int .i64 R.ns) (.string R.nm) (.slice P.1 P.2.1 P.2.2) (.string R.tt)
 have kr : Kp [w.heap.size + 1] W (put9 W (w.heap.size + 1) (.int .i64 R.kd) (.int .i64 R.nd) (.int .i64 R.pa) (.int .i64 R.rf) (.int .i64 R.ty) (.int .i64 R.ns) (.string R.nm) (.slice P.1 P.2.1 P.2.2) (.string R.tt)) := (Kp.refl _ _).put9 (Or.inl (by simp)) _ _ _ _ _ _ _ _ _
 exact ⟨nine_at D,P,rfl,hA.keep kr (fun x hx hs => by have := hn x hx; simp at hs; omega),fun j hj => by have := hn j hj; omega,M.kp.trans kr (fun x hx => Or.inr (by simp at hx; omega))⟩
theorem within9 (W : World) (n : Int) : Calls Tryz.prog 22 #[.int .i64 n,.int .i64 0,.int .i64 9] W fun e w' => e = .returned (.int .i64 ((wi n 9 : Nat) : Int)) ∧ w' = W := by
 have h := within_any W n 0 9 (by omega) (by omega)
 rw [Nat.zero_add] at h
 exact h
theorem within1000 (W : World) (n : Int) : Calls Tryz.prog 22 #[.int .i64 n,.int .i64 0,.int .i64 1000] W fun e w' => e = .returned (.int .i64 ((wi n 1000 : Nat) : Int)) ∧ w' = W := by
 have h := within_any W n 0 1000 (by omega) (by omega)
 rw [Nat.zero_add] at h
 exact h
theorem within1 (W : World) (n : Int) : Calls Tryz.prog 22 #[.int .i64 n,.int .i64 0,.int .i64 1] W fun e w' => e = .returned (.int .i64 ((wi n 1 : Nat) : Int)) ∧ w' = W := by
 have h := within_any W n 0 1 (by omega) (by omega)
 rw [Nat.zero_add] at h
 exact h
theorem head9 (W : World) (s : ByteArray) : Calls Tryz.prog 25 #[.string s,.int .i64 9] W fun e w' => e = .returned (.string (cutB s 9)) ∧ w' = W := cut_any W s 9 (by omega)
theorem mod_nat (m d : Nat) : ((m : Int).tmod (d : Int)) = ((m % d : Nat) : Int) ∧ (m : Int) % (d : Int) = ((m % d : Nat) : Int) := by
 rw [Int.tmod_eq_emod_of_nonneg (by omega)]
 exact ⟨by omega,by omega⟩
set_option maxHeartbeats 2000000 in
theorem made_any (w : World) (r : Rx) (p : Sl) (hA : Rp w p.1 p.2.1 p.2.2 r.l) (hl : p.2.1 ≤ 140737488355328) :
  Calls Tryz.prog 8 #[rxv r p] w fun e w' => Ma w w' (madF r) e := by
 obtain ⟨o1,o2,o3,o4,o5,o6,o7,o8,l⟩ := r
 obtain ⟨p1,p2,p3⟩ := p
 have M0 := mx_new w ⟨o1,o2,o3,o4,o5,o6,o7,o8,l⟩ (p1,p2,p3)
 have HS : Hid (∀ V,Kp [] w V → Calls Tryz.prog 26 #[.slice p1 p2 p3] V fun e w' => ∃ ao' n' c',e = .returned (.slice ao' n' c') ∧ Mp V w' ao' n' c' (short l)) := fun V kV => short_any V l p1 p2 p3 (Rp.kept hA kV) hl
 obtain ⟨R,hR⟩ : ∃ R,madF ⟨o1,o2,o3,o4,o5,o6,o7,o8,l⟩ = R := ⟨_,rfl⟩
 rw [hR]
 have HR : Hid (madF ⟨o1,o2,o3,o4,o5,o6,o7,o8,l⟩ = R) := hR
 clear hR hA hl
 have HT : Hid (∀ V,Calls Tryz.prog 25 #[.string o8,.int .i64 9] V fun e w' => e = .returned (.string (cutB o8 9)) ∧ w' = V) := fun V => head9 V o8
 unfold madF at HR
 simp only at HR
 generalize cutB o8 9 = t at HR HT
 generalize short l = l' at HS HR
 have cells : Hid (∀ V,Kp [] w V → Mx w V ⟨o1,o2,o3,o4,o5,o6,o7,o8,l⟩ (p1,p2,p3) → (V.cell? ⟨w.heap.size,0,none⟩ = some (.int .i64 o1) ∧ V.cell? ⟨w.heap.size,1,none⟩ = some (.int .i64 o2) ∧ V.cell? ⟨w.heap.size,2,none⟩ = some (.int .i64 o3) ∧ V.cell? ⟨w.heap.size,3,none⟩ = some (.int .i64 o4) ∧ V.cell? ⟨w.heap.size,4,none⟩ = some (.int .i64 o5) ∧ V.cell? ⟨w.heap.size,5,none⟩ = some (.int .i64 o6) ∧ V.cell? ⟨w.heap.size,6,none⟩ = some (.string o7) ∧ V.cell? ⟨w.heap.size,7,none⟩ = some (.string o8) ∧ V.cell? ⟨w.heap.size,8,none⟩ = some (.slice p1 p2 p3)) ∧ (V.cell? ⟨w.heap.size + 1,0,none⟩ = some (.int .i64 0) ∧ V.cell? ⟨w.heap.size + 1,1,none⟩ = some (.int .i64 0) ∧ V.cell? ⟨w.heap.size + 1,2,none⟩ = some (.int .i64 0) ∧ V.cell? ⟨w.heap.size + 1,3,none⟩ = some (.int .i64 0) ∧ V.cell? ⟨w.heap.size + 1,4,none⟩ = some (.int .i64 0) ∧ V.cell? ⟨w.heap.size + 1,5,none⟩ = some (.int .i64 0) ∧ V.cell? ⟨w.heap.size + 1,6,none⟩ = some (.string ⟨#[]⟩) ∧ V.cell? ⟨w.heap.size + 1,7,none⟩ = some (.slice none 0 0) ∧ V.cell? ⟨w.heap.size + 1,8,none⟩ = some (.string ⟨#[]⟩)) ∧ ∀ j,V.frozen? ⟨w.heap.size + 1,j,none⟩ = false) := fun V _ h => ⟨⟨h.bx.cell 0,h.bx.cell 1,h.bx.cell 2,h.bx.cell 3,h.bx.cell 4,h.bx.cell 5,h.bx.cell 6,h.bx.cell 7,h.bx.cell 8⟩,⟨h.hr.cell 0,h.hr.cell 1,h.hr.cell 2,h.hr.cell 3,h.hr.cell 4,h.hr.cell 5,h.hr.cell 6,h.hr.cell 7,h.hr.cell 8⟩,fun j => h.hr.free j⟩
 unfold rxv
 simp only
 have HW : Hid (_ = _) := show (w.alloc (.cells (rxc ⟨o1,o2,o3,o4,o5,o6,o7,o8,l⟩ (p1,p2,p3)) 28)).alloc (.cells z9 24) = _ from rfl
 simp only [rxc,z9] at HW
 obtain ⟨W0,hW0⟩ : ∃ W,(w.alloc (.cells (rxc ⟨o1,o2,o3,o4,o5,o6,o7,o8,l⟩ (p1,p2,p3)) 28)).alloc (.cells z9 24) = W := ⟨_,rfl⟩
 rw [hW0] at M0
 have HW0 : Hid (_ = W0) := hW0
 simp only [rxc,z9] at HW0
 clear HW hW0
 obtain ⟨⟨g0,g1,g2,g3,g4,g5,g6,g7,g8⟩,⟨y0,y1,y2,y3,y4,y5,y6,y7,y8⟩,fz⟩ := cells.out _ M0.kp M0
 go_enter Tryz.func8,Tryz.ntmps8
 go_upto_region 1 with fail
 rw [HW0.out]
 clear HW0
 go_quiet (first | (go_at_call 22; refine Calls.quiet_of_same (within9 _ _)))
 have kq : Kp [] W0 (W0.drewN nq) := (Kp.refl _ _).drewN nq
 have M1 := M0.kept kq
 clear M0 g0 g1 g2 g3 g4 g5 g6 g7 g8 y0 y1 y2 y3 y4 y5 y6 y7 y8 fz kq
 generalize W0.drewN nq = W1 at *
 obtain ⟨⟨g0,g1,g2,g3,g4,g5,g6,g7,g8⟩,⟨y0,y1,y2,y3,y4,y5,y6,y7,y8⟩,fz⟩ := cells.out _ M1.kp M1
 generalize wi o2 9 = a at *
 generalize wi o3 9 = b at *
 generalize wi o4 9 = c at *
 go_upto_region 3 with (go_at_call 25; refine same_of (HT.out _) ?_)
 clear HT
 have hj : o1 = 1 ∨ o1 = 2 ∨ o1 = 3 ∨ o1 = 4 ∨ o1 = 5 ∨ o1 = 6 ∨ o1 = 7 ∨ o1 = 8 ∨ o1 = 9 ∨ o1 = 10 ∨ o1 = 11 ∨ ¬ (1 ≤ o1 ∧ o1 ≤ 11) := by omega
 obtain rfl | rfl | rfl | rfl | rfl | rfl | rfl | rfl | rfl | rfl | rfl | hj := hj
 ·have HR2 : Hid (R = ⟨1,((a : Nat) : Int),0,0,tys (wi o5 1000 % 5),1 + ((wi o6 1 : Nat) : Int),nms (wi o4 1000 % 4),l',t⟩) := (by rw [← HR.out]; rfl : R = ⟨1,((a : Nat) : Int),0,0,tys (wi o5 1000 % 5),1 + ((wi o6 1 : Nat) : Int),nms (wi o4 1000 % 4),l',t⟩)
  have HW4 : Hid (∀ V,Calls Tryz.prog 22 #[.int .i64 o4,.int .i64 0,.int .i64 1000] V fun e w' => e = .returned (.int .i64 ((wi o4 1000 : Nat) : Int)) ∧ w' = V) := fun V => within1000 V o4
  have HW5 : Hid (∀ V,Calls Tryz.prog 22 #[.int .i64 o5,.int .i64 0,.int .i64 1000] V fun e w' => e = .returned (.int .i64 ((wi o5 1000 : Nat) : Int)) ∧ w' = V) := fun V => within1000 V o5
  have HW6 : Hid (∀ V,Calls Tryz.prog 22 #[.int .i64 o6,.int .i64 0,.int .i64 1] V fun e w' => e = .returned (.int .i64 ((wi o6 1 : Nat) : Int)) ∧ w' = V) := fun V => within1 V o6
  have h61 := wi_le o6 1
  obtain ⟨q1,q2⟩ := mod_nat (wi o4 1000) 4
  obtain ⟨q3,q4⟩ := mod_nat (wi o5 1000) 5
  have b4 : wi o4 1000 % 4 < 4 := Nat.mod_lt _ (by omega)
  have b5 : wi o5 1000 % 5 < 5 := Nat.mod_lt _ (by omega)
  generalize wi o6 1 = n6 at *
  generalize wi o4 1000 % 4 = r4 at *
  generalize wi o5 1000 % 5 = r5 at *
  generalize wi o4 1000 = m4 at *
  generalize wi o5 1000 = m5 at *
  have q1 : (m4 : Int).tmod 4 = (r4 : Int) := q1
  have q3 : (m5 : Int).tmod 5 = (r5 : Int) := q3
  have q2 : (m4 : Int) % 4 = (r4 : Int) := q2
  have q4 : (m5 : Int) % 5 = (r5 : Int) := q4
  obtain ⟨W2,hW2⟩ : ∃ W,W1.alloc (.cells #[.string ⟨#[112]⟩,.string ⟨#[116,101,109,112,108,97,116,101]⟩,.string ⟨#[98]⟩,.string ⟨#[116,97,98,108,101]⟩] 9) = W := ⟨_,rfl⟩
  have HW2 : Hid (_ = W2) := hW2
  have A2 : At W2 W1.heap.size #[.string ⟨#[112]⟩,.string ⟨#[116,101,109,112,108,97,116,101]⟩,.string ⟨#[98]⟩,.string ⟨#[116,97,98,108,101]⟩] 9 := by rw [← hW2]; exact At.new _ _ _
  have k12 : Kp [] W1 W2 := by rw [← hW2]; exact (Kp.refl _ _).alloc _
  have c4 : W2.cell? ⟨W1.heap.size,r4,none⟩ = some (.string (nms r4)) := by
   rw [A2.cell]
   obtain rfl | rfl | rfl | rfl : r4 = 0 ∨ r4 = 1 ∨ r4 = 2 ∨ r4 = 3 := by omega
   all_goals rfl
  have i1 : (0 : Int) ≤ (r4 : Int) := by omega
  have i2 : (r4 : Int) < 4 := by omega
  have i3 : (0 : Int) ≤ (r5 : Int) := by omega
  have i4 : (r5 : Int) < 5 := by omega
  have M2 := M1.kept k12
  have f3 := (cells.out _ M2.kp M2).1.2.2.2.1
  rw [← hW2] at f3
  have hlt := M1.bx.lt
  clear hW2 A2
  go_upto_region 6 with (go_at_call 22; rw [HW2.out]; refine same_of (HW4.out _) ?_)
  clear HW2 HW4 c4 M1 k12 q1 q2 i1 i2 f3 hlt g0 g1 g2 g3 g4 g5 g6 g7 g8 y0 y1 y2 y3 y4 y5 y6 y7 y8 fz
  generalize nms r4 = nmv at *
  have W64 : Hid (IntKind.i64.wrap (1 + (n6 : Int)) = 1 + (n6 : Int)) := (by simp [IntKind.wrap,IntKind.bits,IntKind.signed]; omega : IntKind.i64.wrap (1 + (n6 : Int)) = 1 + (n6 : Int))
  have Ty5 : Hid (∀ (V : World) gl,At V gl #[.int .i64 3,.int .i64 3,.int .i64 3,.int .i64 5,.int .i64 2] 3 → V.cell? ⟨gl,r5,none⟩ = some (.int .i64 (tys r5))) := fun V gl h => by
   rw [h.cell]
   obtain rfl | rfl | rfl | rfl | rfl : r5 = 0 ∨ r5 = 1 ∨ r5 = 2 ∨ r5 = 3 ∨ r5 = 4 := by omega
   all_goals rfl
  obtain ⟨U0,hU0⟩ : ∃ V,V = W2.drew := ⟨_,rfl⟩
  have k0 : Kp [] W2 U0 := by rw [hU0]; exact (Kp.refl _ _).drew
  have HC : Hid (∀ V,Kp [] W2 V → (fun V => V.cell? ⟨w.heap.size,0,none⟩ = some (.int .i64 1) ∧ V.cell? ⟨w.heap.size,4,none⟩ = some (.int .i64 o5) ∧ V.cell? ⟨w.heap.size,5,none⟩ = some (.int .i64 o6) ∧ V.cell? ⟨w.heap.size,8,none⟩ = some (.slice p1 p2 p3)) V) := fun V kV => by
   obtain ⟨⟨h0,h1,h2,h3,h4,h5,h6,h7,h8⟩,_⟩ := cells.out V (M2.kp.trans kV (fun x hx => Or.inl hx)) (M2.kept kV)
   exact ⟨h0,h4,h5,h8⟩
  refine wp_region_g (S := fun V => V.cell? ⟨w.heap.size,0,none⟩ = some (.int .i64 1) ∧ V.cell? ⟨w.heap.size,4,none⟩ = some (.int .i64 o5) ∧ V.cell? ⟨w.heap.size,5,none⟩ = some (.int .i64 o6) ∧ V.cell? ⟨w.heap.size,8,none⟩ = some (.slice p1 p2 p3)) (T := [20]) (by kernel_rfl) (by rw [← hU0]; exact HC.out _ k0) (fun hHeld => ?_)
  rw [← hU0] at hHeld ⊢
  clear hU0
  refine g_pure 0 (some 31) (.fieldAddr 28 (.tmp 1) 0) ?_
  refine g_take 1 (some 32) (.load 3 (.tmp 31)) (by intro w hSw; (obtain ⟨x0,x4,x5,x8⟩ := hSw); go_simp; try with_reducible rfl) ?_
  refine g_pure 2 (some 33) (.move (.tmp 3)) ?_
  refine g_pure 4 (some 35) (.fieldAddr 28 (.tmp 1) 4) ?_
  refine g_take 5 (some 36) (.load 3 (.tmp 35)) (by intro w hSw; (obtain ⟨x0,x4,x5,x8⟩ := hSw); go_simp; try with_reducible rfl) ?_
  refine g_pure 10 (some 41) (.fieldAddr 28 (.tmp 1) 5) ?_
  refine g_take 11 (some 42) (.load 3 (.tmp 41)) (by intro w hSw; (obtain ⟨x0,x4,x5,x8⟩ := hSw); go_simp; try with_reducible rfl) ?_
  refine g_pure 14 (some 45) (.move (.tmp 7)) ?_
  refine g_pure 15 (some 46) (.fieldAddr 28 (.tmp 1) 8) ?_
  refine g_take 16 (some 47) (.load 22 (.tmp 46)) (by intro w hSw; (obtain ⟨x0,x4,x5,x8⟩ := hSw); go_simp; try with_reducible rfl) ?_
  refine g_pure 18 (some 49) (.move (.tmp 6)) ?_
  refine wpAnyG_ready (rs := [3,6]) (by kernel_rfl) (by simp) ?_
  refine AllReadyG.cons (o := ⟨some 34,.buildSlice 61 5 #[(0,.const (.int .i64 3)),(1,.const (.int .i64 3)),(2,.const (.int .i64 3)),(3,.const (.int .i64 5)),(4,.const (.int .i64 2))],61,_,_,none⟩) rfl (fun K hK => ?_) ?_
  ·obtain ⟨V1,hV⟩ : ∃ W,W = World.alloc U0 (.cells #[.int .i64 3,.int .i64 3,.int .i64 3,.int .i64 5,.int .i64 2] 3) := ⟨_,rfl⟩
   have e1 : Kp [] U0 V1 := by rw [hV]; exact (Kp.refl _ _).alloc _
   have LT : At V1 U0.heap.size #[.int .i64 3,.int .i64 3,.int .i64 3,.int .i64 5,.int .i64 2] 3 := by rw [hV]; exact At.new _ _ _
   have k1 : Kp [] W2 V1 := k0.trans e1 (fun z hz => Or.inl hz)
   go_simp
   rw [← hV]
   clear hV e1
   refine hK.out _ _ (HC.out _ k1) (fun hHeld1 => ?_)
   clear hK K hHeld
   try simp only [Act.put,pu1,pu2,pu3]
   refine wpAnyG_ready (rs := [6]) (by kernel_rfl) (by simp) ?_
   refine AllReadyG.cons (o := ⟨some 37,.call { callee := .value (.func 22),args := #[.tmp 36,.const (.int .i64 0),.const (.int .i64 1000)],argTypes := #[3,3,3] },3,_,_,none⟩) rfl (fun K hK => ?_) AllReadyG.nil
   go_simp
   (go_at_call 22; refine same_of (HW5.out _) ?_)
   go_wp2_with fail
   refine hK.out _ _ (HC.out _ k1) (fun hHeld2 => ?_)
   clear hK K hHeld1
   try simp only [Act.put,pu1,pu2,pu3]
   refine g_pure 7 (some 38) (.binOp .rem 3 (.tmp 37) (.const (.int .i64 5)) 3) ?_
   refine g_pure 8 (some 39) (.indexAddr 61 (.tmp 34) (.tmp 38)) ?_
   refine wpAnyG_ready (rs := [9,12]) (by kernel_rfl) (by simp) ?_
   refine AllReadyG.cons (o := ⟨some 40,.load 3 (.tmp 39),3,_,_,none⟩) rfl (fun K hK => ?_) ?_
   ·have lc := Ty5.out _ _ LT
    go_simp
    clear lc
    refine hK.out _ _ (HC.out _ k1) (fun hHeld3 => ?_)
    clear hK K hHeld2
    try simp only [Act.put,pu1,pu2,pu3]
    refine wpAnyG_ready (rs := [12]) (by kernel_rfl) (by simp) ?_
    refine AllReadyG.cons (o := ⟨some 43,.call { callee := .value (.func 22),args := #[.tmp 42,.const (.int .i64 0),.const (.int .i64 1)],argTypes := #[3,3,3] },3,_,_,none⟩) rfl (fun K hK => ?_) AllReadyG.nil
    go_simp
    (go_at_call 22; refine same_of (HW6.out _) ?_)
    go_wp2_with fail
    refine hK.out _ _ (HC.out _ k1) (fun hHeld4 => ?_)
    clear hK K hHeld3
    try simp only [Act.put,pu1,pu2,pu3]
    refine g_pure 13 (some 44) (.binOp .add 3 (.const (.int .i64 1)) (.tmp 43) 3) ?_
    refine wpAnyG_ready (rs := [17]) (by kernel_rfl) (by simp) ?_
    refine AllReadyG.cons (o := ⟨some 48,.call { callee := .value (.func 26),args := #[.tmp 47],argTypes := #[22] },22,_,_,none⟩) rfl (fun K hK => ?_) AllReadyG.nil
    go_simp
    go_at_call 26
    refine (HS.out _ (M2.kp.trans k1 (fun z hz => Or.inl hz))).mono ?_
    rintro e X5 ⟨a7,n7,c7,rfl,P7⟩
    have k5 : Kp [] W2 X5 := k1.trans P7.2.1 (fun z hz => Or.inl hz)
    have ow := P7.1
    have nw : ∀ j,j ∈ blk (.slice a7 n7 c7) → w.heap.size + 2 ≤ j := fun j hj => by have z1 := P7.2.2 j hj; have z2 := k1.size; have z3 := M2.hr.lt; omega
    clear P7
    go_wp2_with fail
    refine hK.out _ _ (HC.out _ k5) (fun hHeld5 => ?_)
    clear hK K hHeld4
    try simp only [Act.put,pu1,pu2,pu3]
    refine g_pure 19 (some 50) (.build 24 #[(0,.tmp 32),(1,.tmp 33),(4,.tmp 40),(5,.tmp 44),(6,.tmp 45),(7,.tmp 48),(8,.tmp 49)]) ?_
    refine wpAnyG_free (by kernel_rfl) ?_
    refine wpAny_ready (rs := [20]) (by kernel_rfl) (by simp) ?_
    refine AllReady.cons (o := ⟨none,.store 24 (.tmp 2) (.tmp 50),0,_,_,none⟩) rfl (fun K hK => ?_) AllReady.nil
    replace M2 := M2.kept k5
    obtain ⟨_,⟨y0,y1,y2,y3,y4,y5,y6,y7,y8⟩,fz⟩ := cells.out _ M2.kp M2
    go_simp
    refine hK _ _ ?_
    clear hK K
    try simp only [Act.put,pu1,pu2,pu3]
    refine wpAny_done (by kernel_rfl) ?_ _
    have HZ := M2.fin ⟨1,((a : Nat) : Int),0,0,tys r5,1 + (n6 : Int),nmv,l',t⟩ (a7,n7,c7) ow nw
    unfold put9 at HZ
    simp only at HZ
    clear M2 ow nw HC
    go_wp2
    rw [W64.out]
    obtain ⟨⟨d0,d1,d2,d3,d4,d5,d6,d7,d8⟩,HZ2⟩ := HZ.out
    simp only [Nat.zero_add] at d0 d1 d2 d3 d4 d5 d6 d7 d8
    refine bodyPost_ret (v := .agg #[.int .i64 (1),.int .i64 (((a : Nat) : Int)),.int .i64 (0),.int .i64 (0),.int .i64 (tys r5),.int .i64 (1 + (n6 : Int)),.string nmv,.slice a7 n7 c7,.string t]) (by simp [results,go_sem,d0,d1,d2,d3,d4,d5,d6,d7,d8]) rfl ?_
    rw [HR2.out]
    exact HZ2
   refine AllReadyG.cons (o := ⟨some 43,.call { callee := .value (.func 22),args := #[.tmp 42,.const (.int .i64 0),.const (.int .i64 1)],argTypes := #[3,3,3] },3,_,_,none⟩) rfl (fun K hK => ?_) AllReadyG.nil
   go_simp
   (go_at_call 22; refine same_of (HW6.out _) ?_)
   go_wp2_with fail
   refine hK.out _ _ (HC.out _ k1) (fun hHeld3 => ?_)
   clear hK K hHeld2
   try simp only [Act.put,pu1,pu2,pu3]
   refine g_pure 13 (some 44) (.binOp .add 3 (.const (.int .i64 1)) (.tmp 43) 3) ?_
   refine wpAnyG_ready (rs := [9,17]) (by kernel_rfl) (by simp) ?_
   refine AllReadyG.cons (o := ⟨some 40,.load 3 (.tmp 39),3,_,_,none⟩) rfl (fun K hK => ?_) ?_
   ·have lc := Ty5.out _ _ LT
    go_simp
    clear lc
    refine hK.out _ _ (HC.out _ k1) (fun hHeld4 => ?_)
    clear hK K hHeld3
    try simp only [Act.put,pu1,pu2,pu3]
    refine wpAnyG_ready (rs := [17]) (by kernel_rfl) (by simp) ?_
    refine AllReadyG.cons (o := ⟨some 48,.call { callee := .value (.func 26),args := #[.tmp 47],argTypes := #[22] },22,_,_,none⟩) rfl (fun K hK => ?_) AllReadyG.nil
    go_simp
    go_at_call 26
    refine (HS.out _ (M2.kp.trans k1 (fun z hz => Or.inl hz))).mono ?_
    rintro e X5 ⟨a7,n7,c7,rfl,P7⟩
    have k5 : Kp [] W2 X5 := k1.trans P7.2.1 (fun z hz => Or.inl hz)
    have ow := P7.1
    have nw : ∀ j,j ∈ blk (.slice a7 n7 c7) → w.heap.size + 2 ≤ j := fun j hj => by have z1 := P7.2.2 j hj; have z2 := k1.size; have z3 := M2.hr.lt; omega
    clear P7
    go_wp2_with fail
    refine hK.out _ _ (HC.out _ k5) (fun hHeld5 => ?_)
    clear hK K hHeld4
    try simp only [Act.put,pu1,pu2,pu3]
    refine g_pure 19 (some 50) (.build 24 #[(0,.tmp 32),(1,.tmp 33),(4,.tmp 40),(5,.tmp 44),(6,.tmp 45),(7,.tmp 48),(8,.tmp 49)]) ?_
    refine wpAnyG_free (by kernel_rfl) ?_
    refine wpAny_ready (rs := [20]) (by kernel_rfl) (by simp) ?_
    refine AllReady.cons (o := ⟨none,.store 24 (.tmp 2) (.tmp 50),0,_,_,none⟩) rfl (fun K hK => ?_) AllReady.nil
    replace M2 := M2.kept k5
    obtain ⟨_,⟨y0,y1,y2,y3,y4,y5,y6,y7,y8⟩,fz⟩ := cells.out _ M2.kp M2
    go_simp
    refine hK _ _ ?_
    clear hK K
    try simp only [Act.put,pu1,pu2,pu3]
    refine wpAny_done (by kernel_rfl) ?_ _
    have HZ := M2.fin ⟨1,((a : Nat) : Int),0,0,tys r5,1 + (n6 : Int),nmv,l',t⟩ (a7,n7,c7) ow nw
    unfold put9 at HZ
    simp only at HZ
    clear M2 ow nw HC
    go_wp2
    rw [W64.out]
    obtain ⟨⟨d0,d1,d2,d3,d4,d5,d6,d7,d8⟩,HZ2⟩ := HZ.out
    simp only [Nat.zero_add] at d0 d1 d2 d3 d4 d5 d6 d7 d8
    refine bodyPost_ret (v := .agg #[.int .i64 (1),.int .i64 (((a : Nat) : Int)),.int .i64 (0),.int .i64 (0),.int .i64 (tys r5),.int .i64 (1 + (n6 : Int)),.string nmv,.slice a7 n7 c7,.string t]) (by simp [results,go_sem,d0,d1,d2,d3,d4,d5,d6,d7,d8]) rfl ?_
    rw [HR2.out]
    exact HZ2
   refine AllReadyG.cons (o := ⟨some 48,.call { callee := .value (.func 26),args := #[.tmp 47],argTypes := #[22] },22,_,_,none⟩) rfl (fun K hK => ?_) AllReadyG.nil
   go_simp
   go_at_call 26
   refine (HS.out _ (M2.kp.trans k1 (fun z hz => Or.inl hz))).mono ?_
   rintro e X4 ⟨a7,n7,c7,rfl,P7⟩
   have k4 : Kp [] W2 X4 := k1.trans P7.2.1 (fun z hz => Or.inl hz)
   have ow := P7.1
   have nw : ∀ j,j ∈ blk (.slice a7 n7 c7) → w.heap.size + 2 ≤ j := fun j hj => by have z1 := P7.2.2 j hj; have z2 := k1.size; have z3 := M2.hr.lt; omega
   replace LT := LT.kept P7.2.1 (by simp)
   clear P7
   go_wp2_with fail
   refine hK.out _ _ (HC.out _ k4) (fun hHeld4 => ?_)
   clear hK K hHeld3
   try simp only [Act.put,pu1,pu2,pu3]
   refine wpAnyG_ready (rs := [9]) (by kernel_rfl) (by simp) ?_
   refine AllReadyG.cons (o := ⟨some 40,.load 3 (.tmp 39),3,_,_,none⟩) rfl (fun K hK => ?_) AllReadyG.nil
   have lc := Ty5.out _ _ LT
   go_simp
   clear lc
   refine hK.out _ _ (HC.out _ k4) (fun hHeld5 => ?_)
   clear hK K hHeld4
   try simp only [Act.put,pu1,pu2,pu3]
   refine g_pure 19 (some 50) (.build 24 #[(0,.tmp 32),(1,.tmp 33),(4,.tmp 40),(5,.tmp 44),(6,.tmp 45),(7,.tmp 48),(8,.tmp 49)]) ?_
   refine wpAnyG_free (by kernel_rfl) ?_
   refine wpAny_ready (rs := [20]) (by kernel_rfl) (by simp) ?_
   refine AllReady.cons (o := ⟨none,.store 24 (.tmp 2) (.tmp 50),0,_,_,none⟩) rfl (fun K hK => ?_) AllReady.nil
   replace M2 := M2.kept k4
   obtain ⟨_,⟨y0,y1,y2,y3,y4,y5,y6,y7,y8⟩,fz⟩ := cells.out _ M2.kp M2
   go_simp
   refine hK _ _ ?_
   clear hK K
   try simp only [Act.put,pu1,pu2,pu3]
   refine wpAny_done (by kernel_rfl) ?_ _
   have HZ := M2.fin ⟨1,((a : Nat) : Int),0,0,tys r5,1 + (n6 : Int),nmv,l',t⟩ (a7,n7,c7) ow nw
   unfold put9 at HZ
   simp only at HZ
   clear M2 ow nw HC
   go_wp2
   rw [W64.out]
   obtain ⟨⟨d0,d1,d2,d3,d4,d5,d6,d7,d8⟩,HZ2⟩ := HZ.out
   simp only [Nat.zero_add] at d0 d1 d2 d3 d4 d5 d6 d7 d8
   refine bodyPost_ret (v := .agg #[.int .i64 (1),.int .i64 (((a : Nat) : Int)),.int .i64 (0),.int .i64 (0),.int .i64 (tys r5),.int .i64 (1 + (n6 : Int)),.string nmv,.slice a7 n7 c7,.string t]) (by simp [results,go_sem,d0,d1,d2,d3,d4,d5,d6,d7,d8]) rfl ?_
   rw [HR2.out]
   exact HZ2
  refine AllReadyG.cons (o := ⟨some 37,.call { callee := .value (.func 22),args := #[.tmp 36,.const (.int .i64 0),.const (.int .i64 1000)],argTypes := #[3,3,3] },3,_,_,none⟩) rfl (fun K hK => ?_) AllReadyG.nil
  go_simp
  (go_at_call 22; refine same_of (HW5.out _) ?_)
  go_wp2_with fail
  refine hK.out _ _ (HC.out _ k0) (fun hHeld1 => ?_)
  clear hK K hHeld
  try simp only [Act.put,pu1,pu2,pu3]
  refine g_pure 7 (some 38) (.binOp .rem 3 (.tmp 37) (.const (.int .i64 5)) 3) ?_
  refine wpAnyG_ready (rs := [3,12]) (by kernel_rfl) (by simp) ?_
  refine AllReadyG.cons (o := ⟨some 34,.buildSlice 61 5 #[(0,.const (.int .i64 3)),(1,.const (.int .i64 3)),(2,.const (.int .i64 3)),(3,.const (.int .i64 5)),(4,.const (.int .i64 2))],61,_,_,none⟩) rfl (fun K hK => ?_) ?_
  ·obtain ⟨V2,hV⟩ : ∃ W,W = World.alloc U0 (.cells #[.int .i64 3,.int .i64 3,.int .i64 3,.int .i64 5,.int .i64 2] 3) := ⟨_,rfl⟩
   have e2 : Kp [] U0 V2 := by rw [hV]; exact (Kp.refl _ _).alloc _
   have LT : At V2 U0.heap.size #[.int .i64 3,.int .i64 3,.int .i64 3,.int .i64 5,.int .i64 2] 3 := by rw [hV]; exact At.new _ _ _
   have k2 : Kp [] W2 V2 := k0.trans e2 (fun z hz => Or.inl hz)
   go_simp
   rw [← hV]
   clear hV e2
   refine hK.out _ _ (HC.out _ k2) (fun hHeld2 => ?_)
   clear hK K hHeld1
   try simp only [Act.put,pu1,pu2,pu3]
   refine g_pure 8 (some 39) (.indexAddr 61 (.tmp 34) (.tmp 38)) ?_
   refine wpAnyG_ready (rs := [9,12]) (by kernel_rfl) (by simp) ?_
   refine AllReadyG.cons (o := ⟨some 40,.load 3 (.tmp 39),3,_,_,none⟩) rfl (fun K hK => ?_) ?_
   ·have lc := Ty5.out _ _ LT
    go_simp
    clear lc
    refine hK.out _ _ (HC.out _ k2) (fun hHeld3 => ?_)
    clear hK K hHeld2
    try simp only [Act.put,pu1,pu2,pu3]
    refine wpAnyG_ready (rs := [12]) (by kernel_rfl) (by simp) ?_
    refine AllReadyG.cons (o := ⟨some 43,.call { callee := .value (.func 22),args := #[.tmp 42,.const (.int .i64 0),.const (.int .i64 1)],argTypes := #[3,3,3] },3,_,_,none⟩) rfl (fun K hK => ?_) AllReadyG.nil
    go_simp
    (go_at_call 22; refine same_of (HW6.out _) ?_)
    go_wp2_with fail
    refine hK.out _ _ (HC.out _ k2) (fun hHeld4 => ?_)
    clear hK K hHeld3
    try simp only [Act.put,pu1,pu2,pu3]
    refine g_pure 13 (some 44) (.binOp .add 3 (.const (.int .i64 1)) (.tmp 43) 3) ?_
    refine wpAnyG_ready (rs := [17]) (by kernel_rfl) (by simp) ?_
    refine AllReadyG.cons (o := ⟨some 48,.call { callee := .value (.func 26),args := #[.tmp 47],argTypes := #[22] },22,_,_,none⟩) rfl (fun K hK => ?_) AllReadyG.nil
    go_simp
    go_at_call 26
    refine (HS.out _ (M2.kp.trans k2 (fun z hz => Or.inl hz))).mono ?_
    rintro e X5 ⟨a7,n7,c7,rfl,P7⟩
    have k5 : Kp [] W2 X5 := k2.trans P7.2.1 (fun z hz => Or.inl hz)
    have ow := P7.1
    have nw : ∀ j,j ∈ blk (.slice a7 n7 c7) → w.heap.size + 2 ≤ j := fun j hj => by have z1 := P7.2.2 j hj; have z2 := k2.size; have z3 := M2.hr.lt; omega
    clear P7
    go_wp2_with fail
    refine hK.out _ _ (HC.out _ k5) (fun hHeld5 => ?_)
    clear hK K hHeld4
    try simp only [Act.put,pu1,pu2,pu3]
    refine g_pure 19 (some 50) (.build 24 #[(0,.tmp 32),(1,.tmp 33),(4,.tmp 40),(5,.tmp 44),(6,.tmp 45),(7,.tmp 48),(8,.tmp 49)]) ?_
    refine wpAnyG_free (by kernel_rfl) ?_
    refine wpAny_ready (rs := [20]) (by kernel_rfl) (by simp) ?_
    refine AllReady.cons (o := ⟨none,.store 24 (.tmp 2) (.tmp 50),0,_,_,none⟩) rfl (fun K hK => ?_) AllReady.nil
    replace M2 := M2.kept k5
    obtain ⟨_,⟨y0,y1,y2,y3,y4,y5,y6,y7,y8⟩,fz⟩ := cells.out _ M2.kp M2
    go_simp
    refine hK _ _ ?_
    clear hK K
    try simp only [Act.put,pu1,pu2,pu3]
    refine wpAny_done (by kernel_rfl) ?_ _
    have HZ := M2.fin ⟨1,((a : Nat) : Int),0,0,tys r5,1 + (n6 : Int),nmv,l',t⟩ (a7,n7,c7) ow nw
    unfold put9 at HZ
    simp only at HZ
    clear M2 ow nw HC
    go_wp2
    rw [W64.out]
    obtain ⟨⟨d0,d1,d2,d3,d4,d5,d6,d7,d8⟩,HZ2⟩ := HZ.out
    simp only [Nat.zero_add] at d0 d1 d2 d3 d4 d5 d6 d7 d8
    refine bodyPost_ret (v := .agg #[.int .i64 (1),.int .i64 (((a : Nat) : Int)),.int .i64 (0),.int .i64 (0),.int .i64 (tys r5),.int .i64 (1 + (n6 : Int)),.string nmv,.slice a7 n7 c7,.string t]) (by simp [results,go_sem,d0,d1,d2,d3,d4,d5,d6,d7,d8]) rfl ?_
    rw [HR2.out]
    exact HZ2
   refine AllReadyG.cons (o := ⟨some 43,.call { callee := .value (.func 22),args := #[.tmp 42,.const (.int .i64 0),.const (.int .i64 1)],argTypes := #[3,3,3] },3,_,_,none⟩) rfl (fun K hK => ?_) AllReadyG.nil
   go_simp
   (go_at_call 22; refine same_of (HW6.out _) ?_)
   go_wp2_with fail
   refine hK.out _ _ (HC.out _ k2) (fun hHeld3 => ?_)
   clear hK K hHeld2
   try simp only [Act.put,pu1,pu2,pu3]
   refine g_pure 13 (some 44) (.binOp .add 3 (.const (.int .i64 1)) (.tmp 43) 3) ?_
   refine wpAnyG_ready (rs := [9,17]) (by kernel_rfl) (by simp) ?_
   refine AllReadyG.cons (o := ⟨some 40,.load 3 (.tmp 39),3,_,_,none⟩) rfl (fun K hK => ?_) ?_
   ·have lc := Ty5.out _ _ LT
    go_simp
    clear lc
    refine hK.out _ _ (HC.out _ k2) (fun hHeld4 => ?_)
    clear hK K hHeld3
    try simp only [Act.put,pu1,pu2,pu3]
    refine wpAnyG_ready (rs := [17]) (by kernel_rfl) (by simp) ?_
    refine AllReadyG.cons (o := ⟨some 48,.call { callee := .value (.func 26),args := #[.tmp 47],argTypes := #[22] },22,_,_,none⟩) rfl (fun K hK => ?_) AllReadyG.nil
    go_simp
    go_at_call 26
    refine (HS.out _ (M2.kp.trans k2 (fun z hz => Or.inl hz))).mono ?_
    rintro e X5 ⟨a7,n7,c7,rfl,P7⟩
    have k5 : Kp [] W2 X5 := k2.trans P7.2.1 (fun z hz => Or.inl hz)
    have ow := P7.1
    have nw : ∀ j,j ∈ blk (.slice a7 n7 c7) → w.heap.size + 2 ≤ j := fun j hj => by have z1 := P7.2.2 j hj; have z2 := k2.size; have z3 := M2.hr.lt; omega
    clear P7
    go_wp2_with fail
    refine hK.out _ _ (HC.out _ k5) (fun hHeld5 => ?_)
    clear hK K hHeld4
    try simp only [Act.put,pu1,pu2,pu3]
    refine g_pure 19 (some 50) (.build 24 #[(0,.tmp 32),(1,.tmp 33),(4,.tmp 40),(5,.tmp 44),(6,.tmp 45),(7,.tmp 48),(8,.tmp 49)]) ?_
    refine wpAnyG_free (by kernel_rfl) ?_
    refine wpAny_ready (rs := [20]) (by kernel_rfl) (by simp) ?_
    refine AllReady.cons (o := ⟨none,.store 24 (.tmp 2) (.tmp 50),0,_,_,none⟩) rfl (fun K hK => ?_) AllReady.nil
    replace M2 := M2.kept k5
    obtain ⟨_,⟨y0,y1,y2,y3,y4,y5,y6,y7,y8⟩,fz⟩ := cells.out _ M2.kp M2
    go_simp
    refine hK _ _ ?_
    clear hK K
    try simp only [Act.put,pu1,pu2,pu3]
    refine wpAny_done (by kernel_rfl) ?_ _
    have HZ := M2.fin ⟨1,((a : Nat) : Int),0,0,tys r5,1 + (n6 : Int),nmv,l',t⟩ (a7,n7,c7) ow nw
    unfold put9 at HZ
    simp only at HZ
    clear M2 ow nw HC
    go_wp2
    rw [W64.out]
    obtain ⟨⟨d0,d1,d2,d3,d4,d5,d6,d7,d8⟩,HZ2⟩ := HZ.out
    simp only [Nat.zero_add] at d0 d1 d2 d3 d4 d5 d6 d7 d8
    refine bodyPost_ret (v := .agg #[.int .i64 (1),.int .i64 (((a : Nat) : Int)),.int .i64 (0),.int .i64 (0),.int .i64 (tys r5),.int .i64 (1 + (n6 : Int)),.string nmv,.slice a7 n7 c7,.string t]) (by simp [results,go_sem,d0,d1,d2,d3,d4,d5,d6,d7,d8]) rfl ?_
    rw [HR2.out]
    exact HZ2
   refine AllReadyG.cons (o := ⟨some 48,.call { callee := .value (.func 26),args := #[.tmp 47],argTypes := #[22] },22,_,_,none⟩) rfl (fun K hK => ?_) AllReadyG.nil
   go_simp
   go_at_call 26
   refine (HS.out _ (M2.kp.trans k2 (fun z hz => Or.inl hz))).mono ?_
   rintro e X4 ⟨a7,n7,c7,rfl,P7⟩
   have k4 : Kp [] W2 X4 := k2.trans P7.2.1 (fun z hz => Or.inl hz)
   have ow := P7.1
   have nw : ∀ j,j ∈ blk (.slice a7 n7 c7) → w.heap.size + 2 ≤ j := fun j hj => by have z1 := P7.2.2 j hj; have z2 := k2.size; have z3 := M2.hr.lt; omega
   replace LT := LT.kept P7.2.1 (by simp)
   clear P7
   go_wp2_with fail
   refine hK.out _ _ (HC.out _ k4) (fun hHeld4 => ?_)
   clear hK K hHeld3
   try simp only [Act.put,pu1,pu2,pu3]
   refine wpAnyG_ready (rs := [9]) (by kernel_rfl) (by simp) ?_
   refine AllReadyG.cons (o := ⟨some 40,.load 3 (.tmp 39),3,_,_,none⟩) rfl (fun K hK => ?_) AllReadyG.nil
   have lc := Ty5.out _ _ LT
   go_simp
   clear lc
   refine hK.out _ _ (HC.out _ k4) (fun hHeld5 => ?_)
   clear hK K hHeld4
   try simp only [Act.put,pu1,pu2,pu3]
   refine g_pure 19 (some 50) (.build 24 #[(0,.tmp 32),(1,.tmp 33),(4,.tmp 40),(5,.tmp 44),(6,.tmp 45),(7,.tmp 48),(8,.tmp 49)]) ?_
   refine wpAnyG_free (by kernel_rfl) ?_
   refine wpAny_ready (rs := [20]) (by kernel_rfl) (by simp) ?_
   refine AllReady.cons (o := ⟨none,.store 24 (.tmp 2) (.tmp 50),0,_,_,none⟩) rfl (fun K hK => ?_) AllReady.nil
   replace M2 := M2.kept k4
   obtain ⟨_,⟨y0,y1,y2,y3,y4,y5,y6,y7,y8⟩,fz⟩ := cells.out _ M2.kp M2
   go_simp
   refine hK _ _ ?_
   clear hK K
   try simp only [Act.put,pu1,pu2,pu3]
   refine wpAny_done (by kernel_rfl) ?_ _
   have HZ := M2.fin ⟨1,((a : Nat) : Int),0,0,tys r5,1 + (n6 : Int),nmv,l',t⟩ (a7,n7,c7) ow nw
   unfold put9 at HZ
   simp only at HZ
   clear M2 ow nw HC
   go_wp2
   rw [W64.out]
   obtain ⟨⟨d0,d1,d2,d3,d4,d5,d6,d7,d8⟩,HZ2⟩ := HZ.out
   simp only [Nat.zero_add] at d0 d1 d2 d3 d4 d5 d6 d7 d8
   refine bodyPost_ret (v := .agg #[.int .i64 (1),.int .i64 (((a : Nat) : Int)),.int .i64 (0),.int .i64 (0),.int .i64 (tys r5),.int .i64 (1 + (n6 : Int)),.string nmv,.slice a7 n7 c7,.string t]) (by simp [results,go_sem,d0,d1,d2,d3,d4,d5,d6,d7,d8]) rfl ?_
   rw [HR2.out]
   exact HZ2
  refine AllReadyG.cons (o := ⟨some 43,.call { callee := .value (.func 22),args := #[.tmp 42,.const (.int .i64 0),.const (.int .i64 1)],argTypes := #[3,3,3] },3,_,_,none⟩) rfl (fun K hK => ?_) AllReadyG.nil
  go_simp
  (go_at_call 22; refine same_of (HW6.out _) ?_)
  go_wp2_with fail
  refine hK.out _ _ (HC.out _ k0) (fun hHeld2 => ?_)
  clear hK K hHeld1
  try simp only [Act.put,pu1,pu2,pu3]
  refine g_pure 13 (some 44) (.binOp .add 3 (.const (.int .i64 1)) (.tmp 43) 3) ?_
  refine wpAnyG_ready (rs := [3,17]) (by kernel_rfl) (by simp) ?_
  refine AllReadyG.cons (o := ⟨some 34,.buildSlice 61 5 #[(0,.const (.int .i64 3)),(1,.const (.int .i64 3)),(2,.const (.int .i64 3)),(3,.const (.int .i64 5)),(4,.const (.int .i64 2))],61,_,_,none⟩) rfl (fun K hK => ?_) ?_
  ·obtain ⟨V3,hV⟩ : ∃ W,W = World.alloc U0 (.cells #[.int .i64 3,.int .i64 3,.int .i64 3,.int .i64 5,.int .i64 2] 3) := ⟨_,rfl⟩
   have e3 : Kp [] U0 V3 := by rw [hV]; exact (Kp.refl _ _).alloc _
   have LT : At V3 U0.heap.size #[.int .i64 3,.int .i64 3,.int .i64 3,.int .i64 5,.int .i64 2] 3 := by rw [hV]; exact At.new _ _ _
   have k3 : Kp [] W2 V3 := k0.trans e3 (fun z hz => Or.inl hz)
   go_simp
   rw [← hV]
   clear hV e3
   refine hK.out _ _ (HC.out _ k3) (fun hHeld3 => ?_)
   clear hK K hHeld2
   try simp only [Act.put,pu1,pu2,pu3]
   refine g_pure 8 (some 39) (.indexAddr 61 (.tmp 34) (.tmp 38)) ?_
   refine wpAnyG_ready (rs := [9,17]) (by kernel_rfl) (by simp) ?_
   refine AllReadyG.cons (o := ⟨some 40,.load 3 (.tmp 39),3,_,_,none⟩) rfl (fun K hK => ?_) ?_
   ·have lc := Ty5.out _ _ LT
    go_simp
    clear lc
    refine hK.out _ _ (HC.out _ k3) (fun hHeld4 => ?_)
    clear hK K hHeld3
    try simp only [Act.put,pu1,pu2,pu3]
    refine wpAnyG_ready (rs := [17]) (by kernel_rfl) (by simp) ?_
    refine AllReadyG.cons (o := ⟨some 48,.call { callee := .value (.func 26),args := #[.tmp 47],argTypes := #[22] },22,_,_,none⟩) rfl (fun K hK => ?_) AllReadyG.nil
    go_simp
    go_at_call 26
    refine (HS.out _ (M2.kp.trans k3 (fun z hz => Or.inl hz))).mono ?_
    rintro e X5 ⟨a7,n7,c7,rfl,P7⟩
    have k5 : Kp [] W2 X5 := k3.trans P7.2.1 (fun z hz => Or.inl hz)
    have ow := P7.1
    have nw : ∀ j,j ∈ blk (.slice a7 n7 c7) → w.heap.size + 2 ≤ j := fun j hj => by have z1 := P7.2.2 j hj; have z2 := k3.size; have z3 := M2.hr.lt; omega
    clear P7
    go_wp2_with fail
    refine hK.out _ _ (HC.out _ k5) (fun hHeld5 => ?_)
    clear hK K hHeld4
    try simp only [Act.put,pu1,pu2,pu3]
    refine g_pure 19 (some 50) (.build 24 #[(0,.tmp 32),(1,.tmp 33),(4,.tmp 40),(5,.tmp 44),(6,.tmp 45),(7,.tmp 48),(8,.tmp 49)]) ?_
    refine wpAnyG_free (by kernel_rfl) ?_
    refine wpAny_ready (rs := [20]) (by kernel_rfl) (by simp) ?_
    refine AllReady.cons (o := ⟨none,.store 24 (.tmp 2) (.tmp 50),0,_,_,none⟩) rfl (fun K hK => ?_) AllReady.nil
    replace M2 := M2.kept k5
    obtain ⟨_,⟨y0,y1,y2,y3,y4,y5,y6,y7,y8⟩,fz⟩ := cells.out _ M2.kp M2
    go_simp
    refine hK _ _ ?_
    clear hK K
    try simp only [Act.put,pu1,pu2,pu3]
    refine wpAny_done (by kernel_rfl) ?_ _
    have HZ := M2.fin ⟨1,((a : Nat) : Int),0,0,tys r5,1 + (n6 : Int),nmv,l',t⟩ (a7,n7,c7) ow nw
    unfold put9 at HZ
    simp only at HZ
    clear M2 ow nw HC
    go_wp2
    rw [W64.out]
    obtain ⟨⟨d0,d1,d2,d3,d4,d5,d6,d7,d8⟩,HZ2⟩ := HZ.out
    simp only [Nat.zero_add] at d0 d1 d2 d3 d4 d5 d6 d7 d8
    refine bodyPost_ret (v := .agg #[.int .i64 (1),.int .i64 (((a : Nat) : Int)),.int .i64 (0),.int .i64 (0),.int .i64 (tys r5),.int .i64 (1 + (n6 : Int)),.string nmv,.slice a7 n7 c7,.string t]) (by simp [results,go_sem,d0,d1,d2,d3,d4,d5,d6,d7,d8]) rfl ?_
    rw [HR2.out]
    exact HZ2
   refine AllReadyG.cons (o := ⟨some 48,.call { callee := .value (.func 26),args := #[.tmp 47],argTypes := #[22] },22,_,_,none⟩) rfl (fun K hK => ?_) AllReadyG.nil
   go_simp
   go_at_call 26
   refine (HS.out _ (M2.kp.trans k3 (fun z hz => Or.inl hz))).mono ?_
   rintro e X4 ⟨a7,n7,c7,rfl,P7⟩
   have k4 : Kp [] W2 X4 := k3.trans P7.2.1 (fun z hz => Or.inl hz)
   have ow := P7.1
   have nw : ∀ j,j ∈ blk (.slice a7 n7 c7) → w.heap.size + 2 ≤ j := fun j hj => by have z1 := P7.2.2 j hj; have z2 := k3.size; have z3 := M2.hr.lt; omega
   replace LT := LT.kept P7.2.1 (by simp)
   clear P7
   go_wp2_with fail
   refine hK.out _ _ (HC.out _ k4) (fun hHeld4 => ?_)
   clear hK K hHeld3
   try simp only [Act.put,pu1,pu2,pu3]
   refine wpAnyG_ready (rs := [9]) (by kernel_rfl) (by simp) ?_
   refine AllReadyG.cons (o := ⟨some 40,.load 3 (.tmp 39),3,_,_,none⟩) rfl (fun K hK => ?_) AllReadyG.nil
   have lc := Ty5.out _ _ LT
   go_simp
   clear lc
   refine hK.out _ _ (HC.out _ k4) (fun hHeld5 => ?_)
   clear hK K hHeld4
   try simp only [Act.put,pu1,pu2,pu3]
   refine g_pure 19 (some 50) (.build 24 #[(0,.tmp 32),(1,.tmp 33),(4,.tmp 40),(5,.tmp 44),(6,.tmp 45),(7,.tmp 48),(8,.tmp 49)]) ?_
   refine wpAnyG_free (by kernel_rfl) ?_
   refine wpAny_ready (rs := [20]) (by kernel_rfl) (by simp) ?_
   refine AllReady.cons (o := ⟨none,.store 24 (.tmp 2) (.tmp 50),0,_,_,none⟩) rfl (fun K hK => ?_) AllReady.nil
   replace M2 := M2.kept k4
   obtain ⟨_,⟨y0,y1,y2,y3,y4,y5,y6,y7,y8⟩,fz⟩ := cells.out _ M2.kp M2
   go_simp
   refine hK _ _ ?_
   clear hK K
   try simp only [Act.put,pu1,pu2,pu3]
   refine wpAny_done (by kernel_rfl) ?_ _
   have HZ := M2.fin ⟨1,((a : Nat) : Int),0,0,tys r5,1 + (n6 : Int),nmv,l',t⟩ (a7,n7,c7) ow nw
   unfold put9 at HZ
   simp only at HZ
   clear M2 ow nw HC
   go_wp2
   rw [W64.out]
   obtain ⟨⟨d0,d1,d2,d3,d4,d5,d6,d7,d8⟩,HZ2⟩ := HZ.out
   simp only [Nat.zero_add] at d0 d1 d2 d3 d4 d5 d6 d7 d8
   refine bodyPost_ret (v := .agg #[.int .i64 (1),.int .i64 (((a : Nat) : Int)),.int .i64 (0),.int .i64 (0),.int .i64 (tys r5),.int .i64 (1 + (n6 : Int)),.string nmv,.slice a7 n7 c7,.string t]) (by simp [results,go_sem,d0,d1,d2,d3,d4,d5,d6,d7,d8]) rfl ?_
   rw [HR2.out]
   exact HZ2
  refine AllReadyG.cons (o := ⟨some 48,.call { callee := .value (.func 26),args := #[.tmp 47],argTypes := #[22] },22,_,_,none⟩) rfl (fun K hK => ?_) AllReadyG.nil
  go_simp
  go_at_call 26
  refine (HS.out _ (M2.kp.trans k0 (fun z hz => Or.inl hz))).mono ?_
  rintro e X3 ⟨a7,n7,c7,rfl,P7⟩
  have k3 : Kp [] W2 X3 := k0.trans P7.2.1 (fun z hz => Or.inl hz)
  have ow := P7.1
  have nw : ∀ j,j ∈ blk (.slice a7 n7 c7) → w.heap.size + 2 ≤ j := fun j hj => by have z1 := P7.2.2 j hj; have z2 := k0.size; have z3 := M2.hr.lt; omega
  clear P7
  go_wp2_with fail
  refine hK.out _ _ (HC.out _ k3) (fun hHeld3 => ?_)
  clear hK K hHeld2
  try simp only [Act.put,pu1,pu2,pu3]
  refine wpAnyG_ready (rs := [3]) (by kernel_rfl) (by simp) ?_
  refine AllReadyG.cons (o := ⟨some 34,.buildSlice 61 5 #[(0,.const (.int .i64 3)),(1,.const (.int .i64 3)),(2,.const (.int .i64 3)),(3,.const (.int .i64 5)),(4,.const (.int .i64 2))],61,_,_,none⟩) rfl (fun K hK => ?_) AllReadyG.nil
  obtain ⟨V4,hV⟩ : ∃ W,W = World.alloc X3 (.cells #[.int .i64 3,.int .i64 3,.int .i64 3,.int .i64 5,.int .i64 2] 3) := ⟨_,rfl⟩
  have e4 : Kp [] X3 V4 := by rw [hV]; exact (Kp.refl _ _).alloc _
  have LT : At V4 X3.heap.size #[.int .i64 3,.int .i64 3,.int .i64 3,.int .i64 5,.int .i64 2] 3 := by rw [hV]; exact At.new _ _ _
  have k4 : Kp [] W2 V4 := k3.trans e4 (fun z hz => Or.inl hz)
  replace ow := ow.keep e4 (fun _ _ => by simp)
  go_simp
  rw [← hV]
  clear hV e4
  refine hK.out _ _ (HC.out _ k4) (fun hHeld4 => ?_)
  clear hK K hHeld3
  try simp only [Act.put,pu1,pu2,pu3]
  refine g_pure 8 (some 39) (.indexAddr 61 (.tmp 34) (.tmp 38)) ?_
  refine wpAnyG_ready (rs := [9]) (by kernel_rfl) (by simp) ?_
  refine AllReadyG.cons (o := ⟨some 40,.load 3 (.tmp 39),3,_,_,none⟩) rfl (fun K hK => ?_) AllReadyG.nil
  have lc := Ty5.out _ _ LT
  go_simp
  clear lc
  refine hK.out _ _ (HC.out _ k4) (fun hHeld5 => ?_)
  clear hK K hHeld4
  try simp only [Act.put,pu1,pu2,pu3]
  refine g_pure 19 (some 50) (.build 24 #[(0,.tmp 32),(1,.tmp 33),(4,.tmp 40),(5,.tmp 44),(6,.tmp 45),(7,.tmp 48),(8,.tmp 49)]) ?_
  refine wpAnyG_free (by kernel_rfl) ?_
  refine wpAny_ready (rs := [20]) (by kernel_rfl) (by simp) ?_
  refine AllReady.cons (o := ⟨none,.store 24 (.tmp 2) (.tmp 50),0,_,_,none⟩) rfl (fun K hK => ?_) AllReady.nil
  replace M2 := M2.kept k4
  obtain ⟨_,⟨y0,y1,y2,y3,y4,y5,y6,y7,y8⟩,fz⟩ := cells.out _ M2.kp M2
  go_simp
  refine hK _ _ ?_
  clear hK K
  try simp only [Act.put,pu1,pu2,pu3]
  refine wpAny_done (by kernel_rfl) ?_ _
  have HZ := M2.fin ⟨1,((a : Nat) : Int),0,0,tys r5,1 + (n6 : Int),nmv,l',t⟩ (a7,n7,c7) ow nw
  unfold put9 at HZ
  simp only at HZ
  clear M2 ow nw HC
  go_wp2
  rw [W64.out]
  obtain ⟨⟨d0,d1,d2,d3,d4,d5,d6,d7,d8⟩,HZ2⟩ := HZ.out
  simp only [Nat.zero_add] at d0 d1 d2 d3 d4 d5 d6 d7 d8
  refine bodyPost_ret (v := .agg #[.int .i64 (1),.int .i64 (((a : Nat) : Int)),.int .i64 (0),.int .i64 (0),.int .i64 (tys r5),.int .i64 (1 + (n6 : Int)),.string nmv,.slice a7 n7 c7,.string t]) (by simp [results,go_sem,d0,d1,d2,d3,d4,d5,d6,d7,d8]) rfl ?_
  rw [HR2.out]
  exact HZ2
 ·have HR2 : Hid (R = ⟨2,((a : Nat) : Int),((b : Nat) : Int),0,0,0,⟨#[]⟩,[],⟨#[]⟩⟩) := (by rw [← HR.out]; rfl : R = ⟨2,((a : Nat) : Int),((b : Nat) : Int),0,0,0,⟨#[]⟩,[],⟨#[]⟩⟩)
  have HZ := M1.fin ⟨2,((a : Nat) : Int),((b : Nat) : Int),0,0,0,⟨#[]⟩,[],⟨#[]⟩⟩ (none,0,0) (ar_nil _ _ rfl) (fun j hj => by simp [blk] at hj)
  unfold put9 at HZ
  simp only at HZ
  clear M1 cells HS HR
  go_wp2
  obtain ⟨⟨d0,d1,d2,d3,d4,d5,d6,d7,d8⟩,HZ2⟩ := HZ.out
  simp only [Nat.zero_add] at d0 d1 d2 d3 d4 d5 d6 d7 d8
  refine bodyPost_ret (v := .agg #[.int .i64 (2),.int .i64 (((a : Nat) : Int)),.int .i64 (((b : Nat) : Int)),.int .i64 (0),.int .i64 (0),.int .i64 (0),.string ⟨#[]⟩,.slice none 0 0,.string ⟨#[]⟩]) (by simp [results,go_sem,d0,d1,d2,d3,d4,d5,d6,d7,d8]) rfl ?_
  rw [HR2.out]
  exact HZ2
 ·have HR2 : Hid (R = ⟨3,((a : Nat) : Int),0,((b : Nat) : Int),0,0,⟨#[]⟩,[],⟨#[]⟩⟩) := (by rw [← HR.out]; rfl : R = ⟨3,((a : Nat) : Int),0,((b : Nat) : Int),0,0,⟨#[]⟩,[],⟨#[]⟩⟩)
  have HZ := M1.fin ⟨3,((a : Nat) : Int),0,((b : Nat) : Int),0,0,⟨#[]⟩,[],⟨#[]⟩⟩ (none,0,0) (ar_nil _ _ rfl) (fun j hj => by simp [blk] at hj)
  unfold put9 at HZ
  simp only at HZ
  clear M1 cells HS HR
  go_wp2
  obtain ⟨⟨d0,d1,d2,d3,d4,d5,d6,d7,d8⟩,HZ2⟩ := HZ.out
  simp only [Nat.zero_add] at d0 d1 d2 d3 d4 d5 d6 d7 d8
  refine bodyPost_ret (v := .agg #[.int .i64 (3),.int .i64 (((a : Nat) : Int)),.int .i64 (0),.int .i64 (((b : Nat) : Int)),.int .i64 (0),.int .i64 (0),.string ⟨#[]⟩,.slice none 0 0,.string ⟨#[]⟩]) (by simp [results,go_sem,d0,d1,d2,d3,d4,d5,d6,d7,d8]) rfl ?_
  rw [HR2.out]
  exact HZ2
 ·have HR2 : Hid (R = ⟨4,((a : Nat) : Int),((c : Nat) : Int),((b : Nat) : Int),0,0,⟨#[]⟩,[],⟨#[]⟩⟩) := (by rw [← HR.out]; rfl : R = ⟨4,((a : Nat) : Int),((c : Nat) : Int),((b : Nat) : Int),0,0,⟨#[]⟩,[],⟨#[]⟩⟩)
  have HZ := M1.fin ⟨4,((a : Nat) : Int),((c : Nat) : Int),((b : Nat) : Int),0,0,⟨#[]⟩,[],⟨#[]⟩⟩ (none,0,0) (ar_nil _ _ rfl) (fun j hj => by simp [blk] at hj)
  unfold put9 at HZ
  simp only at HZ
  clear M1 cells HS HR
  go_wp2
  obtain ⟨⟨d0,d1,d2,d3,d4,d5,d6,d7,d8⟩,HZ2⟩ := HZ.out
  simp only [Nat.zero_add] at d0 d1 d2 d3 d4 d5 d6 d7 d8
  refine bodyPost_ret (v := .agg #[.int .i64 (4),.int .i64 (((a : Nat) : Int)),.int .i64 (((c : Nat) : Int)),.int .i64 (((b : Nat) : Int)),.int .i64 (0),.int .i64 (0),.string ⟨#[]⟩,.slice none 0 0,.string ⟨#[]⟩]) (by simp [results,go_sem,d0,d1,d2,d3,d4,d5,d6,d7,d8]) rfl ?_
  rw [HR2.out]
  exact HZ2
 ·have HR2 : Hid (R = ⟨5,0,((a : Nat) : Int),0,0,0,⟨#[]⟩,[],t⟩) := (by rw [← HR.out]; rfl : R = ⟨5,0,((a : Nat) : Int),0,0,0,⟨#[]⟩,[],t⟩)
  have HZ := M1.fin ⟨5,0,((a : Nat) : Int),0,0,0,⟨#[]⟩,[],t⟩ (none,0,0) (ar_nil _ _ rfl) (fun j hj => by simp [blk] at hj)
  unfold put9 at HZ
  simp only at HZ
  clear M1 cells HS HR
  go_wp2
  obtain ⟨⟨d0,d1,d2,d3,d4,d5,d6,d7,d8⟩,HZ2⟩ := HZ.out
  simp only [Nat.zero_add] at d0 d1 d2 d3 d4 d5 d6 d7 d8
  refine bodyPost_ret (v := .agg #[.int .i64 (5),.int .i64 (0),.int .i64 (((a : Nat) : Int)),.int .i64 (0),.int .i64 (0),.int .i64 (0),.string ⟨#[]⟩,.slice none 0 0,.string t]) (by simp [results,go_sem,d0,d1,d2,d3,d4,d5,d6,d7,d8]) rfl ?_
  rw [HR2.out]
  exact HZ2
 ·have HR2 : Hid (R = ⟨6,0,((b : Nat) : Int),((a : Nat) : Int),0,0,⟨#[]⟩,[],t⟩) := (by rw [← HR.out]; rfl : R = ⟨6,0,((b : Nat) : Int),((a : Nat) : Int),0,0,⟨#[]⟩,[],t⟩)
  have HZ := M1.fin ⟨6,0,((b : Nat) : Int),((a : Nat) : Int),0,0,⟨#[]⟩,[],t⟩ (none,0,0) (ar_nil _ _ rfl) (fun j hj => by simp [blk] at hj)
  unfold put9 at HZ
  simp only at HZ
  clear M1 cells HS HR
  go_wp2
  obtain ⟨⟨d0,d1,d2,d3,d4,d5,d6,d7,d8⟩,HZ2⟩ := HZ.out
  simp only [Nat.zero_add] at d0 d1 d2 d3 d4 d5 d6 d7 d8
  refine bodyPost_ret (v := .agg #[.int .i64 (6),.int .i64 (0),.int .i64 (((b : Nat) : Int)),.int .i64 (((a : Nat) : Int)),.int .i64 (0),.int .i64 (0),.string ⟨#[]⟩,.slice none 0 0,.string t]) (by simp [results,go_sem,d0,d1,d2,d3,d4,d5,d6,d7,d8]) rfl ?_
  rw [HR2.out]
  exact HZ2
 ·have HR2 : Hid (R = ⟨7,((a : Nat) : Int),0,0,0,0,⟨#[]⟩,[],⟨#[]⟩⟩) := (by rw [← HR.out]; rfl : R = ⟨7,((a : Nat) : Int),0,0,0,0,⟨#[]⟩,[],⟨#[]⟩⟩)
  have HZ := M1.fin ⟨7,((a : Nat) : Int),0,0,0,0,⟨#[]⟩,[],⟨#[]⟩⟩ (none,0,0) (ar_nil _ _ rfl) (fun j hj => by simp [blk] at hj)
  unfold put9 at HZ
  simp only at HZ
  clear M1 cells HS HR
  go_wp2
  obtain ⟨⟨d0,d1,d2,d3,d4,d5,d6,d7,d8⟩,HZ2⟩ := HZ.out
  simp only [Nat.zero_add] at d0 d1 d2 d3 d4 d5 d6 d7 d8
  refine bodyPost_ret (v := .agg #[.int .i64 (7),.int .i64 (((a : Nat) : Int)),.int .i64 (0),.int .i64 (0),.int .i64 (0),.int .i64 (0),.string ⟨#[]⟩,.slice none 0 0,.string ⟨#[]⟩]) (by simp [results,go_sem,d0,d1,d2,d3,d4,d5,d6,d7,d8]) rfl ?_
  rw [HR2.out]
  exact HZ2
 ·have HR2 : Hid (R = ⟨8,0,((b : Nat) : Int),((a : Nat) : Int),0,0,⟨#[]⟩,[],⟨#[]⟩⟩) := (by rw [← HR.out]; rfl : R = ⟨8,0,((b : Nat) : Int),((a : Nat) : Int),0,0,⟨#[]⟩,[],⟨#[]⟩⟩)
  have HZ := M1.fin ⟨8,0,((b : Nat) : Int),((a : Nat) : Int),0,0,⟨#[]⟩,[],⟨#[]⟩⟩ (none,0,0) (ar_nil _ _ rfl) (fun j hj => by simp [blk] at hj)
  unfold put9 at HZ
  simp only at HZ
  clear M1 cells HS HR
  go_wp2
  obtain ⟨⟨d0,d1,d2,d3,d4,d5,d6,d7,d8⟩,HZ2⟩ := HZ.out
  simp only [Nat.zero_add] at d0 d1 d2 d3 d4 d5 d6 d7 d8
  refine bodyPost_ret (v := .agg #[.int .i64 (8),.int .i64 (0),.int .i64 (((b : Nat) : Int)),.int .i64 (((a : Nat) : Int)),.int .i64 (0),.int .i64 (0),.string ⟨#[]⟩,.slice none 0 0,.string ⟨#[]⟩]) (by simp [results,go_sem,d0,d1,d2,d3,d4,d5,d6,d7,d8]) rfl ?_
  rw [HR2.out]
  exact HZ2
 ·have HR2 : Hid (R = ⟨9,((a : Nat) : Int),0,((b : Nat) : Int),0,0,⟨#[]⟩,[],⟨#[]⟩⟩) := (by rw [← HR.out]; rfl : R = ⟨9,((a : Nat) : Int),0,((b : Nat) : Int),0,0,⟨#[]⟩,[],⟨#[]⟩⟩)
  have HZ := M1.fin ⟨9,((a : Nat) : Int),0,((b : Nat) : Int),0,0,⟨#[]⟩,[],⟨#[]⟩⟩ (none,0,0) (ar_nil _ _ rfl) (fun j hj => by simp [blk] at hj)
  unfold put9 at HZ
  simp only at HZ
  clear M1 cells HS HR
  go_wp2
  obtain ⟨⟨d0,d1,d2,d3,d4,d5,d6,d7,d8⟩,HZ2⟩ := HZ.out
  simp only [Nat.zero_add] at d0 d1 d2 d3 d4 d5 d6 d7 d8
  refine bodyPost_ret (v := .agg #[.int .i64 (9),.int .i64 (((a : Nat) : Int)),.int .i64 (0),.int .i64 (((b : Nat) : Int)),.int .i64 (0),.int .i64 (0),.string ⟨#[]⟩,.slice none 0 0,.string ⟨#[]⟩]) (by simp [results,go_sem,d0,d1,d2,d3,d4,d5,d6,d7,d8]) rfl ?_
  rw [HR2.out]
  exact HZ2
 ·have HR2 : Hid (R = ⟨10,((a : Nat) : Int),0,0,0,0,⟨#[]⟩,l',⟨#[]⟩⟩) := (by rw [← HR.out]; rfl : R = ⟨10,((a : Nat) : Int),0,0,0,0,⟨#[]⟩,l',⟨#[]⟩⟩)
  go_upto_region 23 with fail
  clear g0 g1 g2 g3 g4 g5 g6 g7 g8 y0 y1 y2 y3 y4 y5 y6 y7 y8 fz
  obtain ⟨U0,hU0⟩ : ∃ V,V = W1.drew := ⟨_,rfl⟩
  have k0 : Kp [] W1 U0 := by rw [hU0]; exact (Kp.refl _ _).drew
  have HC : Hid (∀ V,Kp [] W1 V → (fun V => V.cell? ⟨w.heap.size,0,none⟩ = some (.int .i64 10) ∧ V.cell? ⟨w.heap.size,8,none⟩ = some (.slice p1 p2 p3)) V) := fun V kV => by
   obtain ⟨⟨h0,h1,h2,h3,h4,h5,h6,h7,h8⟩,_⟩ := cells.out V (M1.kp.trans kV (fun x hx => Or.inl hx)) (M1.kept kV)
   exact ⟨h0,h8⟩
  refine wp_region_g (S := fun V => V.cell? ⟨w.heap.size,0,none⟩ = some (.int .i64 10) ∧ V.cell? ⟨w.heap.size,8,none⟩ = some (.slice p1 p2 p3)) (T := [7]) (by kernel_rfl) (by rw [← hU0]; exact HC.out _ k0) (fun hHeld => ?_)
  rw [← hU0] at hHeld ⊢
  clear hU0
  refine g_pure 0 (some 104) (.fieldAddr 28 (.tmp 1) 0) ?_
  refine g_take 1 (some 105) (.load 3 (.tmp 104)) (by intro w hSw; (obtain ⟨x0,x8⟩ := hSw); go_simp; try with_reducible rfl) ?_
  refine g_pure 2 (some 106) (.move (.tmp 3)) ?_
  refine g_pure 3 (some 107) (.fieldAddr 28 (.tmp 1) 8) ?_
  refine g_take 4 (some 108) (.load 22 (.tmp 107)) (by intro w hSw; (obtain ⟨x0,x8⟩ := hSw); go_simp; try with_reducible rfl) ?_
  refine wpAnyG_ready (rs := [5]) (by kernel_rfl) (by simp) ?_
  refine AllReadyG.cons (o := ⟨some 109,.call { callee := .value (.func 26),args := #[.tmp 108],argTypes := #[22] },22,_,_,none⟩) rfl (fun K hK => ?_) AllReadyG.nil
  go_simp
  go_at_call 26
  refine (HS.out _ (M1.kp.trans k0 (fun z hz => Or.inl hz))).mono ?_
  rintro e X1 ⟨a7,n7,c7,rfl,P7⟩
  have k1 : Kp [] W1 X1 := k0.trans P7.2.1 (fun z hz => Or.inl hz)
  have ow := P7.1
  have nw : ∀ j,j ∈ blk (.slice a7 n7 c7) → w.heap.size + 2 ≤ j := fun j hj => by have z1 := P7.2.2 j hj; have z2 := k0.size; have z3 := M1.hr.lt; omega
  clear P7
  go_wp2_with fail
  refine hK.out _ _ (HC.out _ k1) (fun hHeld1 => ?_)
  clear hK K hHeld
  try simp only [Act.put,pu1,pu2,pu3]
  refine g_pure 6 (some 110) (.build 24 #[(0,.tmp 105),(1,.tmp 106),(7,.tmp 109)]) ?_
  refine wpAnyG_free (by kernel_rfl) ?_
  refine wpAny_ready (rs := [7]) (by kernel_rfl) (by simp) ?_
  refine AllReady.cons (o := ⟨none,.store 24 (.tmp 2) (.tmp 110),0,_,_,none⟩) rfl (fun K hK => ?_) AllReady.nil
  replace M1 := M1.kept k1
  obtain ⟨_,⟨y0,y1,y2,y3,y4,y5,y6,y7,y8⟩,fz⟩ := cells.out _ M1.kp M1
  go_simp
  refine hK _ _ ?_
  clear hK K
  try simp only [Act.put,pu1,pu2,pu3]
  refine wpAny_done (by kernel_rfl) ?_ _
  have HZ := M1.fin ⟨10,((a : Nat) : Int),0,0,0,0,⟨#[]⟩,l',⟨#[]⟩⟩ (a7,n7,c7) ow nw
  unfold put9 at HZ
  simp only at HZ
  clear M1 ow nw HC
  go_wp2
  obtain ⟨⟨d0,d1,d2,d3,d4,d5,d6,d7,d8⟩,HZ2⟩ := HZ.out
  simp only [Nat.zero_add] at d0 d1 d2 d3 d4 d5 d6 d7 d8
  refine bodyPost_ret (v := .agg #[.int .i64 (10),.int .i64 (((a : Nat) : Int)),.int .i64 (0),.int .i64 (0),.int .i64 (0),.int .i64 (0),.string ⟨#[]⟩,.slice a7 n7 c7,.string ⟨#[]⟩]) (by simp [results,go_sem,d0,d1,d2,d3,d4,d5,d6,d7,d8]) rfl ?_
  rw [HR2.out]
  exact HZ2
 ·have HR2 : Hid (R = ⟨11,0,0,0,0,0,⟨#[]⟩,[],⟨#[]⟩⟩) := (by rw [← HR.out]; rfl : R = ⟨11,0,0,0,0,0,⟨#[]⟩,[],⟨#[]⟩⟩)
  have HZ := M1.fin ⟨11,0,0,0,0,0,⟨#[]⟩,[],⟨#[]⟩⟩ (none,0,0) (ar_nil _ _ rfl) (fun j hj => by simp [blk] at hj)
  unfold put9 at HZ
  simp only at HZ
  clear M1 cells HS HR
  go_wp2
  obtain ⟨⟨d0,d1,d2,d3,d4,d5,d6,d7,d8⟩,HZ2⟩ := HZ.out
  simp only [Nat.zero_add] at d0 d1 d2 d3 d4 d5 d6 d7 d8
  refine bodyPost_ret (v := .agg #[.int .i64 (11),.int .i64 (0),.int .i64 (0),.int .i64 (0),.int .i64 (0),.int .i64 (0),.string ⟨#[]⟩,.slice none 0 0,.string ⟨#[]⟩]) (by simp [results,go_sem,d0,d1,d2,d3,d4,d5,d6,d7,d8]) rfl ?_
  rw [HR2.out]
  exact HZ2
 ·have HR2 : Hid (R = ⟨o1,o2,o3,o4,o5,o6,cutB o7 9,[],t⟩) := by
   have hx := HR.out
   repeat rw [if_neg (by omega)] at hx
   exact hx.symm
  have z1 : (o1 == 1) = false := by simp; omega
  have z2 : (o1 == 2) = false := by simp; omega
  have z3 : (o1 == 3) = false := by simp; omega
  have z4 : (o1 == 4) = false := by simp; omega
  have z5 : (o1 == 5) = false := by simp; omega
  have z6 : (o1 == 6) = false := by simp; omega
  have z7 : (o1 == 7) = false := by simp; omega
  have z8 : (o1 == 8) = false := by simp; omega
  have z9 : (o1 == 9) = false := by simp; omega
  have z10 : (o1 == 10) = false := by simp; omega
  have z11 : (o1 == 11) = false := by simp; omega
  have H7 : Hid (∀ V,Calls Tryz.prog 25 #[.string o7,.int .i64 9] V fun e w' => e = .returned (.string (cutB o7 9)) ∧ w' = V) := fun V => head9 V o7
  generalize cutB o7 9 = x9 at HR2 H7
  go_upto_region 26 with fail
  clear g0 g1 g2 g3 g4 g5 g6 g7 g8 y0 y1 y2 y3 y4 y5 y6 y7 y8 fz z1 z2 z3 z4 z5 z6 z7 z8 z9 z10 z11
  obtain ⟨U0,hU0⟩ : ∃ V,V = W1.drew := ⟨_,rfl⟩
  have k0 : Kp [] W1 U0 := by rw [hU0]; exact (Kp.refl _ _).drew
  have HC : Hid (∀ V,Kp [] W1 V → (fun V => V.cell? ⟨w.heap.size,0,none⟩ = some (.int .i64 o1) ∧ V.cell? ⟨w.heap.size,1,none⟩ = some (.int .i64 o2) ∧ V.cell? ⟨w.heap.size,2,none⟩ = some (.int .i64 o3) ∧ V.cell? ⟨w.heap.size,3,none⟩ = some (.int .i64 o4) ∧ V.cell? ⟨w.heap.size,4,none⟩ = some (.int .i64 o5) ∧ V.cell? ⟨w.heap.size,5,none⟩ = some (.int .i64 o6) ∧ V.cell? ⟨w.heap.size,6,none⟩ = some (.string o7)) V) := fun V kV => by
   obtain ⟨⟨h0,h1,h2,h3,h4,h5,h6,h7,h8⟩,_⟩ := cells.out V (M1.kp.trans kV (fun x hx => Or.inl hx)) (M1.kept kV)
   exact ⟨h0,h1,h2,h3,h4,h5,h6⟩
  refine wp_region_g (S := fun V => V.cell? ⟨w.heap.size,0,none⟩ = some (.int .i64 o1) ∧ V.cell? ⟨w.heap.size,1,none⟩ = some (.int .i64 o2) ∧ V.cell? ⟨w.heap.size,2,none⟩ = some (.int .i64 o3) ∧ V.cell? ⟨w.heap.size,3,none⟩ = some (.int .i64 o4) ∧ V.cell? ⟨w.heap.size,4,none⟩ = some (.int .i64 o5) ∧ V.cell? ⟨w.heap.size,5,none⟩ = some (.int .i64 o6) ∧ V.cell? ⟨w.heap.size,6,none⟩ = some (.string o7)) (T := [17]) (by kernel_rfl) (by rw [← hU0]; exact HC.out _ k0) (fun hHeld => ?_)
  rw [← hU0] at hHeld ⊢
  clear hU0
  refine g_pure 0 (some 116) (.fieldAddr 28 (.tmp 1) 0) ?_
  refine g_take 1 (some 117) (.load 3 (.tmp 116)) (by intro w hSw; (obtain ⟨x0,x1,x2,x3,x4,x5,x6⟩ := hSw); go_simp; try with_reducible rfl) ?_
  refine g_pure 2 (some 118) (.fieldAddr 28 (.tmp 1) 1) ?_
  refine g_take 3 (some 119) (.load 3 (.tmp 118)) (by intro w hSw; (obtain ⟨x0,x1,x2,x3,x4,x5,x6⟩ := hSw); go_simp; try with_reducible rfl) ?_
  refine g_pure 4 (some 120) (.fieldAddr 28 (.tmp 1) 2) ?_
  refine g_take 5 (some 121) (.load 3 (.tmp 120)) (by intro w hSw; (obtain ⟨x0,x1,x2,x3,x4,x5,x6⟩ := hSw); go_simp; try with_reducible rfl) ?_
  refine g_pure 6 (some 122) (.fieldAddr 28 (.tmp 1) 3) ?_
  refine g_take 7 (some 123) (.load 3 (.tmp 122)) (by intro w hSw; (obtain ⟨x0,x1,x2,x3,x4,x5,x6⟩ := hSw); go_simp; try with_reducible rfl) ?_
  refine g_pure 8 (some 124) (.fieldAddr 28 (.tmp 1) 4) ?_
  refine g_take 9 (some 125) (.load 3 (.tmp 124)) (by intro w hSw; (obtain ⟨x0,x1,x2,x3,x4,x5,x6⟩ := hSw); go_simp; try with_reducible rfl) ?_
  refine g_pure 10 (some 126) (.fieldAddr 28 (.tmp 1) 5) ?_
  refine g_take 11 (some 127) (.load 3 (.tmp 126)) (by intro w hSw; (obtain ⟨x0,x1,x2,x3,x4,x5,x6⟩ := hSw); go_simp; try with_reducible rfl) ?_
  refine g_pure 12 (some 128) (.fieldAddr 28 (.tmp 1) 6) ?_
  refine g_take 13 (some 129) (.load 9 (.tmp 128)) (by intro w hSw; (obtain ⟨x0,x1,x2,x3,x4,x5,x6⟩ := hSw); go_simp; try with_reducible rfl) ?_
  refine g_pure 15 (some 131) (.move (.tmp 6)) ?_
  refine wpAnyG_ready (rs := [14]) (by kernel_rfl) (by simp) ?_
  refine AllReadyG.cons (o := ⟨some 130,.call { callee := .value (.func 25),args := #[.tmp 129,.const (.int .i64 9)],argTypes := #[9,3] },9,_,_,none⟩) rfl (fun K hK => ?_) AllReadyG.nil
  go_simp
  (go_at_call 25; refine same_of (H7.out _) ?_)
  go_wp2_with fail
  refine hK.out _ _ (HC.out _ k0) (fun hHeld1 => ?_)
  clear hK K hHeld
  try simp only [Act.put,pu1,pu2,pu3]
  refine g_pure 16 (some 132) (.build 24 #[(0,.tmp 117),(1,.tmp 119),(2,.tmp 121),(3,.tmp 123),(4,.tmp 125),(5,.tmp 127),(6,.tmp 130),(8,.tmp 131)]) ?_
  refine wpAnyG_free (by kernel_rfl) ?_
  refine wpAny_ready (rs := [17]) (by kernel_rfl) (by simp) ?_
  refine AllReady.cons (o := ⟨none,.store 24 (.tmp 2) (.tmp 132),0,_,_,none⟩) rfl (fun K hK => ?_) AllReady.nil
  replace M1 := M1.kept k0
  obtain ⟨_,⟨y0,y1,y2,y3,y4,y5,y6,y7,y8⟩,fz⟩ := cells.out _ M1.kp M1
  go_simp
  refine hK _ _ ?_
  clear hK K
  try simp only [Act.put,pu1,pu2,pu3]
  refine wpAny_done (by kernel_rfl) ?_ _
  have HZ := M1.fin ⟨o1,o2,o3,o4,o5,o6,x9,[],t⟩ (none,0,0) (ar_nil _ _ rfl) (fun j hj => by simp [blk] at hj)
  unfold put9 at HZ
  simp only at HZ
  clear M1 HC
  go_wp2
  obtain ⟨⟨d0,d1,d2,d3,d4,d5,d6,d7,d8⟩,HZ2⟩ := HZ.out
  simp only [Nat.zero_add] at d0 d1 d2 d3 d4 d5 d6 d7 d8
  refine bodyPost_ret (v := .agg #[.int .i64 (o1),.int .i64 (o2),.int .i64 (o3),.int .i64 (o4),.int .i64 (o5),.int .i64 (o6),.string x9,.slice none 0 0,.string t]) (by simp [results,go_sem,d0,d1,d2,d3,d4,d5,d6,d7,d8]) rfl ?_
  rw [HR2.out]
  exact HZ2
end Go.Proofs.YtpkppobkagdhkaaGreat
