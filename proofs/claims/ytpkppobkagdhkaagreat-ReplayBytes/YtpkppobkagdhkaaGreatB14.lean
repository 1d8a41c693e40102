/-
 PrA PrB PrC.
-/
import Derived.Test.YtpkppobkagdhkaaGreatB12
import Derived.Deep.RegionHeld3
import Derived.BigQuiet
import Derived.Test.YtpkppobkagdhkaaGreatB13
set_option linter.unusedVariables false
set_option linter.unusedSimpArgs false
set_option maxRecDepth 100000
set_option maxHeartbeats 1000000
namespace Go.Proofs.YtpkppobkagdhkaaGreat
open Go.RowKit Go.Maps Utf
def Nn (n : Nat) (z : Int) : Prop := z = -1 ∨ ∃ x : Nat,z = (x : Int) ∧ x < n
section
variable {tag : Nat → Nat} {w : World} {b g o c : Nat} {q : Bool} {n : Nat} {N : Nat → Pn} {pl : Nat → Np}
theorem has_any (h : Rw tag w b g o c q n N pl) (hn : n < 100000) (z : Int) :
  Calls Tryz.prog 33 #[.pointer (some ⟨b,0,none⟩),.int .i64 z] w fun e w' => e = .returned (.bool (decide (0 ≤ z ∧ z < n))) ∧ w' = w := by
 obtain ⟨c0,_⟩ := h.head
 clear h
 by_cases h1 : 0 ≤ z
 ·by_cases h2 : z < n
  ·rw [decide_eq_true ⟨h1,h2⟩]
   go_enter Tryz.func33,Tryz.ntmps33
   go_wp2
   go_ret
   exact ⟨rfl,rfl⟩
  ·rw [decide_eq_false (fun e => h2 e.2)]
   go_enter Tryz.func33,Tryz.ntmps33
   go_wp2
   go_ret
   exact ⟨rfl,rfl⟩
 ·rw [decide_eq_false (fun e => h1 e.1)]
  go_enter Tryz.func33,Tryz.ntmps33
  go_wp2
  go_ret
  exact ⟨rfl,rfl⟩
theorem kpg {g : Nat} {a w : World} (h : Kp [g] a w) (j : Nat) (u : Value) : Kp [g] a (w.setCell ⟨g,j,none⟩ u) := h.setCell (Or.inl (by simp)) u
def Rz (w0 : World) (tag : Nat → Nat) (w : World) (b g o c : Nat) (q : Bool) (n : Nat) (N : Nat → Pn) (pl : Nat → Np) : Prop := Rw tag w b g o c q n N pl ∧ Kp [g] w0 w
theorem Rz.mk {w0 : World} (h : Rw tag w b g o c q n N pl) (k : Kp [g] w0 w) : Rz w0 tag w b g o c q n N pl := ⟨h,k⟩
theorem Rz.sUp {w0 : World} (h : Rz w0 tag w b g o c q n N pl) {i : Nat} (hi : i < n) (v : Int) : Rz w0 tag (w.setCell ⟨g,o + i * 11 + 6,none⟩ (.int .i64 v)) b g o c q n (sUp N i v) pl := ⟨h.1.sUp hi v,kpg h.2 _ _⟩
theorem Rz.sFi {w0 : World} (h : Rz w0 tag w b g o c q n N pl) {i : Nat} (hi : i < n) (v : Int) : Rz w0 tag (w.setCell ⟨g,o + i * 11 + 7,none⟩ (.int .i64 v)) b g o c q n (sFi N i v) pl := ⟨h.1.sFi hi v,kpg h.2 _ _⟩
theorem Rz.sLa {w0 : World} (h : Rz w0 tag w b g o c q n N pl) {i : Nat} (hi : i < n) (v : Int) : Rz w0 tag (w.setCell ⟨g,o + i * 11 + 8,none⟩ (.int .i64 v)) b g o c q n (sLa N i v) pl := ⟨h.1.sLa hi v,kpg h.2 _ _⟩
theorem Rz.sAh {w0 : World} (h : Rz w0 tag w b g o c q n N pl) {i : Nat} (hi : i < n) (v : Int) : Rz w0 tag (w.setCell ⟨g,o + i * 11 + 9,none⟩ (.int .i64 v)) b g o c q n (sAh N i v) pl := ⟨h.1.sAh hi v,kpg h.2 _ _⟩
theorem Rz.sBe {w0 : World} (h : Rz w0 tag w b g o c q n N pl) {i : Nat} (hi : i < n) (v : Int) : Rz w0 tag (w.setCell ⟨g,o + i * 11 + 10,none⟩ (.int .i64 v)) b g o c q n (sBe N i v) pl := ⟨h.1.sBe hi v,kpg h.2 _ _⟩
theorem join_any (h : Rw tag w b g o c q n N pl) (hn : n < 100000) (p : Nat) (hp : p < n) (a z : Int) (ha : Nn n a) (hz : Nn n z) :
  Calls Tryz.prog 128 #[.pointer (some ⟨b,0,none⟩),.int .i64 p,.int .i64 a,.int .i64 z] w fun e w' => e = .returned (.tuple #[]) ∧ Rz w tag w' b g o c q n (joinF N p a z) pl := by
 have hne := h.ne
 have hp0 : (0 : Int) ≤ (p : Int) := by omega
 have hp1 : (p : Int) < (n : Int) := by omega
 have hN : ∀ y : Nat,¬ ((y : Int) = -1) := fun y => by omega
 rcases ha with rfl | ⟨x,rfl,hx⟩
 ·have h1 := h.sFi hp z
  have z1 := (Rz.mk h (Kp.refl [g] w)).sFi hp z
  rcases hz with rfl | ⟨y,rfl,hy⟩
  ·have hfin : Hid (Rz w tag _ b g o c q n (joinF N p (-1) (-1)) pl) := z1.sLa hp (-1)
   obtain ⟨c0,_⟩ := h.head
   obtain ⟨_,l1,l2,_⟩ := h.links hp
   obtain ⟨c1,_⟩ := h1.head
   obtain ⟨_,_,m2,_⟩ := h1.links hp
   have f0 := h.free
   have f1 := h1.free
   clear h h1 z1
   go_enter Tryz.func128,Tryz.ntmps128
   go_wp2
   go_end0
   exact ⟨rfl,hfin.out⟩
  ·have e : joinF N p (-1) (y : Int) = sAh (sFi N p y) y (-1) := by unfold joinF joinA joinB; rw [if_pos rfl,if_neg (hN y),Int.toNat_natCast]
   have hf := z1.sAh hy (-1)
   rw [← e] at hf
   have hfin : Hid (Rz w tag _ b g o c q n (joinF N p (-1) (y : Int)) pl) := hf
   clear hf
   have hy0 : (0 : Int) ≤ (y : Int) := by omega
   have hy1 : (y : Int) < (n : Int) := by omega
   have t1 : ((y : Int) == -1) = false := beq_false_of_ne (by omega)
   obtain ⟨c0,_⟩ := h.head
   obtain ⟨_,l1,l2,_⟩ := h.links hp
   obtain ⟨c1,_⟩ := h1.head
   obtain ⟨_,_,_,m2,_⟩ := h1.links hy
   have f0 := h.free
   have f1 := h1.free
   clear h h1 z1
   go_enter Tryz.func128,Tryz.ntmps128
   go_wp2
   go_end0
   exact ⟨rfl,hfin.out⟩
 ·have h1 := h.sBe hx z
  have z1 := (Rz.mk h (Kp.refl [g] w)).sBe hx z
  have hx0 : (0 : Int) ≤ (x : Int) := by omega
  have hx1 : (x : Int) < (n : Int) := by omega
  have t2 : ((x : Int) == -1) = false := beq_false_of_ne (by omega)
  rcases hz with rfl | ⟨y,rfl,hy⟩
  ·have e : joinF N p (x : Int) (-1) = sLa (sBe N x (-1)) p x := by unfold joinF joinA joinB; rw [if_neg (hN x),if_pos rfl,Int.toNat_natCast]
   have hf := z1.sLa hp x
   rw [← e] at hf
   have hfin : Hid (Rz w tag _ b g o c q n (joinF N p (x : Int) (-1)) pl) := hf
   clear hf
   obtain ⟨c0,_⟩ := h.head
   obtain ⟨_,_,_,_,l1⟩ := h.links hx
   obtain ⟨c1,_⟩ := h1.head
   obtain ⟨_,_,m2,_⟩ := h1.links hp
   have f0 := h.free
   have f1 := h1.free
   clear h h1 z1
   go_enter Tryz.func128,Tryz.ntmps128
   go_wp2
   go_end0
   exact ⟨rfl,hfin.out⟩
  ·have e : joinF N p (x : Int) (y : Int) = sAh (sBe N x y) y x := by unfold joinF joinA joinB; rw [if_neg (hN x),if_neg (hN y),Int.toNat_natCast,Int.toNat_natCast]
   have hf := z1.sAh hy x
   rw [← e] at hf
   have hfin : Hid (Rz w tag _ b g o c q n (joinF N p (x : Int) (y : Int)) pl) := hf
   clear hf
   have hy0 : (0 : Int) ≤ (y : Int) := by omega
   have hy1 : (y : Int) < (n : Int) := by omega
   have t1 : ((y : Int) == -1) = false := beq_false_of_ne (by omega)
   obtain ⟨c0,_⟩ := h.head
   obtain ⟨_,_,_,_,l1⟩ := h.links hx
   obtain ⟨c1,_⟩ := h1.head
   obtain ⟨_,_,_,m2,_⟩ := h1.links hy
   have f0 := h.free
   have f1 := h1.free
   clear h h1 z1
   go_enter Tryz.func128,Tryz.ntmps128
   go_wp2
   go_end0
   exact ⟨rfl,hfin.out⟩
theorem ahead_any (h : Rw tag w b g o c q n N pl) (hn : n < 100000) (p : Nat) (hp : p < n) (z : Int) (hz : Nn n z) :
  Calls Tryz.prog 127 #[.pointer (some ⟨b,0,none⟩),.int .i64 p,.int .i64 z] w fun e w' => e = .returned (.int .i64 (aheadF N p z)) ∧ w' = w := by
 have hp0 : (0 : Int) ≤ (p : Int) := by omega
 have hp1 : (p : Int) < (n : Int) := by omega
 obtain ⟨c0,_⟩ := h.head
 rcases hz with rfl | ⟨y,rfl,hy⟩
 ·obtain ⟨_,_,l1,_⟩ := h.links hp
  clear h
  show Calls _ _ _ _ fun e w' => e = .returned (.int .i64 (N p).la) ∧ w' = w
  go_enter Tryz.func127,Tryz.ntmps127
  go_wp2
  go_ret
  exact ⟨rfl,rfl⟩
 ·obtain ⟨_,_,_,l1,_⟩ := h.links hy
  clear h
  have t1 : ((y : Int) == -1) = false := beq_false_of_ne (by omega)
  have hy0 : (0 : Int) ≤ (y : Int) := by omega
  have hy1 : (y : Int) < (n : Int) := by omega
  have e : aheadF N p (y : Int) = (N y).ah := by unfold aheadF; rw [if_neg (by omega),Int.toNat_natCast]
  rw [e]
  go_enter Tryz.func127,Tryz.ntmps127
  go_wp2
  go_ret
  exact ⟨rfl,rfl⟩
theorem aheadF_nn (hN : ∀ i,i < n → Nn n (N i).la ∧ Nn n (N i).ah) {p : Nat} (hp : p < n) {z : Int} (hz : Nn n z) : Nn n (aheadF N p z) := by
 unfold aheadF
 rcases hz with rfl | ⟨y,rfl,hy⟩
 ·rw [if_pos rfl]; exact (hN p hp).1
 ·rw [if_neg (by omega),Int.toNat_natCast]; exact (hN y hy).2
theorem link_any (h : Rw tag w b g o c q n N pl) (hn : n < 100000) (p : Nat) (hp : p < n) (z : Int) (hz : Nn n z) (x : Nat) (hx : x < n) (ha : Nn n (aheadF N p z)) :
  Calls Tryz.prog 108 #[.pointer (some ⟨b,0,none⟩),.int .i64 p,.int .i64 z,.int .i64 x] w fun e w' => e = .returned (.tuple #[]) ∧ Rz w tag w' b g o c q n (linkF N p z x) pl := by
 have HA := ahead_any h hn p hp z hz
 have h1 := h.sUp hx (p : Int)
 have k1 : Kp [g] w (w.setCell ⟨g,o + x * 11 + 6,none⟩ (.int .i64 (p : Int))) := kpg (Kp.refl [g] w) _ _
 have HJ := join_any h1 hn p hp (aheadF N p z) (x : Int) ha (.inr ⟨x,rfl,hx⟩)
 have HK : Hid (∀ V,Rw tag V b g o c q n (joinF (sUp N x p) p (aheadF N p z) x) pl → Calls Tryz.prog 128 #[.pointer (some ⟨b,0,none⟩),.int .i64 p,.int .i64 x,.int .i64 z] V fun e w' => e = .returned (.tuple #[]) ∧ Rz V tag w' b g o c q n (linkF N p z x) pl) := fun V hV => join_any hV hn p hp (x : Int) z (.inr ⟨x,rfl,hx⟩) hz
 obtain ⟨c0,_⟩ := h.head
 obtain ⟨l1,_⟩ := h.links hx
 have f0 := h.free
 have hx0 : (0 : Int) ≤ (x : Int) := by omega
 have hx1 : (x : Int) < (n : Int) := by omega
 generalize aheadF N p z = y at HA HJ HK
 clear h h1
 go_enter Tryz.func108,Tryz.ntmps108
 go_wp2_with (go_at_call 127; refine HA.mono ?_; rintro e w2 ⟨rfl,hw⟩; have hw2 := hw.symm; clear hw; subst hw2)
 refine HJ.mono ?_
 rintro e w2 ⟨rfl,r2,k2⟩
 have HK2 := HK.out _ r2
 have K2 : Hid (Kp [g] w w2) := k1.trans k2 (fun x hx => Or.inl hx)
 clear HA HJ k1 HK r2 k2
 go_wp2_with fail
 refine HK2.mono ?_
 rintro e w3 ⟨rfl,r3,k3⟩
 go_wp2
 go_end0
 exact ⟨rfl,r3,K2.out.trans k3 (fun x hx => Or.inl hx)⟩
theorem unlink_any (h : Rw tag w b g o c q n N pl) (hn : n < 100000) (p : Nat) (hp : p < n) (x : Nat) (hx : x < n) (hu : (N x).up = p) (ha : Nn n (N x).ah) (hb : Nn n (N x).be) (hna : (N x).ah ≠ x) (hnb : (N x).be ≠ x) :
  Calls Tryz.prog 113 #[.pointer (some ⟨b,0,none⟩),.int .i64 x] w fun e w' => e = .returned (.tuple #[]) ∧ Rz w tag w' b g o c q n (unlinkF N p x) pl := by
 have HJ : Hid (∀ V,Kp [] w V → Calls Tryz.prog 128 #[.pointer (some ⟨b,0,none⟩),.int .i64 p,.int .i64 (N x).ah,.int .i64 (N x).be] V fun e w' => e = .returned (.tuple #[]) ∧ Rz V tag w' b g o c q n (joinF N p (N x).ah (N x).be) pl) := fun V kV => join_any (h.kept kV) hn p hp _ _ ha hb
 have e1 : (joinF N p (N x).ah (N x).be x).up = p := by rw [joinF_up]; exact hu
 have e2 : (joinF N p (N x).ah (N x).be x).ah = (N x).ah := by rw [joinF_ah,if_neg]; rintro ⟨h1,h2⟩; exact hnb (by rcases hb with h3 | ⟨y,h3,_⟩ <;> omega)
 have e3 : (joinF N p (N x).ah (N x).be x).be = (N x).be := by rw [joinF_be,if_neg]; rintro ⟨h1,h2⟩; exact hna (by rcases ha with h3 | ⟨y,h3,_⟩ <;> omega)
 have C1 : Hid (∀ V,Rw tag V b g o c q n (joinF N p (N x).ah (N x).be) pl → V.cell? ⟨g,o + x * 11 + 6,none⟩ = some (.int .i64 p) ∧ V.cell? ⟨g,o + x * 11 + 9,none⟩ = some (.int .i64 (N x).ah) ∧ V.cell? ⟨g,o + x * 11 + 10,none⟩ = some (.int .i64 (N x).be)) := fun V hV => by
  obtain ⟨m1,_,_,m2,m3⟩ := hV.links hx
  rw [e1] at m1; rw [e2] at m2; rw [e3] at m3
  exact ⟨m1,m2,m3⟩
 have HF : Hid (∀ V,Rz w tag V b g o c q n (joinF N p (N x).ah (N x).be) pl → Rz w tag (((V.setCell ⟨g,o + x * 11 + 6,none⟩ (.int .i64 (-1))).setCell ⟨g,o + x * 11 + 9,none⟩ (.int .i64 (-1))).setCell ⟨g,o + x * 11 + 10,none⟩ (.int .i64 (-1))) b g o c q n (unlinkF N p x) pl) := fun V hV => ((hV.sUp hx (-1)).sAh hx (-1)).sBe hx (-1)
 have HC : Hid (∀ V,Rw tag V b g o c q n (joinF N p (N x).ah (N x).be) pl → (∃ u,V.cell? ⟨g,o + x * 11 + 6,none⟩ = some u) ∧ (∀ j,V.frozen? ⟨g,j,none⟩ = false) ∧ (∃ u,(V.setCell ⟨g,o + x * 11 + 6,none⟩ (.int .i64 (-1))).cell? ⟨g,o + x * 11 + 9,none⟩ = some u) ∧ (∃ u,((V.setCell ⟨g,o + x * 11 + 6,none⟩ (.int .i64 (-1))).setCell ⟨g,o + x * 11 + 9,none⟩ (.int .i64 (-1))).cell? ⟨g,o + x * 11 + 10,none⟩ = some u)) := fun V hV => ⟨⟨_,(hV.links hx).1⟩,hV.free,⟨_,((hV.sUp hx (-1)).links hx).2.2.2.1⟩,⟨_,(((hV.sUp hx (-1)).sAh hx (-1)).links hx).2.2.2.2⟩⟩
 obtain ⟨c0,_⟩ := h.head
 obtain ⟨l1,_,_,l2,l3⟩ := h.links hx
 rw [hu] at l1
 have hx0 : (0 : Int) ≤ (x : Int) := by omega
 have hx1 : (x : Int) < (n : Int) := by omega
 have hsx : g < w.heap.size := h.lt.2
 generalize (N x).ah = ah at HJ C1 HF HC l2
 generalize (N x).be = be at HJ C1 HF HC l3
 clear h ha hb hna hnb e1 e2 e3 hu
 go_enter Tryz.func113,Tryz.ntmps113
 go_wp2_with fail
 go_region_held3 (fun V => V.cell? ⟨g,o + x * 11 + 6,none⟩ = some (.int .i64 p) ∧ V.cell? ⟨g,o + x * 11 + 9,none⟩ = some (.int .i64 ah) ∧ V.cell? ⟨g,o + x * 11 + 10,none⟩ = some (.int .i64 be))
  (first | exact C1.out _ r2.1 | exact ⟨l1,l2,l3⟩)
  (first | (go_at_call 128; refine (HJ.out _ (Kp.refl _ _).drew).mono ?_; rintro e w2 ⟨rfl,r2⟩))
 have z2 := HF.out _ (Rz.mk r2.1 ((Kp.refl [g] w).drew.trans r2.2 (fun x hx => Or.inl hx)))
 obtain ⟨⟨u1,d1⟩,d2,⟨u3,d3⟩,⟨u4,d4⟩⟩ := HC.out _ r2.1
 have hfin : Hid (Rz w tag _ b g o c q n (unlinkF N p x) pl) := z2
 clear HF HC z2 r2 C1 HJ l1 l2 l3 c0
 go_wp2
 go_end0
 exact ⟨rfl,hfin.out⟩
theorem tmpl_list : TMPL.toList = [116,101,109,112,108,97,116,101] := by rw [ByteArray.toList_eq]; rfl
theorem tmpl_any (h : Rw tag w b g o c q n N pl) (hn : n < 100000) (x : Nat) (hx : x < n) :
  Calls Tryz.prog 123 #[.pointer (some ⟨b,0,none⟩),.int .i64 x] w fun e w' => e = .returned (.bool (tmplF (N x).lb)) ∧ w' = w := by
 obtain ⟨c0,_⟩ := h.head
 obtain ⟨f1,f2,f3,_⟩ := h.fields hx
 have hx0 : (0 : Int) ≤ (x : Int) := by omega
 have hx1 : (x : Int) < (n : Int) := by omega
 clear h
 generalize (N x).lb = l at f1 f2 f3 ⊢
 by_cases h1 : l.kind = 3
 ·by_cases h2 : l.ns = 1
  ·have t1 : (l.kind == 3) = true := by rw [h1]; rfl
   have t2 : (l.ns == 1) = true := by rw [h2]; rfl
   by_cases h3 : l.name = TMPL
   ·have e : tmplF l = true := decide_eq_true ⟨h1,h2,h3⟩
    rw [e]
    have t3 : (l.name.toList == [116,101,109,112,108,97,116,101]) = true := by rw [h3,tmpl_list]; rfl
    clear h1 h2 h3
    go_enter Tryz.func123,Tryz.ntmps123
    go_wp2
    go_ret
    exact ⟨rfl,rfl⟩
   ·have e : tmplF l = false := decide_eq_false (fun hh => h3 hh.2.2)
    rw [e]
    have t3 : (l.name.toList == [116,101,109,112,108,97,116,101]) = false := beq_false_of_ne (fun hh => h3 (eqs_iff.1 (by unfold eqs; rw [hh,tmpl_list]; rfl)))
    clear h1 h2 h3
    go_enter Tryz.func123,Tryz.ntmps123
    go_wp2
    go_ret
    exact ⟨rfl,rfl⟩
  ·have e : tmplF l = false := decide_eq_false (fun hh => h2 hh.2.1)
   rw [e]
   have t1 : (l.kind == 3) = true := by rw [h1]; rfl
   have t2 : (l.ns == 1) = false := beq_false_of_ne h2
   clear h1 h2
   go_enter Tryz.func123,Tryz.ntmps123
   go_wp2
   go_ret
   exact ⟨rfl,rfl⟩
 ·have e : tmplF l = false := decide_eq_false (fun hh => h1 hh.1)
  rw [e]
  have t1 : (l.kind == 3) = false := beq_false_of_ne h1
  clear h1
  go_enter Tryz.func123,Tryz.ntmps123
  go_wp2
  go_ret
  exact ⟨rfl,rfl⟩
theorem may_any (h : Rw tag w b g o c q n N pl) (hn : n < 100000) (x : Nat) (hx : x < n) :
  Calls Tryz.prog 105 #[.pointer (some ⟨b,0,none⟩),.int .i64 x] w fun e w' => e = .returned (.bool (Ar.hld (N x).lb)) ∧ w' = w := by
 obtain ⟨c0,_⟩ := h.head
 obtain ⟨f1,_⟩ := h.fields hx
 have hx0 : (0 : Int) ≤ (x : Int) := by omega
 have hx1 : (x : Int) < (n : Int) := by omega
 clear h
 generalize (N x).lb = l at f1 ⊢
 unfold Ar.hld
 generalize l.kind = k at f1 ⊢
 by_cases h1 : k = 1
 ·subst h1
  go_enter Tryz.func105,Tryz.ntmps105
  go_wp2
  go_ret
  exact ⟨rfl,rfl⟩
 ·by_cases h3 : k = 3
  ·subst h3
   go_enter Tryz.func105,Tryz.ntmps105
   go_wp2
   go_ret
   exact ⟨rfl,rfl⟩
  ·by_cases h6 : k = 6
   ·subst h6
    go_enter Tryz.func105,Tryz.ntmps105
    go_wp2
    go_ret
    exact ⟨rfl,rfl⟩
   ·rw [decide_eq_false h1,decide_eq_false h3,decide_eq_false h6]
    have t1 : (k == 1) = false := beq_false_of_ne h1
    have t3 : (k == 3) = false := beq_false_of_ne h3
    have t6 : (k == 6) = false := beq_false_of_ne h6
    clear h1 h3 h6
    go_enter Tryz.func105,Tryz.ntmps105
    go_wp2
    go_ret
    exact ⟨rfl,rfl⟩
theorem fixed_any (h : Rw tag w b g o c q n N pl) (hn : n < 100000) (x : Nat) (hx : x < n) :
  Calls Tryz.prog 106 #[.pointer (some ⟨b,0,none⟩),.int .i64 x] w fun e w' => e = .returned (.bool (Ar.fix (N x).lb)) ∧ w' = w := by
 obtain ⟨c0,_⟩ := h.head
 obtain ⟨f1,_⟩ := h.fields hx
 have hx0 : (0 : Int) ≤ (x : Int) := by omega
 have hx1 : (x : Int) < (n : Int) := by omega
 clear h
 generalize (N x).lb = l at f1 ⊢
 unfold Ar.fix
 generalize l.kind = k at f1 ⊢
 by_cases h1 : k = 1
 ·subst h1
  go_enter Tryz.func106,Tryz.ntmps106
  go_wp2
  go_ret
  exact ⟨rfl,rfl⟩
 ·by_cases h6 : k = 6
  ·subst h6
   go_enter Tryz.func106,Tryz.ntmps106
   go_wp2
   go_ret
   exact ⟨rfl,rfl⟩
  ·rw [decide_eq_false h1,decide_eq_false h6]
   have t1 : (k == 1) = false := beq_false_of_ne h1
   have t6 : (k == 6) = false := beq_false_of_ne h6
   clear h1 h6
   go_enter Tryz.func106,Tryz.ntmps106
   go_wp2
   go_ret
   exact ⟨rfl,rfl⟩
theorem follow_any (h : Rw tag w b g o c q n N pl) (hn : n < 100000) (x : Nat) (hx : x < n) :
  Calls Tryz.prog 109 #[.pointer (some ⟨b,0,none⟩),.int .i64 x] w fun e w' => e = .returned (.bool (!Ar.fix (N x).lb && decide ((N x).up ≠ -1))) ∧ w' = w := by
 have HF := fixed_any h hn x hx
 obtain ⟨c0,_⟩ := h.head
 obtain ⟨f1,_⟩ := h.links hx
 have hx0 : (0 : Int) ≤ (x : Int) := by omega
 have hx1 : (x : Int) < (n : Int) := by omega
 clear h
 generalize Ar.fix (N x).lb = k at HF ⊢
 generalize (N x).up = u at f1 ⊢
 cases k with
 | true =>
   go_enter Tryz.func109,Tryz.ntmps109
   go_wp2_with (go_at_call 106; refine HF.mono ?_; rintro e w2 ⟨rfl,hw⟩; have hw2 := hw.symm; clear hw; subst hw2)
   go_ret
   exact ⟨rfl,rfl⟩
 | false =>
   by_cases hu : u = -1
   ·subst hu
    go_enter Tryz.func109,Tryz.ntmps109
    go_wp2_with (go_at_call 106; refine HF.mono ?_; rintro e w2 ⟨rfl,hw⟩; have hw2 := hw.symm; clear hw; subst hw2)
    go_ret
    exact ⟨rfl,rfl⟩
   ·rw [decide_eq_true hu]
    have t1 : (u != -1) = true := bne_iff_ne.2 hu
    clear hu
    go_enter Tryz.func109,Tryz.ntmps109
    go_wp2_with (go_at_call 106; refine HF.mono ?_; rintro e w2 ⟨rfl,hw⟩; have hw2 := hw.symm; clear hw; subst hw2)
    go_ret
    exact ⟨rfl,rfl⟩
end
theorem iv_app (s t : List Nat) : iv (s ++ t) = iv s ++ iv t := by simp [iv]
theorem push_any (w : World) (p : Nat) (v : Value) (S : List Nat) (m : Nat) (hm : m = S.length) (h : Pk 1 w 180 3 p v m (iv S)) (z : Int) (hz : z = -1 ∨ ∃ x : Nat,z = x) (hl : m < 100000) :
  Calls Tryz.prog 125 #[.pointer (some ⟨p,0,none⟩),.int .i64 z] w fun e w' => e = .returned (.tuple #[]) ∧ Tk 1 w w' 180 3 p v (S ++ opt z).length (iv (S ++ opt z)) := by
 rcases hz with rfl | ⟨x,rfl⟩
 ·have e : S ++ opt (-1) = S := by simp [opt]
  rw [e,← hm]
  have HF : Hid (Tk 1 w w 180 3 p v m (iv S)) := ⟨v,h,Kp.refl _ _,fun k hk => Or.inl hk⟩
  clear h
  go_enter Tryz.func125,Tryz.ntmps125
  go_wp2
  go_end0
  exact ⟨rfl,HF.out⟩
 ·have e : opt (x : Int) = [x] := by unfold opt; rw [if_neg (by omega),Int.toNat_natCast]
  have H := ip_push w p v m (iv S) (x : Int) h hl
  have e2 : Hid (iv S ++ [.int .i64 (x : Int)] = iv (S ++ opt (x : Int)) ∧ m + 1 = (S ++ opt (x : Int)).length) := ⟨by rw [e,iv_app]; rfl,by rw [e,List.length_append,hm]; rfl⟩
  have t1 : ((x : Int) != -1) = true := bne_iff_ne.2 (by omega)
  generalize S ++ opt (x : Int) = T at e2 ⊢
  clear e h hm
  go_enter Tryz.func125,Tryz.ntmps125
  go_wp2_with (go_at_call 133; refine H.mono ?_; rintro e w2 ⟨rfl,T2⟩)
  go_end0
  rw [e2.out.1,e2.out.2] at T2
  exact ⟨rfl,T2⟩
def Pi (w wr : World) (p : Nat) (S : List Nat) : Prop := ∃ v,Pk 1 wr 180 3 p v S.length (iv S) ∧ Kp [] w wr ∧ w.heap.size ≤ p ∧ ∀ k,k ∈ blk v → w.heap.size ≤ k
theorem Pi.tk {w wr w2 : World} {p : Nat} {v : Value} {S : List Nat} (k0 : Kp [] w wr) (hp : w.heap.size ≤ p) (hv : ∀ k,k ∈ blk v → w.heap.size ≤ k) {m : Nat} (hm : m = S.length) (t : Tk 1 wr w2 180 3 p v m (iv S)) : Pi w w2 p S := by
 subst hm
 obtain ⟨v',h1,h2,h3⟩ := t
 refine ⟨v',h1,k0.trans h2 (fun x hx => Or.inr ?_),hp,fun k hk => ?_⟩
 ·rcases List.mem_cons.1 hx with rfl | hx
  ·exact hp
  ·exact hv x hx
 ·rcases h3 k hk with h4 | h4
  ·exact hv k h4
  ·exact Nat.le_trans k0.size h4
theorem pi_push {w wr : World} {p : Nat} {S : List Nat} (h : Pi w wr p S) (z : Int) (hz : z = -1 ∨ ∃ x : Nat,z = x) (hl : S.length < 100000) :
  Calls Tryz.prog 125 #[.pointer (some ⟨p,0,none⟩),.int .i64 z] wr fun e w' => e = .returned (.tuple #[]) ∧ Pi w w' p (S ++ opt z) := by
 obtain ⟨v,h1,h2,h3,h4⟩ := h
 refine (push_any wr p v S _ rfl h1 z hz hl).mono ?_
 rintro e w2 ⟨rfl,t⟩
 exact ⟨rfl,Pi.tk h2 h3 h4 rfl t⟩
theorem pi_pop {w wr : World} {p : Nat} {S : List Nat} {x : Nat} (h : Pi w wr p (S ++ [x])) (hl : S.length < 100000) :
  Calls Tryz.prog 126 #[.pointer (some ⟨p,0,none⟩)] wr fun e w' => e = .returned (.tuple #[.int .i64 x,.bool true]) ∧ Pi w w' p S := by
 obtain ⟨v,h1,h2,h3,h4⟩ := h
 rw [iv_app,List.length_append] at h1
 refine (ip_pop wr p v S.length (iv S) x h1 hl).mono ?_
 rintro e w2 ⟨rfl,t⟩
 exact ⟨rfl,Pi.tk h2 h3 h4 rfl t⟩
theorem pi_pop_none {w wr : World} {p : Nat} (h : Pi w wr p []) :
  Calls Tryz.prog 126 #[.pointer (some ⟨p,0,none⟩)] wr fun e w' => e = .returned (.tuple #[.int .i64 0,.bool false]) ∧ Kp [] w w' := by
 obtain ⟨v,h1,h2,h3,h4⟩ := h
 refine (ip_pop_none wr p v _ h1).mono ?_
 rintro e w2 ⟨rfl,t⟩
 exact ⟨rfl,h2.trans t (fun x hx => Or.inl hx)⟩
theorem pi_new (w : World) : Calls Tryz.prog 124 #[] w fun e w' => e = .returned (.pointer (some ⟨w.heap.size,0,none⟩)) ∧ Pi w w' w.heap.size [] := by
 refine (ip_new w).mono ?_
 rintro e w2 ⟨rfl,rfl⟩
 exact ⟨rfl,.slice none 0 0,⟨heap_new w _,⟨rfl,Or.inl ⟨rfl,rfl⟩⟩,by simp [blk]⟩,(Kp.refl _ _).alloc _,Nat.le_refl _,fun k hk => by simp [blk] at hk⟩
theorem upI_nn {A : Ar} (ok : A.Ok) (x : Nat) : Nn A.n (A.raw x).up := by
 show Nn A.n (Ar.upI (A.up x))
 cases h : A.up x with
 | none => exact .inl rfl
 | some p => exact .inr ⟨p,rfl,(ok.lt h).2⟩
theorem hdI_nn {n : Nat} {k : List Nat} (h : ∀ x,x ∈ k → x < n) : Nn n (hdI k) := by
 cases k with
 | nil => exact .inl rfl
 | cons x r => exact .inr ⟨x,rfl,h x (by simp)⟩
theorem laI_nn {n : Nat} {k : List Nat} (h : ∀ x,x ∈ k → x < n) : Nn n (laI k) := by
 cases k with
 | nil => exact .inl rfl
 | cons x r =>
   obtain ⟨z,h1,h2⟩ := laI_cons x r
   exact .inr ⟨z,h1,h z h2⟩
theorem raw_nn {A : Ar} (ok : A.Ok) (x : Nat) : Nn A.n (A.raw x).up ∧ Nn A.n (A.raw x).fi ∧ Nn A.n (A.raw x).la ∧ Nn A.n (A.raw x).ah ∧ Nn A.n (A.raw x).be ∧ (A.raw x).ah ≠ x ∧ (A.raw x).be ≠ x := by
 have hk : ∀ p y,y ∈ A.kids p → y < A.n := fun p y hy => (ok.kid_lt hy).1
 refine ⟨upI_nn ok x,hdI_nn (hk x),laI_nn (hk x),?_⟩
 cases h : A.up x with
 | none => rw [Ar.raw_ah_none h,Ar.raw_be_none h]; exact ⟨.inl rfl,.inl rfl,by omega,by omega⟩
 | some p =>
   obtain ⟨k1,k2,e,h1,h2,h3⟩ := ok.split h
   obtain ⟨e1,e2⟩ := ok.chain e
   rw [e1,e2]
   have hk' := hk p
   rw [e] at hk'
   exact ⟨laI_nn (fun y hy => hk' y (by simp [hy])),hdI_nn (fun y hy => hk' y (by simp [hy])),fun hh => h1 (laI_mem hh),fun hh => h2 (hdI_mem hh)⟩
theorem Nn.nat {n : Nat} {z : Int} (h : Nn n z) : z = -1 ∨ ∃ x : Nat,z = x := by
 rcases h with h | ⟨x,h,_⟩
 ·exact .inl h
 ·exact .inr ⟨x,h⟩
theorem iswn_any {tag : Nat → Nat} {w : World} {b g o c : Nat} {q : Bool} {A : Ar} {pl : Nat → Np} (h : Rw tag w b g o c q A.n A.raw pl) (ok : A.Ok) (hn : A.n < 50000) (x t : Nat) (hx : x < A.n) (ht : t < A.n) :
  Calls Tryz.prog 107 #[.pointer (some ⟨b,0,none⟩),.int .i64 x,.int .i64 t] w fun e w' => e = .returned (.bool (A.wn x t)) ∧ Kp [] w w' := by
 obtain ⟨r,hr⟩ := ok.rank
 have HN := pi_new w
 have HC : Hid (∀ V,Kp [] w V → V.cell? ⟨b,0,none⟩ = some (.slice (some ⟨g,o,none⟩) A.n c) ∧ ∀ i,i < A.n → V.cell? ⟨g,o + i * 11 + 6,none⟩ = some (.int .i64 (A.raw i).up) ∧ V.cell? ⟨g,o + i * 11 + 7,none⟩ = some (.int .i64 (A.raw i).fi) ∧ V.cell? ⟨g,o + i * 11 + 10,none⟩ = some (.int .i64 (A.raw i).be)) := fun V kV => by
  have hV := h.kept kV
  exact ⟨hV.head.1,fun i hi => ⟨(hV.links hi).1,(hV.links hi).2.1,(hV.links hi).2.2.2.2⟩⟩
 have hx0 : (0 : Int) ≤ (x : Int) := by omega
 have hx1 : (x : Int) < (A.n : Int) := by omega
 have ht0 : (0 : Int) ≤ (t : Int) := by omega
 have ht1 : (t : Int) < (A.n : Int) := by omega
 have I0 : Hid (A.Wi x t x [] [] (opt (A.raw t).fi)) := ok.wi_start hx
 obtain ⟨R,hR⟩ : ∃ R,A.wn x t = R := ⟨_,rfl⟩
 rw [hR]
 go_enter Tryz.func107,Tryz.ntmps107
 go_wp2_with fail
 refine HN.mono ?_
 rintro e w1 ⟨rfl,P1⟩
 have k1 : Kp [] w w1 := P1.choose_spec.2.1
 obtain ⟨c0,cs1⟩ := HC.out _ k1
 have c1 := (cs1 t ht).2.1
 have HP := pi_push P1 (A.raw t).fi (raw_nn ok t).2.1.nat (by simp)
 clear HN cs1 P1 h
 generalize (A.raw t).fi = ft at c1 HP I0
 go_wp2_with fail
 refine HP.mono ?_
 rintro e w2 ⟨rfl,P2⟩
 rw [List.nil_append] at P2
 clear HP c1 c0 k1
 go_wp2
 go_loopw [1,8,9] (fun i _ _ wr => ∃ (cur : Nat) (L P S : List Nat),i = .int .i64 (cur : Int) ∧ A.Wi x t cur L P S ∧ Pi w wr w.heap.size S ∧ S.length ≤ L.length + 1) (fun i _ _ _ => r (intOf i).toNat)
 case atStart => exact ⟨x,[],[],_,rfl,I0.out,P2,by simpa using opt_len ft⟩
 case round =>
  obtain ⟨cur,L,P,S,rfl,hi,hp,hs⟩ := hrel
  clear P2 I0
  have kr : Kp [] w wr := hp.choose_spec.2.1
  obtain ⟨c0,cs1⟩ := HC.out _ kr
  have hL : L.length < A.n := ok.anc_lt hx hi.anc'
  have hc := hi.lt
  have hc0 : (0 : Int) ≤ (cur : Int) := by omega
  have hc1 : (cur : Int) < (A.n : Int) := by omega
  by_cases hct : cur = t
  ·subst hct
   obtain rfl : R = true := by rw [← hR]; exact (Ar.wn_iff ok hx).2 hi.top_yes
   have K : Hid (Kp [] w wr) := kr
   clear hi hp hs kr HC cs1 hL
   go_wp2
   go_ret
   exact ⟨rfl,K.out⟩
  ·have t1 : ((cur : Int) != (t : Int)) = true := bne_iff_ne.2 (by omega)
   have d1 := (cs1 cur hc).1
   cases hu : A.up cur with
   | none =>
     obtain rfl : R = false := by
      rw [← hR]
      cases hw : A.wn x t with
      | false => rfl
      | true => exact absurd ((Ar.wn_iff ok hx).1 hw) (hi.none_no hct hu)
     have e1 : (A.raw cur).up = -1 := by show Ar.upI (A.up cur) = -1; rw [hu]; rfl
     rw [e1] at d1
     rcases List.eq_nil_or_concat S with rfl | ⟨S',y,rfl⟩
     ·have HP := pi_pop_none hp
      clear hi hp hs kr HC cs1 hL e1 hct
      go_wp2_with (go_at_call 126; refine HP.mono ?_; rintro e w3 ⟨rfl,K3⟩)
      go_ret
      exact ⟨rfl,K3⟩
     ·rw [List.concat_eq_append] at hp hs
      have HP := pi_pop hp (by simp at hs; omega)
      clear hi hp hs kr HC cs1 hL e1 hct
      go_wp2_with (go_at_call 126; refine HP.mono ?_; rintro e w3 ⟨rfl,P3⟩)
      go_ret
      exact ⟨rfl,P3.choose_spec.2.1⟩
   | some u =>
     have e1 : (A.raw cur).up = (u : Int) := by show Ar.upI (A.up cur) = _; rw [hu]; rfl
     rw [e1] at d1
     have t2 : ((u : Int) == -1) = false := beq_false_of_ne (by omega)
     rcases List.eq_nil_or_concat S with rfl | ⟨S',y,rfl⟩
     ·obtain rfl : R = false := by
       rw [← hR]
       cases hw : A.wn x t with
       | false => rfl
       | true => exact absurd ((Ar.wn_iff ok hx).1 hw) (hi.empty_no hct)
      have HP := pi_pop_none hp
      clear hi hp hs kr HC cs1 hL e1 hct
      go_wp2_with (go_at_call 126; refine HP.mono ?_; rintro e w3 ⟨rfl,K3⟩)
      go_ret
      exact ⟨rfl,K3⟩
     ·rw [List.concat_eq_append] at hp hs hi
      have hsl : S'.length + 1 ≤ L.length + 1 := by simpa using hs
      have HP := pi_pop hp (by omega)
      have hy := (hi.all y (by simp)).1
      have hy0 : (0 : Int) ≤ (y : Int) := by omega
      have hy1 : (y : Int) < (A.n : Int) := by omega
      have I2 : Hid (A.Wi x t u (cur :: L) (y :: P) (S' ++ opt (A.raw y).be ++ opt (A.raw y).fi)) := hi.step ok hct hu
      have hlt : Hid (r u < r cur) := hr cur u hu
      have hNb := (raw_nn ok y).2.2.2.2.1.nat
      have hNf := (raw_nn ok y).2.1.nat
      clear hi hp hs kr cs1 e1 hct hu
      go_wp2_with (go_at_call 126; refine HP.mono ?_; rintro e w3 ⟨rfl,P3⟩; refine Hid.out ?_)
      unfold Hid
      obtain ⟨c3,cs3⟩ := HC.out _ P3.choose_spec.2.1
      obtain ⟨_,d4,d3⟩ := cs3 y hy
      have HQ := pi_push P3 (A.raw y).be hNb (by omega)
      clear HP cs3 P3
      go_wp2_with fail
      refine HQ.mono ?_
      rintro e w4 ⟨rfl,P4⟩
      obtain ⟨c4,cs4⟩ := HC.out _ P4.choose_spec.2.1
      obtain ⟨_,d5,_⟩ := cs4 y hy
      have ob := opt_len (A.raw y).be
      have of' := opt_len (A.raw y).fi
      have HT := pi_push P4 (A.raw y).fi hNf (by simp; omega)
      clear HQ cs4 P4 d3 d4 c3
      go_wp2_with fail
      refine HT.mono ?_
      rintro e w5 ⟨rfl,P5⟩
      clear HT d5
      go_wp2
      go_roundw
      case rel => exact ⟨u,cur :: L,y :: P,_,rfl,I2.out,P5,by simp; omega⟩
      case measure => simpa [intOf] using hlt.out
section
variable {tag : Nat → Nat} {w : World} {b g o c : Nat} {q : Bool} {A : Ar} {pl : Nat → Np}
theorem there_nat {z : Int} (h : A.there z = true) : ∃ y : Nat,z = (y : Int) ∧ y < A.n := by
 obtain ⟨h1,h2⟩ := Ar.there_lt h
 exact ⟨z.toNat,h2.symm,h1⟩
theorem there_dec (z : Int) : A.there z = decide (0 ≤ z ∧ z < A.n) := rfl
theorem hid_link (h : Rw tag w b g o c q A.n A.raw pl) (ok : A.Ok) (hn : A.n < 50000) {p x : Nat} (hp : p < A.n) (hx : x < A.n) (hu : A.up x = none) {k1 k2 : List Nat} (e : A.kids p = k1 ++ k2) (z : Int) (hz : z = hdI k2) :
  Hid (∀ V,Kp [] w V → Calls Tryz.prog 108 #[.pointer (some ⟨b,0,none⟩),.int .i64 p,.int .i64 z,.int .i64 x] V fun e w' => e = .returned (.tuple #[]) ∧ Rz w tag w' b g o c q A.n (A.put p k1.length x).raw pl) := by
 intro V kV
 subst hz
 have hk : ∀ y,y ∈ k2 → y < A.n := fun y hy => (ok.kid_lt (p := p) (by rw [e]; simp [hy])).1
 refine (link_any (h.kept kV) (by omega) p hp (hdI k2) (hdI_nn hk) x hx (aheadF_nn (fun i _ => ⟨(raw_nn ok i).2.2.1,(raw_nn ok i).2.2.2.1⟩) hp (hdI_nn hk))).mono ?_
 rintro e2 w2 ⟨rfl,r2⟩
 rw [ok.link_raw e hu] at r2
 exact ⟨rfl,r2.1,(kV.mono (T := [g]) (fun x hx => by simp at hx)).trans r2.2 (fun x hx => Or.inl hx)⟩
theorem up_eq {x : Nat} (hu : A.up x = none) : (A.raw x).up = -1 := by show Ar.upI (A.up x) = -1; rw [hu]; rfl
theorem up_some {x p : Nat} (hu : A.up x = some p) : (A.raw x).up = (p : Int) := by show Ar.upI (A.up x) = _; rw [hu]; rfl
theorem app_arena (h : Rw tag w b g o c q A.n A.raw pl) (ful : A.Ful) (hn : A.n < 50000) (p x : Int) :
  Calls Tryz.prog 68 #[.pointer (some ⟨b,0,none⟩),.int .i64 p,.int .i64 x] w fun e w' => e = .returned (.int .i64 (A.appF p x).2) ∧ Rz w tag w' b g o c q A.n (A.appF p x).1.raw pl := by
 have HH := fun z => has_any h (by omega) z
 have ok := ful.toOk
 obtain ⟨Z,hZ⟩ : ∃ Z,A.appF p x = Z := ⟨_,rfl⟩
 rw [hZ]
 unfold Ar.appF at hZ
 have z0 : Rz w tag w b g o c q A.n A.raw pl := Rz.mk h (Kp.refl _ _)
 by_cases hp : A.there p = true
 case neg =>
  have hp : A.there p = false := by simpa using hp
  rw [if_pos (.inl hp)] at hZ
  subst hZ
  rw [there_dec] at hp
  have z1 : Hid (Rz w tag w b g o c q A.n A.raw pl) := z0
  clear z0 h
  go_enter Tryz.func68,Tryz.ntmps68
  go_wp2_with (go_at_call 33; refine same_of (HH _) ?_)
  go_ret
  exact ⟨rfl,z1.out⟩
 by_cases hx : A.there x = true
 case neg =>
  have hx : A.there x = false := by simpa using hx
  rw [if_pos (.inr hx)] at hZ
  subst hZ
  rw [there_dec] at hp hx
  have z1 : Hid (Rz w tag w b g o c q A.n A.raw pl) := z0
  clear z0 h
  go_enter Tryz.func68,Tryz.ntmps68
  go_wp2_with (go_at_call 33; refine same_of (HH _) ?_)
  go_ret
  exact ⟨rfl,z1.out⟩
 rw [if_neg (by simp [hp,hx])] at hZ
 obtain ⟨p,rfl,hpn⟩ := there_nat hp
 obtain ⟨x,rfl,hxn⟩ := there_nat hx
 rw [Int.toNat_natCast,Int.toNat_natCast] at hZ
 rw [there_dec] at hp hx
 have HM := may_any h (by omega) p hpn
 have HF := fixed_any h (by omega) x hxn
 rw [show (A.raw p).lb = A.lb p from rfl] at HM
 rw [show (A.raw x).lb = A.lb x from rfl] at HF
 cases h1 : Ar.hld (A.lb p) with
 | false =>
   rw [h1] at HM
   rw [if_pos (.inl h1)] at hZ
   subst hZ
   have z1 : Hid (Rz w tag w b g o c q A.n A.raw pl) := z0
   clear z0 h HF
   go_enter Tryz.func68,Tryz.ntmps68
   go_wp2_with (first | (go_at_call 33; refine same_of (HH _) ?_) | (go_at_call 105; refine same_of (HM) ?_))
   go_ret
   exact ⟨rfl,z1.out⟩
 | true =>
 rw [h1] at HM
 cases h2 : Ar.fix (A.lb x) with
 | true =>
   rw [h2] at HF
   rw [if_pos (.inr h2)] at hZ
   subst hZ
   have z1 : Hid (Rz w tag w b g o c q A.n A.raw pl) := z0
   clear z0 h
   go_enter Tryz.func68,Tryz.ntmps68
   go_wp2_with (first | (go_at_call 33; refine same_of (HH _) ?_) | (go_at_call 105; refine same_of (HM) ?_) | (go_at_call 106; refine same_of (HF) ?_))
   go_ret
   exact ⟨rfl,z1.out⟩
 | false =>
 rw [h2] at HF
 rw [if_neg (by simp [h1,h2])] at hZ
 obtain ⟨c0,_⟩ := h.head
 obtain ⟨l1,_⟩ := h.links hxn
 have hx0 : (0 : Int) ≤ (x : Int) := by omega
 have hx1 : (x : Int) < (A.n : Int) := by omega
 cases hu : A.up x with
 | some u =>
   rw [if_pos (by rw [hu]; simp)] at hZ
   subst hZ
   rw [up_some hu] at l1
   have t1 : ((u : Int) != -1) = true := bne_iff_ne.2 (by omega)
   have z1 : Hid (Rz w tag w b g o c q A.n A.raw pl) := z0
   clear z0 h
   go_enter Tryz.func68,Tryz.ntmps68
   go_wp2_with (first | (go_at_call 33; refine same_of (HH _) ?_) | (go_at_call 105; refine same_of (HM) ?_) | (go_at_call 106; refine same_of (HF) ?_))
   go_ret
   exact ⟨rfl,z1.out⟩
 | none =>
 rw [if_neg (by rw [hu]; simp)] at hZ
 rw [up_eq hu] at l1
 have HW := iswn_any h ok hn p x hpn hxn
 cases hw : A.wn p x with
 | true =>
   rw [if_pos hw] at hZ
   subst hZ
   rw [hw] at HW
   have z1 : Hid (∀ V,Kp [] w V → Rz w tag V b g o c q A.n A.raw pl) := fun V kV => Rz.mk (h.kept kV) (kV.mono (fun x hx => by simp at hx))
   clear z0 h
   go_enter Tryz.func68,Tryz.ntmps68
   go_wp2_with (first | (go_at_call 33; refine same_of (HH _) ?_) | (go_at_call 105; refine same_of (HM) ?_) | (go_at_call 106; refine same_of (HF) ?_) | (go_at_call 107; refine HW.mono ?_; rintro e w3 ⟨rfl,K3⟩))
   go_ret
   exact ⟨rfl,z1.out _ K3⟩
 | false =>
   rw [if_neg (by rw [hw]; simp)] at hZ
   subst hZ
   rw [hw] at HW
   have HL := hid_link h ok hn hpn hxn hu (k1 := A.kids p) (k2 := []) (by rw [List.append_nil]) (-1) rfl
   clear z0 h
   go_enter Tryz.func68,Tryz.ntmps68
   go_wp2_with (first | (go_at_call 33; refine same_of (HH _) ?_) | (go_at_call 105; refine same_of (HM) ?_) | (go_at_call 106; refine same_of (HF) ?_) | (go_at_call 107; refine HW.mono ?_; rintro e w3 ⟨rfl,K3⟩) | (go_at_call 108; refine (HL.out _ K3).mono ?_; rintro e w4 ⟨rfl,Z4⟩))
   go_ret
   exact ⟨rfl,Z4⟩
theorem det_arena (h : Rw tag w b g o c q A.n A.raw pl) (ful : A.Ful) (hn : A.n < 50000) (x : Int) :
  Calls Tryz.prog 73 #[.pointer (some ⟨b,0,none⟩),.int .i64 x] w fun e w' => e = .returned (.int .i64 (A.detF x).2) ∧ Rz w tag w' b g o c q A.n (A.detF x).1.raw pl := by
 have HH := fun z => has_any h (by omega) z
 have ok := ful.toOk
 obtain ⟨Z,hZ⟩ : ∃ Z,A.detF x = Z := ⟨_,rfl⟩
 rw [hZ]
 unfold Ar.detF at hZ
 have z0 : Rz w tag w b g o c q A.n A.raw pl := Rz.mk h (Kp.refl _ _)
 by_cases hx : A.there x = true
 case neg =>
  have hx : A.there x = false := by simpa using hx
  rw [if_pos hx] at hZ
  subst hZ
  rw [there_dec] at hx
  have z1 : Hid (Rz w tag w b g o c q A.n A.raw pl) := z0
  clear z0 h
  go_enter Tryz.func73,Tryz.ntmps73
  go_wp2_with (go_at_call 33; refine same_of (HH _) ?_)
  go_ret
  exact ⟨rfl,z1.out⟩
 rw [if_neg (by simp [hx])] at hZ
 obtain ⟨x,rfl,hxn⟩ := there_nat hx
 rw [Int.toNat_natCast] at hZ
 rw [there_dec] at hx
 have HF := fixed_any h (by omega) x hxn
 rw [show (A.raw x).lb = A.lb x from rfl] at HF
 cases h2 : Ar.fix (A.lb x) with
 | true =>
   rw [h2] at HF
   rw [if_pos h2] at hZ
   subst hZ
   have z1 : Hid (Rz w tag w b g o c q A.n A.raw pl) := z0
   clear z0 h
   go_enter Tryz.func73,Tryz.ntmps73
   go_wp2_with (first | (go_at_call 33; refine same_of (HH _) ?_) | (go_at_call 106; refine same_of (HF) ?_))
   go_ret
   exact ⟨rfl,z1.out⟩
 | false =>
 rw [h2] at HF
 rw [if_neg (by simp [h2])] at hZ
 subst hZ
 obtain ⟨c0,_⟩ := h.head
 obtain ⟨l1,_⟩ := h.links hxn
 have hx0 : (0 : Int) ≤ (x : Int) := by omega
 have hx1 : (x : Int) < (A.n : Int) := by omega
 cases hu : A.up x with
 | none =>
   rw [up_eq hu] at l1
   have e1 : A.cut x = A := Ar.cut_none hu
   rw [e1]
   have z1 : Hid (Rz w tag w b g o c q A.n A.raw pl) := z0
   clear z0 h
   go_enter Tryz.func73,Tryz.ntmps73
   go_wp2_with (first | (go_at_call 33; refine same_of (HH _) ?_) | (go_at_call 106; refine same_of (HF) ?_))
   go_ret
   exact ⟨rfl,z1.out⟩
 | some u =>
   rw [up_some hu] at l1
   have t1 : ((u : Int) != -1) = true := bne_iff_ne.2 (by omega)
   obtain ⟨_,_,_,n1,n2,n3,n4⟩ := raw_nn ok x
   have HU := unlink_any h (by omega) u (ok.lt hu).2 x hxn (up_some hu) n1 n2 n3 n4
   rw [ok.unlink_raw hu] at HU
   clear z0 h
   go_enter Tryz.func73,Tryz.ntmps73
   go_wp2_with (first | (go_at_call 33; refine same_of (HH _) ?_) | (go_at_call 106; refine same_of (HF) ?_) | (go_at_call 113; refine HU.mono ?_; rintro e w3 ⟨rfl,Z3⟩))
   go_ret
   exact ⟨rfl,Z3⟩
theorem bef_arena (h : Rw tag w b g o c q A.n A.raw pl) (ful : A.Ful) (hn : A.n < 50000) (r x : Int) :
  Calls Tryz.prog 69 #[.pointer (some ⟨b,0,none⟩),.int .i64 r,.int .i64 x] w fun e w' => e = .returned (.int .i64 (A.befF r x).2) ∧ Rz w tag w' b g o c q A.n (A.befF r x).1.raw pl := by
 have HH := fun z => has_any h (by omega) z
 have ok := ful.toOk
 obtain ⟨Z,hZ⟩ : ∃ Z,A.befF r x = Z := ⟨_,rfl⟩
 rw [hZ]
 unfold Ar.befF at hZ
 have z0 : Rz w tag w b g o c q A.n A.raw pl := Rz.mk h (Kp.refl _ _)
 by_cases hp : A.there r = true
 case neg =>
  have hp : A.there r = false := by simpa using hp
  rw [if_pos (.inl hp)] at hZ
  subst hZ
  rw [there_dec] at hp
  have z1 : Hid (Rz w tag w b g o c q A.n A.raw pl) := z0
  clear z0 h
  go_enter Tryz.func69,Tryz.ntmps69
  go_wp2_with (go_at_call 33; refine same_of (HH _) ?_)
  go_ret
  exact ⟨rfl,z1.out⟩
 by_cases hx : A.there x = true
 case neg =>
  have hx : A.there x = false := by simpa using hx
  rw [if_pos (.inr hx)] at hZ
  subst hZ
  rw [there_dec] at hp hx
  have z1 : Hid (Rz w tag w b g o c q A.n A.raw pl) := z0
  clear z0 h
  go_enter Tryz.func69,Tryz.ntmps69
  go_wp2_with (go_at_call 33; refine same_of (HH _) ?_)
  go_ret
  exact ⟨rfl,z1.out⟩
 rw [if_neg (by simp [hp,hx])] at hZ
 obtain ⟨r,rfl,hpn⟩ := there_nat hp
 obtain ⟨x,rfl,hxn⟩ := there_nat hx
 rw [Int.toNat_natCast,Int.toNat_natCast] at hZ
 rw [there_dec] at hp hx
 have HM := follow_any h (by omega) r hpn
 have HF := fixed_any h (by omega) x hxn
 rw [show (A.raw r).lb = A.lb r from rfl] at HM
 rw [show (A.raw x).lb = A.lb x from rfl] at HF
 cases hr : A.up r with
 | none =>
   rw [hr] at hZ
   rw [up_eq hr,show (!Ar.fix (A.lb r) && decide ((-1 : Int) ≠ -1)) = false by simp] at HM
   subst hZ
   have z1 : Hid (Rz w tag w b g o c q A.n A.raw pl) := z0
   clear z0 h HF
   go_enter Tryz.func69,Tryz.ntmps69
   go_wp2_with (first | (go_at_call 33; refine same_of (HH _) ?_) | (go_at_call 109; refine same_of (HM) ?_))
   go_ret
   exact ⟨rfl,z1.out⟩
 | some p =>
 rw [hr] at hZ
 replace hZ : (if Ar.fix (A.lb r) = true ∨ Ar.fix (A.lb x) = true then (A,23) else if A.up x ≠ none then (A,24) else if A.wn r x = true then (A,26) else (A.put p (A.place p r) x,0)) = Z := hZ
 cases h1 : Ar.fix (A.lb r) with
 | true =>
   rw [h1,show (!true && decide ((A.raw r).up ≠ -1)) = false from rfl] at HM
   rw [if_pos (.inl h1)] at hZ
   subst hZ
   have z1 : Hid (Rz w tag w b g o c q A.n A.raw pl) := z0
   clear z0 h HF
   go_enter Tryz.func69,Tryz.ntmps69
   go_wp2_with (first | (go_at_call 33; refine same_of (HH _) ?_) | (go_at_call 109; refine same_of (HM) ?_))
   go_ret
   exact ⟨rfl,z1.out⟩
 | false =>
 rw [h1,up_some hr,show (!false && decide ((p : Int) ≠ -1)) = true by simp] at HM
 cases h2 : Ar.fix (A.lb x) with
 | true =>
   rw [h2] at HF
   rw [if_pos (.inr h2)] at hZ
   subst hZ
   have z1 : Hid (Rz w tag w b g o c q A.n A.raw pl) := z0
   clear z0 h
   go_enter Tryz.func69,Tryz.ntmps69
   go_wp2_with (first | (go_at_call 33; refine same_of (HH _) ?_) | (go_at_call 109; refine same_of (HM) ?_) | (go_at_call 106; refine same_of (HF) ?_))
   go_ret
   exact ⟨rfl,z1.out⟩
 | false =>
 rw [h2] at HF
 rw [if_neg (by simp [h1,h2])] at hZ
 obtain ⟨c0,_⟩ := h.head
 obtain ⟨l1,_⟩ := h.links hxn
 have hx0 : (0 : Int) ≤ (x : Int) := by omega
 have hx1 : (x : Int) < (A.n : Int) := by omega
 cases hu : A.up x with
 | some u =>
   rw [if_pos (by rw [hu]; simp)] at hZ
   subst hZ
   rw [up_some hu] at l1
   have t1 : ((u : Int) != -1) = true := bne_iff_ne.2 (by omega)
   have z1 : Hid (Rz w tag w b g o c q A.n A.raw pl) := z0
   clear z0 h
   go_enter Tryz.func69,Tryz.ntmps69
   go_wp2_with (first | (go_at_call 33; refine same_of (HH _) ?_) | (go_at_call 109; refine same_of (HM) ?_) | (go_at_call 106; refine same_of (HF) ?_))
   go_ret
   exact ⟨rfl,z1.out⟩
 | none =>
 rw [if_neg (by rw [hu]; simp)] at hZ
 rw [up_eq hu] at l1
 have HW := iswn_any h ok hn r x hpn hxn
 cases hw : A.wn r x with
 | true =>
   rw [if_pos hw] at hZ
   subst hZ
   rw [hw] at HW
   have z1 : Hid (∀ V,Kp [] w V → Rz w tag V b g o c q A.n A.raw pl) := fun V kV => Rz.mk (h.kept kV) (kV.mono (fun x hx => by simp at hx))
   clear z0 h
   go_enter Tryz.func69,Tryz.ntmps69
   go_wp2_with (first | (go_at_call 33; refine same_of (HH _) ?_) | (go_at_call 109; refine same_of (HM) ?_) | (go_at_call 106; refine same_of (HF) ?_) | (go_at_call 107; refine HW.mono ?_; rintro e w3 ⟨rfl,K3⟩))
   go_ret
   exact ⟨rfl,z1.out _ K3⟩
 | false =>
   rw [if_neg (by rw [hw]; simp)] at hZ
   subst hZ
   rw [hw] at HW
   obtain ⟨k1,k2,ek,ek1,_,_⟩ := ok.split hr
   have epl : A.place p r = k1.length := by
    unfold Ar.place
    rw [ek,List.idxOf_append,if_neg ek1,List.idxOf_cons_self]; simp
   rw [epl]
   have HL := hid_link h ok hn (ok.lt hr).2 hxn hu (k1 := k1) (k2 := r :: k2) ek (r : Int) rfl
   have C3 : Hid (∀ V,Kp [] w V → V.cell? ⟨b,0,none⟩ = some (.slice (some ⟨g,o,none⟩) A.n c) ∧ V.cell? ⟨g,o + r * 11 + 6,none⟩ = some (.int .i64 (p : Int))) := fun V kV => ⟨(h.kept kV).head.1,by rw [((h.kept kV).links hpn).1,up_some hr]⟩
   have hr0 : (0 : Int) ≤ (r : Int) := by omega
   have hr1 : (r : Int) < (A.n : Int) := by omega
   clear z0 h ek ek1 epl
   go_enter Tryz.func69,Tryz.ntmps69
   go_wp2_with (first | (go_at_call 33; refine same_of (HH _) ?_) | (go_at_call 109; refine same_of (HM) ?_) | (go_at_call 106; refine same_of (HF) ?_) | (go_at_call 107; refine HW.mono ?_; rintro e w3 ⟨rfl,K3⟩; obtain ⟨c3,d3⟩ := C3.out _ K3) | (go_at_call 108; refine (HL.out _ K3).mono ?_; rintro e w4 ⟨rfl,Z4⟩))
   go_ret
   exact ⟨rfl,Z4⟩
end
end Go.Proofs.YtpkppobkagdhkaaGreat
