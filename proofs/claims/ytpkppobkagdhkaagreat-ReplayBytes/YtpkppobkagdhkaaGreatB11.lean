/-
 Six Rtb PlacesB Walk.
-/
import Derived.Test.YtpkppobkagdhkaaGreatB10
import Derived.Test.YtpkppobkagdhkaaGreatB9
set_option linter.unusedVariables false
set_option linter.unusedSimpArgs false
set_option maxRecDepth 100000
set_option maxHeartbeats 1000000
namespace Go.Proofs.YtpkppobkagdhkaaGreat
open Go.RowKit
def At (w : World) (g : Nat) (cur : Array Value) (e : TypeId) : Prop := w.heap[g]? = some (.cells cur e (0,0))
theorem At.lt {w : World} {g : Nat} {cur : Array Value} {e : TypeId} (h : At w g cur e) : g < w.heap.size := (Array.getElem?_eq_some_iff.1 h).1
theorem At.kept {w w' : World} {g : Nat} {cur : Array Value} {e : TypeId} {S : List Nat} (h : At w g cur e) (k : Kp S w w') (hg : g ∉ S) : At w' g cur e := by
 unfold At
 rw [k.block g h.lt hg]
 exact h
theorem At.set {w : World} {g : Nat} {cur : Array Value} {e : TypeId} (h : At w g cur e) (o : Nat) (u : Value) : At (w.setCell ⟨g,o,none⟩ u) g (cur.setIfInBounds o u) e := setCell_block h o u
theorem At.new (w : World) (cur : Array Value) (e : TypeId) : At (w.alloc (.cells cur e)) w.heap.size cur e := heap_new w _
theorem At.new' (w : World) (cur : Array Value) (e : TypeId) (n : Nat) (h : n = w.heap.size) : At (w.alloc (.cells cur e)) n cur e := heap_new' w _ n h
theorem At.cell {w : World} {g : Nat} {cur : Array Value} {e : TypeId} (h : At w g cur e) (j : Nat) : w.cell? ⟨g,j,none⟩ = cur[j]? := cell_of h j
theorem At.free {w : World} {g : Nat} {cur : Array Value} {e : TypeId} (h : At w g cur e) (j : Nat) : w.frozen? ⟨g,j,none⟩ = false := frozen_of h j
def put6 (w : World) (g o : Nat) (v0 v1 v2 v3 v4 v5 : Value) : World := (((((w.setCell ⟨g,o,none⟩ v0).setCell ⟨g,o + 1,none⟩ v1).setCell ⟨g,o + 2,none⟩ v2).setCell ⟨g,o + 3,none⟩ v3).setCell ⟨g,o + 4,none⟩ v4).setCell ⟨g,o + 5,none⟩ v5
def putZ (w : World) (g : Nat) (v0 v1 v2 v3 v4 v5 : Value) : World := (((((w.setCell ⟨g,0,none⟩ v0).setCell ⟨g,1,none⟩ v1).setCell ⟨g,2,none⟩ v2).setCell ⟨g,3,none⟩ v3).setCell ⟨g,4,none⟩ v4).setCell ⟨g,5,none⟩ v5
theorem Kp.put6 {S : List Nat} {a w : World} (h : Kp S a w) {g : Nat} (hg : g ∈ S ∨ a.heap.size ≤ g) (o : Nat) (v0 v1 v2 v3 v4 v5 : Value) : Kp S a (put6 w g o v0 v1 v2 v3 v4 v5) :=
 (((((h.setCell hg v0).setCell hg v1).setCell hg v2).setCell hg v3).setCell hg v4).setCell hg v5
theorem Kp.putZ {S : List Nat} {a w : World} (h : Kp S a w) {g : Nat} (hg : g ∈ S ∨ a.heap.size ≤ g) (v0 v1 v2 v3 v4 v5 : Value) : Kp S a (putZ w g v0 v1 v2 v3 v4 v5) :=
 (((((h.setCell hg v0).setCell hg v1).setCell hg v2).setCell hg v3).setCell hg v4).setCell hg v5
theorem At.putZ {w : World} {g : Nat} {e : TypeId} {u0 u1 u2 u3 u4 u5 : Value} (h : At w g #[u0,u1,u2,u3,u4,u5] e) (v0 v1 v2 v3 v4 v5 : Value) : At (putZ w g v0 v1 v2 v3 v4 v5) g #[v0,v1,v2,v3,v4,v5] e :=
 (((((h.set 0 v0).set 1 v1).set 2 v2).set 3 v3).set 4 v4).set 5 v5
theorem At.six {w : World} {g : Nat} {e : TypeId} {v0 v1 v2 v3 v4 v5 : Value} (h : At w g #[v0,v1,v2,v3,v4,v5] e) : w.cell? ⟨g,0,none⟩ = some v0 ∧ w.cell? ⟨g,1,none⟩ = some v1 ∧ w.cell? ⟨g,2,none⟩ = some v2 ∧ w.cell? ⟨g,3,none⟩ = some v3 ∧ w.cell? ⟨g,4,none⟩ = some v4 ∧ w.cell? ⟨g,5,none⟩ = some v5 :=
 ⟨h.cell 0,h.cell 1,h.cell 2,h.cell 3,h.cell 4,h.cell 5⟩
theorem put6_eq (w : World) (g o : Nat) (v0 v1 v2 v3 v4 v5 : Value) : put6 w g o v0 v1 v2 v3 v4 v5 = w.setCells g o [v0,v1,v2,v3,v4,v5] := rfl
def iv (l : List Nat) : List Value := l.map (fun n : Nat => Value.int .i64 (n : Int))
theorem iv_len (l : List Nat) : (iv l).length = l.length := by simp [iv]
theorem osame_any (w : World) (a b : Ot) (p q : Sl) (h1 : Ap w (a,p)) (h2 : Ap w (b,q)) (hl : p.2.1 ≤ 100000) (hm : q.2.1 ≤ 100000) :
  Calls Tryz.prog 64 #[ov a p,ov b q] w fun e w' => e = .returned (.bool (sameO a b)) ∧ Kp [] w w' := by
 obtain ⟨a1,a2,a3,a4,a5,a6,a7,a8,a9⟩ := a
 obtain ⟨b1,b2,b3,b4,b5,b6,b7,b8,b9⟩ := b
 obtain ⟨p1,p2,p3⟩ := p
 obtain ⟨q1,q2,q3⟩ := q
 have k0 : Kp [] w ((w.alloc (.cells (oc ⟨a1,a2,a3,a4,a5,a6,a7,a8,a9⟩ (p1,p2,p3)) 24)).alloc (.cells (oc ⟨b1,b2,b3,b4,b5,b6,b7,b8,b9⟩ (q1,q2,q3)) 24)) := ((Kp.refl _ _).alloc _).alloc _
 have HC := equal_any _ _ _ _ _ _ _ _ _ (Rp.kept h1 k0) (Rp.kept h2 k0) hl hm
 clear h1 h2
 simp only [oc,ov] at HC k0 ⊢
 obtain ⟨A,hA⟩ : ∃ A,sameO ⟨a1,a2,a3,a4,a5,a6,a7,a8,a9⟩ ⟨b1,b2,b3,b4,b5,b6,b7,b8,b9⟩ = A := ⟨_,rfl⟩
 rw [hA]
 simp only [sameO,eqs] at hA
 cases c0 : (a1 == b1)
 ·simp only [c0,Bool.true_and,Bool.false_and] at hA
  subst hA
  clear HC
  go_enter Tryz.func64,Tryz.ntmps64
  go_wp2
  go_ret
  exact ⟨rfl,k0⟩
 cases c1 : (a2 == b2)
 ·simp only [c0,c1,Bool.true_and,Bool.false_and] at hA
  subst hA
  clear HC
  go_enter Tryz.func64,Tryz.ntmps64
  go_wp2
  go_ret
  exact ⟨rfl,k0⟩
 cases c2 : (a3 == b3)
 ·simp only [c0,c1,c2,Bool.true_and,Bool.false_and] at hA
  subst hA
  clear HC
  go_enter Tryz.func64,Tryz.ntmps64
  go_wp2
  go_ret
  exact ⟨rfl,k0⟩
 cases c3 : (a4 == b4)
 ·simp only [c0,c1,c2,c3,Bool.true_and,Bool.false_and] at hA
  subst hA
  clear HC
  go_enter Tryz.func64,Tryz.ntmps64
  go_wp2
  go_ret
  exact ⟨rfl,k0⟩
 cases c4 : (a5 == b5)
 ·simp only [c0,c1,c2,c3,c4,Bool.true_and,Bool.false_and] at hA
  subst hA
  clear HC
  go_enter Tryz.func64,Tryz.ntmps64
  go_wp2
  go_ret
  exact ⟨rfl,k0⟩
 cases c5 : (a6 == b6)
 ·simp only [c0,c1,c2,c3,c4,c5,Bool.true_and,Bool.false_and] at hA
  subst hA
  clear HC
  go_enter Tryz.func64,Tryz.ntmps64
  go_wp2
  go_ret
  exact ⟨rfl,k0⟩
 cases c6 : (a7.toList == b7.toList)
 ·simp only [c0,c1,c2,c3,c4,c5,c6,Bool.true_and,Bool.false_and] at hA
  subst hA
  clear HC
  go_enter Tryz.func64,Tryz.ntmps64
  go_wp2
  go_ret
  exact ⟨rfl,k0⟩
 cases c7 : (a9.toList == b9.toList)
 ·simp only [c0,c1,c2,c3,c4,c5,c6,c7,Bool.true_and,Bool.false_and] at hA
  subst hA
  clear HC
  go_enter Tryz.func64,Tryz.ntmps64
  go_wp2
  go_ret
  exact ⟨rfl,k0⟩
 simp only [c0,c1,c2,c3,c4,c5,c6,c7,Bool.true_and] at hA
 subst hA
 go_enter Tryz.func64,Tryz.ntmps64
 go_wp2_with (go_at_call 103; refine HC.mono ?_; rintro e w1 ⟨rfl,k1⟩)
 go_ret
 exact ⟨rfl,k0.trans k1 (fun x hx => Or.inl hx)⟩
theorem pl_cut (w : World) (p : Nat) (v : Value) (n : Nat) (xs : List Value) (a : Addr) (k : Int) (h : Pk 2 w 168 143 p v (n + 1) (xs ++ pc a k)) (hl : n < 100000) :
  Calls Tryz.prog 119 #[.pointer (some ⟨p,0,none⟩),.int .i64 n] w fun e w' => e = .returned (.tuple #[pv a k,.bool true]) ∧ Tk 2 w w' 168 143 p v n xs := by
 have hx : xs.length = n * 2 := by have := h.2.1.1; rw [List.length_append] at this; simp [pc] at this; omega
 have H1 := fun W (kw : Kp [] w W) => pl_at_in W p v (n + 1) _ n a k (h.keep kw (by simp) (fun _ _ => by simp)) (by omega) (by rw [← hx,List.getElem?_append_right (by omega)]; simp [pc]) (by rw [← hx,List.getElem?_append_right (by omega)]; simp [pc]) (by omega)
 obtain ⟨ao,c,rfl,hc,hf,hnc,hpl,hcs⟩ := h.out
 obtain ⟨g,o,rfl,hgp,_⟩ := hcs (by omega)
 obtain ⟨hp,hown,hpb⟩ := h
 have hgl : g < w.heap.size := hown.lt g (by simp [blk])
 have H1' := H1 _ ((Kp.refl [] w).alloc (.cells #[.pointer none,.int .i64 0] 143))
 have HD : Hid (∀ W,Kp [] w W → Calls Tryz.prog 131 #[.slice (some ⟨g,o,none⟩) (n + 1) c,.int .i64 (n : Int),.int .i64 ((n : Int) + 1)] W fun e w' => e = .returned (.slice (some ⟨g,o,none⟩) n c) ∧ OwnK 2 w' 143 (.slice (some ⟨g,o,none⟩) n c) n xs ∧ Kp [g] W w') := fun W kw => pl_delete W g o n c xs _ (hown.keep kw (fun _ _ => by simp)) hx hl
 have HP : Hid (w.heap[p]? = some (.cells #[.slice (some ⟨g,o,none⟩) (n + 1) c] 168 (0,0))) := hp
 clear H1 hcs hp hown hpb hx
 have i1 : (n : Int) < 100000 := by omega
 unfold pv at H1' ⊢
 go_enter Tryz.func119,Tryz.ntmps119
 go_wp2_with fail
 refine H1'.mono ?_
 rintro e w2 ⟨rfl,K2⟩
 have K0 : Hid (Kp [] w w2) := ((Kp.refl [] w).alloc _).trans K2 (fun x hx => Or.inl hx)
 have R2 : Hid (w2.heap[w.heap.size]? = some (.cells #[.pointer none,.int .i64 0] 143 (0,0))) := (K2.block _ (by simp) (by simp)).trans (heap_new w _)
 have hs2 : w.heap.size < w2.heap.size := (Array.getElem?_eq_some_iff.1 R2.out).1
 have c2 : w2.cell? ⟨p,0,none⟩ = some (.slice (some ⟨g,o,none⟩) (n + 1) c) := (cell_of ((K0.out.block p hpl (by simp)).trans HP.out) 0)
 have hpl2 : p < w2.heap.size := by omega
 clear K2 H1'
 go_wp2_with fail
 refine (HD.out _ (K0.out.alloc _)).mono ?_
 rintro e w3 ⟨rfl,O3,K3⟩
 have P3 : w3.heap[p]? = some (.cells #[.slice (some ⟨g,o,none⟩) (n + 1) c] 168 (0,0)) := (K3.block p (by simp; omega) (by simp; omega)).trans ((((K0.out.alloc _).block p hpl (by simp))).trans HP.out)
 have R3 : w3.heap[w.heap.size]? = some (.cells #[.pointer none,.int .i64 0] 143 (0,0)) := (K3.block _ (by simp; omega) (by simp; omega)).trans ((((Kp.refl [] w2).alloc _).block _ hs2 (by simp)).trans R2.out)
 have X3 : w3.heap[w2.heap.size]? = some (.cells #[.pointer (some a),.int .i64 k] 143 (0,0)) := (K3.block _ (by simp) (by simp; omega)).trans (heap_new w2 _)
 have cp3 : w3.cell? ⟨p,0,none⟩ = some (.slice (some ⟨g,o,none⟩) (n + 1) c) := cell_of P3 0
 have fp3 := frozen_of P3 0
 have cr0 : w3.cell? ⟨w.heap.size,0,none⟩ = some (.pointer none) := cell_of R3 0
 have cr1 : w3.cell? ⟨w.heap.size,1,none⟩ = some (.int .i64 0) := cell_of R3 1
 have fr0 := frozen_of R3 0
 have fr1 := frozen_of R3 1
 have cx0 : w3.cell? ⟨w2.heap.size,0,none⟩ = some (.pointer (some a)) := cell_of X3 0
 have cx1 : w3.cell? ⟨w2.heap.size,1,none⟩ = some (.int .i64 k) := cell_of X3 1
 have n1 : ¬ p = w.heap.size := by omega
 have n2 : ¬ p = w2.heap.size := by omega
 have n5 : ¬ w.heap.size = p := by omega
 have n6 : ¬ w2.heap.size = p := by omega
 have HF : Hid (Tk 2 w (((w3.setCell ⟨p,0,none⟩ (.slice (some ⟨g,o,none⟩) n c)).setCell ⟨w.heap.size,0,none⟩ (.pointer (some a))).setCell ⟨w.heap.size,1,none⟩ (.int .i64 k)) 168 143 p (.slice (some ⟨g,o,none⟩) (n + 1) c) n xs) := by
  obtain ⟨v',h1,h2,h3⟩ := Tk.mk (K := 2) (w := w) hpl P3 (by simp [blk]; omega) O3 ((K0.out.alloc _).mono (T := p :: blk (.slice (some ⟨g,o,none⟩) (n + 1) c)) (fun x hx => by simp at hx) |>.trans K3 (fun x hx => by simp at hx; subst hx; exact Or.inl (by simp [blk]))) (fun x hx => Or.inl (by simpa [blk] using hx))
  have hv : ∀ x,x ∈ blk v' → x < w.heap.size := fun x hx => by
   rcases h3 x hx with h4 | h4
   ·simp [blk] at h4; omega
   ·have := h1.2.1.lt x hx
    rcases Nat.lt_or_ge x w.heap.size with h5 | h5
    ·exact h5
    ·exact absurd hx (by
      have e : v' = .slice (some ⟨g,o,none⟩) n c := by
       have := h1.1
       rw [setCell_block P3] at this
       simp at this
       exact this.symm
      rw [e]; simp [blk]; omega)
  refine ⟨v',(h1.keep (((Kp.refl [w.heap.size] _).setCell (Or.inl (by simp)) _).setCell (Or.inl (by simp)) _) (by simp; omega) (fun x hx => by have := hv x hx; simp; omega)),(h2.setCell (Or.inr (Nat.le_refl _)) _).setCell (Or.inr (Nat.le_refl _)) _,h3⟩
 clear O3 K3 P3 R3 X3 HD HP
 go_wp2
 refine bodyPost_ret (v := .tuple #[.agg #[.pointer (some a),.int .i64 k],.bool true]) (by simp [results,go_sem,cr0,cr1]) rfl ⟨rfl,HF.out⟩
theorem pl_pop (w : World) (p : Nat) (v : Value) (n : Nat) (xs : List Value) (a : Addr) (k : Int) (h : Pk 2 w 168 143 p v (n + 1) (xs ++ pc a k)) (hl : n < 100000) :
  Calls Tryz.prog 86 #[.pointer (some ⟨p,0,none⟩)] w fun e w' => e = .returned (.tuple #[pv a k,.bool true]) ∧ Tk 2 w w' 168 143 p v n xs := by
 have H1 := pl_cut _ p v n xs a k (h.keep ((Kp.refl [] w).alloc (.cells #[.pointer none,.int .i64 0] 143)) (by simp) (fun _ _ => by simp)) hl
 have hlt := h.2.1.lt
 obtain ⟨ao,c,rfl,hc,hf,hnc,hpl,hcs⟩ := h.out
 have HL : Hid (∀ x,x ∈ blk (.slice ao (n + 1) c) → x < w.heap.size) := hlt
 clear hcs h hlt
 have i1 : (n : Int) < 100000 := by omega
 unfold pv at H1 ⊢
 go_enter Tryz.func86,Tryz.ntmps86
 go_wp2_with fail
 refine H1.mono ?_
 rintro e w2 ⟨rfl,v',T1,T2,T3⟩
 have hn : w.heap.size ∉ p :: blk (.slice ao (n + 1) c) := fun hx => by
  rcases List.mem_cons.1 hx with h1 | h1
  ·omega
  ·have := HL.out _ h1; omega
 have R2 : w2.heap[w.heap.size]? = some (.cells #[.pointer none,.int .i64 0] 143 (0,0)) := (T2.block _ (by simp) hn).trans (heap_new w _)
 have cr0 : w2.cell? ⟨w.heap.size,0,none⟩ = some (.pointer none) := cell_of R2 0
 have cr1 : w2.cell? ⟨w.heap.size,1,none⟩ = some (.int .i64 0) := cell_of R2 1
 have fr0 := frozen_of R2 0
 have fr1 := frozen_of R2 1
 have HF : Hid (Tk 2 w ((w2.setCell ⟨w.heap.size,0,none⟩ (.pointer (some a))).setCell ⟨w.heap.size,1,none⟩ (.int .i64 k)) 168 143 p (.slice ao (n + 1) c) n xs) := by
  have hb : ∀ x,x ∈ blk v' → x ∈ blk (.slice ao (n + 1) c) ∨ w.heap.size + 1 ≤ x := fun x hx => by have := T3 x hx; simpa using this
  refine ⟨v',T1.keep (((Kp.refl [w.heap.size] _).setCell (Or.inl (by simp)) _).setCell (Or.inl (by simp)) _) (by simp; omega) (fun x hx => ?_),((((Kp.refl _ w).alloc _).trans T2 (fun x hx => Or.inl hx)).setCell (Or.inr (Nat.le_refl _)) _).setCell (Or.inr (Nat.le_refl _)) _,fun x hx => ?_⟩
  ·rcases hb x hx with h1 | h1
   ·have := HL.out x h1; simp; omega
   ·simp; omega
  ·rcases hb x hx with h1 | h1
   ·exact Or.inl h1
   ·right; omega
 clear T1 T2 T3 R2 H1 hn
 go_wp2
 refine bodyPost_ret (v := .tuple #[.agg #[.pointer (some a),.int .i64 k],.bool true]) (by simp [results,go_sem,cr0,cr1]) rfl ⟨rfl,HF.out⟩
theorem pl_cut_none (w : World) (p : Nat) (v : Value) (xs : List Value) (h : Pk 2 w 168 143 p v 0 xs) :
  Calls Tryz.prog 119 #[.pointer (some ⟨p,0,none⟩),.int .i64 (-1)] w fun e w' => e = .returned (.tuple #[zp,.bool false]) ∧ Kp [] w w' := by
 have H1 := pl_at_none _ p v xs (h.keep ((Kp.refl [] w).alloc (.cells #[.pointer none,.int .i64 0] 143)) (by simp) (fun _ _ => by simp))
 clear h
 unfold zp at H1 ⊢
 go_enter Tryz.func119,Tryz.ntmps119
 go_wp2_with fail
 refine H1.mono ?_
 rintro e w2 ⟨rfl,K2⟩
 have R2 : w2.heap[w.heap.size]? = some (.cells #[.pointer none,.int .i64 0] 143 (0,0)) := (K2.block _ (by simp) (by simp)).trans (heap_new w _)
 have hs2 : w.heap.size < w2.heap.size := (Array.getElem?_eq_some_iff.1 R2).1
 have cr0 : w2.cell? ⟨w.heap.size,0,none⟩ = some (.pointer none) := cell_of R2 0
 have cr1 : w2.cell? ⟨w.heap.size,1,none⟩ = some (.int .i64 0) := cell_of R2 1
 have fr0 := frozen_of R2 0
 have fr1 := frozen_of R2 1
 have K0 : Hid (Kp [] w w2) := ((Kp.refl [] w).alloc _).trans K2 (fun x hx => Or.inl hx)
 have R3 : (((w2.setCell ⟨w.heap.size,0,none⟩ (.pointer none)).setCell ⟨w.heap.size,1,none⟩ (.int .i64 0)).alloc (.cells #[.pointer none,.int .i64 0] 143)).heap[w.heap.size]? = some (.cells #[.pointer none,.int .i64 0] 143 (0,0)) := by
  rw [Below.heap_alloc _ _ _ (by simp [World.setCell]; omega),setCell_block (setCell_block R2 _ _)]; rfl
 have D : Hid (_ ∧ _) := ⟨cell_of R3 0,cell_of R3 1⟩
 clear K2 R2 H1 R3
 go_wp2
 obtain ⟨d0,d1⟩ := D.out
 refine bodyPost_ret (v := .tuple #[.agg #[.pointer none,.int .i64 0],.bool false]) (by simp [results,go_sem,d0,d1]) rfl ⟨rfl,?_⟩
 exact ((K0.out.setCell (Or.inr (Nat.le_refl _)) _).setCell (Or.inr (Nat.le_refl _)) _).alloc _
theorem pl_pop_none (w : World) (p : Nat) (v : Value) (xs : List Value) (h : Pk 2 w 168 143 p v 0 xs) :
  Calls Tryz.prog 86 #[.pointer (some ⟨p,0,none⟩)] w fun e w' => e = .returned (.tuple #[zp,.bool false]) ∧ Kp [] w w' := by
 have H1 := pl_cut_none _ p v xs (h.keep ((Kp.refl [] w).alloc (.cells #[.pointer none,.int .i64 0] 143)) (by simp) (fun _ _ => by simp))
 obtain ⟨ao,c,rfl,hc,hf,hnc,hpl,hcs⟩ := h.out
 clear h hcs
 unfold zp at H1 ⊢
 go_enter Tryz.func86,Tryz.ntmps86
 go_wp2_with fail
 refine H1.mono ?_
 rintro e w2 ⟨rfl,K2⟩
 have R2 : w2.heap[w.heap.size]? = some (.cells #[.pointer none,.int .i64 0] 143 (0,0)) := (K2.block _ (by simp) (by simp)).trans (heap_new w _)
 have cr0 : w2.cell? ⟨w.heap.size,0,none⟩ = some (.pointer none) := cell_of R2 0
 have cr1 : w2.cell? ⟨w.heap.size,1,none⟩ = some (.int .i64 0) := cell_of R2 1
 have fr0 := frozen_of R2 0
 have fr1 := frozen_of R2 1
 have K0 : Hid (Kp [] w w2) := ((Kp.refl [] w).alloc _).trans K2 (fun x hx => Or.inl hx)
 clear K2 R2 H1
 go_wp2
 refine bodyPost_ret (v := .tuple #[.agg #[.pointer none,.int .i64 0],.bool false]) (by simp [results,go_sem,cr0,cr1]) rfl ⟨rfl,?_⟩
 exact (K0.out.setCell (Or.inr (Nat.le_refl _)) _).setCell (Or.inr (Nat.le_refl _)) _
abbrev Frw := Addr × Fo × Nat
def plC : List Frw → List Value
 | [] => []
 | f :: r => plC r ++ pc f.1 f.2.2
def adC : List Frw → List Addr
 | [] => []
 | f :: r => adC r ++ [f.1]
def toC : List Frw → List Vt
 | [] => []
 | f :: r => (f.2.1.drop f.2.2).vis r.length ++ toC r
theorem mem_adC {x : Addr} : ∀ {fs : List Frw},x ∈ adC fs → ∃ f,f ∈ fs ∧ f.1 = x
 | [],h => by simp [adC] at h
 | f :: r,h => by
   rw [adC,List.mem_append] at h
   rcases h with h | h
   ·obtain ⟨g,h1,h2⟩ := mem_adC h
    exact ⟨g,by simp [h1],h2⟩
   ·exact ⟨f,by simp,(List.mem_singleton.1 h).symm⟩
def At6 (w : World) (a : Addr) (k : Fo) : Prop := ∃ b off cur e bo m d,a = ⟨b,off,none⟩ ∧ w.heap[b]? = some (.cells cur e (0,0)) ∧ cur[off + 5]? = some (.slice bo m d) ∧ Rt Any w bo m d k
theorem At6.det {w : World} {a : Addr} {k k' : Fo} (h : At6 w a k) (h' : At6 w a k') : k = k' := by
 obtain ⟨b,off,cur,e,bo,m,d,h1,h2,h3,h4⟩ := h
 obtain ⟨b',off',cur',e',bo',m',d',h1',h2',h3',h4'⟩ := h'
 rw [h1] at h1'
 simp only [Addr.mk.injEq] at h1'
 obtain ⟨rfl,rfl,_⟩ := h1'
 rw [h2] at h2'
 simp only [Option.some.injEq,Obj.cells.injEq] at h2'
 obtain ⟨rfl,_⟩ := h2'
 rw [h3] at h3'
 simp only [Option.some.injEq,Value.slice.injEq] at h3'
 obtain ⟨rfl,rfl,rfl⟩ := h3'
 exact h4.det h4'
theorem At6.kept {w w' : World} {a : Addr} {k : Fo} (h : At6 w a k) (kp : Kp [] w w') : At6 w' a k := by
 obtain ⟨b,off,cur,e,bo,m,d,h1,h2,h3,h4⟩ := h
 exact ⟨b,off,cur,e,bo,m,d,h1,by rw [kp.block b (Array.getElem?_eq_some_iff.1 h2).1 (by simp)]; exact h2,h3,h4.kept kp⟩
theorem At6.inb {w : World} {a : Addr} {k : Fo} (h : At6 w a k) : Inb w a := by
 obtain ⟨b,off,cur,e,bo,m,d,rfl,h2,_⟩ := h
 exact ⟨cur,e,h2⟩
theorem Cl.at6 {w : World} {b off : Nat} {l : Lb} {p : Pl} {k : Fo} (h : Cl w b off l p) (hk : Rt Any w p.2.1 p.2.2.1 p.2.2.2 k) : At6 w ⟨b,off,none⟩ k := by
 obtain ⟨cur,e,h1,h2⟩ := h
 exact ⟨b,off,cur,e,_,_,_,rfl,h1,h2 5 (by omega),hk⟩
def Lies (w0 : World) (r L : Nat) (l : Lb) (k : Fo) (a : Addr) (f : Fo) : Prop := At6 w0 a f ∨ (a = ⟨r,0,none⟩ ∧ f = .cons l k .nil) ∨ (a = ⟨L,0,none⟩ ∧ f = k)
def Way6 (w0 : World) (r L : Nat) (l : Lb) (k : Fo) : List Frw → Prop
 | [] => True
 | f :: fs => Lies w0 r L l k f.1 f.2.1 ∧ f.2.2 ≤ f.2.1.len ∧ fs.length + f.2.1.cnt ≤ (Fo.cons l k .nil).cnt ∧ (∀ g,g ∈ fs → f.2.1.cnt < g.2.1.cnt) ∧ Way6 w0 r L l k fs
theorem Way6.mem {w0 : World} {r L : Nat} {l : Lb} {k : Fo} : ∀ {fs : List Frw},Way6 w0 r L l k fs → ∀ g,g ∈ fs → Lies w0 r L l k g.1 g.2.1
 | [],_,g,hg => by simp at hg
 | f :: fs,h,g,hg => by
   rcases List.mem_cons.1 hg with rfl | hg
   ·exact h.1
   ·exact Way6.mem h.2.2.2.2 g hg
structure Ws where
 P : Nat
 T : Nat
 M : Nat
 R : Nat
 L : Nat
 v : Value
def Ws.own (s : Ws) : List Nat := s.P :: s.T :: s.M :: s.R :: s.L :: blk s.v
structure Wb (w0 w : World) (s : Ws) (l : Lb) (k : Fo) (p : Pl) : Prop where
 kp : Kp [] w0 w
 new : ∀ x,x ∈ s.own → w0.heap.size ≤ x
 lt : ∀ x,x ∈ s.own → x < w.heap.size
 walk : w.heap[s.P]? = some (.cells #[.pointer (some ⟨s.T,0,none⟩),.map (some s.M),.bool false] 146 (0,0))
 root : w.heap[s.R]? = some (.cells #[.int .i64 0,.int .i64 0,.string ⟨#[]⟩,.slice none 0 0,.string ⟨#[]⟩,.slice (some ⟨s.L,0,none⟩) 1 1] 40 (0,0))
 top : w.heap[s.L]? = some (.cells (six l p).toArray 40 (0,0))
 node : Nd Any w0 l k p
 apart : s.P ≠ s.T ∧ s.P ≠ s.M ∧ s.P ≠ s.R ∧ s.P ≠ s.L ∧ s.T ≠ s.M ∧ s.T ≠ s.R ∧ s.T ≠ s.L ∧ s.M ≠ s.R ∧ s.M ≠ s.L ∧ s.R ≠ s.L
 apv : ∀ x,x ∈ blk s.v → x ≠ s.P ∧ x ≠ s.T ∧ x ≠ s.M ∧ x ≠ s.R ∧ x ≠ s.L
 few : k.cnt ≤ 20000
structure Wk (w0 w : World) (s : Ws) (fs : List Frw) (l : Lb) (k : Fo) (p : Pl) : Prop where
 b : Wb w0 w s l k p
 pile : Pk 2 w 168 143 s.T s.v fs.length (plC fs)
 keys : Ks w s.M (adC fs)
 way : Way6 w0 s.R s.L l k fs
theorem Wb.other {w0 w w' : World} {s : Ws} {l : Lb} {k : Fo} {p : Pl} (h : Wb w0 w s l k p) {D : List Nat} (hk : Kp D w w') (h1 : ∀ x,x ∈ D → w0.heap.size ≤ x) (h2 : ∀ x,x ∈ s.own → x ∉ D) : Wb w0 w' s l k p := by
 have key : ∀ x,x ∈ s.own → w'.heap[x]? = w.heap[x]? := fun x hx => hk.block x (h.lt x hx) (h2 x hx)
 exact ⟨h.kp.trans hk (fun x hx => Or.inr (h1 x hx)),h.new,fun x hx => Nat.lt_of_lt_of_le (h.lt x hx) hk.size,(key _ (by simp [Ws.own])).trans h.walk,
  (key _ (by simp [Ws.own])).trans h.root,(key _ (by simp [Ws.own])).trans h.top,h.node,h.apart,h.apv,h.few⟩
theorem Wk.other {w0 w w' : World} {s : Ws} {fs : List Frw} {l : Lb} {k : Fo} {p : Pl} (h : Wk w0 w s fs l k p) {D : List Nat} (hk : Kp D w w') (h1 : ∀ x,x ∈ D → w0.heap.size ≤ x) (h2 : ∀ x,x ∈ s.own → x ∉ D) : Wk w0 w' s fs l k p :=
 ⟨h.b.other hk h1 h2,h.pile.keep hk (h2 _ (by simp [Ws.own])) (fun x hx => h2 x (by simp [Ws.own,hx])),h.keys.keep hk (h2 _ (by simp [Ws.own])),h.way⟩
theorem Wb.at_root {w0 w : World} {s : Ws} {l : Lb} {k : Fo} {p : Pl} (h : Wb w0 w s l k p) : At6 w ⟨s.R,0,none⟩ (.cons l k .nil) :=
 ⟨s.R,0,_,_,_,_,_,rfl,h.root,rfl,six l p ++ [],⟨rfl,Nat.le_refl _,fun _ => ⟨s.L,0,_,_,trivial,rfl,h.top,fun j hj => by
  rw [Nat.zero_add,List.append_nil]
  simp⟩⟩,Lf.cons (h.node.kept h.kp) (Lf.nil _ _)⟩
theorem Wb.cl_top {w0 w : World} {s : Ws} {l : Lb} {k : Fo} {p : Pl} (h : Wb w0 w s l k p) : Cl w s.L 0 l p := ⟨_,_,h.top,fun j hj => by simp⟩
theorem Wb.at_way {w0 w : World} {s : Ws} {l : Lb} {k : Fo} {p : Pl} (h : Wb w0 w s l k p) {a : Addr} {f : Fo} (hg : Lies w0 s.R s.L l k a f) : At6 w a f := by
 rcases hg with hg | ⟨h1,h2⟩ | ⟨h1,h2⟩
 ·exact hg.kept h.kp
 ·rw [h1,h2]; exact h.at_root
 ·rw [h1,h2]; exact h.cl_top.at6 (h.node.kept h.kp).kids
theorem Wb.inb {w0 w : World} {s : Ws} {l : Lb} {k : Fo} {p : Pl} (h : Wb w0 w s l k p) {fs : List Frw} (hw : Way6 w0 s.R s.L l k fs) : ∀ x,x ∈ adC fs → Inb w x := fun x hx => by
 obtain ⟨f,h1,rfl⟩ := mem_adC hx
 exact (h.at_way (hw.mem f h1)).inb
theorem Wb.fresh {w0 w : World} {s : Ws} {l : Lb} {k : Fo} {p : Pl} (h : Wb w0 w s l k p) {fs : List Frw} (hw : Way6 w0 s.R s.L l k fs) {a : Addr} {f : Fo} (ha : At6 w a f) (hf : ∀ g,g ∈ fs → f.cnt < g.2.1.cnt) : a ∉ adC fs := fun hx => by
 obtain ⟨g,h1,rfl⟩ := mem_adC hx
 have e := ha.det (h.at_way (hw.mem g h1))
 have := hf g h1
 rw [e] at this
 omega
end Go.Proofs.YtpkppobkagdhkaaGreat
