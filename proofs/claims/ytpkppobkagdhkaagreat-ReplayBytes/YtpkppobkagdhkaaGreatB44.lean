/-
 Rpb Rpc Rpd EncD EncE DecD.
-/
import Derived.Test.YtpkppobkagdhkaaGreatB41
import Derived.Test.YtpkppobkagdhkaaGreatB43
import Derived.Test.YtpkppobkagdhkaaGreatB42
set_option linter.unusedVariables false
set_option linter.unusedSimpArgs false
set_option maxRecDepth 100000
set_option maxHeartbeats 1000000
namespace Go.Proofs.YtpkppobkagdhkaaGreat
open Go.RowKit Go.Maps Utf
def askF (o : Ot) : List Int :=
 if o.kd = 2 then [o.nd,o.pa]
 else if o.kd = 3 then [o.nd,o.rf]
 else if o.kd = 4 then [o.nd,o.rf,o.pa]
 else if o.kd = 5 then [o.pa]
 else if o.kd = 6 ∨ o.kd = 8 then [o.rf,o.pa]
 else if o.kd = 9 then [o.rf]
 else if o.kd = 7 ∨ o.kd = 10 then [o.nd]
 else []
theorem askF_len (o : Ot) : (askF o).length ≤ 3 := by
 unfold askF
 repeat' split
 all_goals simp
theorem ask_all {o : Ot} (h : rightO o = true) (kn : Int → Bool) (h0 : kn 0 = true) : (askF o).all kn = !(((!Py.isN o.kd && !kn o.nd) || !kn o.pa) || !kn o.rf) := by
 obtain ⟨_,_,_,h1,h2⟩ := right_of h
 unfold rightO at h
 simp only [Bool.and_eq_true] at h
 obtain ⟨_,_,hk⟩ := h
 obtain ⟨kd,nd,pa,rf,ty,ns,nm,al,tt⟩ := o
 simp only at h1 h2 hk ⊢
 obtain rfl | rfl | rfl | rfl | rfl | rfl | rfl | rfl | rfl | rfl | rfl : kd = 1 ∨ kd = 2 ∨ kd = 3 ∨ kd = 4 ∨ kd = 5 ∨ kd = 6 ∨ kd = 7 ∨ kd = 8 ∨ kd = 9 ∨ kd = 10 ∨ kd = 11 := by omega
 all_goals
  simp [rightK,zr] at hk
  simp [askF,Py.isN]
  try simp [hk,h0]
 ·cases kn nd <;> cases kn rf <;> cases kn pa <;> rfl
 ·cases kn rf <;> cases kn pa <;> rfl
 ·cases kn rf <;> cases kn pa <;> rfl
theorem rb_lit2 (w : World) (ob : Obj) (e : TypeId) (cur : Array Value) (xs : List Value) (n : Nat) (h : cur = xs.toArray) (hn : n = xs.length) (hm : n ≤ 100000) : Rb ((w.alloc ob).alloc (.cells cur e)) (some ⟨w.heap.size + 1,0,none⟩) n n xs := by
 have := rb_lit (w.alloc ob) e cur xs n h hn hm
 rw [show (w.alloc ob).heap.size = w.heap.size + 1 by simp] at this
 exact this
section
variable {tag tag' : Nat → Nat} {w w' : World} {b d k : Nat} {l1 l2 : Sl} {s : Py} {o : Ot} {p : Sl}
set_option maxHeartbeats 2000000 in
theorem asked_any (w : World) (o : Ot) (p : Sl) (h1 : 1 ≤ o.kd) (h2 : o.kd ≤ 11) :
  Calls Tryz.prog 50 #[ov o p] w fun e w' => ∃ ao n c,e = .returned (.slice ao n c) ∧ Rb w' ao n c (iz (askF o)) ∧ Kp [] w w' := by
 obtain ⟨kd,nd,pa,rf,ty,ns,nm,al,tt⟩ := o
 simp only at h1 h2
 unfold ov
 simp only
 obtain rfl | rfl | rfl | rfl | rfl | rfl | rfl | rfl | rfl | rfl | rfl : kd = 1 ∨ kd = 2 ∨ kd = 3 ∨ kd = 4 ∨ kd = 5 ∨ kd = 6 ∨ kd = 7 ∨ kd = 8 ∨ kd = 9 ∨ kd = 10 ∨ kd = 11 := by omega
 all_goals
  go_enter Tryz.func50,Tryz.ntmps50
  go_wp2
  go_ret
  first
   | (refine ⟨_,_,_,rfl,?_,((Kp.refl _ _).alloc _).alloc _⟩; exact rb_lit2 _ _ _ _ _ _ rfl rfl (by decide))
   | exact ⟨none,0,0,rfl,⟨rfl,Nat.le_refl _,fun j hj => absurd hj (Nat.not_lt_zero _)⟩,(Kp.refl _ _).alloc _⟩
end
abbrev bl2 (l1 l2 : Sl) : List Nat := blk (.slice l1.1 l1.2.1 l1.2.2) ++ blk (.slice l2.1 l2.2.1 l2.2.2)
structure Sg (w0 U : World) (b g d : Nat) (l1 l2 : Sl) (v1 v2 : Value) (xs ys : List Value) (x : Int) : Prop where
 kp : Kp (bl2 l1 l2) w0 U
 hb : At U b #[.pointer (some ⟨d,0,none⟩),.slice l1.1 l1.2.1 l1.2.2,.slice l2.1 l2.2.1 l2.2.2] 104
 hg : U.cell? ⟨g,1,none⟩ = some (.int .i64 x)
 o1 : Own U 3 v1 xs
 o2 : Own U 3 v2 ys
 n1 : ∀ z,z ∈ blk v1 → z ∈ blk (.slice l1.1 l1.2.1 l1.2.2) ∨ w0.heap.size ≤ z
 n2 : ∀ z,z ∈ blk v2 → z ∈ blk (.slice l2.1 l2.2.1 l2.2.2) ∨ w0.heap.size ≤ z
 dj : ∀ z,z ∈ blk v1 → z ∉ blk v2
 bb : b ∉ blk v1 ∧ b ∉ blk v2
 gg : g ∉ blk v1 ∧ g ∉ blk v2
def Lt (U : World) (l : Nat) (z : Int) (v1 v2 : Value) : Prop := At U l #[.int .i64 z] 3 ∧ l ∉ blk v1 ∧ l ∉ blk v2
section
variable {w0 U : World} {b g d : Nat} {l1 l2 : Sl} {v1 v2 : Value} {xs ys : List Value} {x : Int}
theorem Sg.reads (h : Sg w0 U b g d l1 l2 v1 v2 xs ys x) : U.cell? ⟨b,1,none⟩ = some (.slice l1.1 l1.2.1 l1.2.2) ∧ U.cell? ⟨b,2,none⟩ = some (.slice l2.1 l2.2.1 l2.2.2) ∧ U.cell? ⟨g,1,none⟩ = some (.int .i64 x) := ⟨h.hb.cell 1,h.hb.cell 2,h.hg⟩
theorem Sg.kept {U' : World} (h : Sg w0 U b g d l1 l2 v1 v2 xs ys x) (k : Kp [] U U') : Sg w0 U' b g d l1 l2 v1 v2 xs ys x :=
 ⟨h.kp.trans k (fun z hz => by simp at hz),h.hb.kept k (by simp),by rw [k.cell (block_lt_of_cell h.hg) (by simp)]; exact h.hg,h.o1.keep k (fun _ _ => by simp),h.o2.keep k (fun _ _ => by simp),h.n1,h.n2,h.dj,h.bb,h.gg⟩
theorem Lt.kept {U' : World} {l : Nat} {z : Int} (h : Lt U l z v1 v2) (k : Kp [] U U') : Lt U' l z v1 v2 := ⟨h.1.kept k (by simp),h.2⟩
theorem Sg.lit (h : Sg w0 U b g d l1 l2 v1 v2 xs ys x) (z : Int) : Sg w0 (U.alloc (.cells #[.int .i64 z] 3)) b g d l1 l2 v1 v2 xs ys x ∧ Lt (U.alloc (.cells #[.int .i64 z] 3)) U.heap.size z v1 v2 ∧ Kp [] U (U.alloc (.cells #[.int .i64 z] 3)) :=
 ⟨h.kept ((Kp.refl _ _).alloc _),⟨At.new _ _ _,fun hm => by have := h.o1.lt _ hm; omega,fun hm => by have := h.o2.lt _ hm; omega⟩,(Kp.refl _ _).alloc _⟩
theorem Sg.app1 (h : Sg w0 U b g d l1 l2 v1 v2 xs ys x) {l : Nat} {z : Int} (L : Lt U l z v1 v2) (hl : xs.length ≤ 5000) :
  ∃ a n c U',(∀ ty,(Builtin.append_ #[61,61] ty #[v1,.slice (some ⟨l,0,none⟩) 1 1]).run Tryz.prog U = .ok (.slice a n c) U') ∧ Sg w0 U' b g d l1 l2 (.slice a n c) v2 (xs ++ [.int .i64 z]) ys x ∧ ∀ l' z',Lt U l' z' v1 v2 → Lt U' l' z' (.slice a n c) v2 := by
 obtain ⟨v',U',hrun,o',k',b',a,c,rfl⟩ := app_any Tryz.underlying61 infoI rfl (by decide) U v1 xs h.o1 _ 1 [.int .i64 z] (src_one Tryz.underlying61 L.1 rfl) (fun _ => by omega) (by omega)
 have hn : ∀ y,y < U.heap.size → y ∉ blk v1 → y ∉ blk (.slice (some a) (xs.length + 1) c) := fun y hy h1 hm => by
  rcases b' y hm with e | e
  ·exact h1 e
  ·omega
 have hw := h.kp.size
 refine ⟨_,_,_,U',hrun,⟨h.kp.trans k' (fun y hy => ?_),h.hb.kept k' h.bb.1,by rw [k'.cell (block_lt_of_cell h.hg) h.gg.1]; exact h.hg,o',h.o2.keep k' (fun y hy h1 => h.dj y h1 hy),fun y hy => ?_,h.n2,fun y hy h2 => ?_,⟨hn b h.hb.lt h.bb.1,h.bb.2⟩,⟨hn g (block_lt_of_cell h.hg) h.gg.1,h.gg.2⟩⟩,fun l' z' L' => ⟨L'.1.kept k' L'.2.1,hn l' L'.1.lt L'.2.1,L'.2.2⟩⟩
 ·rcases h.n1 y hy with e | e
  ·exact Or.inl (List.mem_append_left _ e)
  ·exact Or.inr e
 ·rcases b' y hy with e | e
  ·exact h.n1 y e
  ·exact .inr (by omega)
 ·rcases b' y hy with e | e
  ·exact h.dj y e h2
  ·have := h.o2.lt y h2; omega
theorem Sg.app2 (h : Sg w0 U b g d l1 l2 v1 v2 xs ys x) {l : Nat} {z : Int} (L : Lt U l z v1 v2) (hl : ys.length ≤ 5000) :
  ∃ a n c U',(∀ ty,(Builtin.append_ #[61,61] ty #[v2,.slice (some ⟨l,0,none⟩) 1 1]).run Tryz.prog U = .ok (.slice a n c) U') ∧ Sg w0 U' b g d l1 l2 v1 (.slice a n c) xs (ys ++ [.int .i64 z]) x := by
 obtain ⟨v',U',hrun,o',k',b',a,c,rfl⟩ := app_any Tryz.underlying61 infoI rfl (by decide) U v2 ys h.o2 _ 1 [.int .i64 z] (src_one Tryz.underlying61 L.1 rfl) (fun _ => by omega) (by omega)
 have hn : ∀ y,y < U.heap.size → y ∉ blk v2 → y ∉ blk (.slice (some a) (ys.length + 1) c) := fun y hy h1 hm => by
  rcases b' y hm with e | e
  ·exact h1 e
  ·omega
 have hw := h.kp.size
 refine ⟨_,_,_,U',hrun,⟨h.kp.trans k' (fun y hy => ?_),h.hb.kept k' h.bb.2,by rw [k'.cell (block_lt_of_cell h.hg) h.gg.2]; exact h.hg,h.o1.keep k' (fun y hy h1 => h.dj y hy h1),o',h.n1,fun y hy => ?_,fun y hy h2 => ?_,⟨h.bb.1,hn b h.hb.lt h.bb.2⟩,⟨h.gg.1,hn g (block_lt_of_cell h.hg) h.gg.2⟩⟩⟩
 ·rcases h.n2 y hy with e | e
  ·exact Or.inl (List.mem_append_right _ e)
  ·exact Or.inr e
 ·rcases b' y hy with e | e
  ·exact h.n2 y e
  ·exact .inr (by omega)
 ·rcases b' y h2 with e | e
  ·exact h.dj y hy e
  ·have := h.o1.lt y hy; omega
variable {tag : Nat → Nat} {s : Py} {k : Nat}
theorem Pd.sg (h : Pd tag w0 b d l1 l2 s k) {g : Nat} (h0 : tag g = 0) (hg : w0.cell? ⟨g,1,none⟩ = some (.int .i64 x)) : Sg w0 w0 b g d l1 l2 (.slice l1.1 l1.2.1 l1.2.2) (.slice l2.1 l2.2.1 l2.2.2) (hha s.M) (hnu s.M) x :=
 ⟨Kp.refl _ _,h.hd,hg,h.o1,h.o2,fun _ hz => .inl hz,fun _ hz => .inl hz,h.dj,⟨h.b1,h.b2⟩,⟨fun hm => by have := h.t1 _ hm; omega,fun hm => by have := h.t2 _ hm; omega⟩⟩
theorem at_set {w : World} {g : Nat} {v0 v1 v2 : Value} {e : TypeId} (h : At w g #[v0,v1,v2] e) (x y : Value) : At ((w.setCell ⟨g,1,none⟩ x).setCell ⟨g,2,none⟩ y) g #[v0,x,y] e := (h.set 1 x).set 2 y
theorem Sg.fin {a1 a2 : Option Addr} {n1 n2 c1 c2 n : Nat} {j : Nat} (h : Pd tag w0 b d l1 l2 s k) (S : Sg w0 U b g d l1 l2 (.slice a1 n1 c1) (.slice a2 n2 c2) (hha s.M ++ [.int .i64 x]) (hnu s.M ++ [.int .i64 (n : Int)]) x) (f : (Py.mk s.A s.q (s.M ++ [(x,n)])).Fit j) :
  ∃ tag' m1 m2,Pd tag' ((U.setCell ⟨b,1,none⟩ (.slice a1 n1 c1)).setCell ⟨b,2,none⟩ (.slice a2 n2 c2)) b d m1 m2 ⟨s.A,s.q,s.M ++ [(x,n)]⟩ j ∧ Qv tag w0 tag' ((U.setCell ⟨b,1,none⟩ (.slice a1 n1 c1)).setCell ⟨b,2,none⟩ (.slice a2 n2 c2)) := by
 have kb : Kp [b] U ((U.setCell ⟨b,1,none⟩ (.slice a1 n1 c1)).setCell ⟨b,2,none⟩ (.slice a2 n2 c2)) := ((Kp.refl _ _).setCell (p := ⟨b,1,none⟩) (Or.inl (by simp)) _).setCell (p := ⟨b,2,none⟩) (Or.inl (by simp)) _
 have k0 : Kp (b :: bl2 l1 l2) w0 ((U.setCell ⟨b,1,none⟩ (.slice a1 n1 c1)).setCell ⟨b,2,none⟩ (.slice a2 n2 c2)) :=
  ⟨kb.os.trans S.kp.os,kb.tape.trans S.kp.tape,kb.output.trans S.kp.output,Nat.le_trans S.kp.size kb.size,fun y hy hn => (kb.block y (Nat.lt_of_lt_of_le hy S.kp.size) (fun hm => hn (by rw [List.mem_singleton.1 hm]; simp))).trans (S.kp.block y hy (fun hm => hn (List.mem_cons_of_mem _ hm)))⟩
 have h7 : ∀ y,y ∈ b :: bl2 l1 l2 → tag y = 7 := fun y hy => by
  rcases List.mem_cons.1 hy with rfl | hy
  ·exact h.tb
  ·rcases List.mem_append.1 hy with hy | hy
   ·exact h.t1 y hy
   ·exact h.t2 y hy
 have hg : ∀ y,y < w0.heap.size → (fun y => if y < w0.heap.size then tag y else 7) y = tag y := fun y hy => if_pos hy
 have t7 : ∀ y,(y < w0.heap.size → tag y = 7) → (fun y => if y < w0.heap.size then tag y else 7) y = 7 := fun y hy => by
  show (if y < w0.heap.size then tag y else 7) = 7
  split
  ·rename_i e; exact hy e
  ·rfl
 have o1 := S.o1.keep kb (fun y hy hm => by rw [List.mem_singleton.1 hm] at hy; exact S.bb.1 hy)
 have o2 := S.o2.keep kb (fun y hy hm => by rw [List.mem_singleton.1 hm] at hy; exact S.bb.2 hy)
 refine ⟨fun y => if y < w0.heap.size then tag y else 7,(a1,n1,c1),(a2,n2,c2),⟨at_set S.hb _ _,t7 b (fun _ => h.tb),?_,by rw [hha_snoc]; exact o1,fun y hy => t7 y (fun hl => ?_),by rw [hnu_snoc]; exact o2,fun y hy => t7 y (fun hl => ?_),S.dj,S.bb.1,S.bb.2,f⟩,Qv.of_kp k0 (fun y hy _ => .inr (.inr (h7 y hy))) hg⟩
 ·exact (h.dn.sm (tag' := fun y => if y < w0.heap.size then tag y else 7) (fun y hy ht => k0.block y hy (fun hm => by have := h7 y hm; omega)) hg)
 ·rcases S.n1 y hy with e | e
  ·exact h.t1 y e
  ·omega
 ·rcases S.n2 y hy with e | e
  ·exact h.t2 y e
  ·omega
end
structure Dx (tag : Nat → Nat) (w : World) (b d : Nat) (l1 l2 : Sl) (s : Py) (k g : Nat) (o : Ot) (p : Sl) : Prop where
 pp : Pd tag w b d l1 l2 s k
 bx : At w g (oc o p) 24
 t0 : tag g = 0
 rk : R0 tag w p o.al
abbrev Rn (tag : Nat → Nat) (w : World) (b d k : Nat) (s' : Py) (W : World) : Prop := ∃ tag' m1 m2,Pd tag' W b d m1 m2 s' (k + 1) ∧ Qv tag w tag' W
section
variable {tag tag' : Nat → Nat} {w w' : World} {b d k g : Nat} {l1 l2 : Sl} {s : Py} {o : Ot} {p : Sl}
theorem R0.qv {l : List Att} (h : R0 tag w p l) (v : Qv tag w tag' w') : R0 tag' w' p l := by
 refine ⟨h.len,h.cap,fun hn => ?_⟩
 obtain ⟨b,off,cur,e,hq,h1,h2,h3⟩ := h.at' hn
 have hl := lt_of h2
 exact ⟨b,off,cur,e,(v.tg b hl).trans hq,h1,by rw [v.block b hl (by rw [hq]; omega) (by rw [hq]; omega) (by rw [hq]; omega)]; exact h2,h3⟩
theorem At.qv {cur : Array Value} {e : TypeId} (h : At w g cur e) (h0 : tag g = 0) (v : Qv tag w tag' w') : At w' g cur e := by
 unfold At
 rw [v.block g h.lt (by rw [h0]; omega) (by rw [h0]; omega) (by rw [h0]; omega)]
 exact h
theorem Dx.kept (h : Dx tag w b d l1 l2 s k g o p) (kp : Kp [] w w') : Dx tag w' b d l1 l2 s k g o p := ⟨h.pp.kept kp,h.bx.kept kp (by simp),h.t0,h.rk.kept kp⟩
theorem Dx.open (h : Pd tag w b d l1 l2 s k) (hr : R0 tag w p o.al) : ∃ tag1 W1 g,w.heap.size = g ∧ Hid (w.alloc (.cells #[.int .i64 o.kd,.int .i64 o.nd,.int .i64 o.pa,.int .i64 o.rf,.int .i64 o.ty,.int .i64 o.ns,.string o.nm,.slice p.1 p.2.1 p.2.2,.string o.tt] 24) = W1) ∧ Dx tag1 W1 b d l1 l2 s k g o p ∧ Qv tag w tag1 W1 := by
 have k1 : Kp [] w (w.alloc (.cells (oc o p) 24)) := (Kp.refl _ _).alloc _
 have hg2 : ∀ x,x < w.heap.size → (fun x => if x < w.heap.size then tag x else 0) x = tag x := fun x hx => if_pos hx
 have pv : Qv tag w (fun x => if x < w.heap.size then tag x else 0) (w.alloc (.cells (oc o p) 24)) := Qv.of_kp k1 (fun x hx => by simp at hx) hg2
 exact ⟨_,_,_,rfl,rfl,⟨h.re k1 hg2,At.new _ _ _,if_neg (by omega),hr.qv pv⟩,pv⟩
theorem Dx.fin {tag1 tag2 : Nat → Nat} {W1 W2 : World} (h : Dx tag1 W1 b d l1 l2 s k g o p) (v1 : Qv tag w tag1 W1) {q : Bool} {A : Ar} (p2 : Dn tag2 W2 d q A) (m2 : Dv tag1 W1 tag2 W2) (hf : (Py.mk A q s.M).Fit (k + 1)) : Rn tag w b d k ⟨A,q,s.M⟩ W2 := ⟨tag2,l1,l2,h.pp.dv m2 p2 hf,v1.trans m2.qv⟩
theorem ni_yes {s : Py} {x : Int} (h : s.kn x = true) : ni s.M x = ((s.nz x : Nat) : Int) := by
 unfold Py.kn at h
 unfold ni Py.nz
 cases e : num s.M x with
 | none => rw [e] at h; cases h
 | some n => rfl
theorem ni_no {s : Py} {x : Int} (h : s.kn x = false) : ni s.M x = -1 := by
 unfold Py.kn at h
 unfold ni
 cases e : num s.M x with
 | none => rfl
 | some n => rw [e] at h; cases h
theorem rdo_12 (h : Pd tag w b d l1 l2 s k) (hk : k < 1300) (ho : tinyO o) (hr : R0 tag w p o.al) (hq : rightO o = false) :
  Calls Tryz.prog 31 #[.pointer (some ⟨b,0,none⟩),ov o p] w fun e w' => e = .returned (.int .i64 12) ∧ Rn tag w b d k s w' := by
 obtain ⟨tag1,W1,g,hg,HW,X,v1⟩ := Dx.open (o := o) h hr
 have hl6 := ho.al
 have hpl : p.2.1 = o.al.length := hr.rp.len
 have HR := rref_any W1 o p X.rk.rp (by omega)
 rw [hq] at HR
 have H9 : Hid (∀ W2,Kp [] W1 W2 → Rn tag w b d k s W2) := fun W2 kV => ⟨tag1,l1,l2,(X.pp.kept kV).up hk,v1.trans (Qv.of_kp0 kV)⟩
 obtain ⟨f0,f1,f2,f3,f4,f5,f6,f7,f8⟩ := nine_at X.bx
 clear h hr X v1 hq hpl
 unfold ov at HR ⊢
 go_enter Tryz.func31,Tryz.ntmps31
 go_upto_region 1 with fail
 rw [HW.out]
 clear HW
 go_wp2_with (go_at_call 48; refine HR.mono ?_; rintro e W2 ⟨rfl,k2⟩)
 go_ret
 exact ⟨rfl,H9.out _ k2⟩
theorem rdo_24 (h : Pd tag w b d l1 l2 s k) (hk : k < 1300) (ho : tinyO o) (hr : R0 tag w p o.al) (hq : rightO o = true) (hN : o.kd = 1 ∨ o.kd = 9) (hK : s.kn o.nd = true) :
  Calls Tryz.prog 31 #[.pointer (some ⟨b,0,none⟩),ov o p] w fun e w' => e = .returned (.int .i64 24) ∧ Rn tag w b d k s w' := by
 obtain ⟨tag1,W1,g,hg,HW,X,v1⟩ := Dx.open (o := o) h hr
 have hl6 := ho.al
 have hpl : p.2.1 = o.al.length := hr.rp.len
 have HR := rref_any W1 o p X.rk.rp (by omega)
 rw [hq] at HR
 have HN : Hid (∀ V,Kp [] W1 V → Calls Tryz.prog 49 #[.pointer (some ⟨b,0,none⟩),.int .i64 o.nd] V fun e w' => e = .returned (.int .i64 ((s.nz o.nd : Nat) : Int)) ∧ w' = V) := fun V kV => by
  have := node_any (X.pp.kept kV) o.nd
  rw [ni_yes hK] at this
  exact this
 have HC : Hid (∀ V,Kp [] W1 V → Nine V g 0 o p) := fun V kV => nine_at (X.bx.kept kV (by simp))
 have H9 : Hid (∀ W2,Kp [] W1 W2 → Rn tag w b d k s W2) := fun W2 kV => ⟨tag1,l1,l2,(X.pp.kept kV).up hk,v1.trans (Qv.of_kp0 kV)⟩
 obtain ⟨f0,f1,f2,f3,f4,f5,f6,f7,f8⟩ := nine_at X.bx
 have t0 : (0 : Int) ≤ ((s.nz o.nd : Nat) : Int) := by omega
 clear h hr X v1 hq hpl hK
 generalize s.nz o.nd = z at *
 unfold ov at HR ⊢
 rcases hN with hkd | hkd
 all_goals
  rw [hkd] at HW HR f0 ⊢
  go_enter Tryz.func31,Tryz.ntmps31
  go_upto_region 1 with fail
  rw [HW.out]
  clear HW
  go_wp2_with (first | (go_at_call 48; refine HR.mono ?_; rintro e W2 ⟨rfl,k2⟩; obtain ⟨f0,f1,f2,f3,f4,f5,f6,f7,f8⟩ := HC.out _ k2; rw [hkd] at f0) | (go_at_call 49; refine same_of (HN.out _ k2) ?_))
  go_ret
  exact ⟨rfl,H9.out _ k2⟩
end
end Go.Proofs.YtpkppobkagdhkaaGreat
namespace Go.Proofs.YtpkppobkagdhkaaGreat
open Go.RowKit Utf
def os16 : List Oq → List Ot
 | [] => []
 | q :: l => q.1 :: os16 l
theorem os_append : ∀ l m,os16 (l ++ m) = os16 l ++ os16 m
 | [],m => rfl
 | a :: l,m => by simp only [List.cons_append,os16,os_append l m]
theorem os_len : ∀ l,(os16 l).length = l.length
 | [] => rfl
 | a :: l => by simp [os16,os_len l]
def okO (o : Ot) : Bool := rightO o && fitB o
theorem take_q {l : List Oq} {k : Nat} (h : k < l.length) : l.take (k + 1) = l.take k ++ [l[k]] := by
 rw [List.take_succ_eq_append_getElem h]
theorem obs_at {l : List Oq} {k : Nat} (h : k < l.length) : obs (os16 (l.take (k + 1))) = obs (os16 (l.take k)) ++ ob l[k].1 := by
 rw [take_q h,os_append,obs_append]
 simp [os16,obs]
theorem obs_take_le (l : List Oq) (k : Nat) : (obs (os16 (l.take k))).length ≤ (obs (os16 l)).length := by
 have : obs (os16 l) = obs (os16 (l.take k)) ++ obs (os16 (l.drop k)) := by rw [← obs_append,← os_append,List.take_append_drop]
 rw [this,List.length_append]
 omega
def Mb (w w' : World) (v : Value) (xs : List Int) : Prop := OwnB w' v (b8 xs) ∧ Kp [] w w' ∧ ∀ k,k ∈ blk v → w.heap.size ≤ k
theorem Mb.kept {w w1 w2 : World} {v : Value} {xs : List Int} (h : Mb w w1 v xs) (k : Kp [] w1 w2) : Mb w w2 v xs := ⟨h.1.keep k (fun _ _ => by simp),h.2.1.trans k (fun x hx => by simp at hx),h.2.2⟩
theorem Mb.ext {w w1 w2 : World} {v v' : Value} {xs ys : List Int} (h : Mb w w1 v xs) (g : Ext w1 w2 v v' ys) : Mb w w2 v' ys :=
 ⟨g.1,h.2.1.trans g.2.1 (fun x hx => Or.inr (h.2.2 x hx)),fun k hk => by
  rcases g.2.2 k hk with h1 | h1
  ·exact h.2.2 k h1
  ·exact Nat.le_trans h.2.1.size h1⟩
theorem Mb.shape {w w' : World} {v : Value} {xs : List Int} (h : Mb w w' v xs) : ∃ ao c,v = .slice ao xs.length c := (Ext.refl h.1).shape
theorem OwnB.rb {w : World} {ao : Option Addr} {n c : Nat} {xs : List Value} (h : OwnB w (.slice ao n c) xs) : Rb w ao n c xs := by
 rcases h with ⟨h1,rfl⟩ | ⟨g,cap,cur,hv,hg,h1,h2,h3,h4⟩
 ·simp only [Value.slice.injEq] at h1
  obtain ⟨rfl,rfl,rfl⟩ := h1
  exact ⟨rfl,Nat.le_refl _,fun j hj => by omega⟩
 ·simp only [Value.slice.injEq] at hv
  obtain ⟨rfl,rfl,rfl⟩ := hv
  exact ⟨rfl,h1,fun j hj => ⟨g,0,rfl,by rw [Nat.zero_add,cell_of hg,h4 j hj]⟩⟩
structure Given (w : World) (ao : Option Addr) (n c : Nat) (L : List Oq) : Prop where
 rq : Rq w ao n c L
 at' : ∀ q,q ∈ L → Ap w q ∧ q.2.2.1 ≤ 100000
 few : n ≤ 100000
structure Cop (w W : World) (b : Nat) (x : Oq) : Prop where
 nine : Nine W b 0 x.1 x.2
 at' : Ap W x
 few : x.2.2.1 ≤ 100000
 kp : Kp [] w W
theorem Cop.kept {w W W' : World} {b : Nat} {x : Oq} (h : Cop w W b x) (k : Kp [] W W') : Cop w W' b x :=
 ⟨h.nine.kept k (by simp),h.at'.kept k,h.few,h.kp.trans k (fun z hz => Or.inl hz)⟩
theorem cop_new {w wr : World} {x : Oq} (k : Kp [] w wr) (ha : Ap w x ∧ x.2.2.1 ≤ 100000) : Cop w (wr.alloc (.cells (oc x.1 x.2) 24)) wr.heap.size x :=
 ⟨nine_of (heap_new wr _),(ha.1.kept k).kept ((Kp.refl _ _).alloc _),ha.2,k.alloc _⟩
set_option maxHeartbeats 2000000 in
theorem encode_ok (w : World) (ao : Option Addr) (n c : Nat) (L : List Oq) (h : Given w ao n c L) (hok : ∀ q,q ∈ L → okO q.1 = true) (hlen : (obs (os16 L)).length ≤ 800000) :
  Calls Tryz.prog 20 #[.slice ao n c] w fun e w' => ∃ a' n' c',e = .returned (.tuple #[.slice a' n' c',.int .i64 0]) ∧ Mb w w' (.slice a' n' c') (obs (os16 L)) := by
 have hn := h.rq.len
 subst hn
 have HG : Hid (Given w ao L.length c L) := h
 have HO : Hid (∀ q,q ∈ L → okO q.1 = true) := hok
 have hfew := h.few
 clear h hok
 go_enter Tryz.func20,Tryz.ntmps20
 go_wp2
 go_loopw [11] (fun i wr => ∃ k : Nat,k ≤ L.length ∧ i = .int .i64 k ∧ Kp [] w wr) (fun i _ => L.length - (intOf i).toNat)
 case atStart => exact ⟨0,Nat.zero_le _,rfl,Kp.refl _ _⟩
 case round =>
  obtain ⟨k,hk,rfl,kw⟩ := hrel
  by_cases hlt : k < L.length
  ·obtain ⟨b,off,rfl,N⟩ := (HG.out.rq.kept kw).get k hlt
   have C0 := cop_new kw (HG.out.at' L[k] (List.getElem_mem hlt))
   have hz := HO.out L[k] (List.getElem_mem hlt)
   clear HG HO
   generalize L[k] = x at N C0 hz
   obtain ⟨⟨o1,o2,o3,o4,o5,o6,o7,o8,o9⟩,p1,p2,p3⟩ := x
   unfold okO at hz
   rw [Bool.and_eq_true] at hz
   obtain ⟨z1,z2⟩ := hz
   obtain ⟨f0,f1,f2,f3,f4,f5,f6,f7,f8⟩ := N
   have C1 : Hid (Cop w (wr.alloc (.cells (oc ⟨o1,o2,o3,o4,o5,o6,o7,o8,o9⟩ (p1,p2,p3)) 24)) wr.heap.size (⟨o1,o2,o3,o4,o5,o6,o7,o8,o9⟩,p1,p2,p3)) := C0
   clear C0
   simp only [oc] at f0 f1 f2 f3 f4 f5 f6 f7 f8 C1
   have HR := right_any _ _ _ C1.out.at' C1.out.few
   simp only [ov] at HR z1 z2
   rw [z1] at HR
   go_wp2_with fail
   refine HR.mono ?_
   rintro e w1 ⟨rfl,k1⟩
   have C2 : Hid (Cop w w1 wr.heap.size (⟨o1,o2,o3,o4,o5,o6,o7,o8,o9⟩,p1,p2,p3)) := C1.out.kept k1
   clear HR C1 f0 f1 f2 f3 f4 f5 f6 f7 f8 k1
   obtain ⟨f0,f1,f2,f3,f4,f5,f6,f7,f8⟩ := C2.out.nine
   simp only [Nat.zero_add] at f0 f1 f2 f3 f4 f5 f6 f7 f8
   have HF := fits_any _ _ _ C2.out.at' C2.out.few
   simp only [ov] at HF
   rw [z2] at HF
   go_wp2_with fail
   refine HF.mono ?_
   rintro e w2 ⟨rfl,k2⟩
   have kz : Kp [] w w2 := C2.out.kp.trans k2 (fun z hz => Or.inl hz)
   clear HF C2 k2 f0 f1 f2 f3 f4 f5 f6 f7 f8
   go_wp2
   go_roundw
   case rel => exact ⟨k + 1,by omega,by go_num,kz⟩
   case measure => simp [intOf]; omega
  ·obtain rfl : k = L.length := by omega
   clear hlt hk
   go_wp2
   obtain ⟨wr0,hwr0⟩ : ∃ x,x = wr := ⟨_,rfl⟩
   rw [← hwr0] at kw ⊢
   clear hwr0
   go_loopw [6,26] (fun bv i wr => ∃ (k : Nat) (a' : Option Addr) (n' c' : Nat),k ≤ L.length ∧ i = .int .i64 k ∧ bv = .slice a' n' c' ∧ Mb w wr (.slice a' n' c') (obs (os16 (L.take k)))) (fun _ i _ => L.length - (intOf i).toNat)
   case atStart => exact ⟨0,none,0,0,Nat.zero_le _,rfl,rfl,Or.inl ⟨rfl,rfl⟩,kw,fun k hk => by simp [blk] at hk⟩
   case round =>
    obtain ⟨k,a',n',c',hk,rfl,rfl,M⟩ := hrel
    clear kw
    by_cases hlt : k < L.length
    ·obtain ⟨b,off,rfl,N⟩ := (HG.out.rq.kept M.2.1).get k hlt
     have hz := HO.out L[k] (List.getElem_mem hlt)
     have hat := HG.out.at' L[k] (List.getElem_mem hlt)
     have hnx : Hid (obs (os16 (L.take k)) ++ ob L[k].1 = obs (os16 (L.take (k + 1)))) := (obs_at hlt).symm
     have hl1 : (obs (os16 (L.take k))).length + (ob L[k].1).length ≤ 800000 := by
      have e1 := obs_at hlt
      have e2 := obs_take_le L (k + 1)
      rw [e1,List.length_append] at e2
      omega
     clear HG HO
     generalize L[k] = x at N hz hat hnx hl1
     generalize obs (os16 (L.take k)) = ys at M hnx hl1
     obtain ⟨⟨o1,o2,o3,o4,o5,o6,o7,o8,o9⟩,p1,p2,p3⟩ := x
     unfold okO at hz
     rw [Bool.and_eq_true] at hz
     obtain ⟨z1,z2⟩ := hz
     simp only at z1 z2 hl1
     obtain ⟨f0,f1,f2,f3,f4,f5,f6,f7,f8⟩ := N
     have M1 : Mb w (wr.alloc (.cells (oc ⟨o1,o2,o3,o4,o5,o6,o7,o8,o9⟩ (p1,p2,p3)) 24)) (.slice a' n' c') ys := M.kept ((Kp.refl _ _).alloc _)
     have HP := putop_any _ _ ys M1.1 ⟨o1,o2,o3,o4,o5,o6,o7,o8,o9⟩ (p1,p2,p3) (fun W kW => hat.1.kept (M1.2.1.trans kW (fun x hx => Or.inr (M1.2.2 x hx)))) z1 (fitB_iff.1 z2) (by omega)
     have HM : Hid (Mb w (wr.alloc (.cells (oc ⟨o1,o2,o3,o4,o5,o6,o7,o8,o9⟩ (p1,p2,p3)) 24)) (.slice a' n' c') ys) := M1
     clear M M1 hat z1 z2
     simp only [oc,ov] at HP HM f0 f1 f2 f3 f4 f5 f6 f7 f8
     go_wp2_with fail
     refine HP.mono ?_
     rintro e w1 ⟨v1,rfl,Y⟩
     have M2 := HM.out.ext Y
     clear Y HP HM f0 f1 f2 f3 f4 f5 f6 f7 f8
     obtain ⟨a2,c2,hv⟩ := M2.shape
     subst hv
     have hnx2 := hnx.out
     generalize hm2 : (ys ++ ob ⟨o1,o2,o3,o4,o5,o6,o7,o8,o9⟩).length = m2 at M2 ⊢
     rw [hnx2] at M2
     have HM2 : Hid (Mb w w1 (.slice a2 m2 c2) (obs (os16 (L.take (k + 1))))) := M2
     clear M2 hnx hnx2 hl1 hm2
     go_wp2
     go_roundw
     case rel => exact ⟨k + 1,_,_,_,by omega,by go_num,rfl,HM2.out⟩
     case measure => simp [intOf]; omega
    ·obtain rfl : k = L.length := by omega
     rw [List.take_length] at M
     have HM : Hid (Mb w wr (.slice a' n' c') (obs (os16 L))) := M
     clear M
     go_wp2
     go_ret2
     exact ⟨_,_,_,rfl,HM.out⟩
theorem ok_parts {o : Ot} (h : okO o = true) : rightO o = true ∧ fitO o := by
 unfold okO at h
 rw [Bool.and_eq_true] at h
 exact ⟨h.1,fitB_iff.1 h.2⟩
theorem rdO_ok {o : Ot} (h : okO o = true) (r : List Int) : rdO (ob o ++ r,false) = o ∧ s9 (ob o ++ r,false) = (r,false) := by
 obtain ⟨h1,h2⟩ := ok_parts h
 obtain ⟨a1,a2,a3,a4,a5,a6⟩ := right_range h1
 exact rdO_yes (by omega) (by omega) (by omega) (by omega) (by omega) (by omega) h2 r
theorem ob_ne (o : Ot) : ob o ≠ [] := fun e => by
 have := ob_len o
 rw [e] at this
 simp at this
 omega
theorem obs_pre : ∀ (l m : List Ot) (r : List Int),(∀ o,o ∈ l → okO o = true) → (∀ o,o ∈ m → okO o = true) → obs l ++ r = obs m → ∃ m',m = l ++ m' ∧ r = obs m'
 | [],m,r,_,_,h => ⟨m,rfl,h⟩
 | o :: l,[],r,_,_,h => by
   simp only [obs,List.append_assoc] at h
   exact absurd (List.append_eq_nil_iff.1 h).1 (ob_ne o)
 | o :: l,o2 :: m,r,h1,h2,h => by
   simp only [obs,List.append_assoc] at h
   obtain ⟨e1,e2⟩ := rdO_ok (h1 o (by simp)) (obs l ++ r)
   obtain ⟨e3,e4⟩ := rdO_ok (h2 o2 (by simp)) (obs m)
   rw [h,e3] at e1
   rw [h,e4] at e2
   subst e1
   obtain ⟨m',e5,e6⟩ := obs_pre l m r (fun x hx => h1 x (by simp [hx])) (fun x hx => h2 x (by simp [hx])) (congrArg Prod.fst e2).symm
   exact ⟨m',by rw [e5]; rfl,e6⟩
theorem obs_inj {l m : List Ot} (h1 : ∀ o,o ∈ l → okO o = true) (h2 : ∀ o,o ∈ m → okO o = true) (h : obs l = obs m) : l = m := by
 obtain ⟨m',e1,e2⟩ := obs_pre l m [] h1 h2 (by rw [List.append_nil]; exact h)
 cases m' with
 | nil => rw [e1,List.append_nil]
 | cons o m' =>
   simp only [obs] at e2
   exact absurd (List.append_eq_nil_iff.1 e2.symm).1 (ob_ne o)
theorem no_more {l : List Ot} {st : St} {xs : List Int} (h : xs = obs l ++ st.1) (hl : ∀ o,o ∈ l → okO o = true) (h2 : st.2 = false) (hne : st.1 ≠ []) (hbad : (s9 st).2 = true ∨ rightO (rdO st) = false) (m : List Ot) (hm : ∀ o,o ∈ m → okO o = true) : xs ≠ obs m := by
 intro e
 obtain ⟨m',e1,e2⟩ := obs_pre l m st.1 hl hm (by rw [← h]; exact e)
 cases m' with
 | nil => exact hne e2
 | cons o m' =>
   have ho := hm o (by rw [e1]; simp)
   obtain ⟨a,b⟩ := st
   simp only at h2 e2
   subst h2
   simp only [obs] at e2
   subst e2
   obtain ⟨e3,e4⟩ := rdO_ok ho (obs m')
   rcases hbad with hb | hb
   ·rw [e4] at hb
    cases hb
   ·rw [e3,(ok_parts ho).1] at hb
    cases hb
structure Dl (W0 wr : World) (b : Nat) (ao : Option Addr) (n c : Nat) (L : List Oq) : Prop where
 ow : OwnK 9 wr 24 (.slice ao n c) n (qs L)
 nw : ∀ k,k ∈ blk (.slice ao n c) → W0.heap.size ≤ k
 ar : ∀ p,p ∈ L → Ao wr p ∧ ∀ k,k ∈ blk (.slice p.2.1 p.2.2.1 p.2.2.2) → W0.heap.size ≤ k
 kp : Kp [b] W0 wr
theorem Dl.len {W0 wr : World} {b : Nat} {ao : Option Addr} {n c : Nat} {L : List Oq} (h : Dl W0 wr b ao n c L) : n = L.length := by
 have := h.ow.1
 rw [qs_len] at this
 omega
theorem Dl.call {W0 wr w1 : World} {b : Nat} {ao : Option Addr} {n c : Nat} {L : List Oq} (h : Dl W0 wr b ao n c L) (hb : b < W0.heap.size) (k : Kp [b] wr w1) : Dl W0 w1 b ao n c L :=
 ⟨h.ow.keep k (fun x hx hs => by have := h.nw x hx; simp at hs; omega),h.nw,fun p hp => ⟨(h.ar p hp).1.keep k (fun x hx hs => by have := (h.ar p hp).2 x hx; simp at hs; omega),(h.ar p hp).2⟩,kp_one h.kp k⟩
theorem Dl.one {W0 w1 : World} {b : Nat} {ao : Option Addr} {n c : Nat} {L : List Oq} (h : Dl W0 w1 b ao n c L) (hb : b < W0.heap.size) (p : Oq) (hp : Ao w1 p) (hpn : ∀ k,k ∈ blk (.slice p.2.1 p.2.2.1 p.2.2.2) → W0.heap.size ≤ k) (hlen : n + 1 ≤ 1000000) :
  ∃ ao' n' c' w2,(∀ ty,(Builtin.append_ #[25,25] ty #[.slice ao n c,.slice (some ⟨w1.heap.size,0,none⟩) 1 1]).run Tryz.prog (w1.alloc (.cells (oc p.1 p.2) 24)) = .ok (.slice ao' n' c') w2) ∧ Dl W0 w2 b ao' n' c' (L ++ [p]) ∧ ∀ x,x < W0.heap.size → w2.heap[x]? = w1.heap[x]? := by
 have k1 : Kp [b] w1 (w1.alloc (.cells (oc p.1 p.2) 24)) := (Kp.refl _ _).alloc _
 have hs := src_op (p := p) (heap_new w1 _)
 have hp' := hp.keep ((Kp.refl [] w1).alloc (.cells (oc p.1 p.2) 24)) (fun _ _ => by simp)
 have h' := h.call hb k1
 have hsz := h.kp.size
 obtain ⟨v',w2,hrun,o2,k2,b2,a2,c2,rfl⟩ := appK Tryz.underlying25 infoOp rfl (by decide) _ _ _ _ h'.ow _ 1 (qs [p]) hs (fun _ => by omega) hlen
 refine ⟨_,_,_,w2,hrun,⟨by rw [qs_append]; exact o2,fun k hk => ?_,fun r hr => ?_,h'.kp.trans k2 (fun x hx => Or.inr (h'.nw x hx))⟩,fun x hx => ?_⟩
 ·rcases b2 k hk with h4 | h4
  ·exact h.nw k h4
  ·have : (w1.alloc (.cells (oc p.1 p.2) 24)).heap.size = w1.heap.size + 1 := by simp
   omega
 ·rcases List.mem_append.1 hr with hx | hx
  ·exact ⟨(h'.ar r hx).1.keep k2 ((h'.ar r hx).1.apart h'.ow),(h'.ar r hx).2⟩
  ·obtain rfl := List.mem_singleton.1 hx
   exact ⟨hp'.keep k2 (hp'.apart h'.ow),hpn⟩
 ·rw [k2.block x (by simp; omega) (fun hz => by have := h'.nw x hz; omega),Below.heap_alloc _ _ _ (by omega)]
theorem Dl.mq {w wr : World} {c0 : Array Value} {e0 : TypeId} {ao : Option Addr} {n c : Nat} {L : List Oq} (h : Dl (w.alloc (.cells c0 e0)) wr w.heap.size ao n c L) : Mq w wr ao n c L := by
 have hs : (w.alloc (.cells c0 e0)).heap.size = w.heap.size + 1 := by simp
 exact ⟨h.ow,((Kp.refl [] w).alloc _).trans h.kp (fun x hx => Or.inr (by simp at hx; omega)),fun k hk => by have := h.nw k hk; omega,fun p hp => (h.ar p hp).1⟩
end Go.Proofs.YtpkppobkagdhkaaGreat
