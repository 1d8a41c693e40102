/-
 Pld Plo Mdp.
-/
import Derived.Test.YtpkppobkagdhkaaGreatB26
import Derived.Test.YtpkppobkagdhkaaGreatB28
set_option linter.unusedVariables false
set_option linter.unusedSimpArgs false
set_option maxRecDepth 100000
set_option maxHeartbeats 1000000
namespace Go.Proofs.YtpkppobkagdhkaaGreat
open Go.RowKit Go.Maps Utf
abbrev R0 (tag : Nat → Nat) (w : World) (p : Sl) (l : List Att) : Prop := Rk (fun x => tag x = 0) 2 w p.1 p.2.1 p.2.2 (cs l)
structure Px (tag : Nat → Nat) (w : World) (b a m : Nat) (s : Py) (k g : Nat) (o : Ot) (p : Sl) : Prop where
 pp : Pp tag w b a m s k
 bx : At w g (oc o p) 24
 t0 : tag g = 0
 rk : R0 tag w p o.al
section
variable {tag tag' : Nat → Nat} {w w' : World} {b a m k g : Nat} {s : Py} {o : Ot} {p : Sl}
theorem R0.pv {l : List Att} (h : R0 tag w p l) (v : Pv tag w tag' w') : R0 tag' w' p l := by
 refine ⟨h.len,h.cap,fun hn => ?_⟩
 obtain ⟨b,off,cur,e,hq,h1,h2,h3⟩ := h.at' hn
 have hl := lt_of h2
 exact ⟨b,off,cur,e,(v.tg b hl).trans hq,h1,by rw [v.block b hl (by rw [hq]; unfold isP; omega) (by rw [hq]; omega)]; exact h2,h3⟩
theorem At.pv {cur : Array Value} {e : TypeId} (h : At w g cur e) (h0 : tag g = 0) (v : Pv tag w tag' w') : At w' g cur e := by
 unfold At
 rw [v.block g h.lt (by rw [h0]; unfold isP; omega) (by rw [h0]; omega)]
 exact h
theorem Px.kept (h : Px tag w b a m s k g o p) (kp : Kp [] w w') : Px tag w' b a m s k g o p := ⟨h.pp.kept kp,h.bx.kept kp (by simp),h.t0,h.rk.kept kp⟩
theorem Px.open (h : Pp tag w b a m s k) (hr : R0 tag w p o.al) : ∃ tag1 W1 g,w.heap.size = g ∧ Hid (w.alloc (.cells #[.int .i64 o.kd,.int .i64 o.nd,.int .i64 o.pa,.int .i64 o.rf,.int .i64 o.ty,.int .i64 o.ns,.string o.nm,.slice p.1 p.2.1 p.2.2,.string o.tt] 24) = W1) ∧ Px tag1 W1 b a m s k g o p ∧ Pv tag w tag1 W1 := by
 have k1 : Kp [] w (w.alloc (.cells (oc o p) 24)) := (Kp.refl _ _).alloc _
 have hg2 : ∀ x,x < w.heap.size → (fun x => if x < w.heap.size then tag x else 0) x = tag x := fun x hx => if_pos hx
 have pv : Pv tag w (fun x => if x < w.heap.size then tag x else 0) (w.alloc (.cells (oc o p) 24)) := Pv.of_kp k1 (fun x hx => by simp at hx) hg2
 exact ⟨_,_,_,rfl,rfl,⟨h.re k1 hg2,At.new _ _ _,if_neg (by omega),hr.pv pv⟩,pv⟩
theorem Px.fin {tag1 tag2 : Nat → Nat} {W1 W2 : World} (h : Px tag1 W1 b a m s k g o p) (pv1 : Pv tag w tag1 W1) {q : Bool} {A : Ar} {j : Nat} (hk : k < 1300) (hj : j ≤ k + 1) (p2 : Ps tag2 W2 a q A j) (m2 : Mv tag1 W1 tag2 W2) (hf : (Py.mk A q s.M).Fit (k + 1)) :
  ∃ tag',Pp tag' W2 b a m ⟨A,q,s.M⟩ (k + 1) ∧ Pv tag w tag' W2 := ⟨tag2,h.pp.mv m2 (p2.up' hj (by omega)) hf,pv1.trans m2.pv⟩
theorem per_2 (h : Pp tag w b a m s k) (hk : k < 1300) (hkd : o.kd = 2) (ho : tinyO o) (hr : R0 tag w p o.al) (n pa r : Nat) (hrn : r < s.A.n) (hx : wf64 o.nd) :
  Calls Tryz.prog 39 #[.pointer (some ⟨b,0,none⟩),ov o p,.int .i64 (n : Int),.int .i64 (pa : Int),.int .i64 (r : Int)] w fun e w' => e = .returned (.int .i64 (s.perF o n pa r).2) ∧ ∃ tag',Pp tag' w' b a m (s.perF o n pa r).1 (k + 1) ∧ Pv tag w tag' w' := by
 obtain ⟨tag1,W1,g,hg,HW,X,pv1⟩ := Px.open (o := o) h hr
 have hf := h.fit.perF hk ho n pa r
 have eP : s.perF o n pa r = s.upd (s.A.appF pa n) := by unfold Py.perF; rw [if_neg (by rw [hkd]; decide),if_pos hkd]
 rw [eP] at hf ⊢
 obtain ⟨c0,_⟩ := X.pp.head
 have hu := nine_at X.bx
 have HC := X.pp.ps.app (pa : Int) (n : Int)
 have H9 : Hid (∀ W2 q A,Ps tag1 W2 a q A k → Mv tag1 W1 tag1 W2 → (Py.mk A q s.M).Fit (k + 1) → ∃ tag',Pp tag' W2 b a m ⟨A,q,s.M⟩ (k + 1) ∧ Pv tag w tag' W2) := fun W2 q A p2 m2 f => X.fin pv1 hk (Nat.le_succ _) p2 m2 f
 obtain ⟨f0,_⟩ := hu
 rw [hkd] at f0
 clear h hr X pv1 eP
 unfold ov
 rw [hkd] at HW ⊢
 go_enter Tryz.func39,Tryz.ntmps39
 go_upto_region 1 with fail
 rw [HW.out]
 clear HW
 go_wp2_with (go_at_call 68; refine HC.mono ?_; rintro e W2 ⟨rfl,p2,m2⟩)
 go_ret
 exact ⟨rfl,H9.out _ _ _ p2 m2 hf⟩
theorem per_3 (h : Pp tag w b a m s k) (hk : k < 1300) (hkd : o.kd = 3) (ho : tinyO o) (hr : R0 tag w p o.al) (n pa r : Nat) (hrn : r < s.A.n) (hx : wf64 o.nd) :
  Calls Tryz.prog 39 #[.pointer (some ⟨b,0,none⟩),ov o p,.int .i64 (n : Int),.int .i64 (pa : Int),.int .i64 (r : Int)] w fun e w' => e = .returned (.int .i64 (s.perF o n pa r).2) ∧ ∃ tag',Pp tag' w' b a m (s.perF o n pa r).1 (k + 1) ∧ Pv tag w tag' w' := by
 obtain ⟨tag1,W1,g,hg,HW,X,pv1⟩ := Px.open (o := o) h hr
 have hf := h.fit.perF hk ho n pa r
 have eP : s.perF o n pa r = s.upd (s.A.befF r n) := by unfold Py.perF; rw [if_neg (by rw [hkd]; decide),if_neg (by rw [hkd]; decide),if_pos hkd]
 rw [eP] at hf ⊢
 obtain ⟨c0,_⟩ := X.pp.head
 have hu := nine_at X.bx
 have HC := X.pp.ps.bef (r : Int) (n : Int)
 have H9 : Hid (∀ W2 q A,Ps tag1 W2 a q A k → Mv tag1 W1 tag1 W2 → (Py.mk A q s.M).Fit (k + 1) → ∃ tag',Pp tag' W2 b a m ⟨A,q,s.M⟩ (k + 1) ∧ Pv tag w tag' W2) := fun W2 q A p2 m2 f => X.fin pv1 hk (Nat.le_succ _) p2 m2 f
 obtain ⟨f0,_⟩ := hu
 rw [hkd] at f0
 clear h hr X pv1 eP
 unfold ov
 rw [hkd] at HW ⊢
 go_enter Tryz.func39,Tryz.ntmps39
 go_upto_region 1 with fail
 rw [HW.out]
 clear HW
 go_wp2_with (go_at_call 69; refine HC.mono ?_; rintro e W2 ⟨rfl,p2,m2⟩)
 go_ret
 exact ⟨rfl,H9.out _ _ _ p2 m2 hf⟩
theorem per_7 (h : Pp tag w b a m s k) (hk : k < 1300) (hkd : o.kd = 7) (ho : tinyO o) (hr : R0 tag w p o.al) (n pa r : Nat) (hrn : r < s.A.n) (hx : wf64 o.nd) :
  Calls Tryz.prog 39 #[.pointer (some ⟨b,0,none⟩),ov o p,.int .i64 (n : Int),.int .i64 (pa : Int),.int .i64 (r : Int)] w fun e w' => e = .returned (.int .i64 (s.perF o n pa r).2) ∧ ∃ tag',Pp tag' w' b a m (s.perF o n pa r).1 (k + 1) ∧ Pv tag w tag' w' := by
 obtain ⟨tag1,W1,g,hg,HW,X,pv1⟩ := Px.open (o := o) h hr
 have hf := h.fit.perF hk ho n pa r
 have eP : s.perF o n pa r = s.upd (s.A.detF n) := by unfold Py.perF; rw [if_neg (by rw [hkd]; decide),if_neg (by rw [hkd]; decide),if_neg (by rw [hkd]; decide),if_neg (by rw [hkd]; decide),if_neg (by rw [hkd]; decide),if_neg (by rw [hkd]; decide),if_pos hkd]
 rw [eP] at hf ⊢
 obtain ⟨c0,_⟩ := X.pp.head
 have hu := nine_at X.bx
 have HC := X.pp.ps.det (n : Int)
 have H9 : Hid (∀ W2 q A,Ps tag1 W2 a q A k → Mv tag1 W1 tag1 W2 → (Py.mk A q s.M).Fit (k + 1) → ∃ tag',Pp tag' W2 b a m ⟨A,q,s.M⟩ (k + 1) ∧ Pv tag w tag' W2) := fun W2 q A p2 m2 f => X.fin pv1 hk (Nat.le_succ _) p2 m2 f
 obtain ⟨f0,_⟩ := hu
 rw [hkd] at f0
 clear h hr X pv1 eP
 unfold ov
 rw [hkd] at HW ⊢
 go_enter Tryz.func39,Tryz.ntmps39
 go_upto_region 1 with fail
 rw [HW.out]
 clear HW
 go_wp2_with (go_at_call 73; refine HC.mono ?_; rintro e W2 ⟨rfl,p2,m2⟩)
 go_ret
 exact ⟨rfl,H9.out _ _ _ p2 m2 hf⟩
theorem per_8 (h : Pp tag w b a m s k) (hk : k < 1300) (hkd : o.kd = 8) (ho : tinyO o) (hr : R0 tag w p o.al) (n pa r : Nat) (hrn : r < s.A.n) (hx : wf64 o.nd) :
  Calls Tryz.prog 39 #[.pointer (some ⟨b,0,none⟩),ov o p,.int .i64 (n : Int),.int .i64 (pa : Int),.int .i64 (r : Int)] w fun e w' => e = .returned (.int .i64 (s.perF o n pa r).2) ∧ ∃ tag',Pp tag' w' b a m (s.perF o n pa r).1 (k + 1) ∧ Pv tag w tag' w' := by
 obtain ⟨tag1,W1,g,hg,HW,X,pv1⟩ := Px.open (o := o) h hr
 have hf := h.fit.perF hk ho n pa r
 have eP : s.perF o n pa r = s.upd (s.A.movF r pa) := by unfold Py.perF; rw [if_neg (by rw [hkd]; decide),if_neg (by rw [hkd]; decide),if_neg (by rw [hkd]; decide),if_neg (by rw [hkd]; decide),if_neg (by rw [hkd]; decide),if_neg (by rw [hkd]; decide),if_neg (by rw [hkd]; decide),if_pos hkd]
 rw [eP] at hf ⊢
 obtain ⟨c0,_⟩ := X.pp.head
 have hu := nine_at X.bx
 have HC := X.pp.ps.mov (r : Int) (pa : Int)
 have H9 : Hid (∀ W2 q A,Ps tag1 W2 a q A k → Mv tag1 W1 tag1 W2 → (Py.mk A q s.M).Fit (k + 1) → ∃ tag',Pp tag' W2 b a m ⟨A,q,s.M⟩ (k + 1) ∧ Pv tag w tag' W2) := fun W2 q A p2 m2 f => X.fin pv1 hk (Nat.le_succ _) p2 m2 f
 obtain ⟨f0,_⟩ := hu
 rw [hkd] at f0
 clear h hr X pv1 eP
 unfold ov
 rw [hkd] at HW ⊢
 go_enter Tryz.func39,Tryz.ntmps39
 go_upto_region 1 with fail
 rw [HW.out]
 clear HW
 go_wp2_with (go_at_call 74; refine HC.mono ?_; rintro e W2 ⟨rfl,p2,m2⟩)
 go_ret
 exact ⟨rfl,H9.out _ _ _ p2 m2 hf⟩
theorem per_11 (h : Pp tag w b a m s k) (hk : k < 1300) (hkd : o.kd = 11) (ho : tinyO o) (hr : R0 tag w p o.al) (n pa r : Nat) (hrn : r < s.A.n) (hx : wf64 o.nd) :
  Calls Tryz.prog 39 #[.pointer (some ⟨b,0,none⟩),ov o p,.int .i64 (n : Int),.int .i64 (pa : Int),.int .i64 (r : Int)] w fun e w' => e = .returned (.int .i64 (s.perF o n pa r).2) ∧ ∃ tag',Pp tag' w' b a m (s.perF o n pa r).1 (k + 1) ∧ Pv tag w tag' w' := by
 obtain ⟨tag1,W1,g,hg,HW,X,pv1⟩ := Px.open (o := o) h hr
 have hf := h.fit.perF hk ho n pa r
 have eP : s.perF o n pa r = (⟨s.A,true,s.M⟩,0) := by unfold Py.perF; rw [if_neg (by rw [hkd]; decide),if_neg (by rw [hkd]; decide),if_neg (by rw [hkd]; decide),if_neg (by rw [hkd]; decide),if_neg (by rw [hkd]; decide),if_neg (by rw [hkd]; decide),if_neg (by rw [hkd]; decide),if_neg (by rw [hkd]; decide),if_neg (by rw [hkd]; decide),if_neg (by rw [hkd]; decide),if_pos hkd]
 rw [eP] at hf ⊢
 obtain ⟨c0,_⟩ := X.pp.head
 have hu := nine_at X.bx
 have HC := X.pp.ps.quirks true
 have H9 : Hid (∀ W2 q A,Ps tag1 W2 a q A k → Mv tag1 W1 tag1 W2 → (Py.mk A q s.M).Fit (k + 1) → ∃ tag',Pp tag' W2 b a m ⟨A,q,s.M⟩ (k + 1) ∧ Pv tag w tag' W2) := fun W2 q A p2 m2 f => X.fin pv1 hk (Nat.le_succ _) p2 m2 f
 obtain ⟨f0,_⟩ := hu
 rw [hkd] at f0
 clear h hr X pv1 eP
 unfold ov
 rw [hkd] at HW ⊢
 go_enter Tryz.func39,Tryz.ntmps39
 go_upto_region 1 with fail
 rw [HW.out]
 clear HW
 go_wp2_with (go_at_call 77; refine HC.mono ?_; rintro e W2 ⟨rfl,p2,m2⟩)
 go_ret
 exact ⟨rfl,H9.out _ _ _ p2 m2 hf⟩
theorem per_4 (h : Pp tag w b a m s k) (hk : k < 1300) (hkd : o.kd = 4) (ho : tinyO o) (hr : R0 tag w p o.al) (n pa r : Nat) (hrn : r < s.A.n) (hx : wf64 o.nd) :
  Calls Tryz.prog 39 #[.pointer (some ⟨b,0,none⟩),ov o p,.int .i64 (n : Int),.int .i64 (pa : Int),.int .i64 (r : Int)] w fun e w' => e = .returned (.int .i64 (s.perF o n pa r).2) ∧ ∃ tag',Pp tag' w' b a m (s.perF o n pa r).1 (k + 1) ∧ Pv tag w tag' w' := by
 obtain ⟨tag1,W1,g,hg,HW,X,pv1⟩ := Px.open (o := o) h hr
 have hf := h.fit.perF hk ho n pa r
 have eP : s.perF o n pa r = s.fosF r pa n := by unfold Py.perF; rw [if_neg (by rw [hkd]; decide),if_neg (by rw [hkd]; decide),if_neg (by rw [hkd]; decide),if_pos hkd]
 rw [eP] at hf ⊢
 obtain ⟨c0,_⟩ := X.pp.head
 have hu := nine_at X.bx
 have HC := foster_any X.pp r pa n hrn hf
 have H9 : Hid (∀ W2 tag2 s',Pp tag2 W2 b a m s' (k + 1) → Pv tag1 W1 tag2 W2 → ∃ tag',Pp tag' W2 b a m s' (k + 1) ∧ Pv tag w tag' W2) := fun W2 tag2 s' p2 v2 => ⟨tag2,p2,pv1.trans v2⟩
 obtain ⟨f0,f1,f2,f3,f4,f5,f6,f7,f8⟩ := hu
 rw [hkd] at f0
 clear h hr X pv1 eP
 unfold ov
 rw [hkd] at HW ⊢
 go_enter Tryz.func39,Tryz.ntmps39
 go_upto_region 1 with fail
 rw [HW.out]
 clear HW
 go_wp2_with (go_at_call 70; refine HC.mono ?_; rintro e W2 ⟨rfl,tag2,p2,v2⟩)
 go_ret
 exact ⟨rfl,H9.out _ _ _ p2 v2⟩
theorem per_6 (h : Pp tag w b a m s k) (hk : k < 1300) (hkd : o.kd = 6) (ho : tinyO o) (hr : R0 tag w p o.al) (n pa r : Nat) (hrn : r < s.A.n) (hx : wf64 o.nd) :
  Calls Tryz.prog 39 #[.pointer (some ⟨b,0,none⟩),ov o p,.int .i64 (n : Int),.int .i64 (pa : Int),.int .i64 (r : Int)] w fun e w' => e = .returned (.int .i64 (s.perF o n pa r).2) ∧ ∃ tag',Pp tag' w' b a m (s.perF o n pa r).1 (k + 1) ∧ Pv tag w tag' w' := by
 obtain ⟨tag1,W1,g,hg,HW,X,pv1⟩ := Px.open (o := o) h hr
 have hf := h.fit.perF hk ho n pa r
 have eP : s.perF o n pa r = s.pouF r pa o.tt := by unfold Py.perF; rw [if_neg (by rw [hkd]; decide),if_neg (by rw [hkd]; decide),if_neg (by rw [hkd]; decide),if_neg (by rw [hkd]; decide),if_neg (by rw [hkd]; decide),if_pos hkd]
 rw [eP] at hf ⊢
 obtain ⟨c0,_⟩ := X.pp.head
 have hu := nine_at X.bx
 have HC := pour_any X.pp hk r pa o.tt ho.tt hrn hf
 have H9 : Hid (∀ W2 tag2 s',Pp tag2 W2 b a m s' (k + 1) → Pv tag1 W1 tag2 W2 → ∃ tag',Pp tag' W2 b a m s' (k + 1) ∧ Pv tag w tag' W2) := fun W2 tag2 s' p2 v2 => ⟨tag2,p2,pv1.trans v2⟩
 obtain ⟨f0,f1,f2,f3,f4,f5,f6,f7,f8⟩ := hu
 rw [hkd] at f0
 clear h hr X pv1 eP
 unfold ov
 rw [hkd] at HW ⊢
 go_enter Tryz.func39,Tryz.ntmps39
 go_upto_region 1 with fail
 rw [HW.out]
 clear HW
 go_wp2_with (go_at_call 72; refine HC.mono ?_; rintro e W2 ⟨rfl,tag2,p2,v2⟩)
 go_ret
 exact ⟨rfl,H9.out _ _ _ p2 v2⟩
theorem per_9 (h : Pp tag w b a m s k) (hk : k < 1300) (hkd : o.kd = 9) (ho : tinyO o) (hr : R0 tag w p o.al) (n pa r : Nat) (hrn : r < s.A.n) (hx : wf64 o.nd) (hno : num s.M o.nd = none) :
  Calls Tryz.prog 39 #[.pointer (some ⟨b,0,none⟩),ov o p,.int .i64 (n : Int),.int .i64 (pa : Int),.int .i64 (r : Int)] w fun e w' => e = .returned (.int .i64 (s.perF o n pa r).2) ∧ ∃ tag',Pp tag' w' b a m (s.perF o n pa r).1 (k + 1) ∧ Pv tag w tag' w' := by
 obtain ⟨tag1,W1,g,hg,HW,X,pv1⟩ := Px.open (o := o) h hr
 have hf := h.fit.perF hk ho n pa r
 have eP : s.perF o n pa r = s.entF o.nd r := by unfold Py.perF; rw [if_neg (by rw [hkd]; decide),if_neg (by rw [hkd]; decide),if_neg (by rw [hkd]; decide),if_neg (by rw [hkd]; decide),if_neg (by rw [hkd]; decide),if_neg (by rw [hkd]; decide),if_neg (by rw [hkd]; decide),if_neg (by rw [hkd]; decide),if_pos hkd]
 rw [eP] at hf ⊢
 obtain ⟨c0,_⟩ := X.pp.head
 have hu := nine_at X.bx
 have HC := enter_any X.pp o.nd hx hno r hf
 have H9 : Hid (∀ W2 tag2 s',Pp tag2 W2 b a m s' (k + 1) → Pv tag1 W1 tag2 W2 → ∃ tag',Pp tag' W2 b a m s' (k + 1) ∧ Pv tag w tag' W2) := fun W2 tag2 s' p2 v2 => ⟨tag2,p2,pv1.trans v2⟩
 obtain ⟨f0,f1,f2,f3,f4,f5,f6,f7,f8⟩ := hu
 rw [hkd] at f0
 clear h hr X pv1 eP
 unfold ov
 rw [hkd] at HW ⊢
 go_enter Tryz.func39,Tryz.ntmps39
 go_upto_region 1 with fail
 rw [HW.out]
 clear HW
 go_wp2_with (go_at_call 75; refine HC.mono ?_; rintro e W2 ⟨rfl,tag2,p2,v2⟩)
 go_ret
 exact ⟨rfl,H9.out _ _ _ p2 v2⟩
theorem per_1 (h : Pp tag w b a m s k) (hk : k < 1300) (hkd : o.kd = 1) (ho : tinyO o) (hr : R0 tag w p o.al) (n pa r : Nat) (hrn : r < s.A.n) (hx : wf64 o.nd) (hno : num s.M o.nd = none) :
  Calls Tryz.prog 39 #[.pointer (some ⟨b,0,none⟩),ov o p,.int .i64 (n : Int),.int .i64 (pa : Int),.int .i64 (r : Int)] w fun e w' => e = .returned (.int .i64 (s.perF o n pa r).2) ∧ ∃ tag',Pp tag' w' b a m (s.perF o n pa r).1 (k + 1) ∧ Pv tag w tag' w' := by
 obtain ⟨tag1,W1,g,hg,HW,X,pv1⟩ := Px.open (o := o) h hr
 have hf := h.fit.perF hk ho n pa r
 have eP : s.perF o n pa r = s.bldF o := by unfold Py.perF; rw [if_pos hkd]
 rw [eP] at hf ⊢
 obtain ⟨c0,_⟩ := X.pp.head
 have hu := nine_at X.bx
 have HC := build_any X.pp hk o p ho X.rk.rp hx hno hf
 have H9 : Hid (∀ W2 tag2 s',Pp tag2 W2 b a m s' (k + 1) → Pv tag1 W1 tag2 W2 → ∃ tag',Pp tag' W2 b a m s' (k + 1) ∧ Pv tag w tag' W2) := fun W2 tag2 s' p2 v2 => ⟨tag2,p2,pv1.trans v2⟩
 obtain ⟨f0,f1,f2,f3,f4,f5,f6,f7,f8⟩ := hu
 rw [hkd] at f0
 clear h hr X pv1 eP
 unfold ov at HC
 rw [hkd] at HC
 unfold ov
 rw [hkd] at HW ⊢
 go_enter Tryz.func39,Tryz.ntmps39
 go_upto_region 1 with fail
 rw [HW.out]
 clear HW
 go_wp2_with (go_at_call 67; refine HC.mono ?_; rintro e W2 ⟨rfl,tag2,p2,v2⟩)
 go_ret
 exact ⟨rfl,H9.out _ _ _ p2 v2⟩
theorem per_5 (h : Pp tag w b a m s k) (hk : k < 1300) (hkd : o.kd = 5) (ho : tinyO o) (hr : R0 tag w p o.al) (n pa r : Nat) (hrn : r < s.A.n) (hx : wf64 o.nd) :
  Calls Tryz.prog 39 #[.pointer (some ⟨b,0,none⟩),ov o p,.int .i64 (n : Int),.int .i64 (pa : Int),.int .i64 (r : Int)] w fun e w' => e = .returned (.int .i64 (s.perF o n pa r).2) ∧ ∃ tag',Pp tag' w' b a m (s.perF o n pa r).1 (k + 1) ∧ Pv tag w tag' w' := by
 obtain ⟨tag1,W1,g,hg,HW,X,pv1⟩ := Px.open (o := o) h hr
 have hf := h.fit.perF hk ho n pa r
 have eP : s.perF o n pa r = s.upd (s.A.wrF pa o.tt) := by unfold Py.perF; rw [if_neg (by rw [hkd]; decide),if_neg (by rw [hkd]; decide),if_neg (by rw [hkd]; decide),if_neg (by rw [hkd]; decide),if_pos hkd]
 rw [eP] at hf ⊢
 obtain ⟨c0,_⟩ := X.pp.head
 have hu := nine_at X.bx
 have HC : Hid (∀ V,Kp [] W1 V → Calls Tryz.prog 71 #[.pointer (some ⟨a,0,none⟩),.int .i64 (pa : Int),.string o.tt] V fun e w' => e = .returned (.int .i64 (s.A.wrF (pa : Int) o.tt).2) ∧ ∃ tag',Ps tag' w' a s.q (s.A.wrF (pa : Int) o.tt).1 (k + 1) ∧ Mv tag1 V tag' w') := fun V kV => by
  have V5 := X.kept kV
  exact V5.pp.ps.wr (by omega) (pa : Int) o.tt ho.tt
 have HS : Hid (∀ V,Kp [] W1 V → V.cell? ⟨b,0,none⟩ = some (.pointer (some ⟨a,0,none⟩)) ∧ V.cell? ⟨g,8,none⟩ = some (.string o.tt)) := fun V kV => ⟨(X.pp.kept kV).head.1,(X.bx.kept kV (by simp)).cell 8⟩
 have H9 : Hid (∀ V tag2 W2,Kp [] W1 V → Ps tag2 W2 a s.q (s.A.wrF (pa : Int) o.tt).1 (k + 1) → Mv tag1 V tag2 W2 → (W2.cell? ⟨b,0,none⟩ = some (.pointer (some ⟨a,0,none⟩)) ∧ W2.cell? ⟨g,8,none⟩ = some (.string o.tt)) ∧ ∃ tag',Pp tag' W2 b a m (s.upd (s.A.wrF (pa : Int) o.tt)).1 (k + 1) ∧ Pv tag w tag' W2) := fun V tag2 W2 kV p2 m2 => by
  have X5 := X.kept kV
  have P9 := X5.fin (pv1.trans (Pv.of_kp0 kV)) hk (Nat.le_refl _) p2 m2 hf
  refine ⟨⟨?_,(X5.bx.pv X5.t0 m2.pv).cell 8⟩,P9⟩
  obtain ⟨tag',P9,_⟩ := P9
  exact (X5.pp.mv m2 p2 hf).head.1
 obtain ⟨f0,_⟩ := hu
 rw [hkd] at f0
 clear h hr X pv1 eP hf
 unfold ov
 rw [hkd] at HW ⊢
 go_enter Tryz.func39,Tryz.ntmps39
 go_upto_region 1 with fail
 rw [HW.out]
 clear HW
 go_upto_region 11 with fail
 refine wp_region_g (S := fun V => V.cell? ⟨b,0,none⟩ = some (.pointer (some ⟨a,0,none⟩)) ∧ V.cell? ⟨g,8,none⟩ = some (.string o.tt)) (T := []) (by kernel_rfl) (HS.out _ (Kp.refl _ _).drew) (fun hHeld => ?_)
 refine g_pure 0 (some 45) (.move (.tmp 0)) ?_
 refine g_pure 1 (some 46) (.nilCheck (.tmp 45)) ?_
 refine g_pure 2 (some 47) (.fieldAddr 76 (.tmp 46) 0) ?_
 refine g_take 3 (some 48) (.load 36 (.tmp 47)) (by intro w hSw; (obtain ⟨q0,q1⟩ := hSw); go_simp; try with_reducible rfl) ?_
 refine g_pure 4 (some 49) (.move (.tmp 3)) ?_
 refine g_pure 5 (some 50) (.fieldAddr 24 (.tmp 6) 8) ?_
 refine g_take 6 (some 51) (.load 9 (.tmp 50)) (by intro w hSw; (obtain ⟨q0,q1⟩ := hSw); go_simp; try with_reducible rfl) ?_
 refine wpAnyG_ready (rs := [7]) (by kernel_rfl) (by simp) ?_
 refine AllReadyG.cons (o := ⟨some 52,.call { callee := .value (.func 71),args := #[.tmp 48,.tmp 49,.tmp 51],argTypes := #[36,3,9] },41,_,_,none⟩) rfl (fun K hK => ?_) AllReadyG.nil
 go_simp
 go_at_call 71
 refine (HC.out _ (Kp.refl _ _).drew).mono ?_
 rintro e W2 ⟨rfl,tag2,p2,m2⟩
 go_wp2_with fail
 have X2 := H9.out _ _ _ (Kp.refl _ _).drew p2 m2
 refine hK.out _ _ X2.1 (fun hHeld1 => ?_)
 clear hK K hHeld
 try simp only [Act.put,pu1,pu2,pu3]
 refine g_pure 8 (some 10) (.assign (.tmp 52)) ?_
 refine wpAnyG_free (by kernel_rfl) ?_
 refine wpAny_done (by kernel_rfl) ?_ _
 have X3 : Hid _ := X2.2
 clear HC HS H9 X2 hHeld1 p2 m2
 go_wp2
 go_ret
 exact ⟨rfl,X3.out⟩
theorem per_10 (h : Pp tag w b a m s k) (hk : k < 1300) (hkd : o.kd = 10) (ho : tinyO o) (hr : R0 tag w p o.al) (n pa r : Nat) (hrn : r < s.A.n) (hx : wf64 o.nd) :
  Calls Tryz.prog 39 #[.pointer (some ⟨b,0,none⟩),ov o p,.int .i64 (n : Int),.int .i64 (pa : Int),.int .i64 (r : Int)] w fun e w' => e = .returned (.int .i64 (s.perF o n pa r).2) ∧ ∃ tag',Pp tag' w' b a m (s.perF o n pa r).1 (k + 1) ∧ Pv tag w tag' w' := by
 obtain ⟨tag1,W1,g,hg,HW,X,pv1⟩ := Px.open (o := o) h hr
 have hf := h.fit.perF hk ho n pa r
 have eP : s.perF o n pa r = s.upd (s.A.morF n (fun x => more x o.al)) := by unfold Py.perF; rw [if_neg (by rw [hkd]; decide),if_neg (by rw [hkd]; decide),if_neg (by rw [hkd]; decide),if_neg (by rw [hkd]; decide),if_neg (by rw [hkd]; decide),if_neg (by rw [hkd]; decide),if_neg (by rw [hkd]; decide),if_neg (by rw [hkd]; decide),if_neg (by rw [hkd]; decide),if_pos hkd]
 rw [eP] at hf ⊢
 obtain ⟨c0,_⟩ := X.pp.head
 have hu := nine_at X.bx
 have HC : Hid (∀ V,Kp [] W1 V → Calls Tryz.prog 76 #[.pointer (some ⟨a,0,none⟩),.int .i64 (n : Int),.slice p.1 p.2.1 p.2.2] V fun e w' => e = .returned (.int .i64 (s.A.morF (n : Int) (fun x => more x o.al)).2) ∧ ∃ tag',Ps tag' w' a s.q (s.A.morF (n : Int) (fun x => more x o.al)).1 (k + 1) ∧ Mv tag1 V tag' w') := fun V kV => by
  have V5 := X.kept kV
  exact V5.pp.ps.mor (by omega) (n : Int) o.al p.1 p.2.1 p.2.2 (V5.rk.mono (fun x _ hx => by unfold Qp; rw [hx]; unfold isP; omega)) ho.al ho.each
 have HS : Hid (∀ V,Kp [] W1 V → V.cell? ⟨b,0,none⟩ = some (.pointer (some ⟨a,0,none⟩)) ∧ V.cell? ⟨g,7,none⟩ = some (.slice p.1 p.2.1 p.2.2)) := fun V kV => ⟨(X.pp.kept kV).head.1,(X.bx.kept kV (by simp)).cell 7⟩
 have H9 : Hid (∀ V tag2 W2,Kp [] W1 V → Ps tag2 W2 a s.q (s.A.morF (n : Int) (fun x => more x o.al)).1 (k + 1) → Mv tag1 V tag2 W2 → (W2.cell? ⟨b,0,none⟩ = some (.pointer (some ⟨a,0,none⟩)) ∧ W2.cell? ⟨g,7,none⟩ = some (.slice p.1 p.2.1 p.2.2)) ∧ ∃ tag',Pp tag' W2 b a m (s.upd (s.A.morF (n : Int) (fun x => more x o.al))).1 (k + 1) ∧ Pv tag w tag' W2) := fun V tag2 W2 kV p2 m2 => by
  have X5 := X.kept kV
  have P9 := X5.fin (pv1.trans (Pv.of_kp0 kV)) hk (Nat.le_refl _) p2 m2 hf
  refine ⟨⟨?_,(X5.bx.pv X5.t0 m2.pv).cell 7⟩,P9⟩
  obtain ⟨tag',P9,_⟩ := P9
  exact (X5.pp.mv m2 p2 hf).head.1
 obtain ⟨f0,_⟩ := hu
 rw [hkd] at f0
 clear h hr X pv1 eP hf
 unfold ov
 rw [hkd] at HW ⊢
 go_enter Tryz.func39,Tryz.ntmps39
 go_upto_region 1 with fail
 rw [HW.out]
 clear HW
 go_upto_region 21 with fail
 refine wp_region_g (S := fun V => V.cell? ⟨b,0,none⟩ = some (.pointer (some ⟨a,0,none⟩)) ∧ V.cell? ⟨g,7,none⟩ = some (.slice p.1 p.2.1 p.2.2)) (T := []) (by kernel_rfl) (HS.out _ (Kp.refl _ _).drew) (fun hHeld => ?_)
 refine g_pure 0 (some 87) (.move (.tmp 0)) ?_
 refine g_pure 1 (some 88) (.nilCheck (.tmp 87)) ?_
 refine g_pure 2 (some 89) (.fieldAddr 76 (.tmp 88) 0) ?_
 refine g_take 3 (some 90) (.load 36 (.tmp 89)) (by intro w hSw; (obtain ⟨q0,q1⟩ := hSw); go_simp; try with_reducible rfl) ?_
 refine g_pure 4 (some 91) (.move (.tmp 2)) ?_
 refine g_pure 5 (some 92) (.fieldAddr 24 (.tmp 6) 7) ?_
 refine g_take 6 (some 93) (.load 22 (.tmp 92)) (by intro w hSw; (obtain ⟨q0,q1⟩ := hSw); go_simp; try with_reducible rfl) ?_
 refine wpAnyG_ready (rs := [7]) (by kernel_rfl) (by simp) ?_
 refine AllReadyG.cons (o := ⟨some 94,.call { callee := .value (.func 76),args := #[.tmp 90,.tmp 91,.tmp 93],argTypes := #[36,3,22] },41,_,_,none⟩) rfl (fun K hK => ?_) AllReadyG.nil
 go_simp
 go_at_call 76
 refine (HC.out _ (Kp.refl _ _).drew).mono ?_
 rintro e W2 ⟨rfl,tag2,p2,m2⟩
 go_wp2_with fail
 have X2 := H9.out _ _ _ (Kp.refl _ _).drew p2 m2
 refine hK.out _ _ X2.1 (fun hHeld1 => ?_)
 clear hK K hHeld
 try simp only [Act.put,pu1,pu2,pu3]
 refine g_pure 8 (some 10) (.assign (.tmp 94)) ?_
 refine wpAnyG_free (by kernel_rfl) ?_
 refine wpAny_done (by kernel_rfl) ?_ _
 have X3 : Hid _ := X2.2
 clear HC HS H9 X2 hHeld1 p2 m2
 go_wp2
 go_ret
 exact ⟨rfl,X3.out⟩
theorem perform_any (h : Pp tag w b a m s k) (hk : k < 1300) (h1 : 1 ≤ o.kd) (h2 : o.kd ≤ 11) (ho : tinyO o) (hr : R0 tag w p o.al) (n pa r : Nat) (hrn : r < s.A.n) (hx : wf64 o.nd) (hno : Py.isN o.kd = true → num s.M o.nd = none) :
  Calls Tryz.prog 39 #[.pointer (some ⟨b,0,none⟩),ov o p,.int .i64 (n : Int),.int .i64 (pa : Int),.int .i64 (r : Int)] w fun e w' => e = .returned (.int .i64 (s.perF o n pa r).2) ∧ ∃ tag',Pp tag' w' b a m (s.perF o n pa r).1 (k + 1) ∧ Pv tag w tag' w' := by
 obtain e | e | e | e | e | e | e | e | e | e | e : o.kd = 1 ∨ o.kd = 2 ∨ o.kd = 3 ∨ o.kd = 4 ∨ o.kd = 5 ∨ o.kd = 6 ∨ o.kd = 7 ∨ o.kd = 8 ∨ o.kd = 9 ∨ o.kd = 10 ∨ o.kd = 11 := by omega
 ·exact per_1 h hk e ho hr n pa r hrn hx (hno (by rw [e]; rfl))
 ·exact per_2 h hk e ho hr n pa r hrn hx
 ·exact per_3 h hk e ho hr n pa r hrn hx
 ·exact per_4 h hk e ho hr n pa r hrn hx
 ·exact per_5 h hk e ho hr n pa r hrn hx
 ·exact per_6 h hk e ho hr n pa r hrn hx
 ·exact per_7 h hk e ho hr n pa r hrn hx
 ·exact per_8 h hk e ho hr n pa r hrn hx
 ·exact per_9 h hk e ho hr n pa r hrn hx (hno (by rw [e]; rfl))
 ·exact per_10 h hk e ho hr n pa r hrn hx
 ·exact per_11 h hk e ho hr n pa r hrn hx
end
theorem right_of {o : Ot} (h : rightO o = true) : (0 ≤ o.nd ∧ o.nd ≤ 2147483647) ∧ (0 ≤ o.pa ∧ o.pa ≤ 2147483647) ∧ (0 ≤ o.rf ∧ o.rf ≤ 2147483647) ∧ 1 ≤ o.kd ∧ o.kd ≤ 11 := by
 unfold rightO inR at h
 simp only [Bool.and_eq_true,decide_eq_true_eq] at h
 obtain ⟨⟨h1,h2,h3⟩,_,hk⟩ := h
 refine ⟨h1,h2,h3,?_⟩
 by_cases hc : 1 ≤ o.kd ∧ o.kd ≤ 11
 ·exact hc
 ·unfold rightK at hk
  repeat rw [if_neg (by omega)] at hk
  cases hk
section
variable {tag tag' : Nat → Nat} {w w' : World} {b a m k g : Nat} {s : Py} {o : Ot} {p : Sl}
set_option maxHeartbeats 2000000 in
theorem pdo_any (h : Pp tag w b a m s k) (hk : k < 1300) (ho : tinyO o) (hr : R0 tag w p o.al) :
  Calls Tryz.prog 16 #[.pointer (some ⟨b,0,none⟩),ov o p] w fun e w' => e = .returned (.int .i64 (s.doF o).2) ∧ ∃ tag',Pp tag' w' b a m (s.doF o).1 (k + 1) ∧ Pv tag w tag' w' := by
 obtain ⟨tag1,W1,g,hg,HW,X,pv1⟩ := Px.open (o := o) h hr
 have hl6 := ho.al
 have hpl : p.2.1 = o.al.length := hr.rp.len
 have HR := right_any W1 o p X.rk.rp (by omega)
 obtain ⟨R,hR⟩ : ∃ R,s.doF o = R := ⟨_,rfl⟩
 rw [hR]
 have hu0 := nine_at X.bx
 cases hq : rightO o with
 | false =>
   rw [hq] at HR
   have hR2 : Hid (R = (s,12)) := by
    rw [← hR]
    unfold Py.doF
    rw [if_pos hq]
    exact rfl
   have H9 : Hid (∀ W2,Kp [] W1 W2 → ∃ tag',Pp tag' W2 b a m s (k + 1) ∧ Pv tag w tag' W2) := fun W2 kV => ⟨tag1,(X.pp.kept kV).up hk,pv1.trans (Pv.of_kp0 kV)⟩
   obtain ⟨f0,f1,f2,f3,f4,f5,f6,f7,f8⟩ := hu0
   clear h hr X pv1 hR hq hpl
   unfold ov at HR ⊢
   go_enter Tryz.func16,Tryz.ntmps16
   go_upto_region 1 with fail
   rw [HW.out]
   clear HW
   go_wp2_with (go_at_call 38; refine HR.mono ?_; rintro e W2 ⟨rfl,k2⟩)
   go_ret
   rw [hR2.out]
   exact ⟨rfl,H9.out _ k2⟩
 | true =>
   rw [hq] at HR
   obtain ⟨⟨r1,r2⟩,⟨r3,r4⟩,⟨r5,r6⟩,r7,r8⟩ := right_of hq
   have w1 : wf64 o.nd := wf_of (by omega) (by omega)
   have w2 : wf64 o.pa := wf_of (by omega) (by omega)
   have w3 : wf64 o.rf := wf_of (by omega) (by omega)
   have hrf := h.fit.nz_lt o.rf
   have HK : Hid (∀ V,Kp [] W1 V → Px tag1 V b a m s k g o p ∧ Pv tag w tag1 V) := fun V kV => ⟨X.kept kV,pv1.trans (Pv.of_kp0 kV)⟩
   have hR2 : Hid (R = if (Py.isN o.kd && s.kn o.nd) = true then (s,24) else if (((!Py.isN o.kd && !s.kn o.nd) || !s.kn o.pa) || !s.kn o.rf) = true then (s,22) else s.perF o (s.nz o.nd) (s.nz o.pa) (s.nz o.rf)) := by
    rw [← hR]
    unfold Py.doF
    rw [if_neg (by rw [hq]; simp)]
    exact rfl
   have HL : Hid (∀ V,Kp [] W1 V → ∀ x : Int,wf64 x → (Instr.lookup 74 (.map (some m)) (.int .i64 x) true).run Tryz.prog V = .ok (.tuple #[.int .i64 ((s.nz x : Nat) : Int),.bool (s.kn x)]) V) := fun V kV x hx => (X.pp.kept kV).nb.look hx
   have HC : Hid (∀ V,Kp [] W1 V → V.cell? ⟨b,1,none⟩ = some (.map (some m)) ∧ Nine V g 0 o p) := fun V kV => ⟨(X.pp.kept kV).head.2,nine_at (X.bx.kept kV (by simp))⟩
   obtain ⟨f0,f1,f2,f3,f4,f5,f6,f7,f8⟩ := hu0
   clear h hr X pv1 hR hpl
   unfold ov at HR ⊢
   go_enter Tryz.func16,Tryz.ntmps16
   go_upto_region 1 with fail
   rw [HW.out]
   clear HW
   go_upto_region 3 with (go_at_call 38; refine HR.mono ?_; rintro e W2 ⟨rfl,k2⟩)
   clear HR f0 f1 f2 f3 f4 f5 f6 f7 f8
   obtain ⟨W3,hW3⟩ : ∃ W,W = W2.drew := ⟨_,rfl⟩
   have k3 : Kp [] W1 W3 := by rw [hW3]; exact k2.drew
   have hS3 : (fun V => V.cell? ⟨b,1,none⟩ = some (.map (some m)) ∧ V.cell? ⟨g,1,none⟩ = some (.int .i64 o.nd) ∧ (Instr.lookup 74 (.map (some m)) (.int .i64 o.nd) true).run Tryz.prog V = .ok (.tuple #[.int .i64 ((s.nz o.nd : Nat) : Int),.bool (s.kn o.nd)]) V) W3 := ⟨(HC.out _ k3).1,(HC.out _ k3).2.2.1,HL.out _ k3 _ w1⟩
   refine wp_region_g (S := fun V => V.cell? ⟨b,1,none⟩ = some (.map (some m)) ∧ V.cell? ⟨g,1,none⟩ = some (.int .i64 o.nd) ∧ (Instr.lookup 74 (.map (some m)) (.int .i64 o.nd) true).run Tryz.prog V = .ok (.tuple #[.int .i64 ((s.nz o.nd : Nat) : Int),.bool (s.kn o.nd)]) V) (T := []) (by kernel_rfl) (by rw [← hW3]; exact hS3) (fun hHeld => ?_)
   rw [← hW3] at hHeld ⊢
   clear hW3 hS3
   refine g_pure 0 (some 16) (.move (.tmp 0)) ?_
   refine g_pure 1 (some 17) (.nilCheck (.tmp 16)) ?_
   refine g_pure 2 (some 18) (.fieldAddr 76 (.tmp 17) 1) ?_
   refine g_take 3 (some 19) (.load 74 (.tmp 18)) (by intro w hSw; (obtain ⟨q0,q1,q2⟩ := hSw); go_simp; try with_reducible rfl) ?_
   refine g_pure 4 (some 20) (.fieldAddr 24 (.tmp 3) 1) ?_
   refine g_take 5 (some 21) (.load 3 (.tmp 20)) (by intro w hSw; (obtain ⟨q0,q1,q2⟩ := hSw); go_simp; try with_reducible rfl) ?_
   refine g_take 6 (some 22) (.lookup 74 (.tmp 19) (.tmp 21) true) (by intro w hSw; (obtain ⟨q0,q1,q2⟩ := hSw); go_simp; try with_reducible rfl) ?_
   refine g_pure 7 (some 15) (.move (.tmp 22)) ?_
   refine g_pure 8 (some 23) (.extract (.tmp 15) 0) ?_
   refine g_pure 9 (some 24) (.extract (.tmp 15) 1) ?_
   refine g_pure 10 (some 5) (.assign (.tmp 23)) ?_
   refine g_pure 11 (some 6) (.assign (.tmp 24)) ?_
   refine wpAnyG_free (by kernel_rfl) ?_
   refine wpAny_done (by kernel_rfl) ?_ _
   clear hHeld
   go_upto_region 4 with fail
   obtain ⟨W4,hW4⟩ : ∃ W,W = W3.drew := ⟨_,rfl⟩
   have k4 : Kp [] W1 W4 := by rw [hW4]; exact k3.drew
   have hS4 : (fun V => V.cell? ⟨b,1,none⟩ = some (.map (some m)) ∧ V.cell? ⟨g,2,none⟩ = some (.int .i64 o.pa) ∧ (Instr.lookup 74 (.map (some m)) (.int .i64 o.pa) true).run Tryz.prog V = .ok (.tuple #[.int .i64 ((s.nz o.pa : Nat) : Int),.bool (s.kn o.pa)]) V) W4 := ⟨(HC.out _ k4).1,(HC.out _ k4).2.2.2.1,HL.out _ k4 _ w2⟩
   refine wp_region_g (S := fun V => V.cell? ⟨b,1,none⟩ = some (.map (some m)) ∧ V.cell? ⟨g,2,none⟩ = some (.int .i64 o.pa) ∧ (Instr.lookup 74 (.map (some m)) (.int .i64 o.pa) true).run Tryz.prog V = .ok (.tuple #[.int .i64 ((s.nz o.pa : Nat) : Int),.bool (s.kn o.pa)]) V) (T := []) (by kernel_rfl) (by rw [← hW4]; exact hS4) (fun hHeld => ?_)
   rw [← hW4] at hHeld ⊢
   clear hW4 hS4
   refine g_pure 0 (some 26) (.move (.tmp 0)) ?_
   refine g_pure 1 (some 27) (.nilCheck (.tmp 26)) ?_
   refine g_pure 2 (some 28) (.fieldAddr 76 (.tmp 27) 1) ?_
   refine g_take 3 (some 29) (.load 74 (.tmp 28)) (by intro w hSw; (obtain ⟨q0,q1,q2⟩ := hSw); go_simp; try with_reducible rfl) ?_
   refine g_pure 4 (some 30) (.fieldAddr 24 (.tmp 3) 2) ?_
   refine g_take 5 (some 31) (.load 3 (.tmp 30)) (by intro w hSw; (obtain ⟨q0,q1,q2⟩ := hSw); go_simp; try with_reducible rfl) ?_
   refine g_take 6 (some 32) (.lookup 74 (.tmp 29) (.tmp 31) true) (by intro w hSw; (obtain ⟨q0,q1,q2⟩ := hSw); go_simp; try with_reducible rfl) ?_
   refine g_pure 7 (some 25) (.move (.tmp 32)) ?_
   refine g_pure 8 (some 33) (.extract (.tmp 25) 0) ?_
   refine g_pure 9 (some 34) (.extract (.tmp 25) 1) ?_
   refine g_pure 10 (some 7) (.assign (.tmp 33)) ?_
   refine g_pure 11 (some 8) (.assign (.tmp 34)) ?_
   refine wpAnyG_free (by kernel_rfl) ?_
   refine wpAny_done (by kernel_rfl) ?_ _
   clear hHeld
   go_upto_region 5 with fail
   obtain ⟨W5,hW5⟩ : ∃ W,W = W4.drew := ⟨_,rfl⟩
   have k5 : Kp [] W1 W5 := by rw [hW5]; exact k4.drew
   have hS5 : (fun V => V.cell? ⟨b,1,none⟩ = some (.map (some m)) ∧ V.cell? ⟨g,3,none⟩ = some (.int .i64 o.rf) ∧ (Instr.lookup 74 (.map (some m)) (.int .i64 o.rf) true).run Tryz.prog V = .ok (.tuple #[.int .i64 ((s.nz o.rf : Nat) : Int),.bool (s.kn o.rf)]) V) W5 := ⟨(HC.out _ k5).1,(HC.out _ k5).2.2.2.2.1,HL.out _ k5 _ w3⟩
   refine wp_region_g (S := fun V => V.cell? ⟨b,1,none⟩ = some (.map (some m)) ∧ V.cell? ⟨g,3,none⟩ = some (.int .i64 o.rf) ∧ (Instr.lookup 74 (.map (some m)) (.int .i64 o.rf) true).run Tryz.prog V = .ok (.tuple #[.int .i64 ((s.nz o.rf : Nat) : Int),.bool (s.kn o.rf)]) V) (T := []) (by kernel_rfl) (by rw [← hW5]; exact hS5) (fun hHeld => ?_)
   rw [← hW5] at hHeld ⊢
   clear hW5 hS5
   refine g_pure 0 (some 36) (.move (.tmp 0)) ?_
   refine g_pure 1 (some 37) (.nilCheck (.tmp 36)) ?_
   refine g_pure 2 (some 38) (.fieldAddr 76 (.tmp 37) 1) ?_
   refine g_take 3 (some 39) (.load 74 (.tmp 38)) (by intro w hSw; (obtain ⟨q0,q1,q2⟩ := hSw); go_simp; try with_reducible rfl) ?_
   refine g_pure 4 (some 40) (.fieldAddr 24 (.tmp 3) 3) ?_
   refine g_take 5 (some 41) (.load 3 (.tmp 40)) (by intro w hSw; (obtain ⟨q0,q1,q2⟩ := hSw); go_simp; try with_reducible rfl) ?_
   refine g_take 6 (some 42) (.lookup 74 (.tmp 39) (.tmp 41) true) (by intro w hSw; (obtain ⟨q0,q1,q2⟩ := hSw); go_simp; try with_reducible rfl) ?_
   refine g_pure 7 (some 35) (.move (.tmp 42)) ?_
   refine g_pure 8 (some 43) (.extract (.tmp 35) 0) ?_
   refine g_pure 9 (some 44) (.extract (.tmp 35) 1) ?_
   refine g_pure 10 (some 9) (.assign (.tmp 43)) ?_
   refine g_pure 11 (some 10) (.assign (.tmp 44)) ?_
   refine wpAnyG_free (by kernel_rfl) ?_
   refine wpAny_done (by kernel_rfl) ?_ _
   clear hHeld
   obtain ⟨X5,pv5⟩ := HK.out _ k5
   obtain ⟨f0,f1,f2,f3,f4,f5,f6,f7,f8⟩ := (HC.out _ k5).2
   have HP : Hid ((Py.isN o.kd = true → num s.M o.nd = none) → Calls Tryz.prog 39 #[.pointer (some ⟨b,0,none⟩),ov o p,.int .i64 ((s.nz o.nd : Nat) : Int),.int .i64 ((s.nz o.pa : Nat) : Int),.int .i64 ((s.nz o.rf : Nat) : Int)] W5 fun e w' => e = .returned (.int .i64 (s.perF o (s.nz o.nd) (s.nz o.pa) (s.nz o.rf)).2) ∧ ∃ tag',Pp tag' w' b a m (s.perF o (s.nz o.nd) (s.nz o.pa) (s.nz o.rf)).1 (k + 1) ∧ Pv tag w tag' w') := fun hno => by
    refine (perform_any X5.pp hk r7 r8 ho X5.rk _ _ _ hrf w1 hno).mono ?_
    rintro e W9 ⟨rfl,tag9,p9,v9⟩
    exact ⟨rfl,tag9,p9,pv5.trans v9⟩
   have H9 : Hid (∃ tag',Pp tag' W5 b a m s (k + 1) ∧ Pv tag w tag' W5) := ⟨tag1,X5.pp.up hk,pv5⟩
   have hkn : Hid (s.kn o.nd = false → num s.M o.nd = none) := fun e => by
    unfold Py.kn at e
    cases h : num s.M o.nd with
    | none => rfl
    | some y => rw [h] at e; cases e
   clear X5 pv5 HK HC HL hrf w1 w2 w3 k3 k4 k5 k2 ho hl6
   generalize s.nz o.nd = n1 at *
   generalize s.nz o.pa = n2 at *
   generalize s.nz o.rf = n3 at *
   unfold ov at HP
   by_cases hN : o.kd = 1 ∨ o.kd = 9
   ·have hi : Py.isN o.kd = true := by unfold Py.isN; rcases hN with e | e <;> rw [e] <;> rfl
    rw [hi] at hR2
    cases b1 : s.kn o.nd with
    | true =>
      rw [b1] at hR2
      have hR3 : Hid (R = (s,24)) := hR2.out
      clear hR2 HP hi hkn
      rcases hN with e | e
      all_goals
       rw [e] at f0
       go_wp2
       go_ret
       rw [hR3.out]
       exact ⟨rfl,H9.out⟩
    | false =>
      have HP := HP.out (fun _ => hkn.out b1)
      rw [b1] at hR2
      cases b2 : s.kn o.pa with
      | false =>
        rw [b2] at hR2
        have hR3 : Hid (R = (s,22)) := hR2.out
        clear hR2 HP hi hkn
        rcases hN with e | e
        all_goals
         rw [e] at f0
         go_wp2
         go_ret
         rw [hR3.out]
         exact ⟨rfl,H9.out⟩
      | true =>
        rw [b2] at hR2
        cases b3 : s.kn o.rf with
        | false =>
          rw [b3] at hR2
          have hR3 : Hid (R = (s,22)) := hR2.out
          clear hR2 HP hi hkn
          rcases hN with e | e
          all_goals
           rw [e] at f0
           go_wp2
           go_ret
           rw [hR3.out]
           exact ⟨rfl,H9.out⟩
        | true =>
          rw [b3] at hR2
          have hR3 : Hid (R = s.perF o n1 n2 n3) := hR2.out
          clear hR2 hi hkn H9
          rcases hN with e | e
          all_goals
           rw [e] at f0 HP
           go_wp2_with (go_at_call 39; refine HP.mono ?_; rintro e W9 ⟨rfl,r9⟩)
           go_ret
           rw [hR3.out]
           exact ⟨rfl,r9⟩
   ·have hi : Py.isN o.kd = false := by unfold Py.isN; simp only [Bool.or_eq_false_iff,beq_eq_false_iff_ne]; exact ⟨fun e => hN (.inl e),fun e => hN (.inr e)⟩
    have i1 : (o.kd == 1) = false := by simp; exact fun e => hN (.inl e)
    have i2 : (o.kd == 9) = false := by simp; exact fun e => hN (.inr e)
    have HP := HP.out (fun e => by rw [hi] at e; cases e)
    rw [hi] at hR2
    clear hN hi hkn
    cases b1 : s.kn o.nd with
    | false =>
      rw [b1] at hR2
      have hR3 : Hid (R = (s,22)) := hR2.out
      clear hR2 HP
      go_wp2
      go_ret
      rw [hR3.out]
      exact ⟨rfl,H9.out⟩
    | true =>
      rw [b1] at hR2
      cases b2 : s.kn o.pa with
      | false =>
        rw [b2] at hR2
        have hR3 : Hid (R = (s,22)) := hR2.out
        clear hR2 HP
        go_wp2
        go_ret
        rw [hR3.out]
        exact ⟨rfl,H9.out⟩
      | true =>
        rw [b2] at hR2
        cases b3 : s.kn o.rf with
        | false =>
          rw [b3] at hR2
          have hR3 : Hid (R = (s,22)) := hR2.out
          clear hR2 HP
          go_wp2
          go_ret
          rw [hR3.out]
          exact ⟨rfl,H9.out⟩
        | true =>
          rw [b3] at hR2
          have hR3 : Hid (R = s.perF o n1 n2 n3) := hR2.out
          clear hR2 H9
          go_wp2_with (go_at_call 39; refine HP.mono ?_; rintro e W9 ⟨rfl,r9⟩)
          go_ret
          rw [hR3.out]
          exact ⟨rfl,r9⟩
end
end Go.Proofs.YtpkppobkagdhkaaGreat
namespace Go.Proofs.YtpkppobkagdhkaaGreat
open Go.RowKit Utf
structure Rx where
 kd : Int
 a : Int
 b : Int
 c : Int
 ty : Int
 ns : Int
 nm : ByteArray
 tt : ByteArray
 l : List Att
def rxv (r : Rx) (p : Sl) : Value := .agg #[.int .i64 r.kd,.int .i64 r.a,.int .i64 r.b,.int .i64 r.c,.int .i64 r.ty,.int .i64 r.ns,.string r.nm,.string r.tt,.slice p.1 p.2.1 p.2.2]
def rxc (r : Rx) (p : Sl) : Array Value := #[.int .i64 r.kd,.int .i64 r.a,.int .i64 r.b,.int .i64 r.c,.int .i64 r.ty,.int .i64 r.ns,.string r.nm,.string r.tt,.slice p.1 p.2.1 p.2.2]
def nms : Nat → ByteArray
 | 0 => ⟨#[112]⟩
 | 1 => ⟨#[116,101,109,112,108,97,116,101]⟩
 | 2 => ⟨#[98]⟩
 | _ => ⟨#[116,97,98,108,101]⟩
def tys : Nat → Int
 | 3 => 5
 | 4 => 2
 | _ => 3
def madF (r : Rx) : Ot :=
 if r.kd = 1 then ⟨r.kd,(wi r.a 9 : Nat),0,0,tys (wi r.ty 1000 % 5),1 + (wi r.ns 1 : Nat),nms (wi r.c 1000 % 4),short r.l,cutB r.tt 9⟩
 else if r.kd = 2 then ⟨r.kd,(wi r.a 9 : Nat),(wi r.b 9 : Nat),0,0,0,⟨#[]⟩,[],⟨#[]⟩⟩
 else if r.kd = 3 ∨ r.kd = 9 then ⟨r.kd,(wi r.a 9 : Nat),0,(wi r.b 9 : Nat),0,0,⟨#[]⟩,[],⟨#[]⟩⟩
 else if r.kd = 4 then ⟨r.kd,(wi r.a 9 : Nat),(wi r.c 9 : Nat),(wi r.b 9 : Nat),0,0,⟨#[]⟩,[],⟨#[]⟩⟩
 else if r.kd = 5 then ⟨r.kd,0,(wi r.a 9 : Nat),0,0,0,⟨#[]⟩,[],cutB r.tt 9⟩
 else if r.kd = 6 then ⟨r.kd,0,(wi r.b 9 : Nat),(wi r.a 9 : Nat),0,0,⟨#[]⟩,[],cutB r.tt 9⟩
 else if r.kd = 7 then ⟨r.kd,(wi r.a 9 : Nat),0,0,0,0,⟨#[]⟩,[],⟨#[]⟩⟩
 else if r.kd = 8 then ⟨r.kd,0,(wi r.b 9 : Nat),(wi r.a 9 : Nat),0,0,⟨#[]⟩,[],⟨#[]⟩⟩
 else if r.kd = 10 then ⟨r.kd,(wi r.a 9 : Nat),0,0,0,0,⟨#[]⟩,short r.l,⟨#[]⟩⟩
 else if r.kd = 11 then ⟨r.kd,0,0,0,0,0,⟨#[]⟩,[],⟨#[]⟩⟩
 else ⟨r.kd,r.a,r.b,r.c,r.ty,r.ns,cutB r.nm 9,[],cutB r.tt 9⟩
theorem cutB_le (s : ByteArray) (m : Nat) : (cutB s m).size ≤ m := by
 unfold cutB
 split
 ·rw [ByteArray.size_extract]; omega
 ·omega
theorem short_all {l : List Att} {a : Att} (h : a ∈ short l) : a.1.size ≤ 20 ∧ a.2.size ≤ 30 := by
 unfold short at h
 obtain ⟨x,_,rfl⟩ := List.mem_map.1 h
 exact ⟨cutB_le _ _,cutB_le _ _⟩
theorem nms_le (k : Nat) : (nms k).size ≤ 10 := by
 unfold nms
 split <;> decide
theorem tiny_nil {o : Ot} (h1 : o.nm.size ≤ 10) (h2 : o.tt.size ≤ 10) (h3 : o.al = []) : tinyO o := ⟨h1,h2,by rw [h3]; exact Nat.zero_le _,fun a ha => by rw [h3] at ha; cases ha⟩
theorem madF_tiny (r : Rx) : tinyO (madF r) := by
 have c1 : (cutB r.tt 9).size ≤ 10 := Nat.le_succ_of_le (cutB_le _ _)
 have c2 : (cutB r.nm 9).size ≤ 10 := Nat.le_succ_of_le (cutB_le _ _)
 have z : (⟨#[]⟩ : ByteArray).size ≤ 10 := by decide
 unfold madF
 repeat' split
 ·exact ⟨nms_le _,c1,short_len _,fun a ha => short_all ha⟩
 ·exact tiny_nil z z rfl
 ·exact tiny_nil z z rfl
 ·exact tiny_nil z z rfl
 ·exact tiny_nil z c1 rfl
 ·exact tiny_nil z c1 rfl
 ·exact tiny_nil z z rfl
 ·exact tiny_nil z z rfl
 ·exact ⟨z,z,short_len _,fun a ha => short_all ha⟩
 ·exact tiny_nil z z rfl
 ·exact tiny_nil c2 c1 rfl
end Go.Proofs.YtpkppobkagdhkaaGreat
