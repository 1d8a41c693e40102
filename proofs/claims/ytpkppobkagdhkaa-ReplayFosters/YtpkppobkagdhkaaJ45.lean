/-
  Joined: Pld.
-/
import Derived.Test.YtpkppobkagdhkaaJ42
import Derived.Test.YtpkppobkagdhkaaJ44

/-
  The program's player: perform, Do.
-/
namespace Go.Proofs.Ytpkppobkagdhkaa
open Go.RowKit Go.Maps Utf
set_option linter.unusedVariables false
set_option linter.unusedSimpArgs false

/-- Attributes that lie in blocks of mark 0. -/
abbrev R0 (tag : Nat → Nat) (w : World) (p : Sl) (l : List Att) : Prop := Rk (fun x => tag x = 0) 2 w p.1 p.2.1 p.2.2 (cs l)

/-- A player, and an operation in a box of its own. -/
structure Px (tag : Nat → Nat) (w : World) (b a m : Nat) (s : Py) (k g : Nat) (o : Ot) (p : Sl) : Prop where
  pp : Pp tag w b a m s k
  bx : At w g (oc o p) 25
  t0 : tag g = 0
  rk : R0 tag w p o.al

section
variable {tag tag' : Nat → Nat} {w w' : World} {b a m k g : Nat} {s : Py} {o : Ot} {p : Sl}

theorem R0.pv {l : List Att} (h : R0 tag w p l) (v : Pv tag w tag' w') : R0 tag' w' p l := by
  refine ⟨h.len, h.cap, fun hn => ?_⟩
  obtain ⟨b, off, cur, e, hq, h1, h2, h3⟩ := h.at' hn
  have hl := lt_of h2
  exact ⟨b, off, cur, e, (v.tg b hl).trans hq, h1, by rw [v.block b hl (by rw [hq]; unfold isP; omega) (by rw [hq]; omega)]; exact h2, h3⟩

theorem At.pv {cur : Array Value} {e : TypeId} (h : At w g cur e) (h0 : tag g = 0) (v : Pv tag w tag' w') : At w' g cur e := by
  unfold At
  rw [v.block g h.lt (by rw [h0]; unfold isP; omega) (by rw [h0]; omega)]
  exact h

theorem Px.kept (h : Px tag w b a m s k g o p) (kp : Kp [] w w') : Px tag w' b a m s k g o p := ⟨h.pp.kept kp, h.bx.kept kp (by simp), h.t0, h.rk.kept kp⟩

theorem Px.open (h : Pp tag w b a m s k) (hr : R0 tag w p o.al) : ∃ tag1 W1 g, w.heap.size = g ∧ Hid (w.alloc (.cells #[.int .i64 o.kd, .int .i64 o.nd, .int .i64 o.pa, .int .i64 o.rf, .int .i64 o.ty, .int .i64 o.ns, .string o.nm, .slice p.1 p.2.1 p.2.2, .string o.tt] 25) = W1) ∧ Px tag1 W1 b a m s k g o p ∧ Pv tag w tag1 W1 := by
  have k1 : Kp [] w (w.alloc (.cells (oc o p) 25)) := (Kp.refl _ _).alloc _
  have hg2 : ∀ x, x < w.heap.size → (fun x => if x < w.heap.size then tag x else 0) x = tag x := fun x hx => if_pos hx
  have pv : Pv tag w (fun x => if x < w.heap.size then tag x else 0) (w.alloc (.cells (oc o p) 25)) := Pv.of_kp k1 (fun x hx => by simp at hx) hg2
  exact ⟨_, _, _, rfl, rfl, ⟨h.re k1 hg2, At.new _ _ _, if_neg (by omega), hr.pv pv⟩, pv⟩

/-- What a call of the arena leaves. -/
theorem Px.fin {tag1 tag2 : Nat → Nat} {W1 W2 : World} (h : Px tag1 W1 b a m s k g o p) (pv1 : Pv tag w tag1 W1) {q : Bool} {A : Ar} {j : Nat} (hk : k < 1300) (hj : j ≤ k + 1) (p2 : Ps tag2 W2 a q A j) (m2 : Mv tag1 W1 tag2 W2) (hf : (Py.mk A q s.M).Fit (k + 1)) :
    ∃ tag', Pp tag' W2 b a m ⟨A, q, s.M⟩ (k + 1) ∧ Pv tag w tag' W2 := ⟨tag2, h.pp.mv m2 (p2.up' hj (by omega)) hf, pv1.trans m2.pv⟩

set_option maxRecDepth 100000 in
set_option maxHeartbeats 1000000 in
theorem per_2 (h : Pp tag w b a m s k) (hk : k < 1300) (hkd : o.kd = 2) (ho : tinyO o) (hr : R0 tag w p o.al) (n pa r : Nat) (hrn : r < s.A.n) (hx : wf64 o.nd) :
    Calls Try.prog 18 #[.pointer (some ⟨b, 0, none⟩), ov o p, .int .i64 (n : Int), .int .i64 (pa : Int), .int .i64 (r : Int)] w fun e w' => e = .returned (.int .i64 (s.perF o n pa r).2) ∧ ∃ tag', Pp tag' w' b a m (s.perF o n pa r).1 (k + 1) ∧ Pv tag w tag' w' := by
  obtain ⟨tag1, W1, g, hg, HW, X, pv1⟩ := Px.open (o := o) h hr
  have hf := h.fit.perF hk ho n pa r
  have eP : s.perF o n pa r = s.upd (s.A.appF pa n) := by unfold Py.perF; rw [if_neg (by rw [hkd]; decide), if_pos hkd]
  rw [eP] at hf ⊢
  obtain ⟨c0, _⟩ := X.pp.head
  have hu := nine_at X.bx
  have HC := X.pp.ps.app (pa : Int) (n : Int)
  have H9 : Hid (∀ W2 q A, Ps tag1 W2 a q A k → Mv tag1 W1 tag1 W2 → (Py.mk A q s.M).Fit (k + 1) → ∃ tag', Pp tag' W2 b a m ⟨A, q, s.M⟩ (k + 1) ∧ Pv tag w tag' W2) := fun W2 q A p2 m2 f => X.fin pv1 hk (Nat.le_succ _) p2 m2 f
  obtain ⟨f0, _⟩ := hu
  rw [hkd] at f0
  clear h hr X pv1 eP
  unfold ov
  rw [hkd] at HW ⊢
  go_enter Try.func18, Try.ntmps18
  go_upto_region 1 with fail
  rw [HW.out]
  clear HW
  go_wp2_with (go_at_call 27; refine HC.mono ?_; rintro e W2 ⟨rfl, p2, m2⟩)
  go_ret
  exact ⟨rfl, H9.out _ _ _ p2 m2 hf⟩

set_option maxRecDepth 100000 in
set_option maxHeartbeats 1000000 in
theorem per_3 (h : Pp tag w b a m s k) (hk : k < 1300) (hkd : o.kd = 3) (ho : tinyO o) (hr : R0 tag w p o.al) (n pa r : Nat) (hrn : r < s.A.n) (hx : wf64 o.nd) :
    Calls Try.prog 18 #[.pointer (some ⟨b, 0, none⟩), ov o p, .int .i64 (n : Int), .int .i64 (pa : Int), .int .i64 (r : Int)] w fun e w' => e = .returned (.int .i64 (s.perF o n pa r).2) ∧ ∃ tag', Pp tag' w' b a m (s.perF o n pa r).1 (k + 1) ∧ Pv tag w tag' w' := by
  obtain ⟨tag1, W1, g, hg, HW, X, pv1⟩ := Px.open (o := o) h hr
  have hf := h.fit.perF hk ho n pa r
  have eP : s.perF o n pa r = s.upd (s.A.befF r n) := by unfold Py.perF; rw [if_neg (by rw [hkd]; decide), if_neg (by rw [hkd]; decide), if_pos hkd]
  rw [eP] at hf ⊢
  obtain ⟨c0, _⟩ := X.pp.head
  have hu := nine_at X.bx
  have HC := X.pp.ps.bef (r : Int) (n : Int)
  have H9 : Hid (∀ W2 q A, Ps tag1 W2 a q A k → Mv tag1 W1 tag1 W2 → (Py.mk A q s.M).Fit (k + 1) → ∃ tag', Pp tag' W2 b a m ⟨A, q, s.M⟩ (k + 1) ∧ Pv tag w tag' W2) := fun W2 q A p2 m2 f => X.fin pv1 hk (Nat.le_succ _) p2 m2 f
  obtain ⟨f0, _⟩ := hu
  rw [hkd] at f0
  clear h hr X pv1 eP
  unfold ov
  rw [hkd] at HW ⊢
  go_enter Try.func18, Try.ntmps18
  go_upto_region 1 with fail
  rw [HW.out]
  clear HW
  go_wp2_with (go_at_call 28; refine HC.mono ?_; rintro e W2 ⟨rfl, p2, m2⟩)
  go_ret
  exact ⟨rfl, H9.out _ _ _ p2 m2 hf⟩

set_option maxRecDepth 100000 in
set_option maxHeartbeats 1000000 in
theorem per_7 (h : Pp tag w b a m s k) (hk : k < 1300) (hkd : o.kd = 7) (ho : tinyO o) (hr : R0 tag w p o.al) (n pa r : Nat) (hrn : r < s.A.n) (hx : wf64 o.nd) :
    Calls Try.prog 18 #[.pointer (some ⟨b, 0, none⟩), ov o p, .int .i64 (n : Int), .int .i64 (pa : Int), .int .i64 (r : Int)] w fun e w' => e = .returned (.int .i64 (s.perF o n pa r).2) ∧ ∃ tag', Pp tag' w' b a m (s.perF o n pa r).1 (k + 1) ∧ Pv tag w tag' w' := by
  obtain ⟨tag1, W1, g, hg, HW, X, pv1⟩ := Px.open (o := o) h hr
  have hf := h.fit.perF hk ho n pa r
  have eP : s.perF o n pa r = s.upd (s.A.detF n) := by unfold Py.perF; rw [if_neg (by rw [hkd]; decide), if_neg (by rw [hkd]; decide), if_neg (by rw [hkd]; decide), if_neg (by rw [hkd]; decide), if_neg (by rw [hkd]; decide), if_neg (by rw [hkd]; decide), if_pos hkd]
  rw [eP] at hf ⊢
  obtain ⟨c0, _⟩ := X.pp.head
  have hu := nine_at X.bx
  have HC := X.pp.ps.det (n : Int)
  have H9 : Hid (∀ W2 q A, Ps tag1 W2 a q A k → Mv tag1 W1 tag1 W2 → (Py.mk A q s.M).Fit (k + 1) → ∃ tag', Pp tag' W2 b a m ⟨A, q, s.M⟩ (k + 1) ∧ Pv tag w tag' W2) := fun W2 q A p2 m2 f => X.fin pv1 hk (Nat.le_succ _) p2 m2 f
  obtain ⟨f0, _⟩ := hu
  rw [hkd] at f0
  clear h hr X pv1 eP
  unfold ov
  rw [hkd] at HW ⊢
  go_enter Try.func18, Try.ntmps18
  go_upto_region 1 with fail
  rw [HW.out]
  clear HW
  go_wp2_with (go_at_call 32; refine HC.mono ?_; rintro e W2 ⟨rfl, p2, m2⟩)
  go_ret
  exact ⟨rfl, H9.out _ _ _ p2 m2 hf⟩

set_option maxRecDepth 100000 in
set_option maxHeartbeats 1000000 in
theorem per_8 (h : Pp tag w b a m s k) (hk : k < 1300) (hkd : o.kd = 8) (ho : tinyO o) (hr : R0 tag w p o.al) (n pa r : Nat) (hrn : r < s.A.n) (hx : wf64 o.nd) :
    Calls Try.prog 18 #[.pointer (some ⟨b, 0, none⟩), ov o p, .int .i64 (n : Int), .int .i64 (pa : Int), .int .i64 (r : Int)] w fun e w' => e = .returned (.int .i64 (s.perF o n pa r).2) ∧ ∃ tag', Pp tag' w' b a m (s.perF o n pa r).1 (k + 1) ∧ Pv tag w tag' w' := by
  obtain ⟨tag1, W1, g, hg, HW, X, pv1⟩ := Px.open (o := o) h hr
  have hf := h.fit.perF hk ho n pa r
  have eP : s.perF o n pa r = s.upd (s.A.movF r pa) := by unfold Py.perF; rw [if_neg (by rw [hkd]; decide), if_neg (by rw [hkd]; decide), if_neg (by rw [hkd]; decide), if_neg (by rw [hkd]; decide), if_neg (by rw [hkd]; decide), if_neg (by rw [hkd]; decide), if_neg (by rw [hkd]; decide), if_pos hkd]
  rw [eP] at hf ⊢
  obtain ⟨c0, _⟩ := X.pp.head
  have hu := nine_at X.bx
  have HC := X.pp.ps.mov (r : Int) (pa : Int)
  have H9 : Hid (∀ W2 q A, Ps tag1 W2 a q A k → Mv tag1 W1 tag1 W2 → (Py.mk A q s.M).Fit (k + 1) → ∃ tag', Pp tag' W2 b a m ⟨A, q, s.M⟩ (k + 1) ∧ Pv tag w tag' W2) := fun W2 q A p2 m2 f => X.fin pv1 hk (Nat.le_succ _) p2 m2 f
  obtain ⟨f0, _⟩ := hu
  rw [hkd] at f0
  clear h hr X pv1 eP
  unfold ov
  rw [hkd] at HW ⊢
  go_enter Try.func18, Try.ntmps18
  go_upto_region 1 with fail
  rw [HW.out]
  clear HW
  go_wp2_with (go_at_call 33; refine HC.mono ?_; rintro e W2 ⟨rfl, p2, m2⟩)
  go_ret
  exact ⟨rfl, H9.out _ _ _ p2 m2 hf⟩

set_option maxRecDepth 100000 in
set_option maxHeartbeats 1000000 in
theorem per_11 (h : Pp tag w b a m s k) (hk : k < 1300) (hkd : o.kd = 11) (ho : tinyO o) (hr : R0 tag w p o.al) (n pa r : Nat) (hrn : r < s.A.n) (hx : wf64 o.nd) :
    Calls Try.prog 18 #[.pointer (some ⟨b, 0, none⟩), ov o p, .int .i64 (n : Int), .int .i64 (pa : Int), .int .i64 (r : Int)] w fun e w' => e = .returned (.int .i64 (s.perF o n pa r).2) ∧ ∃ tag', Pp tag' w' b a m (s.perF o n pa r).1 (k + 1) ∧ Pv tag w tag' w' := by
  obtain ⟨tag1, W1, g, hg, HW, X, pv1⟩ := Px.open (o := o) h hr
  have hf := h.fit.perF hk ho n pa r
  have eP : s.perF o n pa r = (⟨s.A, true, s.M⟩, 0) := by unfold Py.perF; rw [if_neg (by rw [hkd]; decide), if_neg (by rw [hkd]; decide), if_neg (by rw [hkd]; decide), if_neg (by rw [hkd]; decide), if_neg (by rw [hkd]; decide), if_neg (by rw [hkd]; decide), if_neg (by rw [hkd]; decide), if_neg (by rw [hkd]; decide), if_neg (by rw [hkd]; decide), if_neg (by rw [hkd]; decide), if_pos hkd]
  rw [eP] at hf ⊢
  obtain ⟨c0, _⟩ := X.pp.head
  have hu := nine_at X.bx
  have HC := X.pp.ps.quirks true
  have H9 : Hid (∀ W2 q A, Ps tag1 W2 a q A k → Mv tag1 W1 tag1 W2 → (Py.mk A q s.M).Fit (k + 1) → ∃ tag', Pp tag' W2 b a m ⟨A, q, s.M⟩ (k + 1) ∧ Pv tag w tag' W2) := fun W2 q A p2 m2 f => X.fin pv1 hk (Nat.le_succ _) p2 m2 f
  obtain ⟨f0, _⟩ := hu
  rw [hkd] at f0
  clear h hr X pv1 eP
  unfold ov
  rw [hkd] at HW ⊢
  go_enter Try.func18, Try.ntmps18
  go_upto_region 1 with fail
  rw [HW.out]
  clear HW
  go_wp2_with (go_at_call 36; refine HC.mono ?_; rintro e W2 ⟨rfl, p2, m2⟩)
  go_ret
  exact ⟨rfl, H9.out _ _ _ p2 m2 hf⟩

set_option maxRecDepth 100000 in
set_option maxHeartbeats 1000000 in
theorem per_4 (h : Pp tag w b a m s k) (hk : k < 1300) (hkd : o.kd = 4) (ho : tinyO o) (hr : R0 tag w p o.al) (n pa r : Nat) (hrn : r < s.A.n) (hx : wf64 o.nd) :
    Calls Try.prog 18 #[.pointer (some ⟨b, 0, none⟩), ov o p, .int .i64 (n : Int), .int .i64 (pa : Int), .int .i64 (r : Int)] w fun e w' => e = .returned (.int .i64 (s.perF o n pa r).2) ∧ ∃ tag', Pp tag' w' b a m (s.perF o n pa r).1 (k + 1) ∧ Pv tag w tag' w' := by
  obtain ⟨tag1, W1, g, hg, HW, X, pv1⟩ := Px.open (o := o) h hr
  have hf := h.fit.perF hk ho n pa r
  have eP : s.perF o n pa r = s.fosF r pa n := by unfold Py.perF; rw [if_neg (by rw [hkd]; decide), if_neg (by rw [hkd]; decide), if_neg (by rw [hkd]; decide), if_pos hkd]
  rw [eP] at hf ⊢
  obtain ⟨c0, _⟩ := X.pp.head
  have hu := nine_at X.bx
  have HC := foster_any X.pp r pa n hrn hf
  have H9 : Hid (∀ W2 tag2 s', Pp tag2 W2 b a m s' (k + 1) → Pv tag1 W1 tag2 W2 → ∃ tag', Pp tag' W2 b a m s' (k + 1) ∧ Pv tag w tag' W2) := fun W2 tag2 s' p2 v2 => ⟨tag2, p2, pv1.trans v2⟩
  obtain ⟨f0, f1, f2, f3, f4, f5, f6, f7, f8⟩ := hu
  rw [hkd] at f0
  clear h hr X pv1 eP
  unfold ov
  rw [hkd] at HW ⊢
  go_enter Try.func18, Try.ntmps18
  go_upto_region 1 with fail
  rw [HW.out]
  clear HW
  go_wp2_with (go_at_call 29; refine HC.mono ?_; rintro e W2 ⟨rfl, tag2, p2, v2⟩)
  go_ret
  exact ⟨rfl, H9.out _ _ _ p2 v2⟩

set_option maxRecDepth 100000 in
set_option maxHeartbeats 1000000 in
theorem per_6 (h : Pp tag w b a m s k) (hk : k < 1300) (hkd : o.kd = 6) (ho : tinyO o) (hr : R0 tag w p o.al) (n pa r : Nat) (hrn : r < s.A.n) (hx : wf64 o.nd) :
    Calls Try.prog 18 #[.pointer (some ⟨b, 0, none⟩), ov o p, .int .i64 (n : Int), .int .i64 (pa : Int), .int .i64 (r : Int)] w fun e w' => e = .returned (.int .i64 (s.perF o n pa r).2) ∧ ∃ tag', Pp tag' w' b a m (s.perF o n pa r).1 (k + 1) ∧ Pv tag w tag' w' := by
  obtain ⟨tag1, W1, g, hg, HW, X, pv1⟩ := Px.open (o := o) h hr
  have hf := h.fit.perF hk ho n pa r
  have eP : s.perF o n pa r = s.pouF r pa o.tt := by unfold Py.perF; rw [if_neg (by rw [hkd]; decide), if_neg (by rw [hkd]; decide), if_neg (by rw [hkd]; decide), if_neg (by rw [hkd]; decide), if_neg (by rw [hkd]; decide), if_pos hkd]
  rw [eP] at hf ⊢
  obtain ⟨c0, _⟩ := X.pp.head
  have hu := nine_at X.bx
  have HC := pour_any X.pp hk r pa o.tt ho.tt hrn hf
  have H9 : Hid (∀ W2 tag2 s', Pp tag2 W2 b a m s' (k + 1) → Pv tag1 W1 tag2 W2 → ∃ tag', Pp tag' W2 b a m s' (k + 1) ∧ Pv tag w tag' W2) := fun W2 tag2 s' p2 v2 => ⟨tag2, p2, pv1.trans v2⟩
  obtain ⟨f0, f1, f2, f3, f4, f5, f6, f7, f8⟩ := hu
  rw [hkd] at f0
  clear h hr X pv1 eP
  unfold ov
  rw [hkd] at HW ⊢
  go_enter Try.func18, Try.ntmps18
  go_upto_region 1 with fail
  rw [HW.out]
  clear HW
  go_wp2_with (go_at_call 31; refine HC.mono ?_; rintro e W2 ⟨rfl, tag2, p2, v2⟩)
  go_ret
  exact ⟨rfl, H9.out _ _ _ p2 v2⟩

set_option maxRecDepth 100000 in
set_option maxHeartbeats 1000000 in
theorem per_9 (h : Pp tag w b a m s k) (hk : k < 1300) (hkd : o.kd = 9) (ho : tinyO o) (hr : R0 tag w p o.al) (n pa r : Nat) (hrn : r < s.A.n) (hx : wf64 o.nd) (hno : num s.M o.nd = none) :
    Calls Try.prog 18 #[.pointer (some ⟨b, 0, none⟩), ov o p, .int .i64 (n : Int), .int .i64 (pa : Int), .int .i64 (r : Int)] w fun e w' => e = .returned (.int .i64 (s.perF o n pa r).2) ∧ ∃ tag', Pp tag' w' b a m (s.perF o n pa r).1 (k + 1) ∧ Pv tag w tag' w' := by
  obtain ⟨tag1, W1, g, hg, HW, X, pv1⟩ := Px.open (o := o) h hr
  have hf := h.fit.perF hk ho n pa r
  have eP : s.perF o n pa r = s.entF o.nd r := by unfold Py.perF; rw [if_neg (by rw [hkd]; decide), if_neg (by rw [hkd]; decide), if_neg (by rw [hkd]; decide), if_neg (by rw [hkd]; decide), if_neg (by rw [hkd]; decide), if_neg (by rw [hkd]; decide), if_neg (by rw [hkd]; decide), if_neg (by rw [hkd]; decide), if_pos hkd]
  rw [eP] at hf ⊢
  obtain ⟨c0, _⟩ := X.pp.head
  have hu := nine_at X.bx
  have HC := enter_any X.pp o.nd hx hno r hf
  have H9 : Hid (∀ W2 tag2 s', Pp tag2 W2 b a m s' (k + 1) → Pv tag1 W1 tag2 W2 → ∃ tag', Pp tag' W2 b a m s' (k + 1) ∧ Pv tag w tag' W2) := fun W2 tag2 s' p2 v2 => ⟨tag2, p2, pv1.trans v2⟩
  obtain ⟨f0, f1, f2, f3, f4, f5, f6, f7, f8⟩ := hu
  rw [hkd] at f0
  clear h hr X pv1 eP
  unfold ov
  rw [hkd] at HW ⊢
  go_enter Try.func18, Try.ntmps18
  go_upto_region 1 with fail
  rw [HW.out]
  clear HW
  go_wp2_with (go_at_call 34; refine HC.mono ?_; rintro e W2 ⟨rfl, tag2, p2, v2⟩)
  go_ret
  exact ⟨rfl, H9.out _ _ _ p2 v2⟩

set_option maxRecDepth 100000 in
set_option maxHeartbeats 1000000 in
theorem per_1 (h : Pp tag w b a m s k) (hk : k < 1300) (hkd : o.kd = 1) (ho : tinyO o) (hr : R0 tag w p o.al) (n pa r : Nat) (hrn : r < s.A.n) (hx : wf64 o.nd) (hno : num s.M o.nd = none) :
    Calls Try.prog 18 #[.pointer (some ⟨b, 0, none⟩), ov o p, .int .i64 (n : Int), .int .i64 (pa : Int), .int .i64 (r : Int)] w fun e w' => e = .returned (.int .i64 (s.perF o n pa r).2) ∧ ∃ tag', Pp tag' w' b a m (s.perF o n pa r).1 (k + 1) ∧ Pv tag w tag' w' := by
  obtain ⟨tag1, W1, g, hg, HW, X, pv1⟩ := Px.open (o := o) h hr
  have hf := h.fit.perF hk ho n pa r
  have eP : s.perF o n pa r = s.bldF o := by unfold Py.perF; rw [if_pos hkd]
  rw [eP] at hf ⊢
  obtain ⟨c0, _⟩ := X.pp.head
  have hu := nine_at X.bx
  have HC := build_any X.pp hk o p ho X.rk.rp hx hno hf
  have H9 : Hid (∀ W2 tag2 s', Pp tag2 W2 b a m s' (k + 1) → Pv tag1 W1 tag2 W2 → ∃ tag', Pp tag' W2 b a m s' (k + 1) ∧ Pv tag w tag' W2) := fun W2 tag2 s' p2 v2 => ⟨tag2, p2, pv1.trans v2⟩
  obtain ⟨f0, f1, f2, f3, f4, f5, f6, f7, f8⟩ := hu
  rw [hkd] at f0
  clear h hr X pv1 eP
  unfold ov at HC
  rw [hkd] at HC
  unfold ov
  rw [hkd] at HW ⊢
  go_enter Try.func18, Try.ntmps18
  go_upto_region 1 with fail
  rw [HW.out]
  clear HW
  go_wp2_with (go_at_call 26; refine HC.mono ?_; rintro e W2 ⟨rfl, tag2, p2, v2⟩)
  go_ret
  exact ⟨rfl, H9.out _ _ _ p2 v2⟩

set_option maxRecDepth 100000 in
set_option maxHeartbeats 1000000 in
theorem per_5 (h : Pp tag w b a m s k) (hk : k < 1300) (hkd : o.kd = 5) (ho : tinyO o) (hr : R0 tag w p o.al) (n pa r : Nat) (hrn : r < s.A.n) (hx : wf64 o.nd) :
    Calls Try.prog 18 #[.pointer (some ⟨b, 0, none⟩), ov o p, .int .i64 (n : Int), .int .i64 (pa : Int), .int .i64 (r : Int)] w fun e w' => e = .returned (.int .i64 (s.perF o n pa r).2) ∧ ∃ tag', Pp tag' w' b a m (s.perF o n pa r).1 (k + 1) ∧ Pv tag w tag' w' := by
  obtain ⟨tag1, W1, g, hg, HW, X, pv1⟩ := Px.open (o := o) h hr
  have hf := h.fit.perF hk ho n pa r
  have eP : s.perF o n pa r = s.upd (s.A.wrF pa o.tt) := by unfold Py.perF; rw [if_neg (by rw [hkd]; decide), if_neg (by rw [hkd]; decide), if_neg (by rw [hkd]; decide), if_neg (by rw [hkd]; decide), if_pos hkd]
  rw [eP] at hf ⊢
  obtain ⟨c0, _⟩ := X.pp.head
  have hu := nine_at X.bx
  have HC : Hid (∀ V, Kp [] W1 V → Calls Try.prog 30 #[.pointer (some ⟨a, 0, none⟩), .int .i64 (pa : Int), .string o.tt] V fun e w' => e = .returned (.int .i64 (s.A.wrF (pa : Int) o.tt).2) ∧ ∃ tag', Ps tag' w' a s.q (s.A.wrF (pa : Int) o.tt).1 (k + 1) ∧ Mv tag1 V tag' w') := fun V kV => by
    have V5 := X.kept kV
    exact V5.pp.ps.wr (by omega) (pa : Int) o.tt ho.tt
  have HS : Hid (∀ V, Kp [] W1 V → V.cell? ⟨b, 0, none⟩ = some (.pointer (some ⟨a, 0, none⟩)) ∧ V.cell? ⟨g, 8, none⟩ = some (.string o.tt)) := fun V kV => ⟨(X.pp.kept kV).head.1, (X.bx.kept kV (by simp)).cell 8⟩
  have H9 : Hid (∀ V tag2 W2, Kp [] W1 V → Ps tag2 W2 a s.q (s.A.wrF (pa : Int) o.tt).1 (k + 1) → Mv tag1 V tag2 W2 → (W2.cell? ⟨b, 0, none⟩ = some (.pointer (some ⟨a, 0, none⟩)) ∧ W2.cell? ⟨g, 8, none⟩ = some (.string o.tt)) ∧ ∃ tag', Pp tag' W2 b a m (s.upd (s.A.wrF (pa : Int) o.tt)).1 (k + 1) ∧ Pv tag w tag' W2) := fun V tag2 W2 kV p2 m2 => by
    have X5 := X.kept kV
    have P9 := X5.fin (pv1.trans (Pv.of_kp0 kV)) hk (Nat.le_refl _) p2 m2 hf
    refine ⟨⟨?_, (X5.bx.pv X5.t0 m2.pv).cell 8⟩, P9⟩
    obtain ⟨tag', P9, _⟩ := P9
    exact (X5.pp.mv m2 p2 hf).head.1
  obtain ⟨f0, _⟩ := hu
  rw [hkd] at f0
  clear h hr X pv1 eP hf
  unfold ov
  rw [hkd] at HW ⊢
  go_enter Try.func18, Try.ntmps18
  go_upto_region 1 with fail
  rw [HW.out]
  clear HW
  go_upto_region 11 with fail
  refine wp_region_g (S := fun V => V.cell? ⟨b, 0, none⟩ = some (.pointer (some ⟨a, 0, none⟩)) ∧ V.cell? ⟨g, 8, none⟩ = some (.string o.tt)) (T := []) (by kernel_rfl) (HS.out _ (Kp.refl _ _).drew) (fun hHeld => ?_)
  refine g_pure 0 (some 45) (.move (.tmp 0)) ?_
  refine g_pure 1 (some 46) (.nilCheck (.tmp 45)) ?_
  refine g_pure 2 (some 47) (.fieldAddr 43 (.tmp 46) 0) ?_
  refine g_take 3 (some 48) (.load 27 (.tmp 47)) (by intro w hSw; (obtain ⟨q0, q1⟩ := hSw); go_simp; try with_reducible rfl) ?_
  refine g_pure 4 (some 49) (.move (.tmp 3)) ?_
  refine g_pure 5 (some 50) (.fieldAddr 25 (.tmp 6) 8) ?_
  refine g_take 6 (some 51) (.load 9 (.tmp 50)) (by intro w hSw; (obtain ⟨q0, q1⟩ := hSw); go_simp; try with_reducible rfl) ?_
  refine wpAnyG_ready (rs := [7]) (by kernel_rfl) (by simp) ?_
  refine AllReadyG.cons (o := ⟨some 52, .call { callee := .value (.func 30), args := #[.tmp 48, .tmp 49, .tmp 51], argTypes := #[27, 3, 9] }, 28, _, _, none⟩) rfl (fun K hK => ?_) AllReadyG.nil
  go_simp
  go_at_call 30
  refine (HC.out _ (Kp.refl _ _).drew).mono ?_
  rintro e W2 ⟨rfl, tag2, p2, m2⟩
  go_wp2_with fail
  have X2 := H9.out _ _ _ (Kp.refl _ _).drew p2 m2
  refine hK.out _ _ X2.1 (fun hHeld1 => ?_)
  clear hK K hHeld
  try simp only [Act.put, pu1, pu2, pu3]
  refine g_pure 8 (some 10) (.assign (.tmp 52)) ?_
  refine wpAnyG_free (by kernel_rfl) ?_
  refine wpAny_done (by kernel_rfl) ?_ _
  have X3 : Hid _ := X2.2
  clear HC HS H9 X2 hHeld1 p2 m2
  go_wp2
  go_ret
  exact ⟨rfl, X3.out⟩

set_option maxRecDepth 100000 in
set_option maxHeartbeats 1000000 in
theorem per_10 (h : Pp tag w b a m s k) (hk : k < 1300) (hkd : o.kd = 10) (ho : tinyO o) (hr : R0 tag w p o.al) (n pa r : Nat) (hrn : r < s.A.n) (hx : wf64 o.nd) :
    Calls Try.prog 18 #[.pointer (some ⟨b, 0, none⟩), ov o p, .int .i64 (n : Int), .int .i64 (pa : Int), .int .i64 (r : Int)] w fun e w' => e = .returned (.int .i64 (s.perF o n pa r).2) ∧ ∃ tag', Pp tag' w' b a m (s.perF o n pa r).1 (k + 1) ∧ Pv tag w tag' w' := by
  obtain ⟨tag1, W1, g, hg, HW, X, pv1⟩ := Px.open (o := o) h hr
  have hf := h.fit.perF hk ho n pa r
  have eP : s.perF o n pa r = s.upd (s.A.morF n (fun x => more x o.al)) := by unfold Py.perF; rw [if_neg (by rw [hkd]; decide), if_neg (by rw [hkd]; decide), if_neg (by rw [hkd]; decide), if_neg (by rw [hkd]; decide), if_neg (by rw [hkd]; decide), if_neg (by rw [hkd]; decide), if_neg (by rw [hkd]; decide), if_neg (by rw [hkd]; decide), if_neg (by rw [hkd]; decide), if_pos hkd]
  rw [eP] at hf ⊢
  obtain ⟨c0, _⟩ := X.pp.head
  have hu := nine_at X.bx
  have HC : Hid (∀ V, Kp [] W1 V → Calls Try.prog 35 #[.pointer (some ⟨a, 0, none⟩), .int .i64 (n : Int), .slice p.1 p.2.1 p.2.2] V fun e w' => e = .returned (.int .i64 (s.A.morF (n : Int) (fun x => more x o.al)).2) ∧ ∃ tag', Ps tag' w' a s.q (s.A.morF (n : Int) (fun x => more x o.al)).1 (k + 1) ∧ Mv tag1 V tag' w') := fun V kV => by
    have V5 := X.kept kV
    exact V5.pp.ps.mor (by omega) (n : Int) o.al p.1 p.2.1 p.2.2 (V5.rk.mono (fun x _ hx => by unfold Qp; rw [hx]; unfold isP; omega)) ho.al ho.each
  have HS : Hid (∀ V, Kp [] W1 V → V.cell? ⟨b, 0, none⟩ = some (.pointer (some ⟨a, 0, none⟩)) ∧ V.cell? ⟨g, 7, none⟩ = some (.slice p.1 p.2.1 p.2.2)) := fun V kV => ⟨(X.pp.kept kV).head.1, (X.bx.kept kV (by simp)).cell 7⟩
  have H9 : Hid (∀ V tag2 W2, Kp [] W1 V → Ps tag2 W2 a s.q (s.A.morF (n : Int) (fun x => more x o.al)).1 (k + 1) → Mv tag1 V tag2 W2 → (W2.cell? ⟨b, 0, none⟩ = some (.pointer (some ⟨a, 0, none⟩)) ∧ W2.cell? ⟨g, 7, none⟩ = some (.slice p.1 p.2.1 p.2.2)) ∧ ∃ tag', Pp tag' W2 b a m (s.upd (s.A.morF (n : Int) (fun x => more x o.al))).1 (k + 1) ∧ Pv tag w tag' W2) := fun V tag2 W2 kV p2 m2 => by
    have X5 := X.kept kV
    have P9 := X5.fin (pv1.trans (Pv.of_kp0 kV)) hk (Nat.le_refl _) p2 m2 hf
    refine ⟨⟨?_, (X5.bx.pv X5.t0 m2.pv).cell 7⟩, P9⟩
    obtain ⟨tag', P9, _⟩ := P9
    exact (X5.pp.mv m2 p2 hf).head.1
  obtain ⟨f0, _⟩ := hu
  rw [hkd] at f0
  clear h hr X pv1 eP hf
  unfold ov
  rw [hkd] at HW ⊢
  go_enter Try.func18, Try.ntmps18
  go_upto_region 1 with fail
  rw [HW.out]
  clear HW
  go_upto_region 21 with fail
  refine wp_region_g (S := fun V => V.cell? ⟨b, 0, none⟩ = some (.pointer (some ⟨a, 0, none⟩)) ∧ V.cell? ⟨g, 7, none⟩ = some (.slice p.1 p.2.1 p.2.2)) (T := []) (by kernel_rfl) (HS.out _ (Kp.refl _ _).drew) (fun hHeld => ?_)
  refine g_pure 0 (some 87) (.move (.tmp 0)) ?_
  refine g_pure 1 (some 88) (.nilCheck (.tmp 87)) ?_
  refine g_pure 2 (some 89) (.fieldAddr 43 (.tmp 88) 0) ?_
  refine g_take 3 (some 90) (.load 27 (.tmp 89)) (by intro w hSw; (obtain ⟨q0, q1⟩ := hSw); go_simp; try with_reducible rfl) ?_
  refine g_pure 4 (some 91) (.move (.tmp 2)) ?_
  refine g_pure 5 (some 92) (.fieldAddr 25 (.tmp 6) 7) ?_
  refine g_take 6 (some 93) (.load 23 (.tmp 92)) (by intro w hSw; (obtain ⟨q0, q1⟩ := hSw); go_simp; try with_reducible rfl) ?_
  refine wpAnyG_ready (rs := [7]) (by kernel_rfl) (by simp) ?_
  refine AllReadyG.cons (o := ⟨some 94, .call { callee := .value (.func 35), args := #[.tmp 90, .tmp 91, .tmp 93], argTypes := #[27, 3, 23] }, 28, _, _, none⟩) rfl (fun K hK => ?_) AllReadyG.nil
  go_simp
  go_at_call 35
  refine (HC.out _ (Kp.refl _ _).drew).mono ?_
  rintro e W2 ⟨rfl, tag2, p2, m2⟩
  go_wp2_with fail
  have X2 := H9.out _ _ _ (Kp.refl _ _).drew p2 m2
  refine hK.out _ _ X2.1 (fun hHeld1 => ?_)
  clear hK K hHeld
  try simp only [Act.put, pu1, pu2, pu3]
  refine g_pure 8 (some 10) (.assign (.tmp 94)) ?_
  refine wpAnyG_free (by kernel_rfl) ?_
  refine wpAny_done (by kernel_rfl) ?_ _
  have X3 : Hid _ := X2.2
  clear HC HS H9 X2 hHeld1 p2 m2
  go_wp2
  go_ret
  exact ⟨rfl, X3.out⟩

theorem perform_any (h : Pp tag w b a m s k) (hk : k < 1300) (h1 : 1 ≤ o.kd) (h2 : o.kd ≤ 11) (ho : tinyO o) (hr : R0 tag w p o.al) (n pa r : Nat) (hrn : r < s.A.n) (hx : wf64 o.nd) (hno : Py.isN o.kd = true → num s.M o.nd = none) :
    Calls Try.prog 18 #[.pointer (some ⟨b, 0, none⟩), ov o p, .int .i64 (n : Int), .int .i64 (pa : Int), .int .i64 (r : Int)] w fun e w' => e = .returned (.int .i64 (s.perF o n pa r).2) ∧ ∃ tag', Pp tag' w' b a m (s.perF o n pa r).1 (k + 1) ∧ Pv tag w tag' w' := by
  obtain e | e | e | e | e | e | e | e | e | e | e : o.kd = 1 ∨ o.kd = 2 ∨ o.kd = 3 ∨ o.kd = 4 ∨ o.kd = 5 ∨ o.kd = 6 ∨ o.kd = 7 ∨ o.kd = 8 ∨ o.kd = 9 ∨ o.kd = 10 ∨ o.kd = 11 := by omega
  · exact per_1 h hk e ho hr n pa r hrn hx (hno (by rw [e]; rfl))
  · exact per_2 h hk e ho hr n pa r hrn hx
  · exact per_3 h hk e ho hr n pa r hrn hx
  · exact per_4 h hk e ho hr n pa r hrn hx
  · exact per_5 h hk e ho hr n pa r hrn hx
  · exact per_6 h hk e ho hr n pa r hrn hx
  · exact per_7 h hk e ho hr n pa r hrn hx
  · exact per_8 h hk e ho hr n pa r hrn hx
  · exact per_9 h hk e ho hr n pa r hrn hx (hno (by rw [e]; rfl))
  · exact per_10 h hk e ho hr n pa r hrn hx
  · exact per_11 h hk e ho hr n pa r hrn hx

end

end Go.Proofs.Ytpkppobkagdhkaa
