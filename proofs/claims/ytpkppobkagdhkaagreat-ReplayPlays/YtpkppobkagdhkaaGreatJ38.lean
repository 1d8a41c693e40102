/-
  Joined: Rpc Rpd Rpe RefC Ren.
-/
import Derived.Test.YtpkppobkagdhkaaGreatJ37
import Derived.Test.YtpkppobkagdhkaaGreatJ28
import Derived.Deep.RegionWith
import Derived.Test.YtpkppobkagdhkaaGreatJ4
import Derived.Test.YtpkppobkagdhkaaGreatJ32

/-
  The document's player: a handle becomes known: two lists grow, in any order of what is made for them.
-/
namespace Go.Proofs.YtpkppobkagdhkaaGreat
open Go.RowKit Go.Maps Utf
set_option linter.unusedVariables false
set_option linter.unusedSimpArgs false

/-- The blocks of two slices. -/
abbrev bl2 (l1 l2 : Sl) : List Nat := blk (.slice l1.1 l1.2.1 l1.2.2) ++ blk (.slice l2.1 l2.2.1 l2.2.2)

/-- Under way: w0 the world ahead of it; v1, v2 the lists as they are now. -/
structure Sg (w0 U : World) (b g d : Nat) (l1 l2 : Sl) (v1 v2 : Value) (xs ys : List Value) (x : Int) : Prop where
  kp : Kp (bl2 l1 l2) w0 U
  hb : At U b #[.pointer (some ⟨d, 0, none⟩), .slice l1.1 l1.2.1 l1.2.2, .slice l2.1 l2.2.1 l2.2.2] 104
  hg : U.cell? ⟨g, 1, none⟩ = some (.int .i64 x)
  o1 : Own U 3 v1 xs
  o2 : Own U 3 v2 ys
  n1 : ∀ z, z ∈ blk v1 → z ∈ blk (.slice l1.1 l1.2.1 l1.2.2) ∨ w0.heap.size ≤ z
  n2 : ∀ z, z ∈ blk v2 → z ∈ blk (.slice l2.1 l2.2.1 l2.2.2) ∨ w0.heap.size ≤ z
  dj : ∀ z, z ∈ blk v1 → z ∉ blk v2
  bb : b ∉ blk v1 ∧ b ∉ blk v2
  gg : g ∉ blk v1 ∧ g ∉ blk v2

/-- A slice of one that was made for it. -/
def Lt (U : World) (l : Nat) (z : Int) (v1 v2 : Value) : Prop := At U l #[.int .i64 z] 3 ∧ l ∉ blk v1 ∧ l ∉ blk v2

section
variable {w0 U : World} {b g d : Nat} {l1 l2 : Sl} {v1 v2 : Value} {xs ys : List Value} {x : Int}

theorem Sg.reads (h : Sg w0 U b g d l1 l2 v1 v2 xs ys x) : U.cell? ⟨b, 1, none⟩ = some (.slice l1.1 l1.2.1 l1.2.2) ∧ U.cell? ⟨b, 2, none⟩ = some (.slice l2.1 l2.2.1 l2.2.2) ∧ U.cell? ⟨g, 1, none⟩ = some (.int .i64 x) := ⟨h.hb.cell 1, h.hb.cell 2, h.hg⟩

theorem Sg.kept {U' : World} (h : Sg w0 U b g d l1 l2 v1 v2 xs ys x) (k : Kp [] U U') : Sg w0 U' b g d l1 l2 v1 v2 xs ys x :=
  ⟨h.kp.trans k (fun z hz => by simp at hz), h.hb.kept k (by simp), by rw [k.cell (block_lt_of_cell h.hg) (by simp)]; exact h.hg, h.o1.keep k (fun _ _ => by simp), h.o2.keep k (fun _ _ => by simp), h.n1, h.n2, h.dj, h.bb, h.gg⟩

theorem Lt.kept {U' : World} {l : Nat} {z : Int} (h : Lt U l z v1 v2) (k : Kp [] U U') : Lt U' l z v1 v2 := ⟨h.1.kept k (by simp), h.2⟩

theorem Sg.lit (h : Sg w0 U b g d l1 l2 v1 v2 xs ys x) (z : Int) : Sg w0 (U.alloc (.cells #[.int .i64 z] 3)) b g d l1 l2 v1 v2 xs ys x ∧ Lt (U.alloc (.cells #[.int .i64 z] 3)) U.heap.size z v1 v2 ∧ Kp [] U (U.alloc (.cells #[.int .i64 z] 3)) :=
  ⟨h.kept ((Kp.refl _ _).alloc _), ⟨At.new _ _ _, fun hm => by have := h.o1.lt _ hm; omega, fun hm => by have := h.o2.lt _ hm; omega⟩, (Kp.refl _ _).alloc _⟩

theorem Sg.app1 (h : Sg w0 U b g d l1 l2 v1 v2 xs ys x) {l : Nat} {z : Int} (L : Lt U l z v1 v2) (hl : xs.length ≤ 5000) :
    ∃ a n c U', (∀ ty, (Builtin.append_ #[61, 61] ty #[v1, .slice (some ⟨l, 0, none⟩) 1 1]).run Tryz.prog U = .ok (.slice a n c) U') ∧ Sg w0 U' b g d l1 l2 (.slice a n c) v2 (xs ++ [.int .i64 z]) ys x ∧ ∀ l' z', Lt U l' z' v1 v2 → Lt U' l' z' (.slice a n c) v2 := by
  obtain ⟨v', U', hrun, o', k', b', a, c, rfl⟩ := app_any Tryz.underlying61 infoI rfl (by decide) U v1 xs h.o1 _ 1 [.int .i64 z] (src_one Tryz.underlying61 L.1 rfl) (fun _ => by omega) (by omega)
  have hn : ∀ y, y < U.heap.size → y ∉ blk v1 → y ∉ blk (.slice (some a) (xs.length + 1) c) := fun y hy h1 hm => by
    rcases b' y hm with e | e
    · exact h1 e
    · omega
  have hw := h.kp.size
  refine ⟨_, _, _, U', hrun, ⟨h.kp.trans k' (fun y hy => ?_), h.hb.kept k' h.bb.1, by rw [k'.cell (block_lt_of_cell h.hg) h.gg.1]; exact h.hg, o', h.o2.keep k' (fun y hy h1 => h.dj y h1 hy), fun y hy => ?_, h.n2, fun y hy h2 => ?_, ⟨hn b h.hb.lt h.bb.1, h.bb.2⟩, ⟨hn g (block_lt_of_cell h.hg) h.gg.1, h.gg.2⟩⟩, fun l' z' L' => ⟨L'.1.kept k' L'.2.1, hn l' L'.1.lt L'.2.1, L'.2.2⟩⟩
  · rcases h.n1 y hy with e | e
    · exact Or.inl (List.mem_append_left _ e)
    · exact Or.inr e
  · rcases b' y hy with e | e
    · exact h.n1 y e
    · exact .inr (by omega)
  · rcases b' y hy with e | e
    · exact h.dj y e h2
    · have := h.o2.lt y h2; omega

theorem Sg.app2 (h : Sg w0 U b g d l1 l2 v1 v2 xs ys x) {l : Nat} {z : Int} (L : Lt U l z v1 v2) (hl : ys.length ≤ 5000) :
    ∃ a n c U', (∀ ty, (Builtin.append_ #[61, 61] ty #[v2, .slice (some ⟨l, 0, none⟩) 1 1]).run Tryz.prog U = .ok (.slice a n c) U') ∧ Sg w0 U' b g d l1 l2 v1 (.slice a n c) xs (ys ++ [.int .i64 z]) x := by
  obtain ⟨v', U', hrun, o', k', b', a, c, rfl⟩ := app_any Tryz.underlying61 infoI rfl (by decide) U v2 ys h.o2 _ 1 [.int .i64 z] (src_one Tryz.underlying61 L.1 rfl) (fun _ => by omega) (by omega)
  have hn : ∀ y, y < U.heap.size → y ∉ blk v2 → y ∉ blk (.slice (some a) (ys.length + 1) c) := fun y hy h1 hm => by
    rcases b' y hm with e | e
    · exact h1 e
    · omega
  have hw := h.kp.size
  refine ⟨_, _, _, U', hrun, ⟨h.kp.trans k' (fun y hy => ?_), h.hb.kept k' h.bb.2, by rw [k'.cell (block_lt_of_cell h.hg) h.gg.2]; exact h.hg, h.o1.keep k' (fun y hy h1 => h.dj y hy h1), o', h.n1, fun y hy => ?_, fun y hy h2 => ?_, ⟨h.bb.1, hn b h.hb.lt h.bb.2⟩, ⟨h.gg.1, hn g (block_lt_of_cell h.hg) h.gg.2⟩⟩⟩
  · rcases h.n2 y hy with e | e
    · exact Or.inl (List.mem_append_right _ e)
    · exact Or.inr e
  · rcases b' y hy with e | e
    · exact h.n2 y e
    · exact .inr (by omega)
  · rcases b' y h2 with e | e
    · exact h.dj y hy e
    · have := h.o1.lt y hy; omega

variable {tag : Nat → Nat} {s : Py} {k : Nat}

theorem Pd.sg (h : Pd tag w0 b d l1 l2 s k) {g : Nat} (h0 : tag g = 0) (hg : w0.cell? ⟨g, 1, none⟩ = some (.int .i64 x)) : Sg w0 w0 b g d l1 l2 (.slice l1.1 l1.2.1 l1.2.2) (.slice l2.1 l2.2.1 l2.2.2) (hha s.M) (hnu s.M) x :=
  ⟨Kp.refl _ _, h.hd, hg, h.o1, h.o2, fun _ hz => .inl hz, fun _ hz => .inl hz, h.dj, ⟨h.b1, h.b2⟩, ⟨fun hm => by have := h.t1 _ hm; omega, fun hm => by have := h.t2 _ hm; omega⟩⟩

theorem at_set {w : World} {g : Nat} {v0 v1 v2 : Value} {e : TypeId} (h : At w g #[v0, v1, v2] e) (x y : Value) : At ((w.setCell ⟨g, 1, none⟩ x).setCell ⟨g, 2, none⟩ y) g #[v0, x, y] e := (h.set 1 x).set 2 y

/-- Both lists are stored. -/
theorem Sg.fin {a1 a2 : Option Addr} {n1 n2 c1 c2 n : Nat} {j : Nat} (h : Pd tag w0 b d l1 l2 s k) (S : Sg w0 U b g d l1 l2 (.slice a1 n1 c1) (.slice a2 n2 c2) (hha s.M ++ [.int .i64 x]) (hnu s.M ++ [.int .i64 (n : Int)]) x) (f : (Py.mk s.A s.q (s.M ++ [(x, n)])).Fit j) :
    ∃ tag' m1 m2, Pd tag' ((U.setCell ⟨b, 1, none⟩ (.slice a1 n1 c1)).setCell ⟨b, 2, none⟩ (.slice a2 n2 c2)) b d m1 m2 ⟨s.A, s.q, s.M ++ [(x, n)]⟩ j ∧ Qv tag w0 tag' ((U.setCell ⟨b, 1, none⟩ (.slice a1 n1 c1)).setCell ⟨b, 2, none⟩ (.slice a2 n2 c2)) := by
  have kb : Kp [b] U ((U.setCell ⟨b, 1, none⟩ (.slice a1 n1 c1)).setCell ⟨b, 2, none⟩ (.slice a2 n2 c2)) := ((Kp.refl _ _).setCell (p := ⟨b, 1, none⟩) (Or.inl (by simp)) _).setCell (p := ⟨b, 2, none⟩) (Or.inl (by simp)) _
  have k0 : Kp (b :: bl2 l1 l2) w0 ((U.setCell ⟨b, 1, none⟩ (.slice a1 n1 c1)).setCell ⟨b, 2, none⟩ (.slice a2 n2 c2)) :=
    ⟨kb.os.trans S.kp.os, kb.tape.trans S.kp.tape, kb.output.trans S.kp.output, Nat.le_trans S.kp.size kb.size, fun y hy hn => (kb.block y (Nat.lt_of_lt_of_le hy S.kp.size) (fun hm => hn (by rw [List.mem_singleton.1 hm]; simp))).trans (S.kp.block y hy (fun hm => hn (List.mem_cons_of_mem _ hm)))⟩
  have h7 : ∀ y, y ∈ b :: bl2 l1 l2 → tag y = 7 := fun y hy => by
    rcases List.mem_cons.1 hy with rfl | hy
    · exact h.tb
    · rcases List.mem_append.1 hy with hy | hy
      · exact h.t1 y hy
      · exact h.t2 y hy
  have hg : ∀ y, y < w0.heap.size → (fun y => if y < w0.heap.size then tag y else 7) y = tag y := fun y hy => if_pos hy
  have t7 : ∀ y, (y < w0.heap.size → tag y = 7) → (fun y => if y < w0.heap.size then tag y else 7) y = 7 := fun y hy => by
    show (if y < w0.heap.size then tag y else 7) = 7
    split
    · rename_i e; exact hy e
    · rfl
  have o1 := S.o1.keep kb (fun y hy hm => by rw [List.mem_singleton.1 hm] at hy; exact S.bb.1 hy)
  have o2 := S.o2.keep kb (fun y hy hm => by rw [List.mem_singleton.1 hm] at hy; exact S.bb.2 hy)
  refine ⟨fun y => if y < w0.heap.size then tag y else 7, (a1, n1, c1), (a2, n2, c2), ⟨at_set S.hb _ _, t7 b (fun _ => h.tb), ?_, by rw [hha_snoc]; exact o1, fun y hy => t7 y (fun hl => ?_), by rw [hnu_snoc]; exact o2, fun y hy => t7 y (fun hl => ?_), S.dj, S.bb.1, S.bb.2, f⟩, Qv.of_kp k0 (fun y hy _ => .inr (.inr (h7 y hy))) hg⟩
  · exact (h.dn.sm (tag' := fun y => if y < w0.heap.size then tag y else 7) (fun y hy ht => k0.block y hy (fun hm => by have := h7 y hm; omega)) hg)
  · rcases S.n1 y hy with e | e
    · exact h.t1 y e
    · omega
  · rcases S.n2 y hy with e | e
    · exact h.t2 y e
    · omega

end

end Go.Proofs.YtpkppobkagdhkaaGreat

/-
  The document's player: Do, what is refused.
-/
namespace Go.Proofs.YtpkppobkagdhkaaGreat
open Go.RowKit Go.Maps Utf
set_option linter.unusedVariables false
set_option linter.unusedSimpArgs false

/-- A player, and an operation in a box of its own. -/
structure Dx (tag : Nat → Nat) (w : World) (b d : Nat) (l1 l2 : Sl) (s : Py) (k g : Nat) (o : Ot) (p : Sl) : Prop where
  pp : Pd tag w b d l1 l2 s k
  bx : At w g (oc o p) 24
  t0 : tag g = 0
  rk : R0 tag w p o.al

/-- What comes of an operation. -/
abbrev Rn (tag : Nat → Nat) (w : World) (b d k : Nat) (s' : Py) (W : World) : Prop := ∃ tag' m1 m2, Pd tag' W b d m1 m2 s' (k + 1) ∧ Qv tag w tag' W

section
variable {tag tag' : Nat → Nat} {w w' : World} {b d k g : Nat} {l1 l2 : Sl} {s : Py} {o : Ot} {p : Sl}

theorem R0.qv {l : List Att} (h : R0 tag w p l) (v : Qv tag w tag' w') : R0 tag' w' p l := by
  refine ⟨h.len, h.cap, fun hn => ?_⟩
  obtain ⟨b, off, cur, e, hq, h1, h2, h3⟩ := h.at' hn
  have hl := lt_of h2
  exact ⟨b, off, cur, e, (v.tg b hl).trans hq, h1, by rw [v.block b hl (by rw [hq]; omega) (by rw [hq]; omega) (by rw [hq]; omega)]; exact h2, h3⟩

theorem At.qv {cur : Array Value} {e : TypeId} (h : At w g cur e) (h0 : tag g = 0) (v : Qv tag w tag' w') : At w' g cur e := by
  unfold At
  rw [v.block g h.lt (by rw [h0]; omega) (by rw [h0]; omega) (by rw [h0]; omega)]
  exact h

theorem Dx.kept (h : Dx tag w b d l1 l2 s k g o p) (kp : Kp [] w w') : Dx tag w' b d l1 l2 s k g o p := ⟨h.pp.kept kp, h.bx.kept kp (by simp), h.t0, h.rk.kept kp⟩

theorem Dx.open (h : Pd tag w b d l1 l2 s k) (hr : R0 tag w p o.al) : ∃ tag1 W1 g, w.heap.size = g ∧ Hid (w.alloc (.cells #[.int .i64 o.kd, .int .i64 o.nd, .int .i64 o.pa, .int .i64 o.rf, .int .i64 o.ty, .int .i64 o.ns, .string o.nm, .slice p.1 p.2.1 p.2.2, .string o.tt] 24) = W1) ∧ Dx tag1 W1 b d l1 l2 s k g o p ∧ Qv tag w tag1 W1 := by
  have k1 : Kp [] w (w.alloc (.cells (oc o p) 24)) := (Kp.refl _ _).alloc _
  have hg2 : ∀ x, x < w.heap.size → (fun x => if x < w.heap.size then tag x else 0) x = tag x := fun x hx => if_pos hx
  have pv : Qv tag w (fun x => if x < w.heap.size then tag x else 0) (w.alloc (.cells (oc o p) 24)) := Qv.of_kp k1 (fun x hx => by simp at hx) hg2
  exact ⟨_, _, _, rfl, rfl, ⟨h.re k1 hg2, At.new _ _ _, if_neg (by omega), hr.qv pv⟩, pv⟩

/-- What a call of the arena leaves. -/
theorem Dx.fin {tag1 tag2 : Nat → Nat} {W1 W2 : World} (h : Dx tag1 W1 b d l1 l2 s k g o p) (v1 : Qv tag w tag1 W1) {q : Bool} {A : Ar} (p2 : Dn tag2 W2 d q A) (m2 : Dv tag1 W1 tag2 W2) (hf : (Py.mk A q s.M).Fit (k + 1)) : Rn tag w b d k ⟨A, q, s.M⟩ W2 := ⟨tag2, l1, l2, h.pp.dv m2 p2 hf, v1.trans m2.qv⟩

theorem ni_yes {s : Py} {x : Int} (h : s.kn x = true) : ni s.M x = ((s.nz x : Nat) : Int) := by
  unfold Py.kn at h
  unfold ni Py.nz
  cases e : num s.M x with
  | none => rw [e] at h; cases h
  | some n => rfl
theorem ni_no {s : Py} {x : Int} (h : s.kn x = false) : ni s.M x = -1 := by
  unfold Py.kn at h
  unfold ni
  cases e : num s.M x with
  | none => rfl
  | some n => rw [e] at h; cases h

set_option maxRecDepth 100000 in
set_option maxHeartbeats 1000000 in
theorem rdo_12 (h : Pd tag w b d l1 l2 s k) (hk : k < 1300) (ho : tinyO o) (hr : R0 tag w p o.al) (hq : rightO o = false) :
    Calls Tryz.prog 31 #[.pointer (some ⟨b, 0, none⟩), ov o p] w fun e w' => e = .returned (.int .i64 12) ∧ Rn tag w b d k s w' := by
  obtain ⟨tag1, W1, g, hg, HW, X, v1⟩ := Dx.open (o := o) h hr
  have hl6 := ho.al
  have hpl : p.2.1 = o.al.length := hr.rp.len
  have HR := rref_any W1 o p X.rk.rp (by omega)
  rw [hq] at HR
  have H9 : Hid (∀ W2, Kp [] W1 W2 → Rn tag w b d k s W2) := fun W2 kV => ⟨tag1, l1, l2, (X.pp.kept kV).up hk, v1.trans (Qv.of_kp0 kV)⟩
  obtain ⟨f0, f1, f2, f3, f4, f5, f6, f7, f8⟩ := nine_at X.bx
  clear h hr X v1 hq hpl
  unfold ov at HR ⊢
  go_enter Tryz.func31, Tryz.ntmps31
  go_upto_region 1 with fail
  rw [HW.out]
  clear HW
  go_wp2_with (go_at_call 48; refine HR.mono ?_; rintro e W2 ⟨rfl, k2⟩)
  go_ret
  exact ⟨rfl, H9.out _ k2⟩

set_option maxRecDepth 100000 in
set_option maxHeartbeats 1000000 in
theorem rdo_24 (h : Pd tag w b d l1 l2 s k) (hk : k < 1300) (ho : tinyO o) (hr : R0 tag w p o.al) (hq : rightO o = true) (hN : o.kd = 1 ∨ o.kd = 9) (hK : s.kn o.nd = true) :
    Calls Tryz.prog 31 #[.pointer (some ⟨b, 0, none⟩), ov o p] w fun e w' => e = .returned (.int .i64 24) ∧ Rn tag w b d k s w' := by
  obtain ⟨tag1, W1, g, hg, HW, X, v1⟩ := Dx.open (o := o) h hr
  have hl6 := ho.al
  have hpl : p.2.1 = o.al.length := hr.rp.len
  have HR := rref_any W1 o p X.rk.rp (by omega)
  rw [hq] at HR
  have HN : Hid (∀ V, Kp [] W1 V → Calls Tryz.prog 49 #[.pointer (some ⟨b, 0, none⟩), .int .i64 o.nd] V fun e w' => e = .returned (.int .i64 ((s.nz o.nd : Nat) : Int)) ∧ w' = V) := fun V kV => by
    have := node_any (X.pp.kept kV) o.nd
    rw [ni_yes hK] at this
    exact this
  have HC : Hid (∀ V, Kp [] W1 V → Nine V g 0 o p) := fun V kV => nine_at (X.bx.kept kV (by simp))
  have H9 : Hid (∀ W2, Kp [] W1 W2 → Rn tag w b d k s W2) := fun W2 kV => ⟨tag1, l1, l2, (X.pp.kept kV).up hk, v1.trans (Qv.of_kp0 kV)⟩
  obtain ⟨f0, f1, f2, f3, f4, f5, f6, f7, f8⟩ := nine_at X.bx
  have t0 : (0 : Int) ≤ ((s.nz o.nd : Nat) : Int) := by omega
  clear h hr X v1 hq hpl hK
  generalize s.nz o.nd = z at *
  unfold ov at HR ⊢
  rcases hN with hkd | hkd
  all_goals
    rw [hkd] at HW HR f0 ⊢
    go_enter Tryz.func31, Tryz.ntmps31
    go_upto_region 1 with fail
    rw [HW.out]
    clear HW
    go_wp2_with (first | (go_at_call 48; refine HR.mono ?_; rintro e W2 ⟨rfl, k2⟩; obtain ⟨f0, f1, f2, f3, f4, f5, f6, f7, f8⟩ := HC.out _ k2; rw [hkd] at f0) | (go_at_call 49; refine (HN.out _ k2).mono ?_; rintro e w9 ⟨rfl, hw⟩; have hw2 := hw.symm; clear hw; subst hw2))
    go_ret
    exact ⟨rfl, H9.out _ k2⟩

end

end Go.Proofs.YtpkppobkagdhkaaGreat

/-
  The document's player: Do, an unknown handle.
-/
namespace Go.Proofs.YtpkppobkagdhkaaGreat
open Go.RowKit Go.Maps Utf
set_option linter.unusedVariables false
set_option linter.unusedSimpArgs false

section
variable {tag tag' : Nat → Nat} {w w' : World} {b d k g : Nat} {l1 l2 : Sl} {s : Py} {o : Ot} {p : Sl}

/-- What the walk asks of a player, of a right operation. -/
theorem Dx.asks {tag1 : Nat → Nat} {W1 : World} (X : Dx tag1 W1 b d l1 l2 s k g o p) (ho : tinyO o) (hq : rightO o = true) :
    (Calls Tryz.prog 48 #[ov o p] W1 fun e w' => e = .returned (.bool true) ∧ Kp [] W1 w') ∧
    Hid (∀ V, Kp [] W1 V → ∀ x, s.kn x = true → Calls Tryz.prog 49 #[.pointer (some ⟨b, 0, none⟩), .int .i64 x] V fun e w' => e = .returned (.int .i64 ((s.nz x : Nat) : Int)) ∧ w' = V) ∧
    Hid (∀ V, Kp [] W1 V → ∀ x, s.kn x = false → Calls Tryz.prog 49 #[.pointer (some ⟨b, 0, none⟩), .int .i64 x] V fun e w' => e = .returned (.int .i64 (-1)) ∧ w' = V) ∧
    Hid (∀ V, Calls Tryz.prog 50 #[ov o p] V fun e w' => ∃ ao c, e = .returned (.slice ao (askF o).length c) ∧ Rb w' ao (askF o).length c (iz (askF o)) ∧ Kp [] V w') ∧
    Hid (∀ V, Kp [] W1 V → Nine V g 0 o p) := by
  obtain ⟨_, _, _, r7, r8⟩ := right_of hq
  have hl6 := ho.al
  have hpl : p.2.1 = o.al.length := X.rk.rp.len
  have HR := rref_any W1 o p X.rk.rp (by omega)
  rw [hq] at HR
  refine ⟨HR, fun V kV x hx => ?_, fun V kV x hx => ?_, fun V => ?_, fun V kV => nine_at (X.bx.kept kV (by simp))⟩
  · have := node_any (X.pp.kept kV) x
    rw [ni_yes hx] at this
    exact this
  · have := node_any (X.pp.kept kV) x
    rw [ni_no hx] at this
    exact this
  · refine (asked_any V o p r7 r8).mono ?_
    rintro e w' ⟨ao, n, c, rfl, rb, k1⟩
    obtain rfl : n = (askF o).length := by rw [rb.len, iz_len]
    exact ⟨ao, c, rfl, rb, k1⟩

theorem iz_cell {W : World} {ao : Option Addr} {n c : Nat} {L : List Int} (h : Rb W ao n c (iz L)) {i : Nat} (hi : i < L.length) : ∃ b7 o7, ao = some ⟨b7, o7, none⟩ ∧ W.cell? ⟨b7, o7 + i, none⟩ = some (.int .i64 L[i]) := h.iz_at i hi

set_option maxRecDepth 100000 in
set_option maxHeartbeats 1000000 in
theorem rdo_229 (h : Pd tag w b d l1 l2 s k) (hk : k < 1300) (ho : tinyO o) (hr : R0 tag w p o.al) (hq : rightO o = true) (hkd : o.kd = 9) (hno : s.kn o.nd = false) (hall : (askF o).all s.kn = false) :
    Calls Tryz.prog 31 #[.pointer (some ⟨b, 0, none⟩), ov o p] w fun e w' => e = .returned (.int .i64 22) ∧ Rn tag w b d k s w' := by
  obtain ⟨tag1, W1, g, hg, HW, X, v1⟩ := Dx.open (o := o) h hr
  obtain ⟨HR, HN, HO, HA, HC⟩ := X.asks ho hq
  obtain ⟨f0, f1, f2, f3, f4, f5, f6, f7, f8⟩ := nine_at X.bx
  have hL3 := askF_len o
  have H9 : Hid (∀ W2, Kp [] W1 W2 → Rn tag w b d k s W2) := fun W2 kV => ⟨tag1, l1, l2, (X.pp.kept kV).up hk, v1.trans (Qv.of_kp0 kV)⟩
  clear h hr X v1 hq
  unfold ov at HR HA ⊢
  rw [hkd] at HW HR HA f0 ⊢
  go_enter Tryz.func31, Tryz.ntmps31
  go_upto_region 1 with fail
  rw [HW.out]
  clear HW
  go_wp2_with (first | (go_at_call 48; refine HR.mono ?_; rintro e W2 ⟨rfl, k2⟩; obtain ⟨f0, f1, f2, f3, f4, f5, f6, f7, f8⟩ := HC.out _ k2; rw [hkd] at f0) | (go_at_call 49; refine (HO.out _ k2 _ hno).mono ?_; rintro e w9 ⟨rfl, hw⟩; have hw2 := hw.symm; clear hw; subst hw2) | (go_at_call 50; refine (HA.out _).mono ?_; rintro e W3 ⟨ao, c, rfl, rb, k3⟩))
  have k13 : Kp [] W1 W3 := k2.trans k3 (fun x hx => Or.inl hx)
  clear HA HR k3 f0 f1 f2 f3 f4 f5 f6 f7 f8
  generalize askF o = L at *
  go_loopw [6] (fun v wr => ∃ i : Nat, v = .int .i64 (i : Int) ∧ i ≤ L.length ∧ wr = W3 ∧ ∀ j (hj : j < L.length), j < i → s.kn L[j] = true) (fun v _ => L.length - (intOf v).toNat)
  case atStart => exact ⟨0, rfl, Nat.zero_le _, rfl, fun j _ hj => by omega⟩
  case round =>
    obtain ⟨i, rfl, hi, rfl, hp⟩ := hrel
    by_cases hlt : i < L.length
    · obtain ⟨b7, o7, rfl, f9⟩ := iz_cell rb hlt
      have j0 : (0 : Int) ≤ (i : Int) := by omega
      have j1 : (i : Int) < (L.length : Int) := by omega
      cases hc : s.kn L[i] with
      | true =>
        have HN1 := HN.out _ k13 L[i] hc
        have hp2 : Hid (∀ j (hj : j < L.length), j < i + 1 → s.kn L[j] = true) := fun j hj hji => by
          by_cases e : j = i
          · subst e; exact hc
          · exact hp j hj (by omega)
        have t1 : decide (((s.nz L[i] : Nat) : Int) < 0) = false := decide_eq_false (by omega)
        clear hp hc rb H9 HO HN HC hall
        generalize L[i] = y at *
        go_wp2_with (go_at_call 49; refine (HN1).mono ?_; rintro e w9 ⟨rfl, hw⟩; have hw2 := hw.symm; clear hw; subst hw2)
        go_roundw
        case rel => exact ⟨i + 1, by go_num, by omega, by trivial, hp2.out⟩
        case measure => simp [intOf]; omega
      | false =>
        have HN1 := HO.out _ k13 L[i] hc
        clear hp hc rb HO HN HC hall
        generalize L[i] = y at *
        go_wp2_with (go_at_call 49; refine (HN1).mono ?_; rintro e w9 ⟨rfl, hw⟩; have hw2 := hw.symm; clear hw; subst hw2)
        go_ret
        exact ⟨rfl, H9.out _ k13⟩
    · exfalso
      have : L.all s.kn = true := by
        rw [List.all_eq_true]
        intro y hy
        obtain ⟨j, hj, rfl⟩ := List.mem_iff_getElem.1 hy
        exact hp j hj (by omega)
      rw [this] at hall
      cases hall

set_option maxRecDepth 100000 in
set_option maxHeartbeats 1000000 in
theorem rdo_22x (h : Pd tag w b d l1 l2 s k) (hk : k < 1300) (ho : tinyO o) (hr : R0 tag w p o.al) (hq : rightO o = true) (i1 : (o.kd == 1) = false) (i2 : (o.kd == 9) = false) (hall : (askF o).all s.kn = false) :
    Calls Tryz.prog 31 #[.pointer (some ⟨b, 0, none⟩), ov o p] w fun e w' => e = .returned (.int .i64 22) ∧ Rn tag w b d k s w' := by
  obtain ⟨tag1, W1, g, hg, HW, X, v1⟩ := Dx.open (o := o) h hr
  obtain ⟨HR, HN, HO, HA, HC⟩ := X.asks ho hq
  obtain ⟨f0, f1, f2, f3, f4, f5, f6, f7, f8⟩ := nine_at X.bx
  have hL3 := askF_len o
  have H9 : Hid (∀ W2, Kp [] W1 W2 → Rn tag w b d k s W2) := fun W2 kV => ⟨tag1, l1, l2, (X.pp.kept kV).up hk, v1.trans (Qv.of_kp0 kV)⟩
  clear h hr X v1 hq
  unfold ov at HR HA ⊢
  go_enter Tryz.func31, Tryz.ntmps31
  go_upto_region 1 with fail
  rw [HW.out]
  clear HW
  go_wp2_with (first | (go_at_call 48; refine HR.mono ?_; rintro e W2 ⟨rfl, k2⟩; obtain ⟨f0, f1, f2, f3, f4, f5, f6, f7, f8⟩ := HC.out _ k2) | (go_at_call 50; refine (HA.out _).mono ?_; rintro e W3 ⟨ao, c, rfl, rb, k3⟩))
  have k13 : Kp [] W1 W3 := k2.trans k3 (fun x hx => Or.inl hx)
  clear HA HR k3 f0 f1 f2 f3 f4 f5 f6 f7 f8
  generalize askF o = L at *
  go_loopw [6] (fun v wr => ∃ i : Nat, v = .int .i64 (i : Int) ∧ i ≤ L.length ∧ wr = W3 ∧ ∀ j (hj : j < L.length), j < i → s.kn L[j] = true) (fun v _ => L.length - (intOf v).toNat)
  case atStart => exact ⟨0, rfl, Nat.zero_le _, rfl, fun j _ hj => by omega⟩
  case round =>
    obtain ⟨i, rfl, hi, rfl, hp⟩ := hrel
    by_cases hlt : i < L.length
    · obtain ⟨b7, o7, rfl, f9⟩ := iz_cell rb hlt
      have j0 : (0 : Int) ≤ (i : Int) := by omega
      have j1 : (i : Int) < (L.length : Int) := by omega
      cases hc : s.kn L[i] with
      | true =>
        have HN1 := HN.out _ k13 L[i] hc
        have hp2 : Hid (∀ j (hj : j < L.length), j < i + 1 → s.kn L[j] = true) := fun j hj hji => by
          by_cases e : j = i
          · subst e; exact hc
          · exact hp j hj (by omega)
        have t1 : decide (((s.nz L[i] : Nat) : Int) < 0) = false := decide_eq_false (by omega)
        clear hp hc rb H9 HO HN HC hall
        generalize L[i] = y at *
        go_wp2_with (go_at_call 49; refine (HN1).mono ?_; rintro e w9 ⟨rfl, hw⟩; have hw2 := hw.symm; clear hw; subst hw2)
        go_roundw
        case rel => exact ⟨i + 1, by go_num, by omega, by trivial, hp2.out⟩
        case measure => simp [intOf]; omega
      | false =>
        have HN1 := HO.out _ k13 L[i] hc
        clear hp hc rb HO HN HC hall
        generalize L[i] = y at *
        go_wp2_with (go_at_call 49; refine (HN1).mono ?_; rintro e w9 ⟨rfl, hw⟩; have hw2 := hw.symm; clear hw; subst hw2)
        go_ret
        exact ⟨rfl, H9.out _ k13⟩
    · exfalso
      have : L.all s.kn = true := by
        rw [List.all_eq_true]
        intro y hy
        obtain ⟨j, hj, rfl⟩ := List.mem_iff_getElem.1 hy
        exact hp j hj (by omega)
      rw [this] at hall
      cases hall

end

end Go.Proofs.YtpkppobkagdhkaaGreat

/-
  Same of the document.
-/
namespace Go.Proofs.YtpkppobkagdhkaaGreat
open Go.RowKit
set_option linter.unusedVariables false

theorem each_drop {P : Lb → Prop} (n : Nat) {f : Fo} (h : f.Each P) : (f.drop n).Each P := by
  have := Fo.ind (P := fun f => f.Each P → ∀ n, (f.drop n).Each P) (fun _ n => by rw [show Fo.nil.drop n = .nil from Fo.len_zero.1 (by rw [Fo.len_drop]; simp)]; trivial) (fun l k r _ hr h n => by
    cases n with
    | zero => simpa using h
    | succ n => exact hr h.2.2 n) f
  exact this h n

theorem kid_each {P : Lb → Prop} {k : Fo} (h : k.Each P) {i : Nat} {l' : Lb} {k' r : Fo} (e : k.drop i = .cons l' k' r) : P l' ∧ k'.Each P := by
  have := each_drop i h
  rw [e] at this
  exact ⟨this.1, this.2.1⟩

/-- A kid of a tree that is not too great. -/
theorem okT.kid {l : Lb} {k : Fo} (h : okT l k) {i : Nat} {l' : Lb} {k' r : Fo} (e : k.drop i = .cons l' k' r) : okT l' k' := by
  have h1 := kid_each h.1.2.1 e
  have h2 := kid_cnt e
  exact ⟨⟨h1.1, h1.2, trivial⟩, by have := h.2; omega⟩

def CTsame (l : Lb) (k : Fo) : Prop := ∀ (w : World) (p : Pl) (l' : Lb) (k' : Fo) (p' : Pl), Nd Any w l k p → Nd Any w l' k' p' → okT l k → okT l' k' → Calls Tryz.prog 40 #[wv l p, wv l' p'] w fun e w' => e = .returned (.bool (sameT l k l' k')) ∧ Kp [] w w'

set_option maxRecDepth 100000 in
set_option maxHeartbeats 1500000 in
theorem ref_tsame_any (l : Lb) (k : Fo) : CTsame l k := by
  refine Fo.up (C := CTsame) (fun l k hall => ?_) l k
  intro w p l' k' p' h h' ho ho'
  obtain ⟨B, hB⟩ : ∃ B, B = (w.alloc (.cells (six l p).toArray 40)).alloc (.cells (six l' p').toArray 40) := ⟨_, rfl⟩
  have k0 : Kp [] w B := by rw [hB]; exact ((Kp.refl _ _).alloc _).alloc _
  have g1 : B.heap[w.heap.size]? = some (.cells (six l p).toArray 40 (0, 0)) := by rw [hB, Below.heap_alloc _ _ _ (by simp)]; exact heap_new _ _
  have g2 : B.heap[w.heap.size + 1]? = some (.cells (six l' p').toArray 40 (0, 0)) := by rw [hB]; exact heap_new' _ _ _ (by simp)
  have HW : Hid ((w.alloc (.cells #[.int .i64 l.kind, .int .i64 l.ns, .string l.name, .slice p.1.1 p.1.2.1 p.1.2.2, .string l.text, .slice p.2.1 p.2.2.1 p.2.2.2] 40)).alloc (.cells #[.int .i64 l'.kind, .int .i64 l'.ns, .string l'.name, .slice p'.1.1 p'.1.2.1 p'.1.2.2, .string l'.text, .slice p'.2.1 p'.2.2.1 p'.2.2.2] 40) = B) := hB.symm
  have HL : Hid (∀ V, Kp [] w V → Calls Tryz.prog 78 #[wv l p, wv l' p'] V fun e w' => e = .returned (.bool (sameL l l')) ∧ Kp [] V w') := fun V kV => ref_label_any V l l' p p' (h.kept kV).at'.rp (h'.kept kV).at'.rp (by have := ((Fo.each_cons ..).1 ho.1).1.1; have := h.alen; omega) (by have := ((Fo.each_cons ..).1 ho'.1).1.1; have := h'.alen; omega)
  have hkl := h.klen
  have hkl' := h'.klen
  have hm : p.2.2.1 ≤ 20000 := by have := Fo.len_le_cnt k; have := ho.2; omega
  have hm' : p'.2.2.1 ≤ 20000 := by have := Fo.len_le_cnt k'; have := ho'.2; omega
  have HK : Hid (∀ (i : Nat), i < p.2.2.1 → i < p'.2.2.1 → ∃ l1 k1 p1 b1 off1 l2 k2 p2 b2 off2, p.2.1 = some ⟨b1, off1, none⟩ ∧ p'.2.1 = some ⟨b2, off2, none⟩ ∧ (∀ V, Kp [] w V → Cl V b1 (off1 + i * 6) l1 p1 ∧ Cl V b2 (off2 + i * 6) l2 p2) ∧ (sameT l1 k1 l2 k2 = true → k.take i = k'.take i → k.take (i + 1) = k'.take (i + 1)) ∧ (sameT l1 k1 l2 k2 = false → k ≠ k') ∧ ∀ V, Kp [] w V → Calls Tryz.prog 40 #[wv l1 p1, wv l2 p2] V fun e w' => e = .returned (.bool (sameT l1 k1 l2 k2)) ∧ Kp [] V w') := fun i hi hi' => by
    obtain ⟨l1, k1, e1⟩ := Fo.at_lt (show i < k.len by omega)
    obtain ⟨p1, b1, off1, a1, a2, a3⟩ := h.kid (Kp.refl _ _) e1
    obtain ⟨l2, k2, e2⟩ := Fo.at_lt (show i < k'.len by omega)
    obtain ⟨p2, b2, off2, c1, c2, c3⟩ := h'.kid (Kp.refl _ _) e2
    refine ⟨l1, k1, p1, b1, off1, l2, k2, p2, b2, off2, a1, c1, fun V kV => ⟨a3.keep kV (by simp), c3.keep kV (by simp)⟩, fun hs ht => ?_, fun hs hk => ?_, fun V kV => ?_⟩
    · obtain ⟨rfl, rfl⟩ := (sameT_iff ..).1 hs
      rw [Fo.take_succ e1, Fo.take_succ e2, ht]
    · rw [hk, e2] at e1
      have z := congrArg (fun f : Fo => f.same sameL (.cons l1 k1 (k'.drop (i + 1)))) e1
      have z2 : (Fo.cons l1 k1 (k'.drop (i + 1))).same sameL (.cons l1 k1 (k'.drop (i + 1))) = true := (Fo.same_eq (q := sameL) (fun a b => by simp [sameL]) _).2 rfl
      simp only [z2] at z
      rw [Fo.same_cons, Bool.and_eq_true, Bool.and_eq_true] at z
      have z3 : sameT l2 k2 l1 k1 = true := by unfold sameT; rw [z.1.1, z.1.2]; rfl
      rw [sameT_comm, z3] at hs
      exact absurd hs (by simp)
    · exact all_at hall e1 V p1 l2 k2 p2 (a2.kept kV) (c2.kept kV) (ho.kid e1) (ho'.kid e2)
  have sB : B.heap.size = w.heap.size + 1 + 1 := by rw [hB]; simp
  have HX : Hid (∀ W, Kp [] B W → W.cell? ⟨w.heap.size, 5, none⟩ = some (.slice p.2.1 p.2.2.1 p.2.2.2) ∧ W.cell? ⟨w.heap.size + 1, 5, none⟩ = some (.slice p'.2.1 p'.2.2.1 p'.2.2.2)) := fun W kW => ⟨cell_of ((kW.block _ (by omega) (by simp)).trans g1) 5, cell_of ((kW.block _ (by omega) (by simp)).trans g2) 5⟩
  have HE : Hid (p.2.2.1 = p'.2.2.1 → k.take p.2.2.1 = k'.take p.2.2.1 → k = k') := fun e1 e2 => by
    rw [take_all (by omega), take_all (by omega)] at e2; exact e2
  have HF : Hid (p.2.2.1 ≠ p'.2.2.1 → k ≠ k') := fun e1 e2 => e1 (by rw [hkl, hkl', e2])
  have HT : Hid (k.take 0 = k'.take 0) := by show k.take 0 = k'.take 0; rw [Fo.take_zero, Fo.take_zero]
  have KB : Hid (Kp [] w B) := k0
  have HA : Hid (sameL l l' = true → k = k' → sameT l k l' k' = true) := fun h1 h2 => (sameT_iff ..).2 ⟨(of_decide_eq_true h1), h2⟩
  have HN : Hid ((sameL l l' = false ∨ k ≠ k') → sameT l k l' k' = false) := fun h1 => by
    cases hb : sameT l k l' k' with
    | false => rfl
    | true =>
      obtain ⟨rfl, rfl⟩ := (sameT_iff ..).1 hb
      rcases h1 with h1 | h1
      · exact absurd rfl (of_decide_eq_false h1)
      · exact absurd rfl h1
  generalize sameT l k l' k' = A at HA HN ⊢
  clear h h' ho ho' hall g1 g2 hB sB k0 hkl hkl'
  obtain ⟨⟨pa, pn, pcap⟩, bo, m, d⟩ := p
  obtain ⟨⟨pa', pn', pcap'⟩, bo', m', d'⟩ := p'
  simp only [wv] at HL HW HX HK HE HF hm hm' ⊢
  have HL0 := HL.out _ KB.out
  have HX0 := (HX.out _ (Kp.refl _ _))
  rw [← HW.out] at HL0
  cases hL : sameL l l' with
  | false =>
    have hA := HN.out (Or.inl hL)
    rw [hL] at HL0
    clear HK HE HF HT HA HN HX HX0 HL hL
    go_enter Tryz.func40, Tryz.ntmps40
    go_wp2_with (go_at_call 78; refine HL0.mono ?_; rintro e w1 ⟨rfl, K1⟩; rw [HW.out] at K1)
    go_ret
    exact ⟨by subst hA; rfl, KB.out.trans K1 (fun x hx => Or.inl hx)⟩
  | true =>
    rw [hL] at HL0 HA
    by_cases hmm : m = m'
    · subst hmm
      have q1 : ((m : Int) == (m : Int)) = true := by simp
      clear HF HL
      go_enter Tryz.func40, Tryz.ntmps40
      go_wp2_with (go_at_call 78; refine HL0.mono ?_; rintro e w1 ⟨rfl, K1⟩; rw [HW.out] at K1; obtain ⟨z1, z2⟩ := HX.out _ K1)
      clear HL0 HX0 z1 z2
      go_loopw [5] (fun x5 wr => ∃ i : Nat, x5 = .int .i64 i ∧ i ≤ m ∧ k.take i = k'.take i ∧ Kp [] B wr) (fun x5 wr => m - (intOf x5).toNat)
      case atStart => exact ⟨0, rfl, Nat.zero_le _, HT.out, K1⟩
      case round =>
        obtain ⟨i, rfl, hi, htk, kr⟩ := hrel
        obtain ⟨c5, c6⟩ := HX.out _ kr
        have KR : Hid (Kp [] w wr) := KB.out.trans kr (fun x hx => Or.inl hx)
        by_cases hlt : i < m
        · obtain ⟨l1, k1, p1, b1, off1, l2, k2, p2, b2, off2, rfl, rfl, hcl, hy, hn, HC⟩ := HK.out i hlt hlt
          have KZ : Hid (Kp [] B wr) := kr
          have HY : Hid (sameT l1 k1 l2 k2 = true → k.take (i + 1) = k'.take (i + 1)) := fun h => hy h htk
          have HZ : Hid (sameT l1 k1 l2 k2 = false → A = false) := fun h => HN.out (Or.inr (hn h))
          have HCL : Hid (∀ V, Kp [] w V → Cl V b1 (off1 + i * 6) l1 p1 ∧ Cl V b2 (off2 + i * 6) l2 p2) := hcl
          have HCC := HC _ KR.out.drew
          have j1 : (0 : Int) ≤ (i : Int) := by omega
          have j2 : (i : Int) < (m : Int) := by omega
          generalize sameT l1 k1 l2 k2 = N' at HC HCC HY HZ hy hn
          clear hcl hy hn htk HK HE HT HA HN HC kr
          cases N' with
          | true =>
            have HD := HY.out rfl
            clear HY HZ
            go_wp2_with fail
            go_region_held3 (fun V => (V.cell? ⟨w.heap.size, 5, none⟩ = some (.slice (some ⟨b1, off1, none⟩) m d) ∧ V.cell? ⟨w.heap.size + 1, 5, none⟩ = some (.slice (some ⟨b2, off2, none⟩) m d')) ∧ (V.cell? ⟨b1, off1 + i * 6, none⟩ = some (.int .i64 l1.kind) ∧ V.cell? ⟨b1, off1 + i * 6 + 1, none⟩ = some (.int .i64 l1.ns) ∧ V.cell? ⟨b1, off1 + i * 6 + 2, none⟩ = some (.string l1.name) ∧ V.cell? ⟨b1, off1 + i * 6 + 3, none⟩ = some (.slice p1.1.1 p1.1.2.1 p1.1.2.2) ∧ V.cell? ⟨b1, off1 + i * 6 + 4, none⟩ = some (.string l1.text) ∧ V.cell? ⟨b1, off1 + i * 6 + 5, none⟩ = some (.slice p1.2.1 p1.2.2.1 p1.2.2.2)) ∧ (V.cell? ⟨b2, off2 + i * 6, none⟩ = some (.int .i64 l2.kind) ∧ V.cell? ⟨b2, off2 + i * 6 + 1, none⟩ = some (.int .i64 l2.ns) ∧ V.cell? ⟨b2, off2 + i * 6 + 2, none⟩ = some (.string l2.name) ∧ V.cell? ⟨b2, off2 + i * 6 + 3, none⟩ = some (.slice p2.1.1 p2.1.2.1 p2.1.2.2) ∧ V.cell? ⟨b2, off2 + i * 6 + 4, none⟩ = some (.string l2.text) ∧ V.cell? ⟨b2, off2 + i * 6 + 5, none⟩ = some (.slice p2.2.1 p2.2.2.1 p2.2.2.2)))
              (first
                | exact ⟨HX.out _ (KZ.out.trans Q1.out (fun x hx => Or.inl hx)), (HCL.out _ (KR.out.trans Q1.out (fun x hx => Or.inl hx))).1.cells, (HCL.out _ (KR.out.trans Q1.out (fun x hx => Or.inl hx))).2.cells⟩
                | exact ⟨HX.out _ KZ.out.drew, (HCL.out _ KR.out.drew).1.cells, (HCL.out _ KR.out.drew).2.cells⟩)
              (first
                | (go_at_call 40; refine HCC.mono ?_; rintro e w1 ⟨rfl, K1⟩; have Q1 : Hid (Kp [] wr w1) := (Kp.refl _ _).drew.trans K1 (fun x hx => Or.inl hx)))
            go_wp2
            go_roundw
            case rel => exact ⟨i + 1, by go_num, by omega, HD, KZ.out.trans Q1.out (fun x hx => Or.inl hx)⟩
            case measure => simp [intOf]; omega
          | false =>
            have HD := HZ.out rfl
            clear HY HZ
            go_wp2_with fail
            go_region_held3 (fun V => (V.cell? ⟨w.heap.size, 5, none⟩ = some (.slice (some ⟨b1, off1, none⟩) m d) ∧ V.cell? ⟨w.heap.size + 1, 5, none⟩ = some (.slice (some ⟨b2, off2, none⟩) m d')) ∧ (V.cell? ⟨b1, off1 + i * 6, none⟩ = some (.int .i64 l1.kind) ∧ V.cell? ⟨b1, off1 + i * 6 + 1, none⟩ = some (.int .i64 l1.ns) ∧ V.cell? ⟨b1, off1 + i * 6 + 2, none⟩ = some (.string l1.name) ∧ V.cell? ⟨b1, off1 + i * 6 + 3, none⟩ = some (.slice p1.1.1 p1.1.2.1 p1.1.2.2) ∧ V.cell? ⟨b1, off1 + i * 6 + 4, none⟩ = some (.string l1.text) ∧ V.cell? ⟨b1, off1 + i * 6 + 5, none⟩ = some (.slice p1.2.1 p1.2.2.1 p1.2.2.2)) ∧ (V.cell? ⟨b2, off2 + i * 6, none⟩ = some (.int .i64 l2.kind) ∧ V.cell? ⟨b2, off2 + i * 6 + 1, none⟩ = some (.int .i64 l2.ns) ∧ V.cell? ⟨b2, off2 + i * 6 + 2, none⟩ = some (.string l2.name) ∧ V.cell? ⟨b2, off2 + i * 6 + 3, none⟩ = some (.slice p2.1.1 p2.1.2.1 p2.1.2.2) ∧ V.cell? ⟨b2, off2 + i * 6 + 4, none⟩ = some (.string l2.text) ∧ V.cell? ⟨b2, off2 + i * 6 + 5, none⟩ = some (.slice p2.2.1 p2.2.2.1 p2.2.2.2)))
              (first
                | exact ⟨HX.out _ (KZ.out.trans Q1.out (fun x hx => Or.inl hx)), (HCL.out _ (KR.out.trans Q1.out (fun x hx => Or.inl hx))).1.cells, (HCL.out _ (KR.out.trans Q1.out (fun x hx => Or.inl hx))).2.cells⟩
                | exact ⟨HX.out _ KZ.out.drew, (HCL.out _ KR.out.drew).1.cells, (HCL.out _ KR.out.drew).2.cells⟩)
              (first
                | (go_at_call 40; refine HCC.mono ?_; rintro e w1 ⟨rfl, K1⟩; have Q1 : Hid (Kp [] wr w1) := (Kp.refl _ _).drew.trans K1 (fun x hx => Or.inl hx)))
            go_wp2
            go_ret
            exact ⟨by subst HD; rfl, KR.out.trans Q1.out (fun x hx => Or.inl hx)⟩
        · obtain rfl : i = m := by omega
          obtain rfl : A = true := HA.out (by trivial) (HE.out (by trivial) htk)
          clear HK HX HT HE HN HA htk kr
          go_wp2
          go_ret
          exact ⟨rfl, KR.out⟩
    · have hA := HN.out (Or.inr (HF.out hmm))
      have q1 : ((m : Int) == (m' : Int)) = false := by simp only [beq_eq_false_iff_ne]; omega
      clear HK HE HF HT HA HN HX0 HL hL hmm
      go_enter Tryz.func40, Tryz.ntmps40
      go_wp2_with (go_at_call 78; refine HL0.mono ?_; rintro e w1 ⟨rfl, K1⟩; rw [HW.out] at K1; obtain ⟨z1, z2⟩ := HX.out _ K1)
      go_ret
      exact ⟨by subst hA; rfl, KB.out.trans K1 (fun x hx => Or.inl hx)⟩

end Go.Proofs.YtpkppobkagdhkaaGreat

/-
  Handles called otherwise: nothing else changes. No program.
-/
namespace Go.Proofs.YtpkppobkagdhkaaGreat
open Utf
set_option linter.unusedVariables false
set_option linter.unusedSimpArgs false

/-- A handle's other number. -/
def rho (k h : Int) : Int := if 0 < h then h * 3 + k else h

theorem rho_inj {k a b : Int} (hk : 0 ≤ k) (ha : 0 ≤ a) (hb : 0 ≤ b) (h : rho k a = rho k b) : a = b := by
  unfold rho at h
  split at h <;> split at h <;> omega

def renO (k : Int) (o : Ot) : Ot := ⟨o.kd, rho k o.nd, rho k o.pa, rho k o.rf, o.ty, o.ns, o.nm, o.al, o.tt⟩
def renM (k : Int) (M : List (Int × Nat)) : List (Int × Nat) := M.map fun p => (rho k p.1, p.2)
def Py.ren (k : Int) (s : Py) : Py := ⟨s.A, s.q, renM k s.M⟩

theorem num_ren {k : Int} (hk : 0 ≤ k) {h : Int} (hh : 0 ≤ h) : ∀ {M : List (Int × Nat)}, (∀ p, p ∈ M → 0 ≤ p.1) → num (renM k M) (rho k h) = num M h
  | [], _ => rfl
  | p :: M, hM => by
    simp only [renM, List.map_cons, num]
    by_cases e : p.1 = h
    · rw [if_pos e, if_pos (by rw [e])]
    · rw [if_neg e, if_neg (fun e2 => e (rho_inj hk (hM p (by simp)) hh e2))]
      exact num_ren hk hh (fun q hq => hM q (by simp [hq]))

/-- Handles that are not negative. -/
def Py.Nn (s : Py) : Prop := ∀ p, p ∈ s.M → 0 ≤ p.1

theorem Py.bldF_ren (k : Int) (s : Py) (o : Ot) : (s.ren k).bldF (renO k o) = ((s.bldF o).1.ren k, (s.bldF o).2) := by
  unfold Py.bldF
  simp only [renO, Py.ren, renM]
  by_cases h : (s.A.mkF o.ty o.ns o.nm (uniq o.al) o.tt).2.2 = 0
  · simp only [if_pos h, List.map_append, List.map_cons, List.map_nil]
    exact if_pos h
  · simp only [if_neg h]
    exact if_neg h
theorem Py.entF_ren (k : Int) (s : Py) (h : Int) (r : Nat) : (s.ren k).entF (rho k h) r = ((s.entF h r).1.ren k, (s.entF h r).2) := by
  unfold Py.entF
  simp only [Py.ren, renM]
  by_cases h : (s.A.conF r).2 = true
  · simp only [if_pos h, List.map_append, List.map_cons, List.map_nil]
    exact if_pos h
  · simp only [if_neg h]
    exact if_neg h

theorem Py.perF_ren (k : Int) (s : Py) (o : Ot) (n p r : Nat) : (s.ren k).perF (renO k o) n p r = ((s.perF o n p r).1.ren k, (s.perF o n p r).2) := by
  have e : (renO k o).kd = o.kd := rfl
  have e2 : (renO k o).nd = rho k o.nd := rfl
  unfold Py.perF
  rw [e, e2]
  by_cases h1 : o.kd = 1
  · simp only [if_pos h1]; exact Py.bldF_ren k s o
  simp only [if_neg h1]
  by_cases h2 : o.kd = 2
  · simp only [if_pos h2]; rfl
  simp only [if_neg h2]
  by_cases h3 : o.kd = 3
  · simp only [if_pos h3]; rfl
  simp only [if_neg h3]
  by_cases h4 : o.kd = 4
  · simp only [if_pos h4]; rfl
  simp only [if_neg h4]
  by_cases h5 : o.kd = 5
  · simp only [if_pos h5]; rfl
  simp only [if_neg h5]
  by_cases h6 : o.kd = 6
  · simp only [if_pos h6]; rfl
  simp only [if_neg h6]
  by_cases h7 : o.kd = 7
  · simp only [if_pos h7]; rfl
  simp only [if_neg h7]
  by_cases h8 : o.kd = 8
  · simp only [if_pos h8]; rfl
  simp only [if_neg h8]
  by_cases h9 : o.kd = 9
  · simp only [if_pos h9]; exact Py.entF_ren k s o.nd r
  simp only [if_neg h9]
  by_cases h10 : o.kd = 10
  · simp only [if_pos h10]; rfl
  simp only [if_neg h10]
  by_cases h11 : o.kd = 11
  · simp only [if_pos h11]; rfl
  simp only [if_neg h11]

theorem Py.perF_nn {s : Py} (h : s.Nn) {o : Ot} (ho : 0 ≤ o.nd) (n p r : Nat) : (s.perF o n p r).1.Nn := by
  have hs : ∀ x, Py.Nn ⟨x, s.q, s.M⟩ := fun x => h
  have ha : ∀ (B : Ar) m, Py.Nn ⟨B, s.q, s.M ++ [(o.nd, m)]⟩ := fun B m y hy => by
    rcases List.mem_append.1 hy with e | e
    · exact h y e
    · rw [List.mem_singleton.1 e]; exact ho
  unfold Py.perF
  repeat' split
  · unfold Py.bldF; split
    · exact ha _ _
    · exact h
  all_goals first | exact hs _ | exact h | skip
  · unfold Py.entF; split
    · exact ha _ _
    · exact h

theorem eqb_rho {k a : Int} (hk : 0 < k) (ha : 0 ≤ a) : (rho k a == 0) = (a == 0) := by
  unfold rho
  split
  · have h1 : (a * 3 + k == 0) = false := by simp; omega
    have h2 : (a == 0) = false := by simp; omega
    rw [h1, h2]
  · rfl

theorem right_ren {k : Int} (h0 : 0 < k) (h1 : k ≤ 1048577) {o : Ot} (h : rightO o = true) (hn : o.nd ≤ 9) (hp : o.pa ≤ 9) (hr : o.rf ≤ 9) : rightO (renO k o) = true := by
  obtain ⟨⟨a1, _⟩, ⟨a2, _⟩, ⟨a3, _⟩, _⟩ := right_of h
  have r1 : inR (rho k o.nd) = true := by unfold inR rho; split <;> simp <;> omega
  have r2 : inR (rho k o.pa) = true := by unfold inR rho; split <;> simp <;> omega
  have r3 : inR (rho k o.rf) = true := by unfold inR rho; split <;> simp <;> omega
  unfold rightO at h ⊢
  simp only [renO, r1, r2, r3, Bool.true_and, Bool.and_eq_true] at h ⊢
  refine ⟨h.2.1, ?_⟩
  have hk := h.2.2
  unfold rightK zr at hk ⊢
  simp only [List.all_cons, List.all_nil, eqb_rho h0 a1, eqb_rho h0 a2, eqb_rho h0 a3]
  simp only [List.all_cons, List.all_nil] at hk
  exact hk

theorem Py.kn_ren {k : Int} (hk : 0 ≤ k) {s : Py} (hs : s.Nn) {h : Int} (hh : 0 ≤ h) : (s.ren k).kn (rho k h) = s.kn h ∧ (s.ren k).nz (rho k h) = s.nz h := by
  unfold Py.kn Py.nz Py.ren
  rw [num_ren hk hh hs]
  exact ⟨rfl, rfl⟩

theorem Py.doF_ren {k : Int} (h0 : 0 < k) (h1 : k ≤ 1048577) {s : Py} (hs : s.Nn) {o : Ot} (h : rightO o = true) (hn : o.nd ≤ 9) (hp : o.pa ≤ 9) (hr : o.rf ≤ 9) :
    (s.ren k).doF (renO k o) = ((s.doF o).1.ren k, (s.doF o).2) ∧ (s.doF o).1.Nn := by
  obtain ⟨⟨a1, _⟩, ⟨a2, _⟩, ⟨a3, _⟩, _⟩ := right_of h
  obtain ⟨b1, c1⟩ := Py.kn_ren (k := k) (by omega) hs a1
  obtain ⟨b2, c2⟩ := Py.kn_ren (k := k) (by omega) hs a2
  obtain ⟨b3, c3⟩ := Py.kn_ren (k := k) (by omega) hs a3
  unfold Py.doF
  rw [if_neg (show ¬ rightO (renO k o) = false by rw [right_ren h0 h1 h hn hp hr]; simp), if_neg (show ¬ rightO o = false by rw [h]; simp)]
  simp only [renO, b1, b2, b3, c1, c2, c3]
  split
  · exact ⟨rfl, hs⟩
  split
  · exact ⟨rfl, hs⟩
  exact ⟨Py.perF_ren k s o _ _ _, Py.perF_nn hs a1 _ _ _⟩

/-- What may be called otherwise. -/
def Sml (o : Ot) : Prop := rightO o = true ∧ o.nd ≤ 9 ∧ o.pa ≤ 9 ∧ o.rf ≤ 9

theorem Py.done_ren {k : Int} (h0 : 0 < k) (h1 : k ≤ 1048577) : ∀ {L : List Ot} {s : Py}, s.Nn → (∀ o, o ∈ L → Sml o) → Py.Done s L → Py.Done (s.ren k) (L.map (renO k)) ∧ Py.aft (s.ren k) (L.map (renO k)) = (Py.aft s L).ren k
  | [], s, _, _, _ => ⟨rfl, rfl⟩
  | o :: L, s, hs, hL, hd => by
    obtain ⟨d1, d2⟩ := Py.done_cons.1 hd
    obtain ⟨e1, e2, e3, e4⟩ := hL o (by simp)
    obtain ⟨f1, f2⟩ := Py.doF_ren (k := k) h0 h1 hs e1 e2 e3 e4
    obtain ⟨g1, g2⟩ := Py.done_ren h0 h1 (L := L) f2 (fun x hx => hL x (by simp [hx])) d2
    refine ⟨Py.done_cons.2 ⟨by rw [f1]; exact d1, by rw [f1]; exact g1⟩, ?_⟩
    show Py.aft ((s.ren k).doF (renO k o)).1 (L.map (renO k)) = _
    rw [f1]
    exact g2

theorem Py.first_nn : Py.first.Nn := fun p hp => by
  simp only [Py.first, List.mem_singleton] at hp
  subst hp
  exact Int.le_refl 0
theorem Py.first_ren (k : Int) : Py.first.ren k = Py.first := rfl

end Go.Proofs.YtpkppobkagdhkaaGreat
