/-
  Joined: OneW CopiesW.
-/
import Derived.Test.YtgnbafgglkncmaaCopyZ
import Derived.Test.YtgnbafgglkncmaaTellsW

/-
  TreeOne.
-/
namespace Go.Proofs.Ytgnbafgglkncmaa
open Go.RowKit
set_option linter.unusedVariables false
set_option linter.unusedSimpArgs false

theorem bareN {k s : Int} {x y : ByteArray} (h1 : x.size ≤ 1000000) (h2 : y.size ≤ 1000000) : bareL (k, s, x, [], y) := ⟨rfl, h1, h2⟩

theorem grow_bare (L : List Nn) : (growT true L).Each bareL := by
  refine grow_each _ (fun n hn => ?_)
  simp only [rowN, List.mem_map] at hn
  obtain ⟨m, _, rfl⟩ := hn
  have h1 := cutB_le m.name 9
  have h2 := cutB_le m.text 9
  have hn0 : NON.size ≤ 1000000 := by decide
  have ht : TMPL.size ≤ 1000000 := by decide
  unfold nodeN madeF
  simp only [if_true]
  split
  · exact ⟨bareN hn0 (by omega), trivial⟩
  split
  · exact ⟨bareN hn0 (by omega), trivial⟩
  split
  · exact ⟨bareN ht hn0, ⟨bareN hn0 hn0, trivial, trivial⟩⟩
  · exact ⟨bareN (by rw [ByteArray.size_append]; have : (⟨#[120]⟩ : ByteArray).size = 1 := rfl; omega) hn0, trivial⟩

/-- One more at the end. -/
def more1 (A : Fo) (t : ByteArray) : Fo := A.app (.cons (5, 0, ⟨#[]⟩, [], t) .nil .nil)

theorem more1_len (A : Fo) (t : ByteArray) : (more1 A t).len = A.len + 1 := by unfold more1; rw [Fo.len_app]; rfl
theorem more1_cnt (A : Fo) (t : ByteArray) : (more1 A t).cnt = A.cnt + 1 := by unfold more1; rw [Fo.cnt_app]; rfl
theorem more1_each {P : Lb → Prop} {A : Fo} {t : ByteArray} (h : A.Each P) (h1 : P (5, 0, ⟨#[]⟩, [], t)) : (more1 A t).Each P := Fo.each_app h ((Fo.each_cons ..).2 ⟨h1, trivial, trivial⟩)

theorem app_inj {A X Y : Fo} (h : A.app X = A.app Y) : X = Y := by
  revert h
  refine Fo.ind (P := fun A => A.app X = A.app Y → X = Y) (fun h => h) (fun l k r _ hr h => ?_) A
  rw [Fo.app_cons, Fo.app_cons] at h
  exact hr (fo_inj h).2.2

theorem more1_ne (A : Fo) {t u : ByteArray} (h : ¬ t = u) : sameT lD (more1 A t) lD (more1 A u) = false := by
  cases hs : sameT lD (more1 A t) lD (more1 A u) with
  | false => rfl
  | true =>
    have h1 := (fo_inj (app_inj ((sameT_iff ..).1 hs).2)).1
    exact absurd (congrArg Lb.text h1) h

theorem more1_no (A : Fo) (t : ByteArray) : sameT lD A lD (more1 A t) = false := by
  cases hs : sameT lD A lD (more1 A t) with
  | false => rfl
  | true =>
    have h1 := congrArg Fo.len ((sameT_iff ..).1 hs).2
    rw [more1_len] at h1
    omega

theorem more1_text (A : Fo) (t : ByteArray) : textT lD (more1 A t) = textT lD A := by
  unfold textT more1
  rw [Fo.fold_app, Fo.fold_cons, Fo.fold_nil]
  have e1 : textF (5, 0, ⟨#[]⟩, [], t) = (⟨#[]⟩ : ByteArray) := rfl
  rw [e1]
  simp only [Fo.fold_nil, Fo.cat_none]

theorem more1_dep (A : Fo) (t : ByteArray) : depthT lD A ≤ depthT lD (more1 A t) := by
  unfold depthT more1
  rw [Fo.dep_app]
  omega

theorem more1_show (A : Fo) (t : ByteArray) : showT lD (more1 A t) = showT lD A ++ ⟨#[60, 33, 45, 45, 32]⟩ ++ t ++ ⟨#[32, 45, 45, 62, 10]⟩ := by
  unfold showT more1
  rw [Fo.show_app, Fo.show_cons, Fo.show_nil, Fo.show_nil]
  have e1 : lineF (5, 0, ⟨#[]⟩, [], t) = ⟨#[60, 33, 45, 45, 32]⟩ ++ t ++ ⟨#[32, 45, 45, 62]⟩ := rfl
  have e2 : (⟨#[32, 45, 45, 62]⟩ : ByteArray) ++ ⟨#[10]⟩ = ⟨#[32, 45, 45, 62, 10]⟩ := by decide +kernel
  have e3 : NON = (⟨#[]⟩ : ByteArray) := rfl
  rw [e1, e3]
  simp only [Fo.cat_none, Fo.none_cat, ByteArray.append_assoc]
  rw [e2]

theorem more1_right (A : Fo) (t : ByteArray) : rightF lD (more1 A t) = rightF lD A := by
  have h1 := kids_more (p := lD) (x := (5, 0, ⟨#[]⟩, [], t)) (y := .nil) (fun a b => by simp [hereF, lD, Lb.kind, tmplF]) (by simp [belowF, selfF, aloneF, tmplF, Lb.kind, Lb.ns, Lb.name, Lb.attrs, Lb.text, NON, kids_nil]) A true false
  unfold rightF belowF
  rw [show kidsF (more1 A t) lD true false = kidsF A lD true false from h1]
  have h2 : ∀ n, selfF lD n = true := fun n => by simp [selfF, aloneF, tmplF, lD, Lb.kind, Lb.ns, Lb.name, Lb.attrs, Lb.text, NON]
  rw [h2, h2]

/-- The last of a row. -/
theorem Lf.last {Q : Nat → Prop} {w : World} {A : Fo} {t : ByteArray} {zs : List Value} (h : Lf Q w (more1 A t) zs) : ∃ ys, zs = ys ++ [.int .i64 5, .int .i64 0, .string ⟨#[]⟩, zs[A.len * 6 + 3]?.getD (.int .i64 0), .string t, zs[A.len * 6 + 5]?.getD (.int .i64 0)] ∧ Lf Q w A ys ∧ ∃ p, Nd Q w (5, 0, ⟨#[]⟩, [], t) .nil p ∧ zs = ys ++ six (5, 0, ⟨#[]⟩, [], t) p := by
  have h1 := h.take A.len
  have h2 := h.drop A.len
  have e1 : (more1 A t).take A.len = A := by
    unfold more1
    refine Fo.ind (P := fun A => (A.app (.cons (5, 0, ⟨#[]⟩, [], t) .nil .nil)).take A.len = A) (by simp) (fun l k r _ hr => ?_) A
    rw [Fo.app_cons, Fo.len_cons, Fo.take_cons, hr]
  have e2 : (more1 A t).drop A.len = .cons (5, 0, ⟨#[]⟩, [], t) .nil .nil := by
    unfold more1
    refine Fo.ind (P := fun A => (A.app (.cons (5, 0, ⟨#[]⟩, [], t) .nil .nil)).drop A.len = .cons (5, 0, ⟨#[]⟩, [], t) .nil .nil) (by simp) (fun l k r _ hr => ?_) A
    rw [Fo.app_cons, Fo.len_cons, Fo.drop_cons, hr]
  rw [e1] at h1
  rw [e2] at h2
  obtain ⟨p, ys, h3, h4, h5⟩ := Lf.cons_iff.1 h2
  rw [Lf.nil_iff.1 h5, List.append_nil] at h3
  have h6 : zs = zs.take (A.len * 6) ++ six (5, 0, ⟨#[]⟩, [], t) p := by rw [← h3, List.take_append_drop]
  have hl := h1.len
  refine ⟨zs.take (A.len * 6), ?_, h1, p, h4, h6⟩
  have g3 : zs[A.len * 6 + 3]? = some (.slice p.1.1 p.1.2.1 p.1.2.2) := by
    rw [h6, List.getElem?_append_right (by omega), show A.len * 6 + 3 - (zs.take (A.len * 6)).length = 3 by omega]; rfl
  have g5 : zs[A.len * 6 + 5]? = some (.slice p.2.1 p.2.2.1 p.2.2.2) := by
    rw [h6, List.getElem?_append_right (by omega), show A.len * 6 + 5 - (zs.take (A.len * 6)).length = 5 by omega]; rfl
  rw [g3, g5]
  exact h6

theorem OwnK.turnI {w : World} {g n c : Nat} {zs ys : List Value} (h : OwnK 6 w 25 (.slice (ko g c) (n + 1) c) (n + 1) (zs ++ ys)) (hn : n < c) (hy : ys.length = 6) (i : Nat) (hi : i < 6) (u : Value) : OwnK 6 (w.setCell ⟨g, n * 6 + i, none⟩ u) 25 (.slice (ko g c) (n + 1) c) (n + 1) (zs ++ ys.set i u) := by
  have hz := h.1
  rw [List.length_append, hy] at hz
  obtain ⟨cur, hg, h1, h2, h3, h4⟩ := h.cells (by omega)
  have hm : (n + 1) * 6 ≤ c * 6 := Nat.mul_le_mul_right 6 hn
  refine OwnK.of_cells (by omega) (by rw [List.length_append, List.length_set, hy]; omega) (hg.set _ u) h1 h2 (by simpa using h3) (fun j hj => ?_)
  by_cases h5 : j = n * 6 + i
  · rw [h5, Array.getElem?_setIfInBounds_self_of_lt (by omega), List.getElem?_append_right (by omega), show n * 6 + i - zs.length = i by omega, List.getElem?_set_self (by omega)]
  · rw [Array.getElem?_setIfInBounds_ne (by omega), h4 j hj]
    by_cases h6 : j < zs.length
    · rw [List.getElem?_append_left h6, List.getElem?_append_left h6]
    · rw [List.getElem?_append_right (by omega), List.getElem?_append_right (by omega), List.getElem?_set_ne (by omega)]

theorem one6 (W : World) (cur : Array Value) : ∃ V, W.alloc (.cells cur 25) = V ∧ At V W.heap.size cur 25 ∧ Kp [] W V ∧ W.heap.size < V.heap.size := ⟨_, rfl, At.new _ _ _, (Kp.refl _ _).alloc _, by simp⟩

set_option maxRecDepth 100000 in
set_option maxHeartbeats 4000000 in
theorem one_any (w : World) (L : List Nn) (lo : Option Addr) (ln lc : Nat) (st : ByteArray) (h : Ns w lo ln lc L) :
    Calls Try.prog 8 #[.slice lo ln lc, .string st] w fun e w' => e = .returned (.bool true) ∧ Kp [] w w' := by
  have HL := grow_c w L lo ln lc true h
  have tA := grow_tiny true L
  have bA := grow_bare L
  have hcA : (growT true L).cnt ≤ 60 := by
    have h1 := grow_cnt (rowN true L) (by have := (rowN_cnt true L 30).2; rwa [List.take_of_length_le (by rw [rowN_len]; omega)] at this)
    have h2 := rowN_len true L
    unfold growT
    omega
  generalize growT true L = A at tA bA HL hcA
  have hcb := cutB_le st 9
  have HHD : Hid (∀ W, Calls Try.prog 18 #[.string st, .int .i64 9] W fun e w' => e = .returned (.string (cutB st 9)) ∧ Kp [] W w') := fun W => hd_any W st
  generalize cutB st 9 = cst at hcb HHD
  obtain ⟨cs2, hcs2⟩ : ∃ c, cst ++ (⟨#[33]⟩ : ByteArray) = c := ⟨_, rfl⟩
  have hc2 : cs2.size ≤ 10 := by rw [← hcs2, ByteArray.size_append]; have : (⟨#[33]⟩ : ByteArray).size = 1 := rfl; omega
  have hcne : ¬ cst = cs2 := fun e => by
    have h1 : cs2.size = cst.size + 1 := by rw [← hcs2, ByteArray.size_append]; rfl
    rw [← e] at h1; omega
  have h0s : (⟨#[]⟩ : ByteArray).size ≤ 100 := by decide
  have tU : Tiny lD (more1 A cst) := ⟨tA.1, more1_each tA.2.1 (bare_small h0s (by omega)), by rw [more1_cnt]; omega⟩
  have tV : Tiny lD (more1 A cs2) := ⟨tA.1, more1_each tA.2.1 (bare_small h0s (by omega)), by rw [more1_cnt]; omega⟩
  have blA : (Fo.cons lD A .nil).Each bareL := ⟨bareN (by decide) (by decide), bA, trivial⟩
  have blU : (Fo.cons lD (more1 A cst) .nil).Each bareL := ⟨bareN (by decide) (by decide), more1_each bA (bareN (by decide) (by omega)), trivial⟩
  have hlA := Fo.len_le_cnt A
  have HCS : Hid (cst ++ (⟨#[33]⟩ : ByteArray) = cs2) := hcs2
  clear h hcs2
  go_enter Try.func8, Try.ntmps8
  go_upto_region 2 with (go_at_call 11; refine HL.mono ?_; rintro e w1 ⟨p1, rfl, N1, k1⟩)
  obtain ⟨V1, hV1, T5, kV1, zV1⟩ := one6 w1 (doc6 p1)
  rw [hV1]
  have N1 := N1.kept kV1
  have G1 : Hid (Kp [] w V1) := k1.trans kV1 (fun z hz => by simp at hz)
  obtain ⟨s5, hs5⟩ : ∃ s, w1.heap.size = s := ⟨_, rfl⟩
  rw [hs5] at T5 zV1 ⊢
  clear hV1 kV1 k1 HL hs5
  have HC1 := copy_tree V1 lD A p1 N1 blA (by omega)
  simp only [wv, lD] at HC1
  obtain ⟨c0, c1, c2, c3, c4, c5⟩ := T5.six
  go_upto_region 3 with (go_at_call 12; refine HC1.mono ?_; rintro e w2 ⟨g, zs, rfl, O2, L2, hg2, k2⟩)
  clear HC1 c0 c1 c2 c3 c4 c5
  obtain ⟨V2, hV2, T6, kV2, zV2⟩ := one6 w2 #[.int .i64 1, .int .i64 0, .string ⟨#[]⟩, .slice none 0 0, .string ⟨#[]⟩, .slice (ko g A.len) A.len A.len]
  rw [hV2]
  obtain ⟨s6, hs6⟩ : ∃ s, w2.heap.size = s := ⟨_, rfl⟩
  have L2 := (L2.mono (R := fun z => (V1.heap.size ≤ z ∧ z ≠ g) ∧ z < s6) (fun z hl hz => ⟨hz, by omega⟩)).kept kV2
  have hgs : ∀ x, x ∈ blk (.slice (ko g A.len) A.len A.len) → x < s6 ∧ V1.heap.size ≤ x := fun x hx => ⟨by have := O2.lt x hx; omega, by rw [blk_ko x hx]; exact hg2⟩
  have O2 := O2.keep kV2 (fun _ _ => by simp)
  have hz2 := k2.size
  rw [hs6] at T6 zV2 hz2 ⊢
  have k12 : Kp [] V1 V2 := k2.trans kV2 (fun z hz => by simp at hz)
  have HGS : Hid (∀ x, x ∈ blk (.slice (ko g A.len) A.len A.len) → x < s6 ∧ V1.heap.size ≤ x) := hgs
  have HS6 : Hid (V1.heap.size ≤ s6) := hz2
  clear hV2 k2 kV2 hs6 hg2 hgs hz2
  go_wp2_with fail
  obtain ⟨U0, hU0⟩ : ∃ V, V = V2.drew := ⟨_, rfl⟩
  have k0 : Kp [] V2 U0 := by rw [hU0]; exact (Kp.refl _ _).drew
  refine wp_region_g (S := fun V => At V s6 #[.int .i64 1, .int .i64 0, .string ⟨#[]⟩, .slice none 0 0, .string ⟨#[]⟩, .slice (ko g A.len) A.len A.len] 25) (T := [7, 8]) (by kernel_rfl) (T6.kept (Kp.refl [] V2).drew (by simp)) (fun hHeld => ?_)
  rw [← hU0] at hHeld ⊢
  clear hU0
  refine wpAnyG_pure (i := 0) (oi := { dst := some 12, op := Go.Op.fieldAddr 25 (Go.Operand.tmp 6) 5, type := 0, pos := "law.go:183", after := #[], guard := none }) (v := ?_) rfl (by kernel_rfl) (by kernel_rfl) (by kernel_rfl) (by kernel_rfl) (fun _ _ _ h => h) (Or.inl ⟨by rfl, ?_⟩) (by assumption) ?_
  rotate_left
  · (intro w; go_simp; try with_reducible rfl)
  simp only [Act.put, List.setIfInBounds_toArray, List.set_cons_zero, List.set_cons_succ]
  refine wpAnyG_take (i := 1) (oi := { dst := some 13, op := Go.Op.load 23 (Go.Operand.tmp 12), type := 23, pos := "law.go:183", after := #[{ on := 0, ground := Go.Ground.data }], guard := none }) (v := ?_) rfl (by kernel_rfl) (by kernel_rfl) (by kernel_rfl) (by kernel_rfl) (fun _ _ _ h => h) (Or.inl ⟨by rfl, ?_⟩) (by assumption) ?_
  rotate_left
  · (intro w hSw; (obtain ⟨c0, c1, c2, c3, c4, c5⟩ := At.six hSw); go_simp; try with_reducible rfl)
  simp only [Act.put, List.setIfInBounds_toArray, List.set_cons_zero, List.set_cons_succ]
  refine wpAnyG_pure (i := 2) (oi := { dst := some 14, op := Go.Op.move (Go.Operand.tmp 1), type := 9, pos := "law.go:183", after := #[], guard := none }) (v := ?_) rfl (by kernel_rfl) (by kernel_rfl) (by kernel_rfl) (by kernel_rfl) (fun _ _ _ h => h) (Or.inl ⟨by rfl, ?_⟩) (by assumption) ?_
  rotate_left
  · (intro w; go_simp; try with_reducible rfl)
  simp only [Act.put, List.setIfInBounds_toArray, List.set_cons_zero, List.set_cons_succ]
  refine wpAnyG_ready (rs := [3]) (by kernel_rfl) (by simp) ?_
  refine AllReadyG.cons (o := { dst := some 15, op := Go.Op.call { callee := Go.Callee.value (Go.Operand.func 18), args := #[Go.Operand.tmp 14, Go.Operand.const (Go.Value.int Go.IntKind.i64 9)], argTypes := #[9, 3] }, type := 9, pos := "law.go:183", after := #[{ on := 2, ground := Go.Ground.data }], guard := none }) rfl (fun K hK => ?_) AllReadyG.nil
  go_simp
  go_at_call 18
  refine (HHD.out _).mono ?_
  rintro e U1 ⟨rfl, u1⟩
  go_wp2_with fail
  have k1 : Kp [] V2 U1 := k0.trans u1 (fun z hz => by simp at hz)
  refine hK.out _ _ (At.kept hHeld u1 (by simp)) (fun hHeld1 => ?_)
  clear hK K hHeld
  try simp only [Act.put, List.setIfInBounds_toArray, List.set_cons_zero, List.set_cons_succ]
  refine wpAnyG_pure (i := 4) (oi := { dst := some 16, op := Go.Op.build 25 #[(0, Go.Operand.const (Go.Value.int Go.IntKind.i64 5)), (4, Go.Operand.tmp 15)], type := 25, pos := "law.go:183", after := #[{ on := 3, ground := Go.Ground.data }], guard := none }) (v := ?_) rfl (by kernel_rfl) (by kernel_rfl) (by kernel_rfl) (by kernel_rfl) (fun _ _ _ h => h) (Or.inl ⟨by rfl, ?_⟩) (by assumption) ?_
  rotate_left
  · (intro w; go_simp; try with_reducible rfl)
  simp only [Act.put, List.setIfInBounds_toArray, List.set_cons_zero, List.set_cons_succ]
  refine wpAnyG_ready (rs := [5]) (by kernel_rfl) (by simp) ?_
  refine AllReadyG.cons (o := { dst := some 17, op := Go.Op.buildSlice 23 1 #[(0, Go.Operand.tmp 16)], type := 23, pos := "law.go:183", after := #[{ on := 4, ground := Go.Ground.data }], guard := none }) rfl (fun K hK => ?_) AllReadyG.nil
  go_simp
  obtain ⟨U2, hU⟩ : ∃ V, V = World.alloc U1 (.cells #[.int .i64 5, .int .i64 0, .string ⟨#[]⟩, .slice none 0 0, .string cst, .slice none 0 0] 25) := ⟨_, rfl⟩
  rw [← hU]
  have u2 : Kp [] U1 U2 := by rw [hU]; exact (Kp.refl _ _).alloc _
  have k2 : Kp [] V2 U2 := k1.trans u2 (fun z hz => by simp at hz)
  have EC : At U2 U1.heap.size #[.int .i64 5, .int .i64 0, .string ⟨#[]⟩, .slice none 0 0, .string cst, .slice none 0 0] 25 := by rw [hU]; exact At.new _ _ _
  obtain ⟨gc, hgc⟩ : ∃ g, U1.heap.size = g := ⟨_, rfl⟩
  rw [hgc] at EC ⊢
  clear hU hgc
  refine hK.out _ _ (At.kept hHeld1 u2 (by simp)) (fun hHeld2 => ?_)
  clear hK K hHeld1
  try simp only [Act.put, List.setIfInBounds_toArray, List.set_cons_zero, List.set_cons_succ]
  refine wpAnyG_ready (rs := [6]) (by kernel_rfl) (by simp) ?_
  refine AllReadyG.cons (o := { dst := some 18, op := Go.Op.call { callee := Go.Callee.builtin Go.Builtin.append, args := #[Go.Operand.tmp 13, Go.Operand.tmp 17], argTypes := #[23, 23] }, type := 23, pos := "law.go:183", after := #[{ on := 1, ground := Go.Ground.data }, { on := 5, ground := Go.Ground.data }, { on := 3, ground := Go.Ground.chain }], guard := none }) rfl (fun K hK => ?_) AllReadyG.nil
  have OU := O2.keep k2 (fun _ _ => by simp)
  refine step_appK (by rfl) _ _ 23 (by rfl) Try.underlying23 info25t rfl (by decide) _ _ (by rfl) (by rfl) A.len zs OU 1 _ (src_new Try.underlying23 EC (six (5, 0, ⟨#[]⟩, [], cst) ((none, 0, 0), (none, 0, 0))) rfl (six_one _ _)) (fun h => by omega) (by omega) (fun v3 U3 o3 q3 b3 hv3 => ?_)
  obtain ⟨a3, c3, rfl⟩ := hv3
  have hsz := k2.size
  refine hK.out _ _ (At.kept hHeld2 q3 (fun hx => by have := (HGS.out _ hx).1; omega)) (fun hHeld3 => ?_)
  clear hK K hHeld2
  try simp only [Act.put, List.setIfInBounds_toArray, List.set_cons_zero, List.set_cons_succ]
  refine wpAnyG_free (by kernel_rfl) ?_
  refine wpAny_take (i := 7) (oi := { dst := some 19, op := Go.Op.fieldAddr 25 (Go.Operand.tmp 6) 5, type := 0, pos := "law.go:183", after := #[{ on := 0, ground := Go.Ground.phase }, { on := 1, ground := Go.Ground.phase }, { on := 2, ground := Go.Ground.phase }, { on := 3, ground := Go.Ground.phase }, { on := 4, ground := Go.Ground.phase }, { on := 5, ground := Go.Ground.phase }, { on := 6, ground := Go.Ground.phase }], guard := none }) (v := ?_) rfl (by kernel_rfl) (by kernel_rfl) (by kernel_rfl) (fun _ _ _ h => h) (Or.inl ⟨by rfl, ?_⟩) ?_
  rotate_left
  · (intro w; go_simp; try with_reducible rfl)
  simp only [Act.put, List.setIfInBounds_toArray, List.set_cons_zero, List.set_cons_succ]
  refine wpAny_ready (rs := [8]) (by kernel_rfl) (by simp) ?_
  refine AllReady.cons (o := { dst := none, op := Go.Op.store 23 (Go.Operand.tmp 19) (Go.Operand.tmp 18), type := 0, pos := "law.go:183", after := #[{ on := 7, ground := Go.Ground.data }, { on := 6, ground := Go.Ground.data }, { on := 6, ground := Go.Ground.chain }, { on := 0, ground := Go.Ground.phase }, { on := 1, ground := Go.Ground.phase }, { on := 2, ground := Go.Ground.phase }, { on := 3, ground := Go.Ground.phase }, { on := 4, ground := Go.Ground.phase }, { on := 5, ground := Go.Ground.phase }, { on := 6, ground := Go.Ground.phase }], guard := none }) rfl (fun K hK => ?_) AllReady.nil
  have T6u := T6.kept k2 (by simp)
  have T6v := T6u.kept q3 (fun hx => by have := (HGS.out _ hx).1; omega)
  have s5c := T6v.cell 5
  have f5c := T6v.free 5
  simp only [List.getElem?_toArray, List.getElem?_cons_succ, List.getElem?_cons_zero] at s5c
  go_simp
  refine hK _ _ ?_
  clear hK K
  try simp only [Act.put, List.setIfInBounds_toArray, List.set_cons_zero, List.set_cons_succ]
  refine wpAny_done (by kernel_rfl) ?_ _
  obtain ⟨F3, hF⟩ : ∃ F, F = World.setCell U3 ⟨s6, 5, none⟩ (.slice (some a3) (A.len + 1) c3) := ⟨_, rfl⟩
  rw [← hF]
  have vF : Kp [s6] U3 F3 := by rw [hF]; exact (Kp.refl _ _).setCell (Or.inl (by simp)) _
  have T6 : At F3 s6 #[.int .i64 1, .int .i64 0, .string ⟨#[]⟩, .slice none 0 0, .string ⟨#[]⟩, .slice (some a3) (A.len + 1) c3] 25 := by rw [hF]; exact T6v.set 5 _
  have kT : Kp (s6 :: blk (.slice (ko g A.len) A.len A.len)) V2 F3 := ((k2.mono (T := s6 :: blk (.slice (ko g A.len) A.len A.len)) (fun z hz => by simp at hz)).trans q3 (fun z hz => Or.inl (by simp [hz]))).trans vF (fun z hz => Or.inl (by simp at hz; simp [hz]))
  have hs6o := HS6.out
  have kF : Kp [] V1 F3 := k12.trans kT (fun z hz => by
    rcases List.mem_cons.1 hz with e | e
    · exact Or.inr (by omega)
    · exact Or.inr (HGS.out z e).2)
  have b3n : ∀ x, x ∈ blk (.slice (some a3) (A.len + 1) c3) → x ≠ s6 := fun x hx => by
    rcases b3 x hx with e | e
    · have := (HGS.out x e).1; omega
    · omega
  have NU : Nd Any F3 lD (more1 A cst) ((none, 0, 0), (some a3, A.len + 1, c3)) := by
    refine Nd.bare _ _ _ _ _ _ (Rt.of_own (o3.keep vF (fun x hx => by simp; exact b3n x hx)) rfl (fun _ _ => trivial) ?_)
    refine Lf.app ?_ ((L2.keep (kT.sms (fun z hz hx => ?_))).mono (fun _ _ _ => trivial))
    · have := Lf.cons (Nd.bare Any F3 5 0 ⟨#[]⟩ cst (Rt.nil Any F3 none 0)) (Lf.nil Any F3)
      rwa [List.append_nil] at this
    · rcases List.mem_cons.1 hx with e | e
      · have := hz.2; omega
      · exact hz.1.2 (blk_ko z e)
  have T5 := T5.kept kF (by simp)
  have N1 := N1.kept kF
  have G3 : Hid (Kp [] w F3) := G1.out.trans kF (fun z hz => by simp at hz)
  clear hF vF kT kF b3n o3 q3 b3 k2 k1 k0 u1 u2 EC OU T6u T6v s5c f5c hHeld3 O2 L2 HGS HS6 k12 G1 hs6o hsz
  have HC2 := copy_tree F3 lD (more1 A cst) _ NU blU (by rw [more1_cnt]; omega)
  rw [more1_len] at HC2
  simp only [wv, lD] at HC2
  obtain ⟨c0, c1, c2, c3, c4, c5⟩ := T6.six
  go_upto_region 5 with (go_at_call 12; refine HC2.mono ?_; rintro e w4 ⟨g4, zs4, rfl, O4, L4, hg4, k4⟩)
  clear HC2 c0 c1 c2 c3 c4 c5
  have hko4 : ko g4 (A.len + 1) = some ⟨g4, 0, none⟩ := by unfold ko; rw [if_neg (by omega)]
  rw [hko4] at O4 ⊢
  obtain ⟨V4, hV4, T7, kV4, zV4⟩ := one6 w4 #[.int .i64 1, .int .i64 0, .string ⟨#[]⟩, .slice none 0 0, .string ⟨#[]⟩, .slice (some ⟨g4, 0, none⟩) (A.len + 1) (A.len + 1)]
  rw [hV4]
  obtain ⟨s7, hs7⟩ : ∃ s, w4.heap.size = s := ⟨_, rfl⟩
  have k34 : Kp [] F3 V4 := k4.trans kV4 (fun z hz => by simp at hz)
  have hg4l : g4 < s7 := by have := O4.lt g4 (by simp [blk]); omega
  have O4 := O4.keep kV4 (fun _ _ => by simp)
  have L4 := L4.kept kV4
  rw [hs7] at T7 zV4 ⊢
  have z34 := k34.size
  clear hV4 k4 kV4 hs7
  obtain ⟨ys, hys, LA, pC, NC, hzs⟩ := Lf.last L4
  rw [hys] at O4
  rw [← hko4] at O4
  obtain ⟨⟨l0, l1, l2, l3, l4, l5⟩, lfz⟩ := last_cells O4 (by omega)
  have j5 : ¬ A.len + 1 < 1 := by omega
  have j7 : IntKind.i64.wrap (A.len : Int) = A.len := by rw [IntKind.wrap_i64]; omega
  have j8 : (0 : Int) ≤ (A.len : Int) := by omega
  have j9 : (A.len : Int) < (A.len : Int) + 1 := by omega
  have f9 : ¬ 9223372036854775807 < cst.size + 1 := by omega
  obtain ⟨c0, c1, c2, c3, c4, c5⟩ := T7.six
  clear l0 l1 l2 l3 l5
  go_upto_region 7 with fail
  clear c0 c1 c2 c3 c4 c5
  have hcs3 := HCS.out
  obtain ⟨U0, hU0⟩ : ∃ V, V = V4.drew := ⟨_, rfl⟩
  have k0 : Kp [] V4 U0 := by rw [hU0]; exact (Kp.refl _ _).drew
  refine wp_region_g (S := fun V => At V s7 #[.int .i64 1, .int .i64 0, .string ⟨#[]⟩, .slice none 0 0, .string ⟨#[]⟩, .slice (some ⟨g4, 0, none⟩) (A.len + 1) (A.len + 1)] 25) (T := [11]) (by kernel_rfl) (T7.kept (Kp.refl [] V4).drew (by simp)) (fun hHeld => ?_)
  rw [← hU0] at hHeld ⊢
  clear hU0
  refine wpAnyG_pure (i := 0) (oi := { dst := some 26, op := Go.Op.fieldAddr 25 (Go.Operand.tmp 7) 5, type := 0, pos := "law.go:188", after := #[], guard := none }) (v := ?_) rfl (by kernel_rfl) (by kernel_rfl) (by kernel_rfl) (by kernel_rfl) (fun _ _ _ h => h) (Or.inl ⟨by rfl, ?_⟩) (by assumption) ?_
  rotate_left
  · (intro w; go_simp; try with_reducible rfl)
  simp only [Act.put, List.setIfInBounds_toArray, List.set_cons_zero, List.set_cons_succ]
  refine wpAnyG_take (i := 1) (oi := { dst := some 27, op := Go.Op.load 23 (Go.Operand.tmp 26), type := 23, pos := "law.go:188", after := #[{ on := 0, ground := Go.Ground.data }], guard := none }) (v := ?_) rfl (by kernel_rfl) (by kernel_rfl) (by kernel_rfl) (by kernel_rfl) (fun _ _ _ h => h) (Or.inl ⟨by rfl, ?_⟩) (by assumption) ?_
  rotate_left
  · (intro w hSw; (obtain ⟨c0, c1, c2, c3, c4, c5⟩ := At.six hSw); go_simp; try with_reducible rfl)
  simp only [Act.put, List.setIfInBounds_toArray, List.set_cons_zero, List.set_cons_succ]
  refine wpAnyG_pure (i := 2) (oi := { dst := some 28, op := Go.Op.fieldAddr 25 (Go.Operand.tmp 7) 5, type := 0, pos := "law.go:188", after := #[], guard := none }) (v := ?_) rfl (by kernel_rfl) (by kernel_rfl) (by kernel_rfl) (by kernel_rfl) (fun _ _ _ h => h) (Or.inl ⟨by rfl, ?_⟩) (by assumption) ?_
  rotate_left
  · (intro w; go_simp; try with_reducible rfl)
  simp only [Act.put, List.setIfInBounds_toArray, List.set_cons_zero, List.set_cons_succ]
  refine wpAnyG_take (i := 3) (oi := { dst := some 29, op := Go.Op.load 23 (Go.Operand.tmp 28), type := 23, pos := "law.go:188", after := #[{ on := 2, ground := Go.Ground.data }], guard := none }) (v := ?_) rfl (by kernel_rfl) (by kernel_rfl) (by kernel_rfl) (by kernel_rfl) (fun _ _ _ h => h) (Or.inl ⟨by rfl, ?_⟩) (by assumption) ?_
  rotate_left
  · (intro w hSw; (obtain ⟨c0, c1, c2, c3, c4, c5⟩ := At.six hSw); go_simp; try with_reducible rfl)
  simp only [Act.put, List.setIfInBounds_toArray, List.set_cons_zero, List.set_cons_succ]
  refine wpAnyG_pure (i := 4) (oi := { dst := some 30, op := Go.Op.call { callee := Go.Callee.builtin Go.Builtin.len, args := #[Go.Operand.tmp 29], argTypes := #[23] }, type := 3, pos := "law.go:188", after := #[{ on := 3, ground := Go.Ground.data }], guard := none }) (v := ?_) rfl (by kernel_rfl) (by kernel_rfl) (by kernel_rfl) (by kernel_rfl) (fun _ _ _ h => h) (Or.inl ⟨by rfl, ?_⟩) (by assumption) ?_
  rotate_left
  · (intro w; go_simp; try with_reducible rfl)
  simp only [Act.put, List.setIfInBounds_toArray, List.set_cons_zero, List.set_cons_succ]
  refine wpAnyG_pure (i := 5) (oi := { dst := some 31, op := Go.Op.binOp Go.BinOp.sub 3 (Go.Operand.tmp 30) (Go.Operand.const (Go.Value.int Go.IntKind.i64 1)) 3, type := 3, pos := "law.go:188", after := #[{ on := 4, ground := Go.Ground.data }], guard := none }) (v := ?_) rfl (by kernel_rfl) (by kernel_rfl) (by kernel_rfl) (by kernel_rfl) (fun _ _ _ h => h) (Or.inl ⟨by rfl, ?_⟩) (by assumption) ?_
  rotate_left
  · (intro w; go_simp; try with_reducible rfl)
  simp only [Act.put, List.setIfInBounds_toArray, List.set_cons_zero, List.set_cons_succ]
  refine wpAnyG_pure (i := 6) (oi := { dst := some 32, op := Go.Op.move (Go.Operand.tmp 1), type := 9, pos := "law.go:188", after := #[], guard := none }) (v := ?_) rfl (by kernel_rfl) (by kernel_rfl) (by kernel_rfl) (by kernel_rfl) (fun _ _ _ h => h) (Or.inl ⟨by rfl, ?_⟩) (by assumption) ?_
  rotate_left
  · (intro w; go_simp; try with_reducible rfl)
  simp only [Act.put, List.setIfInBounds_toArray, List.set_cons_zero, List.set_cons_succ]
  refine wpAnyG_ready (rs := [7]) (by kernel_rfl) (by simp) ?_
  refine AllReadyG.cons (o := { dst := some 33, op := Go.Op.call { callee := Go.Callee.value (Go.Operand.func 18), args := #[Go.Operand.tmp 32, Go.Operand.const (Go.Value.int Go.IntKind.i64 9)], argTypes := #[9, 3] }, type := 9, pos := "law.go:188", after := #[{ on := 6, ground := Go.Ground.data }], guard := none }) rfl (fun K hK => ?_) AllReadyG.nil
  go_simp
  go_at_call 18
  refine (HHD.out _).mono ?_
  rintro e U1 ⟨rfl, u1⟩
  go_wp2_with fail
  have k1 : Kp [] V4 U1 := k0.trans u1 (fun z hz => by simp at hz)
  have m4 := (k1.cell (a := ⟨g4, A.len * 6 + 4, none⟩) (block_lt_of_cell l4) (by simp)).trans l4
  have mf := (k1.frozen (a := ⟨g4, A.len * 6 + 4, none⟩) (block_lt_of_cell l4) (by simp)).trans (lfz _)
  refine hK.out _ _ (At.kept hHeld u1 (by simp)) (fun hHeld1 => ?_)
  clear hK K hHeld
  try simp only [Act.put, List.setIfInBounds_toArray, List.set_cons_zero, List.set_cons_succ]
  refine wpAnyG_pure (i := 8) (oi := { dst := some 34, op := Go.Op.binOp Go.BinOp.add 9 (Go.Operand.tmp 33) (Go.Operand.const (Go.Value.string { data := #[33] })) 9, type := 9, pos := "law.go:188", after := #[{ on := 7, ground := Go.Ground.data }], guard := none }) (v := ?_) rfl (by kernel_rfl) (by kernel_rfl) (by kernel_rfl) (by kernel_rfl) (fun _ _ _ h => h) (Or.inl ⟨by rfl, ?_⟩) (by assumption) ?_
  rotate_left
  · (intro w; go_simp; try with_reducible rfl)
  simp only [Act.put, List.setIfInBounds_toArray, List.set_cons_zero, List.set_cons_succ]
  refine wpAnyG_pure (i := 9) (oi := { dst := some 35, op := Go.Op.indexAddr 23 (Go.Operand.tmp 27) (Go.Operand.tmp 31), type := 0, pos := "law.go:188", after := #[{ on := 1, ground := Go.Ground.data }, { on := 5, ground := Go.Ground.data }, { on := 0, ground := Go.Ground.phase }, { on := 1, ground := Go.Ground.phase }, { on := 2, ground := Go.Ground.phase }, { on := 3, ground := Go.Ground.phase }, { on := 4, ground := Go.Ground.phase }, { on := 5, ground := Go.Ground.phase }, { on := 6, ground := Go.Ground.phase }, { on := 7, ground := Go.Ground.phase }, { on := 8, ground := Go.Ground.phase }], guard := none }) (v := ?_) rfl (by kernel_rfl) (by kernel_rfl) (by kernel_rfl) (by kernel_rfl) (fun _ _ _ h => h) (Or.inl ⟨by rfl, ?_⟩) (by assumption) ?_
  rotate_left
  · (intro w; go_simp; try with_reducible rfl)
  simp only [Act.put, List.setIfInBounds_toArray, List.set_cons_zero, List.set_cons_succ]
  refine wpAnyG_pure (i := 10) (oi := { dst := some 36, op := Go.Op.fieldAddr 25 (Go.Operand.tmp 35) 4, type := 0, pos := "law.go:188", after := #[{ on := 9, ground := Go.Ground.data }, { on := 0, ground := Go.Ground.phase }, { on := 1, ground := Go.Ground.phase }, { on := 2, ground := Go.Ground.phase }, { on := 3, ground := Go.Ground.phase }, { on := 4, ground := Go.Ground.phase }, { on := 5, ground := Go.Ground.phase }, { on := 6, ground := Go.Ground.phase }, { on := 7, ground := Go.Ground.phase }, { on := 8, ground := Go.Ground.phase }], guard := none }) (v := ?_) rfl (by kernel_rfl) (by kernel_rfl) (by kernel_rfl) (by kernel_rfl) (fun _ _ _ h => h) (Or.inl ⟨by rfl, ?_⟩) (by assumption) ?_
  rotate_left
  · (intro w; go_simp; try with_reducible rfl)
  simp only [Act.put, List.setIfInBounds_toArray, List.set_cons_zero, List.set_cons_succ]
  refine wpAnyG_free (by kernel_rfl) ?_
  refine wpAny_ready (rs := [11]) (by kernel_rfl) (by simp) ?_
  refine AllReady.cons (o := { dst := none, op := Go.Op.store 9 (Go.Operand.tmp 36) (Go.Operand.tmp 34), type := 0, pos := "law.go:188", after := #[{ on := 10, ground := Go.Ground.data }, { on := 8, ground := Go.Ground.data }, { on := 7, ground := Go.Ground.chain }, { on := 0, ground := Go.Ground.phase }, { on := 1, ground := Go.Ground.phase }, { on := 2, ground := Go.Ground.phase }, { on := 3, ground := Go.Ground.phase }, { on := 4, ground := Go.Ground.phase }, { on := 5, ground := Go.Ground.phase }, { on := 6, ground := Go.Ground.phase }, { on := 7, ground := Go.Ground.phase }, { on := 8, ground := Go.Ground.phase }], guard := none }) rfl (fun K hK => ?_) AllReady.nil
  go_simp
  refine hK _ _ ?_
  clear hK K
  try simp only [Act.put, List.setIfInBounds_toArray, List.set_cons_zero, List.set_cons_succ]
  refine wpAny_done (by kernel_rfl) ?_ _
  obtain ⟨F7, hF⟩ : ∃ F, F = World.setCell U1 ⟨g4, A.len * 6 + 4, none⟩ (.string cs2) := ⟨_, rfl⟩
  rw [← hF]
  have vF : Kp [g4] U1 F7 := by rw [hF]; exact (Kp.refl _ _).setCell (Or.inl (by simp)) _
  have kT : Kp [g4] V4 F7 := (k1.mono (T := [g4]) (fun z hz => by simp at hz)).trans vF (fun z hz => Or.inl hz)
  have OT := (O4.keep k1 (fun _ _ => by simp)).turnI (by omega) rfl 4 (by omega) (.string cs2)
  rw [← hF, hko4] at OT
  have h6c : six (5, 0, ⟨#[]⟩, [], cst) pC = [Value.int .i64 5, .int .i64 0, .string ⟨#[]⟩, zs4[A.len * 6 + 3]?.getD (.int .i64 0), .string cst, zs4[A.len * 6 + 5]?.getD (.int .i64 0)] := List.append_cancel_left (hzs.symm.trans hys)
  have h6d : [Value.int .i64 5, .int .i64 0, .string ⟨#[]⟩, zs4[A.len * 6 + 3]?.getD (.int .i64 0), .string cst, zs4[A.len * 6 + 5]?.getD (.int .i64 0)].set 4 (.string cs2) = six (5, 0, ⟨#[]⟩, [], cs2) pC := by rw [← h6c]; rfl
  rw [h6d] at OT
  have NV : Nd Any F7 lD (more1 A cs2) ((none, 0, 0), (some ⟨g4, 0, none⟩, A.len + 1, A.len + 1)) := by
    refine Nd.bare _ _ _ _ _ _ (Rt.of_own OT rfl (fun _ _ => trivial) ?_)
    refine Lf.app ?_ ((LA.keep (kT.sms (fun z hz => by simp; exact hz.2))).mono (fun _ _ _ => trivial))
    have nd : Nd Any F7 (5, 0, ⟨#[]⟩, [], cs2) .nil pC := ((⟨NC.at', NC.kids⟩ : Nd _ _ (5, 0, ⟨#[]⟩, [], cs2) .nil pC).keep (kT.sms (fun z hz => by simp; exact hz.2))).any
    have := Lf.cons nd (Lf.nil Any F7)
    rwa [List.append_nil] at this
  have hzg := hg4
  have kF : Kp [] F3 F7 := k34.trans kT (fun z hz => Or.inr (by simp at hz; omega))
  have T5 := T5.kept kF (by simp)
  have T6 := T6.kept kF (by simp)
  have T7 := T7.kept kT (by simp; omega)
  have N1 := N1.kept kF
  have NU := NU.kept kF
  have G7 : Hid (Kp [] w F7) := G3.out.trans kF (fun z hz => by simp at hz)
  clear hF vF kT kF OT h6c h6d O4 L4 LA NC hzs hys l4 lfz k1 k0 u1 m4 mf hHeld1 k34 G3 hzg hg4 zV4 zV1 zV2 z34 hg4l
  have H5 : Hid (∀ W, Kp [] F7 W → At W s5 (doc6 p1) 25) := fun W kW => T5.kept kW (by simp)
  have H6 : Hid (∀ W, Kp [] F7 W → At W s6 #[.int .i64 1, .int .i64 0, .string ⟨#[]⟩, .slice none 0 0, .string ⟨#[]⟩, .slice (some a3) (A.len + 1) c3] 25) := fun W kW => T6.kept kW (by simp)
  have H7 : Hid (∀ W, Kp [] F7 W → At W s7 #[.int .i64 1, .int .i64 0, .string ⟨#[]⟩, .slice none 0 0, .string ⟨#[]⟩, .slice (some ⟨g4, 0, none⟩) (A.len + 1) (A.len + 1)] 25) := fun W kW => T7.kept kW (by simp)
  have S1 : Hid (∀ W, Kp [] F7 W → Calls Try.prog 14 #[wv lD p1, wv lD ((none, 0, 0), (some a3, A.len + 1, c3))] W fun e w' => e = .returned (.bool false) ∧ Kp [] W w') := fun W kW => by
    have := tsame_any W lD A p1 lD (more1 A cst) _ (N1.kept kW) (NU.kept kW) tA.ok tU.ok
    rwa [more1_no] at this
  have S2 : Hid (∀ W, Kp [] F7 W → Calls Try.prog 14 #[wv lD ((none, 0, 0), (some a3, A.len + 1, c3)), wv lD ((none, 0, 0), (some ⟨g4, 0, none⟩, A.len + 1, A.len + 1))] W fun e w' => e = .returned (.bool false) ∧ Kp [] W w') := fun W kW => by
    have := tsame_any W lD (more1 A cst) _ lD (more1 A cs2) _ (NU.kept kW) (NV.kept kW) tU.ok tV.ok
    rwa [more1_ne A hcne] at this
  have CU : Hid (∀ W, Kp [] F7 W → Calls Try.prog 15 #[wv lD ((none, 0, 0), (some a3, A.len + 1, c3))] W fun e w' => e = .returned (.int .i64 (((1 + A.cnt : Nat) : Int) + 1)) ∧ Kp [] W w') := fun W kW => by
    have := count_any W lD (more1 A cst) _ (NU.kept kW) tU.cnt
    rwa [show ((countT lD (more1 A cst) : Nat) : Int) = ((1 + A.cnt : Nat) : Int) + 1 by unfold countT; rw [more1_cnt]; omega] at this
  have CT : Hid (∀ W, Kp [] F7 W → Calls Try.prog 15 #[wv lD p1] W fun e w' => e = .returned (.int .i64 ((1 + A.cnt : Nat) : Int)) ∧ Kp [] W w') := fun W kW => by
    exact count_any W lD A p1 (N1.kept kW) tA.cnt
  have XU : Hid (∀ W, Kp [] F7 W → Calls Try.prog 20 #[wv lD ((none, 0, 0), (some a3, A.len + 1, c3))] W fun e w' => e = .returned (.string (textT lD A)) ∧ Kp [] W w') := fun W kW => by
    have := text_any W lD (more1 A cst) _ (NU.kept kW) tU.cnt tU.text
    rwa [more1_text] at this
  have XT : Hid (∀ W, Kp [] F7 W → Calls Try.prog 20 #[wv lD p1] W fun e w' => e = .returned (.string (textT lD A)) ∧ Kp [] W w') := fun W kW => by
    exact text_any W lD A p1 (N1.kept kW) tA.cnt tA.text
  have DU : Hid (∀ W, Kp [] F7 W → Calls Try.prog 19 #[wv lD ((none, 0, 0), (some a3, A.len + 1, c3))] W fun e w' => e = .returned (.int .i64 (depthT lD (more1 A cst) : Nat)) ∧ Kp [] W w') := fun W kW => by
    exact depth_any W lD (more1 A cst) _ (NU.kept kW) tU.cnt
  have DT : Hid (∀ W, Kp [] F7 W → Calls Try.prog 19 #[wv lD p1] W fun e w' => e = .returned (.int .i64 (depthT lD A : Nat)) ∧ Kp [] W w') := fun W kW => by
    exact depth_any W lD A p1 (N1.kept kW) tA.cnt
  have RU : Hid (∀ W, Kp [] F7 W → Calls Try.prog 21 #[wv lD ((none, 0, 0), (some a3, A.len + 1, c3))] W fun e w' => e = .returned (.bool (rightF lD A)) ∧ Kp [] W w') := fun W kW => by
    have := right_any W lD (more1 A cst) _ (NU.kept kW) tU.ok
    rwa [more1_right] at this
  have RT : Hid (∀ W, Kp [] F7 W → Calls Try.prog 21 #[wv lD p1] W fun e w' => e = .returned (.bool (rightF lD A)) ∧ Kp [] W w') := fun W kW => by
    exact right_any W lD A p1 (N1.kept kW) tA.ok
  have WU : Hid (∀ W, Kp [] F7 W → Calls Try.prog 16 #[wv lD ((none, 0, 0), (some a3, A.len + 1, c3))] W fun e w' => e = .returned (.string (showT lD (more1 A cst))) ∧ Kp [] W w') := fun W kW => by
    exact show_any W lD (more1 A cst) _ (NU.kept kW) tU.ok tU.pad tU.show
  have WT : Hid (∀ W, Kp [] F7 W → Calls Try.prog 16 #[wv lD p1] W fun e w' => e = .returned (.string (showT lD A)) ∧ Kp [] W w') := fun W kW => by
    exact show_any W lD A p1 (N1.kept kW) tA.ok tA.pad tA.show
  have hdd := more1_dep A cst
  have hss := more1_show A cst
  have hsz1 := tA.show
  have hca : 1 + A.cnt ≤ 1000 := by omega
  generalize showT lD (more1 A cst) = Su at WU hss
  generalize showT lD A = St at WT hss hsz1
  generalize depthT lD (more1 A cst) = du at DU hdd
  generalize depthT lD A = dt at DT hdd
  generalize rightF lD A = rr at RU RT
  generalize textT lD A = tt at XU XT
  generalize 1 + A.cnt = ac at CU CT hca
  simp only [wv, lD] at S1 S2 CU CT XU XT DU DT RU RT WU WT
  have hdd2 : ¬ du < dt := by omega
  have hss2 := hss.symm
  have jac : IntKind.i64.wrap ((ac : Int) + 1) = (ac : Int) + 1 := by rw [IntKind.wrap_i64]; omega
  have n1 : ¬ 9223372036854775807 < St.size + 5 := by omega
  have n2 : ¬ 9223372036854775807 < St.size + 5 + cst.size := by omega
  have n3 : ¬ 9223372036854775807 < St.size + 5 + cst.size + 5 := by omega
  clear N1 NU NV T5 T6 T7 tA tU tV bA blA blU hcA hss hdd hcne hcs3 HCS hko4 hlA j5 j7 j8 j9 f9 hc2
  go_wp2_with fail
  obtain ⟨Y0, hY0⟩ : ∃ V, V = F7.drew := ⟨_, rfl⟩
  have y0 : Kp [] F7 Y0 := by rw [hY0]; exact (Kp.refl _ _).drew
  refine wp_region_g (S := fun V => At V s5 (doc6 p1) 25 ∧ At V s6 #[.int .i64 1, .int .i64 0, .string ⟨#[]⟩, .slice none 0 0, .string ⟨#[]⟩, .slice (some a3) (A.len + 1) c3] 25 ∧ At V s7 #[.int .i64 1, .int .i64 0, .string ⟨#[]⟩, .slice none 0 0, .string ⟨#[]⟩, .slice (some ⟨g4, 0, none⟩) (A.len + 1) (A.len + 1)] 25) (T := []) (by kernel_rfl) ⟨H5.out _ (Kp.refl [] F7).drew, H6.out _ (Kp.refl [] F7).drew, H7.out _ (Kp.refl [] F7).drew⟩ (fun hHeld => ?_)
  rw [← hY0] at hHeld ⊢
  clear hY0
  refine wpAnyG_take (i := 0) (oi := { dst := some 37, op := Go.Op.load 25 (Go.Operand.tmp 5), type := 25, pos := "law.go:189", after := #[], guard := none }) (v := ?_) rfl (by kernel_rfl) (by kernel_rfl) (by kernel_rfl) (by kernel_rfl) (fun _ _ _ h => h) (Or.inl ⟨by rfl, ?_⟩) (by assumption) ?_
  rotate_left
  · (intro w hSw; (obtain ⟨⟨c0, c1, c2, c3, c4, c5⟩, ⟨e0, e1, e2, e3, e4, e5⟩, f0, f1, f2, f3, f4, f5⟩ := And.intro hSw.1.six (And.intro hSw.2.1.six hSw.2.2.six)); go_simp; try with_reducible rfl)
  simp only [Act.put, List.setIfInBounds_toArray, List.set_cons_zero, List.set_cons_succ]
  refine wpAnyG_take (i := 1) (oi := { dst := some 38, op := Go.Op.load 25 (Go.Operand.tmp 6), type := 25, pos := "law.go:189", after := #[], guard := none }) (v := ?_) rfl (by kernel_rfl) (by kernel_rfl) (by kernel_rfl) (by kernel_rfl) (fun _ _ _ h => h) (Or.inl ⟨by rfl, ?_⟩) (by assumption) ?_
  rotate_left
  · (intro w hSw; (obtain ⟨⟨c0, c1, c2, c3, c4, c5⟩, ⟨e0, e1, e2, e3, e4, e5⟩, f0, f1, f2, f3, f4, f5⟩ := And.intro hSw.1.six (And.intro hSw.2.1.six hSw.2.2.six)); go_simp; try with_reducible rfl)
  simp only [Act.put, List.setIfInBounds_toArray, List.set_cons_zero, List.set_cons_succ]
  refine wpAnyG_ready (rs := [2]) (by kernel_rfl) (by simp) ?_
  refine AllReadyG.cons (o := { dst := some 39, op := Go.Op.call { callee := Go.Callee.value (Go.Operand.func 14), args := #[Go.Operand.tmp 37, Go.Operand.tmp 38], argTypes := #[25, 25] }, type := 4, pos := "law.go:189", after := #[{ on := 0, ground := Go.Ground.data }, { on := 1, ground := Go.Ground.data }], guard := none }) rfl (fun K hK => ?_) AllReadyG.nil
  go_simp
  go_at_call 14
  refine (S1.out _ y0).mono ?_
  rintro e Y1 ⟨rfl, u1⟩
  go_wp2_with fail
  have y1 : Kp [] F7 Y1 := y0.trans u1 (fun z hz => by simp at hz)
  refine hK.out _ _ ⟨H5.out _ y1, H6.out _ y1, H7.out _ y1⟩ (fun hHeld1 => ?_)
  clear hK K hHeld
  try simp only [Act.put, List.setIfInBounds_toArray, List.set_cons_zero, List.set_cons_succ]
  refine wpAnyG_pure (i := 3) (oi := { dst := some 40, op := Go.Op.move (Go.Operand.tmp 39), type := 4, pos := "law.go:189", after := #[{ on := 2, ground := Go.Ground.data }, { on := 2, ground := Go.Ground.chain }], guard := none }) (v := ?_) rfl (by kernel_rfl) (by kernel_rfl) (by kernel_rfl) (by kernel_rfl) (fun _ _ _ h => h) (Or.inl ⟨by rfl, ?_⟩) (by assumption) ?_
  rotate_left
  · (intro w; go_simp; try with_reducible rfl)
  simp only [Act.put, List.setIfInBounds_toArray, List.set_cons_zero, List.set_cons_succ]
  refine wpAnyG_take (i := 4) (oi := { dst := some 41, op := Go.Op.load 25 (Go.Operand.tmp 6), type := 25, pos := "law.go:189", after := #[{ on := 3, ground := Go.Ground.guard }], guard := some (3, false) }) (v := ?_) rfl (by kernel_rfl) (by kernel_rfl) (by kernel_rfl) (by kernel_rfl) (fun _ _ _ h => h) (Or.inl ⟨by rfl, ?_⟩) (by assumption) ?_
  rotate_left
  · (intro w hSw; (obtain ⟨⟨c0, c1, c2, c3, c4, c5⟩, ⟨e0, e1, e2, e3, e4, e5⟩, f0, f1, f2, f3, f4, f5⟩ := And.intro hSw.1.six (And.intro hSw.2.1.six hSw.2.2.six)); go_simp; try with_reducible rfl)
  simp only [Act.put, List.setIfInBounds_toArray, List.set_cons_zero, List.set_cons_succ]
  refine wpAnyG_take (i := 5) (oi := { dst := some 42, op := Go.Op.load 25 (Go.Operand.tmp 7), type := 25, pos := "law.go:189", after := #[{ on := 3, ground := Go.Ground.guard }], guard := some (3, false) }) (v := ?_) rfl (by kernel_rfl) (by kernel_rfl) (by kernel_rfl) (by kernel_rfl) (fun _ _ _ h => h) (Or.inl ⟨by rfl, ?_⟩) (by assumption) ?_
  rotate_left
  · (intro w hSw; (obtain ⟨⟨c0, c1, c2, c3, c4, c5⟩, ⟨e0, e1, e2, e3, e4, e5⟩, f0, f1, f2, f3, f4, f5⟩ := And.intro hSw.1.six (And.intro hSw.2.1.six hSw.2.2.six)); go_simp; try with_reducible rfl)
  simp only [Act.put, List.setIfInBounds_toArray, List.set_cons_zero, List.set_cons_succ]
  refine wpAnyG_ready (rs := [6]) (by kernel_rfl) (by simp) ?_
  refine AllReadyG.cons (o := { dst := some 43, op := Go.Op.call { callee := Go.Callee.value (Go.Operand.func 14), args := #[Go.Operand.tmp 41, Go.Operand.tmp 42], argTypes := #[25, 25] }, type := 4, pos := "law.go:189", after := #[{ on := 4, ground := Go.Ground.data }, { on := 5, ground := Go.Ground.data }, { on := 3, ground := Go.Ground.chain }, { on := 3, ground := Go.Ground.guard }], guard := some (3, false) }) rfl (fun K hK => ?_) AllReadyG.nil
  go_simp
  go_at_call 14
  refine (S2.out _ y1).mono ?_
  rintro e Y2 ⟨rfl, u2⟩
  go_wp2_with fail
  have y2 : Kp [] F7 Y2 := y1.trans u2 (fun z hz => by simp at hz)
  refine hK.out _ _ ⟨H5.out _ y2, H6.out _ y2, H7.out _ y2⟩ (fun hHeld2 => ?_)
  clear hK K hHeld1
  try simp only [Act.put, List.setIfInBounds_toArray, List.set_cons_zero, List.set_cons_succ]
  refine wpAnyG_pure (i := 7) (oi := { dst := some 44, op := Go.Op.pick (Go.Operand.tmp 40) (Go.Operand.const (Go.Value.bool true)) (Go.Operand.tmp 43), type := 4, pos := "law.go:189", after := #[{ on := 3, ground := Go.Ground.data }, { on := 6, ground := Go.Ground.data }], guard := none }) (v := ?_) rfl (by kernel_rfl) (by kernel_rfl) (by kernel_rfl) (by kernel_rfl) (fun _ _ _ h => h) (Or.inl ⟨by rfl, ?_⟩) (by assumption) ?_
  rotate_left
  · (intro w; go_simp; try with_reducible rfl)
  simp only [Act.put, List.setIfInBounds_toArray, List.set_cons_zero, List.set_cons_succ]
  refine wpAnyG_pure (i := 8) (oi := { dst := some 45, op := Go.Op.move (Go.Operand.tmp 44), type := 4, pos := "law.go:189", after := #[{ on := 7, ground := Go.Ground.data }, { on := 6, ground := Go.Ground.chain }], guard := none }) (v := ?_) rfl (by kernel_rfl) (by kernel_rfl) (by kernel_rfl) (by kernel_rfl) (fun _ _ _ h => h) (Or.inl ⟨by rfl, ?_⟩) (by assumption) ?_
  rotate_left
  · (intro w; go_simp; try with_reducible rfl)
  simp only [Act.put, List.setIfInBounds_toArray, List.set_cons_zero, List.set_cons_succ]
  refine wpAnyG_take (i := 9) (oi := { dst := some 46, op := Go.Op.load 25 (Go.Operand.tmp 6), type := 25, pos := "law.go:189", after := #[{ on := 8, ground := Go.Ground.guard }], guard := some (8, false) }) (v := ?_) rfl (by kernel_rfl) (by kernel_rfl) (by kernel_rfl) (by kernel_rfl) (fun _ _ _ h => h) (Or.inl ⟨by rfl, ?_⟩) (by assumption) ?_
  rotate_left
  · (intro w hSw; (obtain ⟨⟨c0, c1, c2, c3, c4, c5⟩, ⟨e0, e1, e2, e3, e4, e5⟩, f0, f1, f2, f3, f4, f5⟩ := And.intro hSw.1.six (And.intro hSw.2.1.six hSw.2.2.six)); go_simp; try with_reducible rfl)
  simp only [Act.put, List.setIfInBounds_toArray, List.set_cons_zero, List.set_cons_succ]
  refine wpAnyG_take (i := 11) (oi := { dst := some 48, op := Go.Op.load 25 (Go.Operand.tmp 5), type := 25, pos := "law.go:189", after := #[{ on := 8, ground := Go.Ground.guard }], guard := some (8, false) }) (v := ?_) rfl (by kernel_rfl) (by kernel_rfl) (by kernel_rfl) (by kernel_rfl) (fun _ _ _ h => h) (Or.inl ⟨by rfl, ?_⟩) (by assumption) ?_
  rotate_left
  · (intro w hSw; (obtain ⟨⟨c0, c1, c2, c3, c4, c5⟩, ⟨e0, e1, e2, e3, e4, e5⟩, f0, f1, f2, f3, f4, f5⟩ := And.intro hSw.1.six (And.intro hSw.2.1.six hSw.2.2.six)); go_simp; try with_reducible rfl)
  simp only [Act.put, List.setIfInBounds_toArray, List.set_cons_zero, List.set_cons_succ]
  refine wpAnyG_ready (rs := [10]) (by kernel_rfl) (by simp) ?_
  refine AllReadyG.cons (o := { dst := some 47, op := Go.Op.call { callee := Go.Callee.value (Go.Operand.func 15), args := #[Go.Operand.tmp 46], argTypes := #[25] }, type := 3, pos := "law.go:189", after := #[{ on := 9, ground := Go.Ground.data }, { on := 8, ground := Go.Ground.chain }, { on := 8, ground := Go.Ground.guard }], guard := some (8, false) }) rfl (fun K hK => ?_) AllReadyG.nil
  go_simp
  go_at_call 15
  refine (CU.out _ y2).mono ?_
  rintro e Y3 ⟨rfl, u3⟩
  go_wp2_with fail
  have y3 : Kp [] F7 Y3 := y2.trans u3 (fun z hz => by simp at hz)
  refine hK.out _ _ ⟨H5.out _ y3, H6.out _ y3, H7.out _ y3⟩ (fun hHeld3 => ?_)
  clear hK K hHeld2
  try simp only [Act.put, List.setIfInBounds_toArray, List.set_cons_zero, List.set_cons_succ]
  refine wpAnyG_ready (rs := [12]) (by kernel_rfl) (by simp) ?_
  refine AllReadyG.cons (o := { dst := some 49, op := Go.Op.call { callee := Go.Callee.value (Go.Operand.func 15), args := #[Go.Operand.tmp 48], argTypes := #[25] }, type := 3, pos := "law.go:189", after := #[{ on := 11, ground := Go.Ground.data }, { on := 10, ground := Go.Ground.chain }, { on := 8, ground := Go.Ground.guard }], guard := some (8, false) }) rfl (fun K hK => ?_) AllReadyG.nil
  go_simp
  go_at_call 15
  refine (CT.out _ y3).mono ?_
  rintro e Y4 ⟨rfl, u4⟩
  go_wp2_with fail
  have y4 : Kp [] F7 Y4 := y3.trans u4 (fun z hz => by simp at hz)
  refine hK.out _ _ ⟨H5.out _ y4, H6.out _ y4, H7.out _ y4⟩ (fun hHeld4 => ?_)
  clear hK K hHeld3
  try simp only [Act.put, List.setIfInBounds_toArray, List.set_cons_zero, List.set_cons_succ]
  refine wpAnyG_pure (i := 13) (oi := { dst := some 50, op := Go.Op.binOp Go.BinOp.add 3 (Go.Operand.tmp 49) (Go.Operand.const (Go.Value.int Go.IntKind.i64 1)) 3, type := 3, pos := "law.go:189", after := #[{ on := 12, ground := Go.Ground.data }, { on := 8, ground := Go.Ground.guard }], guard := some (8, false) }) (v := ?_) rfl (by kernel_rfl) (by kernel_rfl) (by kernel_rfl) (by kernel_rfl) (fun _ _ _ h => h) (Or.inl ⟨by rfl, ?_⟩) (by assumption) ?_
  rotate_left
  · (intro w; go_simp; try with_reducible rfl)
  simp only [Act.put, List.setIfInBounds_toArray, List.set_cons_zero, List.set_cons_succ]
  refine wpAnyG_pure (i := 14) (oi := { dst := some 51, op := Go.Op.binOp Go.BinOp.neq 3 (Go.Operand.tmp 47) (Go.Operand.tmp 50) 3, type := 4, pos := "law.go:189", after := #[{ on := 10, ground := Go.Ground.data }, { on := 13, ground := Go.Ground.data }, { on := 8, ground := Go.Ground.guard }], guard := some (8, false) }) (v := ?_) rfl (by kernel_rfl) (by kernel_rfl) (by kernel_rfl) (by kernel_rfl) (fun _ _ _ h => h) (Or.inl ⟨by rfl, ?_⟩) (by assumption) ?_
  rotate_left
  · (intro w; go_simp; try with_reducible rfl)
  simp only [Act.put, List.setIfInBounds_toArray, List.set_cons_zero, List.set_cons_succ]
  refine wpAnyG_pure (i := 15) (oi := { dst := some 52, op := Go.Op.pick (Go.Operand.tmp 45) (Go.Operand.const (Go.Value.bool true)) (Go.Operand.tmp 51), type := 4, pos := "law.go:189", after := #[{ on := 8, ground := Go.Ground.data }, { on := 14, ground := Go.Ground.data }], guard := none }) (v := ?_) rfl (by kernel_rfl) (by kernel_rfl) (by kernel_rfl) (by kernel_rfl) (fun _ _ _ h => h) (Or.inl ⟨by rfl, ?_⟩) (by assumption) ?_
  rotate_left
  · (intro w; go_simp; try with_reducible rfl)
  simp only [Act.put, List.setIfInBounds_toArray, List.set_cons_zero, List.set_cons_succ]
  refine wpAnyG_pure (i := 16) (oi := { dst := some 53, op := Go.Op.move (Go.Operand.tmp 52), type := 4, pos := "law.go:189", after := #[{ on := 15, ground := Go.Ground.data }, { on := 12, ground := Go.Ground.chain }], guard := none }) (v := ?_) rfl (by kernel_rfl) (by kernel_rfl) (by kernel_rfl) (by kernel_rfl) (fun _ _ _ h => h) (Or.inl ⟨by rfl, ?_⟩) (by assumption) ?_
  rotate_left
  · (intro w; go_simp; try with_reducible rfl)
  simp only [Act.put, List.setIfInBounds_toArray, List.set_cons_zero, List.set_cons_succ]
  refine wpAnyG_take (i := 17) (oi := { dst := some 54, op := Go.Op.load 25 (Go.Operand.tmp 6), type := 25, pos := "law.go:189", after := #[{ on := 16, ground := Go.Ground.guard }], guard := some (16, false) }) (v := ?_) rfl (by kernel_rfl) (by kernel_rfl) (by kernel_rfl) (by kernel_rfl) (fun _ _ _ h => h) (Or.inl ⟨by rfl, ?_⟩) (by assumption) ?_
  rotate_left
  · (intro w hSw; (obtain ⟨⟨c0, c1, c2, c3, c4, c5⟩, ⟨e0, e1, e2, e3, e4, e5⟩, f0, f1, f2, f3, f4, f5⟩ := And.intro hSw.1.six (And.intro hSw.2.1.six hSw.2.2.six)); go_simp; try with_reducible rfl)
  simp only [Act.put, List.setIfInBounds_toArray, List.set_cons_zero, List.set_cons_succ]
  refine wpAnyG_take (i := 19) (oi := { dst := some 56, op := Go.Op.load 25 (Go.Operand.tmp 5), type := 25, pos := "law.go:189", after := #[{ on := 16, ground := Go.Ground.guard }], guard := some (16, false) }) (v := ?_) rfl (by kernel_rfl) (by kernel_rfl) (by kernel_rfl) (by kernel_rfl) (fun _ _ _ h => h) (Or.inl ⟨by rfl, ?_⟩) (by assumption) ?_
  rotate_left
  · (intro w hSw; (obtain ⟨⟨c0, c1, c2, c3, c4, c5⟩, ⟨e0, e1, e2, e3, e4, e5⟩, f0, f1, f2, f3, f4, f5⟩ := And.intro hSw.1.six (And.intro hSw.2.1.six hSw.2.2.six)); go_simp; try with_reducible rfl)
  simp only [Act.put, List.setIfInBounds_toArray, List.set_cons_zero, List.set_cons_succ]
  refine wpAnyG_ready (rs := [18]) (by kernel_rfl) (by simp) ?_
  refine AllReadyG.cons (o := { dst := some 55, op := Go.Op.call { callee := Go.Callee.value (Go.Operand.func 20), args := #[Go.Operand.tmp 54], argTypes := #[25] }, type := 9, pos := "law.go:189", after := #[{ on := 17, ground := Go.Ground.data }, { on := 16, ground := Go.Ground.chain }, { on := 16, ground := Go.Ground.guard }], guard := some (16, false) }) rfl (fun K hK => ?_) AllReadyG.nil
  go_simp
  go_at_call 20
  refine (XU.out _ y4).mono ?_
  rintro e Y5 ⟨rfl, u5⟩
  go_wp2_with fail
  have y5 : Kp [] F7 Y5 := y4.trans u5 (fun z hz => by simp at hz)
  refine hK.out _ _ ⟨H5.out _ y5, H6.out _ y5, H7.out _ y5⟩ (fun hHeld5 => ?_)
  clear hK K hHeld4
  try simp only [Act.put, List.setIfInBounds_toArray, List.set_cons_zero, List.set_cons_succ]
  refine wpAnyG_ready (rs := [20]) (by kernel_rfl) (by simp) ?_
  refine AllReadyG.cons (o := { dst := some 57, op := Go.Op.call { callee := Go.Callee.value (Go.Operand.func 20), args := #[Go.Operand.tmp 56], argTypes := #[25] }, type := 9, pos := "law.go:189", after := #[{ on := 19, ground := Go.Ground.data }, { on := 18, ground := Go.Ground.chain }, { on := 16, ground := Go.Ground.guard }], guard := some (16, false) }) rfl (fun K hK => ?_) AllReadyG.nil
  go_simp
  go_at_call 20
  refine (XT.out _ y5).mono ?_
  rintro e Y6 ⟨rfl, u6⟩
  go_wp2_with fail
  have y6 : Kp [] F7 Y6 := y5.trans u6 (fun z hz => by simp at hz)
  refine hK.out _ _ ⟨H5.out _ y6, H6.out _ y6, H7.out _ y6⟩ (fun hHeld6 => ?_)
  clear hK K hHeld5
  try simp only [Act.put, List.setIfInBounds_toArray, List.set_cons_zero, List.set_cons_succ]
  refine wpAnyG_pure (i := 21) (oi := { dst := some 58, op := Go.Op.binOp Go.BinOp.neq 9 (Go.Operand.tmp 55) (Go.Operand.tmp 57) 9, type := 4, pos := "law.go:189", after := #[{ on := 18, ground := Go.Ground.data }, { on := 20, ground := Go.Ground.data }, { on := 16, ground := Go.Ground.guard }], guard := some (16, false) }) (v := ?_) rfl (by kernel_rfl) (by kernel_rfl) (by kernel_rfl) (by kernel_rfl) (fun _ _ _ h => h) (Or.inl ⟨by rfl, ?_⟩) (by assumption) ?_
  rotate_left
  · (intro w; go_simp; try with_reducible rfl)
  simp only [Act.put, List.setIfInBounds_toArray, List.set_cons_zero, List.set_cons_succ]
  refine wpAnyG_pure (i := 22) (oi := { dst := some 59, op := Go.Op.pick (Go.Operand.tmp 53) (Go.Operand.const (Go.Value.bool true)) (Go.Operand.tmp 58), type := 4, pos := "law.go:189", after := #[{ on := 16, ground := Go.Ground.data }, { on := 21, ground := Go.Ground.data }], guard := none }) (v := ?_) rfl (by kernel_rfl) (by kernel_rfl) (by kernel_rfl) (by kernel_rfl) (fun _ _ _ h => h) (Or.inl ⟨by rfl, ?_⟩) (by assumption) ?_
  rotate_left
  · (intro w; go_simp; try with_reducible rfl)
  simp only [Act.put, List.setIfInBounds_toArray, List.set_cons_zero, List.set_cons_succ]
  refine wpAnyG_pure (i := 23) (oi := { dst := some 60, op := Go.Op.move (Go.Operand.tmp 59), type := 4, pos := "law.go:189", after := #[{ on := 22, ground := Go.Ground.data }, { on := 20, ground := Go.Ground.chain }], guard := none }) (v := ?_) rfl (by kernel_rfl) (by kernel_rfl) (by kernel_rfl) (by kernel_rfl) (fun _ _ _ h => h) (Or.inl ⟨by rfl, ?_⟩) (by assumption) ?_
  rotate_left
  · (intro w; go_simp; try with_reducible rfl)
  simp only [Act.put, List.setIfInBounds_toArray, List.set_cons_zero, List.set_cons_succ]
  refine wpAnyG_take (i := 24) (oi := { dst := some 61, op := Go.Op.load 25 (Go.Operand.tmp 6), type := 25, pos := "law.go:189", after := #[{ on := 23, ground := Go.Ground.guard }], guard := some (23, false) }) (v := ?_) rfl (by kernel_rfl) (by kernel_rfl) (by kernel_rfl) (by kernel_rfl) (fun _ _ _ h => h) (Or.inl ⟨by rfl, ?_⟩) (by assumption) ?_
  rotate_left
  · (intro w hSw; (obtain ⟨⟨c0, c1, c2, c3, c4, c5⟩, ⟨e0, e1, e2, e3, e4, e5⟩, f0, f1, f2, f3, f4, f5⟩ := And.intro hSw.1.six (And.intro hSw.2.1.six hSw.2.2.six)); go_simp; try with_reducible rfl)
  simp only [Act.put, List.setIfInBounds_toArray, List.set_cons_zero, List.set_cons_succ]
  refine wpAnyG_take (i := 26) (oi := { dst := some 63, op := Go.Op.load 25 (Go.Operand.tmp 5), type := 25, pos := "law.go:189", after := #[{ on := 23, ground := Go.Ground.guard }], guard := some (23, false) }) (v := ?_) rfl (by kernel_rfl) (by kernel_rfl) (by kernel_rfl) (by kernel_rfl) (fun _ _ _ h => h) (Or.inl ⟨by rfl, ?_⟩) (by assumption) ?_
  rotate_left
  · (intro w hSw; (obtain ⟨⟨c0, c1, c2, c3, c4, c5⟩, ⟨e0, e1, e2, e3, e4, e5⟩, f0, f1, f2, f3, f4, f5⟩ := And.intro hSw.1.six (And.intro hSw.2.1.six hSw.2.2.six)); go_simp; try with_reducible rfl)
  simp only [Act.put, List.setIfInBounds_toArray, List.set_cons_zero, List.set_cons_succ]
  refine wpAnyG_ready (rs := [25]) (by kernel_rfl) (by simp) ?_
  refine AllReadyG.cons (o := { dst := some 62, op := Go.Op.call { callee := Go.Callee.value (Go.Operand.func 19), args := #[Go.Operand.tmp 61], argTypes := #[25] }, type := 3, pos := "law.go:189", after := #[{ on := 24, ground := Go.Ground.data }, { on := 23, ground := Go.Ground.chain }, { on := 23, ground := Go.Ground.guard }], guard := some (23, false) }) rfl (fun K hK => ?_) AllReadyG.nil
  go_simp
  go_at_call 19
  refine (DU.out _ y6).mono ?_
  rintro e Y7 ⟨rfl, u7⟩
  go_wp2_with fail
  have y7 : Kp [] F7 Y7 := y6.trans u7 (fun z hz => by simp at hz)
  refine hK.out _ _ ⟨H5.out _ y7, H6.out _ y7, H7.out _ y7⟩ (fun hHeld7 => ?_)
  clear hK K hHeld6
  try simp only [Act.put, List.setIfInBounds_toArray, List.set_cons_zero, List.set_cons_succ]
  refine wpAnyG_ready (rs := [27]) (by kernel_rfl) (by simp) ?_
  refine AllReadyG.cons (o := { dst := some 64, op := Go.Op.call { callee := Go.Callee.value (Go.Operand.func 19), args := #[Go.Operand.tmp 63], argTypes := #[25] }, type := 3, pos := "law.go:189", after := #[{ on := 26, ground := Go.Ground.data }, { on := 25, ground := Go.Ground.chain }, { on := 23, ground := Go.Ground.guard }], guard := some (23, false) }) rfl (fun K hK => ?_) AllReadyG.nil
  go_simp
  go_at_call 19
  refine (DT.out _ y7).mono ?_
  rintro e Y8 ⟨rfl, u8⟩
  go_wp2_with fail
  have y8 : Kp [] F7 Y8 := y7.trans u8 (fun z hz => by simp at hz)
  refine hK.out _ _ ⟨H5.out _ y8, H6.out _ y8, H7.out _ y8⟩ (fun hHeld8 => ?_)
  clear hK K hHeld7
  try simp only [Act.put, List.setIfInBounds_toArray, List.set_cons_zero, List.set_cons_succ]
  refine wpAnyG_pure (i := 28) (oi := { dst := some 65, op := Go.Op.binOp Go.BinOp.lss 3 (Go.Operand.tmp 62) (Go.Operand.tmp 64) 3, type := 4, pos := "law.go:189", after := #[{ on := 25, ground := Go.Ground.data }, { on := 27, ground := Go.Ground.data }, { on := 23, ground := Go.Ground.guard }], guard := some (23, false) }) (v := ?_) rfl (by kernel_rfl) (by kernel_rfl) (by kernel_rfl) (by kernel_rfl) (fun _ _ _ h => h) (Or.inl ⟨by rfl, ?_⟩) (by assumption) ?_
  rotate_left
  · (intro w; go_simp; try with_reducible rfl)
  simp only [Act.put, List.setIfInBounds_toArray, List.set_cons_zero, List.set_cons_succ]
  refine wpAnyG_pure (i := 29) (oi := { dst := some 66, op := Go.Op.pick (Go.Operand.tmp 60) (Go.Operand.const (Go.Value.bool true)) (Go.Operand.tmp 65), type := 4, pos := "law.go:189", after := #[{ on := 23, ground := Go.Ground.data }, { on := 28, ground := Go.Ground.data }], guard := none }) (v := ?_) rfl (by kernel_rfl) (by kernel_rfl) (by kernel_rfl) (by kernel_rfl) (fun _ _ _ h => h) (Or.inl ⟨by rfl, ?_⟩) (by assumption) ?_
  rotate_left
  · (intro w; go_simp; try with_reducible rfl)
  simp only [Act.put, List.setIfInBounds_toArray, List.set_cons_zero, List.set_cons_succ]
  refine wpAnyG_free (by kernel_rfl) ?_
  refine wpAny_done (by kernel_rfl) ?_ _
  have KY : Hid (Kp [] F7 Y8) := y8
  clear S1 S2 CU CT XU XT DU DT y0 y1 y2 y3 y4 y5 y6 y7 y8 u1 u2 u3 u4 u5 u6 u7 u8
  go_wp2_with fail
  clear hHeld8
  obtain ⟨Z0, hZ0⟩ : ∃ V, V = Y8.drew := ⟨_, rfl⟩
  have y0 : Kp [] F7 Z0 := by rw [hZ0]; exact KY.out.drew
  refine wp_region_g (S := fun V => At V s5 (doc6 p1) 25 ∧ At V s6 #[.int .i64 1, .int .i64 0, .string ⟨#[]⟩, .slice none 0 0, .string ⟨#[]⟩, .slice (some a3) (A.len + 1) c3] 25 ∧ At V s7 #[.int .i64 1, .int .i64 0, .string ⟨#[]⟩, .slice none 0 0, .string ⟨#[]⟩, .slice (some ⟨g4, 0, none⟩) (A.len + 1) (A.len + 1)] 25) (T := []) (by kernel_rfl) ⟨H5.out _ KY.out.drew, H6.out _ KY.out.drew, H7.out _ KY.out.drew⟩ (fun hHeld => ?_)
  rw [← hZ0] at hHeld ⊢
  clear hZ0
  refine wpAnyG_take (i := 0) (oi := { dst := some 67, op := Go.Op.load 25 (Go.Operand.tmp 6), type := 25, pos := "law.go:192", after := #[], guard := none }) (v := ?_) rfl (by kernel_rfl) (by kernel_rfl) (by kernel_rfl) (by kernel_rfl) (fun _ _ _ h => h) (Or.inl ⟨by rfl, ?_⟩) (by assumption) ?_
  rotate_left
  · (intro w hSw; (obtain ⟨⟨c0, c1, c2, c3, c4, c5⟩, ⟨e0, e1, e2, e3, e4, e5⟩, f0, f1, f2, f3, f4, f5⟩ := And.intro hSw.1.six (And.intro hSw.2.1.six hSw.2.2.six)); go_simp; try with_reducible rfl)
  simp only [Act.put, List.setIfInBounds_toArray, List.set_cons_zero, List.set_cons_succ]
  refine wpAnyG_take (i := 2) (oi := { dst := some 69, op := Go.Op.load 25 (Go.Operand.tmp 5), type := 25, pos := "law.go:192", after := #[], guard := none }) (v := ?_) rfl (by kernel_rfl) (by kernel_rfl) (by kernel_rfl) (by kernel_rfl) (fun _ _ _ h => h) (Or.inl ⟨by rfl, ?_⟩) (by assumption) ?_
  rotate_left
  · (intro w hSw; (obtain ⟨⟨c0, c1, c2, c3, c4, c5⟩, ⟨e0, e1, e2, e3, e4, e5⟩, f0, f1, f2, f3, f4, f5⟩ := And.intro hSw.1.six (And.intro hSw.2.1.six hSw.2.2.six)); go_simp; try with_reducible rfl)
  simp only [Act.put, List.setIfInBounds_toArray, List.set_cons_zero, List.set_cons_succ]
  refine wpAnyG_ready (rs := [1]) (by kernel_rfl) (by simp) ?_
  refine AllReadyG.cons (o := { dst := some 68, op := Go.Op.call { callee := Go.Callee.value (Go.Operand.func 21), args := #[Go.Operand.tmp 67], argTypes := #[25] }, type := 4, pos := "law.go:192", after := #[{ on := 0, ground := Go.Ground.data }], guard := none }) rfl (fun K hK => ?_) AllReadyG.nil
  go_simp
  go_at_call 21
  refine (RU.out _ y0).mono ?_
  rintro e Z1 ⟨rfl, u1⟩
  go_wp2_with fail
  have y1 : Kp [] F7 Z1 := y0.trans u1 (fun z hz => by simp at hz)
  refine hK.out _ _ ⟨H5.out _ y1, H6.out _ y1, H7.out _ y1⟩ (fun hHeld1 => ?_)
  clear hK K hHeld
  try simp only [Act.put, List.setIfInBounds_toArray, List.set_cons_zero, List.set_cons_succ]
  refine wpAnyG_ready (rs := [3]) (by kernel_rfl) (by simp) ?_
  refine AllReadyG.cons (o := { dst := some 70, op := Go.Op.call { callee := Go.Callee.value (Go.Operand.func 21), args := #[Go.Operand.tmp 69], argTypes := #[25] }, type := 4, pos := "law.go:192", after := #[{ on := 2, ground := Go.Ground.data }, { on := 1, ground := Go.Ground.chain }], guard := none }) rfl (fun K hK => ?_) AllReadyG.nil
  go_simp
  go_at_call 21
  refine (RT.out _ y1).mono ?_
  rintro e Z2 ⟨rfl, u2⟩
  go_wp2_with fail
  have y2 : Kp [] F7 Z2 := y1.trans u2 (fun z hz => by simp at hz)
  refine hK.out _ _ ⟨H5.out _ y2, H6.out _ y2, H7.out _ y2⟩ (fun hHeld2 => ?_)
  clear hK K hHeld1
  try simp only [Act.put, List.setIfInBounds_toArray, List.set_cons_zero, List.set_cons_succ]
  refine wpAnyG_pure (i := 4) (oi := { dst := some 71, op := Go.Op.binOp Go.BinOp.eql 4 (Go.Operand.tmp 68) (Go.Operand.tmp 70) 4, type := 4, pos := "law.go:192", after := #[{ on := 1, ground := Go.Ground.data }, { on := 3, ground := Go.Ground.data }], guard := none }) (v := ?_) rfl (by kernel_rfl) (by kernel_rfl) (by kernel_rfl) (by kernel_rfl) (fun _ _ _ h => h) (Or.inl ⟨by rfl, ?_⟩) (by assumption) ?_
  rotate_left
  · (intro w; go_simp; try with_reducible rfl)
  simp only [Act.put, List.setIfInBounds_toArray, List.set_cons_zero, List.set_cons_succ]
  refine wpAnyG_pure (i := 5) (oi := { dst := some 72, op := Go.Op.move (Go.Operand.tmp 71), type := 4, pos := "law.go:192", after := #[{ on := 4, ground := Go.Ground.data }, { on := 3, ground := Go.Ground.chain }], guard := none }) (v := ?_) rfl (by kernel_rfl) (by kernel_rfl) (by kernel_rfl) (by kernel_rfl) (fun _ _ _ h => h) (Or.inl ⟨by rfl, ?_⟩) (by assumption) ?_
  rotate_left
  · (intro w; go_simp; try with_reducible rfl)
  simp only [Act.put, List.setIfInBounds_toArray, List.set_cons_zero, List.set_cons_succ]
  refine wpAnyG_take (i := 6) (oi := { dst := some 73, op := Go.Op.load 25 (Go.Operand.tmp 6), type := 25, pos := "law.go:192", after := #[{ on := 5, ground := Go.Ground.guard }], guard := some (5, true) }) (v := ?_) rfl (by kernel_rfl) (by kernel_rfl) (by kernel_rfl) (by kernel_rfl) (fun _ _ _ h => h) (Or.inl ⟨by rfl, ?_⟩) (by assumption) ?_
  rotate_left
  · (intro w hSw; (obtain ⟨⟨c0, c1, c2, c3, c4, c5⟩, ⟨e0, e1, e2, e3, e4, e5⟩, f0, f1, f2, f3, f4, f5⟩ := And.intro hSw.1.six (And.intro hSw.2.1.six hSw.2.2.six)); go_simp; try with_reducible rfl)
  simp only [Act.put, List.setIfInBounds_toArray, List.set_cons_zero, List.set_cons_succ]
  refine wpAnyG_take (i := 8) (oi := { dst := some 75, op := Go.Op.load 25 (Go.Operand.tmp 5), type := 25, pos := "law.go:192", after := #[{ on := 5, ground := Go.Ground.guard }], guard := some (5, true) }) (v := ?_) rfl (by kernel_rfl) (by kernel_rfl) (by kernel_rfl) (by kernel_rfl) (fun _ _ _ h => h) (Or.inl ⟨by rfl, ?_⟩) (by assumption) ?_
  rotate_left
  · (intro w hSw; (obtain ⟨⟨c0, c1, c2, c3, c4, c5⟩, ⟨e0, e1, e2, e3, e4, e5⟩, f0, f1, f2, f3, f4, f5⟩ := And.intro hSw.1.six (And.intro hSw.2.1.six hSw.2.2.six)); go_simp; try with_reducible rfl)
  simp only [Act.put, List.setIfInBounds_toArray, List.set_cons_zero, List.set_cons_succ]
  refine wpAnyG_pure (i := 11) (oi := { dst := some 78, op := Go.Op.move (Go.Operand.tmp 1), type := 9, pos := "law.go:192", after := #[{ on := 5, ground := Go.Ground.guard }], guard := some (5, true) }) (v := ?_) rfl (by kernel_rfl) (by kernel_rfl) (by kernel_rfl) (by kernel_rfl) (fun _ _ _ h => h) (Or.inl ⟨by rfl, ?_⟩) (by assumption) ?_
  rotate_left
  · (intro w; go_simp; try with_reducible rfl)
  simp only [Act.put, List.setIfInBounds_toArray, List.set_cons_zero, List.set_cons_succ]
  refine wpAnyG_ready (rs := [7]) (by kernel_rfl) (by simp) ?_
  refine AllReadyG.cons (o := { dst := some 74, op := Go.Op.call { callee := Go.Callee.value (Go.Operand.func 16), args := #[Go.Operand.tmp 73], argTypes := #[25] }, type := 9, pos := "law.go:192", after := #[{ on := 6, ground := Go.Ground.data }, { on := 5, ground := Go.Ground.chain }, { on := 5, ground := Go.Ground.guard }], guard := some (5, true) }) rfl (fun K hK => ?_) AllReadyG.nil
  go_simp
  go_at_call 16
  refine (WU.out _ y2).mono ?_
  rintro e Z3 ⟨rfl, u3⟩
  go_wp2_with fail
  have y3 : Kp [] F7 Z3 := y2.trans u3 (fun z hz => by simp at hz)
  refine hK.out _ _ ⟨H5.out _ y3, H6.out _ y3, H7.out _ y3⟩ (fun hHeld3 => ?_)
  clear hK K hHeld2
  try simp only [Act.put, List.setIfInBounds_toArray, List.set_cons_zero, List.set_cons_succ]
  refine wpAnyG_ready (rs := [9]) (by kernel_rfl) (by simp) ?_
  refine AllReadyG.cons (o := { dst := some 76, op := Go.Op.call { callee := Go.Callee.value (Go.Operand.func 16), args := #[Go.Operand.tmp 75], argTypes := #[25] }, type := 9, pos := "law.go:192", after := #[{ on := 8, ground := Go.Ground.data }, { on := 7, ground := Go.Ground.chain }, { on := 5, ground := Go.Ground.guard }], guard := some (5, true) }) rfl (fun K hK => ?_) AllReadyG.nil
  go_simp
  go_at_call 16
  refine (WT.out _ y3).mono ?_
  rintro e Z4 ⟨rfl, u4⟩
  go_wp2_with fail
  have y4 : Kp [] F7 Z4 := y3.trans u4 (fun z hz => by simp at hz)
  refine hK.out _ _ ⟨H5.out _ y4, H6.out _ y4, H7.out _ y4⟩ (fun hHeld4 => ?_)
  clear hK K hHeld3
  try simp only [Act.put, List.setIfInBounds_toArray, List.set_cons_zero, List.set_cons_succ]
  refine wpAnyG_pure (i := 10) (oi := { dst := some 77, op := Go.Op.binOp Go.BinOp.add 9 (Go.Operand.tmp 76) (Go.Operand.const (Go.Value.string { data := #[60, 33, 45, 45, 32] })) 9, type := 9, pos := "law.go:192", after := #[{ on := 9, ground := Go.Ground.data }, { on := 5, ground := Go.Ground.guard }], guard := some (5, true) }) (v := ?_) rfl (by kernel_rfl) (by kernel_rfl) (by kernel_rfl) (by kernel_rfl) (fun _ _ _ h => h) (Or.inl ⟨by rfl, ?_⟩) (by assumption) ?_
  rotate_left
  · (intro w; go_simp; try with_reducible rfl)
  simp only [Act.put, List.setIfInBounds_toArray, List.set_cons_zero, List.set_cons_succ]
  refine wpAnyG_ready (rs := [12]) (by kernel_rfl) (by simp) ?_
  refine AllReadyG.cons (o := { dst := some 79, op := Go.Op.call { callee := Go.Callee.value (Go.Operand.func 18), args := #[Go.Operand.tmp 78, Go.Operand.const (Go.Value.int Go.IntKind.i64 9)], argTypes := #[9, 3] }, type := 9, pos := "law.go:192", after := #[{ on := 11, ground := Go.Ground.data }, { on := 9, ground := Go.Ground.chain }, { on := 5, ground := Go.Ground.guard }], guard := some (5, true) }) rfl (fun K hK => ?_) AllReadyG.nil
  go_simp
  go_at_call 18
  refine (HHD.out _).mono ?_
  rintro e Z5 ⟨rfl, u5⟩
  go_wp2_with fail
  have y5 : Kp [] F7 Z5 := y4.trans u5 (fun z hz => by simp at hz)
  refine hK.out _ _ ⟨H5.out _ y5, H6.out _ y5, H7.out _ y5⟩ (fun hHeld5 => ?_)
  clear hK K hHeld4
  try simp only [Act.put, List.setIfInBounds_toArray, List.set_cons_zero, List.set_cons_succ]
  refine wpAnyG_pure (i := 13) (oi := { dst := some 80, op := Go.Op.binOp Go.BinOp.add 9 (Go.Operand.tmp 77) (Go.Operand.tmp 79) 9, type := 9, pos := "law.go:192", after := #[{ on := 10, ground := Go.Ground.data }, { on := 12, ground := Go.Ground.data }, { on := 5, ground := Go.Ground.guard }], guard := some (5, true) }) (v := ?_) rfl (by kernel_rfl) (by kernel_rfl) (by kernel_rfl) (by kernel_rfl) (fun _ _ _ h => h) (Or.inl ⟨by rfl, ?_⟩) (by assumption) ?_
  rotate_left
  · (intro w; go_simp; try with_reducible rfl)
  simp only [Act.put, List.setIfInBounds_toArray, List.set_cons_zero, List.set_cons_succ]
  refine wpAnyG_pure (i := 14) (oi := { dst := some 81, op := Go.Op.binOp Go.BinOp.add 9 (Go.Operand.tmp 80) (Go.Operand.const (Go.Value.string { data := #[32, 45, 45, 62, 10] })) 9, type := 9, pos := "law.go:192", after := #[{ on := 13, ground := Go.Ground.data }, { on := 5, ground := Go.Ground.guard }], guard := some (5, true) }) (v := ?_) rfl (by kernel_rfl) (by kernel_rfl) (by kernel_rfl) (by kernel_rfl) (fun _ _ _ h => h) (Or.inl ⟨by rfl, ?_⟩) (by assumption) ?_
  rotate_left
  · (intro w; go_simp; try with_reducible rfl)
  simp only [Act.put, List.setIfInBounds_toArray, List.set_cons_zero, List.set_cons_succ]
  refine wpAnyG_pure (i := 15) (oi := { dst := some 82, op := Go.Op.binOp Go.BinOp.eql 9 (Go.Operand.tmp 74) (Go.Operand.tmp 81) 9, type := 4, pos := "law.go:192", after := #[{ on := 7, ground := Go.Ground.data }, { on := 14, ground := Go.Ground.data }, { on := 5, ground := Go.Ground.guard }], guard := some (5, true) }) (v := ?_) rfl (by kernel_rfl) (by kernel_rfl) (by kernel_rfl) (by kernel_rfl) (fun _ _ _ h => h) (Or.inl ⟨by rfl, ?_⟩) (by assumption) ?_
  rotate_left
  · (intro w; go_simp; try with_reducible rfl)
  simp only [Act.put, List.setIfInBounds_toArray, List.set_cons_zero, List.set_cons_succ]
  refine wpAnyG_pure (i := 16) (oi := { dst := some 83, op := Go.Op.pick (Go.Operand.tmp 72) (Go.Operand.tmp 82) (Go.Operand.const (Go.Value.bool false)), type := 4, pos := "law.go:192", after := #[{ on := 5, ground := Go.Ground.data }, { on := 15, ground := Go.Ground.data }], guard := none }) (v := ?_) rfl (by kernel_rfl) (by kernel_rfl) (by kernel_rfl) (by kernel_rfl) (fun _ _ _ h => h) (Or.inl ⟨by rfl, ?_⟩) (by assumption) ?_
  rotate_left
  · (intro w; go_simp; try with_reducible rfl)
  simp only [Act.put, List.setIfInBounds_toArray, List.set_cons_zero, List.set_cons_succ]
  refine wpAnyG_pure (i := 17) (oi := { dst := some 84, op := Go.Op.move (Go.Operand.tmp 83), type := 4, pos := "law.go:192", after := #[{ on := 16, ground := Go.Ground.data }, { on := 12, ground := Go.Ground.chain }], guard := none }) (v := ?_) rfl (by kernel_rfl) (by kernel_rfl) (by kernel_rfl) (by kernel_rfl) (fun _ _ _ h => h) (Or.inl ⟨by rfl, ?_⟩) (by assumption) ?_
  rotate_left
  · (intro w; go_simp; try with_reducible rfl)
  simp only [Act.put, List.setIfInBounds_toArray, List.set_cons_zero, List.set_cons_succ]
  refine wpAnyG_ready (rs := [18]) (by kernel_rfl) (by simp) ?_
  refine AllReadyG.cons (o := { dst := some 85, op := Go.Op.call { callee := Go.Callee.value (Go.Operand.func 10), args := #[], argTypes := #[] }, type := 4, pos := "law.go:192", after := #[{ on := 17, ground := Go.Ground.chain }, { on := 17, ground := Go.Ground.guard }], guard := some (17, true) }) rfl (fun K hK => ?_) AllReadyG.nil
  go_simp
  go_at_call 10
  refine (known_any _).mono ?_
  rintro e Z6 ⟨rfl, u6⟩
  go_wp2_with fail
  have y6 : Kp [] F7 Z6 := y5.trans u6 (fun z hz => by simp at hz)
  refine hK.out _ _ ⟨H5.out _ y6, H6.out _ y6, H7.out _ y6⟩ (fun hHeld6 => ?_)
  clear hK K hHeld5
  try simp only [Act.put, List.setIfInBounds_toArray, List.set_cons_zero, List.set_cons_succ]
  refine wpAnyG_pure (i := 19) (oi := { dst := some 86, op := Go.Op.pick (Go.Operand.tmp 84) (Go.Operand.tmp 85) (Go.Operand.const (Go.Value.bool false)), type := 4, pos := "law.go:192", after := #[{ on := 17, ground := Go.Ground.data }, { on := 18, ground := Go.Ground.data }], guard := none }) (v := ?_) rfl (by kernel_rfl) (by kernel_rfl) (by kernel_rfl) (by kernel_rfl) (fun _ _ _ h => h) (Or.inl ⟨by rfl, ?_⟩) (by assumption) ?_
  rotate_left
  · (intro w; go_simp; try with_reducible rfl)
  simp only [Act.put, List.setIfInBounds_toArray, List.set_cons_zero, List.set_cons_succ]
  refine wpAnyG_pure (i := 20) (oi := { dst := some 4, op := Go.Op.assign (Go.Operand.tmp 86), type := 4, pos := "law.go:192", after := #[{ on := 19, ground := Go.Ground.data }, { on := 18, ground := Go.Ground.chain }, { on := 0, ground := Go.Ground.phase }, { on := 1, ground := Go.Ground.phase }, { on := 2, ground := Go.Ground.phase }, { on := 3, ground := Go.Ground.phase }, { on := 4, ground := Go.Ground.phase }, { on := 5, ground := Go.Ground.phase }, { on := 6, ground := Go.Ground.phase }, { on := 7, ground := Go.Ground.phase }, { on := 8, ground := Go.Ground.phase }, { on := 9, ground := Go.Ground.phase }, { on := 10, ground := Go.Ground.phase }, { on := 11, ground := Go.Ground.phase }, { on := 12, ground := Go.Ground.phase }, { on := 13, ground := Go.Ground.phase }, { on := 14, ground := Go.Ground.phase }, { on := 15, ground := Go.Ground.phase }, { on := 16, ground := Go.Ground.phase }, { on := 17, ground := Go.Ground.phase }, { on := 18, ground := Go.Ground.phase }, { on := 19, ground := Go.Ground.phase }], guard := none }) (v := ?_) rfl (by kernel_rfl) (by kernel_rfl) (by kernel_rfl) (by kernel_rfl) (fun _ _ _ h => h) (Or.inl ⟨by rfl, ?_⟩) (by assumption) ?_
  rotate_left
  · (intro w; go_simp; try with_reducible rfl)
  simp only [Act.put, List.setIfInBounds_toArray, List.set_cons_zero, List.set_cons_succ]
  refine wpAnyG_free (by kernel_rfl) ?_
  refine wpAny_done (by kernel_rfl) ?_ _
  go_wp2
  go_ret
  exact ⟨rfl, G7.out.trans y6 (fun z hz => by simp at hz)⟩
end Go.Proofs.Ytgnbafgglkncmaa

/-
  TreeCopies.
-/
namespace Go.Proofs.Ytgnbafgglkncmaa
open Go.RowKit
set_option linter.unusedVariables false
set_option linter.unusedSimpArgs false

/-- The copy's first row, whose lists lie elsewhere: what stays so whatever is turned in it. -/
structure Gd (V1 : World) (g n s4 : Nat) (zs : List Value) (w : World) : Prop where
  kp : Kp [] V1 w
  top : 0 < n → ∃ cur, At w g cur 25 ∧ n * 6 ≤ cur.size ∧ ∀ j, j < n → cur[j * 6 + 3]? = zs[j * 6 + 3]? ∧ cur[j * 6 + 5]? = zs[j * 6 + 5]?
  low : ∀ j b off m d, zs[j * 6 + 5]? = some (.slice (some ⟨b, off, none⟩) m d) → 0 < m → b ≠ g ∧ b ≠ s4 ∧ V1.heap.size ≤ b ∧ ∃ cur e, At w b cur e ∧ off + m * 6 ≤ cur.size
  t4 : At w s4 #[.int .i64 1, .int .i64 0, .string ⟨#[]⟩, .slice none 0 0, .string ⟨#[]⟩, .slice (ko g n) n n] 25
  hg : V1.heap.size ≤ g ∧ g ≠ s4

theorem Gd.kept {V1 : World} {g n s4 : Nat} {zs : List Value} {w w' : World} (h : Gd V1 g n s4 zs w) (k : Kp [] w w') : Gd V1 g n s4 zs w' := by
  refine ⟨h.kp.trans k (fun z hz => by simp at hz), fun hn => ?_, fun j b off m d e hm => ?_, h.t4.kept k (by simp), h.hg⟩
  · obtain ⟨cur, h1, h2, h3⟩ := h.top hn
    exact ⟨cur, h1.kept k (by simp), h2, h3⟩
  · obtain ⟨h1, h2, h3, cur, e', h4, h5⟩ := h.low j b off m d e hm
    exact ⟨h1, h2, h3, cur, e', h4.kept k (by simp), h5⟩

/-- A field turned that is no list. -/
theorem Gd.field {V1 : World} {g n s4 : Nat} {zs : List Value} {w : World} (h : Gd V1 g n s4 zs w) (hn : 0 < n) (i c : Nat) (hc : c = 2 ∨ c = 4) (u : Value) : Gd V1 g n s4 zs (w.setCell ⟨g, i * 6 + c, none⟩ u) := by
  have k : Kp [g] w (w.setCell ⟨g, i * 6 + c, none⟩ u) := (Kp.refl _ _).setCell (Or.inl (by simp)) _
  refine ⟨h.kp.trans k (fun z hz => Or.inr (by simp at hz; have := h.hg.1; omega)), fun _ => ?_, fun j b off m d e hm => ?_, h.t4.kept k (by simp; exact fun e => h.hg.2 e.symm), h.hg⟩
  · obtain ⟨cur, h1, h2, h3⟩ := h.top hn
    refine ⟨_, h1.set _ u, by simpa using h2, fun j hj => ?_⟩
    rw [Array.getElem?_setIfInBounds_ne (by omega), Array.getElem?_setIfInBounds_ne (by omega)]
    exact h3 j hj
  · obtain ⟨h1, h2, h3, cur, e', h4, h5⟩ := h.low j b off m d e hm
    exact ⟨h1, h2, h3, cur, e', h4.kept k (by simp; exact h1), h5⟩

/-- A node of a kid's list turned. -/
theorem Gd.node {V1 : World} {g n s4 : Nat} {zs : List Value} {w : World} (h : Gd V1 g n s4 zs w) {j b off m d : Nat} (he : zs[j * 6 + 5]? = some (.slice (some ⟨b, off, none⟩) m d)) (hm : 0 < m) (o : Nat) (v0 v1 v2 v3 v4 v5 : Value) : Gd V1 g n s4 zs (put6 w b o v0 v1 v2 v3 v4 v5) := by
  obtain ⟨a1, a2, a3, cur0, e0, a4, a5⟩ := h.low j b off m d he hm
  have k : Kp [b] w (put6 w b o v0 v1 v2 v3 v4 v5) := (Kp.refl _ _).put6 (g := b) (Or.inl (by simp)) _ _ _ _ _ _ _
  refine ⟨h.kp.trans k (fun z hz => Or.inr (by simp at hz; omega)), fun hn => ?_, fun j' b' off' m' d' e hm' => ?_, h.t4.kept k (by simp; exact fun e => a2 e.symm), h.hg⟩
  · obtain ⟨cur, h1, h2, h3⟩ := h.top hn
    exact ⟨cur, h1.kept k (by simp; exact fun e => a1 e.symm), h2, h3⟩
  · obtain ⟨h1, h2, h3, cur, e', h4, h5⟩ := h.low j' b' off' m' d' e hm'
    by_cases hb : b' = b
    · subst hb
      obtain ⟨cur', hg', hs'⟩ := setCells_block b' e' [v0, v1, v2, v3, v4, v5] o w cur h4
      exact ⟨h1, h2, h3, cur', e', by rw [put6_eq]; exact hg', by omega⟩
    · exact ⟨h1, h2, h3, cur, e', h4.kept k (by simp; exact hb), h5⟩

/-- What the row's lists are. -/
theorem Lf.lists {R : Nat → Prop} {w : World} {A : Fo} {zs : List Value} (h : Lf R w A zs) (hb : A.Each bareL) (hc : A.cnt ≤ 60) {j : Nat} (hj : j < A.len) : (∃ a d, zs[j * 6 + 3]? = some (.slice a 0 d)) ∧ ∃ ao m d, zs[j * 6 + 5]? = some (.slice ao m d) ∧ m ≤ 60 ∧ m ≤ d ∧ (0 < m → ∃ b off cur e, ao = some ⟨b, off, none⟩ ∧ R b ∧ At w b cur e ∧ off + m * 6 ≤ cur.size) := by
  obtain ⟨l, k, e⟩ := Fo.at_lt hj
  obtain ⟨p, hp, h1⟩ := h.at e
  have hk := kid_each hb e
  have hkc := kid_cnt e
  have ha := hp.alen
  rw [hk.1.1, List.length_nil] at ha
  have hl := hp.klen
  have hle := Fo.len_le_cnt k
  refine ⟨⟨p.1.1, p.1.2.2, by rw [h1 3 (by omega)]; simp [six, ha]⟩, p.2.1, p.2.2.1, p.2.2.2, by rw [h1 5 (by omega)]; rfl, by omega, hp.kids.cap, fun hm => ?_⟩
  obtain ⟨zs', hr, hf⟩ := hp.kids
  obtain ⟨b, off, cur, e', hq, f1, f2, f3⟩ := hr.at' hm
  refine ⟨b, off, cur, e', f1, hq, f2, ?_⟩
  have h2 := f3 (p.2.2.1 * 6 - 1) (by omega)
  have h3 := hr.len
  rw [List.getElem?_eq_getElem (show p.2.2.1 * 6 - 1 < zs'.length by omega)] at h2
  have h4 := (Array.getElem?_eq_some_iff.1 h2).1
  omega

theorem At.some {w : World} {g : Nat} {cur : Array Value} {e : TypeId} (h : At w g cur e) {j : Nat} (hj : j < cur.size) : ∃ u, w.cell? ⟨g, j, none⟩ = some u := ⟨cur[j], by rw [h.cell, Array.getElem?_eq_getElem hj]⟩

set_option maxRecDepth 100000 in
set_option maxHeartbeats 4000000 in
theorem copies_any (w : World) (L : List Nn) (lo : Option Addr) (ln lc : Nat) (h : Ns w lo ln lc L) :
    Calls Try.prog 5 #[.slice lo ln lc] w fun e w' => e = .returned (.bool true) ∧ Kp [] w w' := by
  have HL := grow_c w L lo ln lc true h
  have tA := grow_tiny true L
  have bA := grow_bare L
  have hcA : (growT true L).cnt ≤ 60 := by
    have h1 := grow_cnt (rowN true L) (by have := (rowN_cnt true L 30).2; rwa [List.take_of_length_le (by rw [rowN_len]; omega)] at this)
    have h2 := rowN_len true L
    unfold growT
    omega
  generalize growT true L = A at tA bA HL hcA
  have blA : (Fo.cons lD A .nil).Each bareL := ⟨bareN (by decide) (by decide), bA, trivial⟩
  have hlA := Fo.len_le_cnt A
  clear h
  go_enter Try.func5, Try.ntmps5
  go_upto_region 2 with (go_at_call 11; refine HL.mono ?_; rintro e w1 ⟨p1, rfl, N1, k1⟩)
  obtain ⟨V1, hV1, T3, kV1, zV1⟩ := one6 w1 (doc6 p1)
  rw [hV1]
  have N1 := N1.kept kV1
  have G1 : Hid (Kp [] w V1) := k1.trans kV1 (fun z hz => by simp at hz)
  obtain ⟨s3, hs3⟩ : ∃ s, w1.heap.size = s := ⟨_, rfl⟩
  rw [hs3] at T3 zV1 ⊢
  clear hV1 kV1 k1 HL hs3
  have HC1 := copy_tree V1 lD A p1 N1 blA (by omega)
  simp only [wv, lD] at HC1
  obtain ⟨c0, c1, c2, c3, c4, c5⟩ := T3.six
  go_upto_region 3 with (go_at_call 12; refine HC1.mono ?_; rintro e w2 ⟨g, zs, rfl, O2, L2, hg2, k2⟩)
  clear HC1 c0 c1 c2 c3 c4 c5
  obtain ⟨n, hn⟩ : ∃ n, A.len = n := ⟨_, rfl⟩
  rw [hn] at O2 ⊢
  obtain ⟨V2, hV2, T4, kV2, zV2⟩ := one6 w2 #[.int .i64 1, .int .i64 0, .string ⟨#[]⟩, .slice none 0 0, .string ⟨#[]⟩, .slice (ko g n) n n]
  rw [hV2]
  obtain ⟨s4, hs4⟩ : ∃ s, w2.heap.size = s := ⟨_, rfl⟩
  rw [hs4] at T4 zV2 ⊢
  have hz2 := k2.size
  have k12 : Kp [] V1 V2 := k2.trans kV2 (fun z hz => by simp at hz)
  have hgl : 0 < n → g < s4 := fun h0 => by
    have := O2.lt g (by unfold ko; rw [if_neg (by omega)]; simp [blk])
    omega
  have LS : Hid (∀ j, j < n → (∃ a d, zs[j * 6 + 3]? = some (.slice a 0 d)) ∧ ∃ ao m d, zs[j * 6 + 5]? = some (.slice ao m d) ∧ m ≤ 60 ∧ m ≤ d ∧ (0 < m → ∃ b off cur e, ao = some ⟨b, off, none⟩ ∧ (V1.heap.size ≤ b ∧ b ≠ g) ∧ At w2 b cur e ∧ off + m * 6 ≤ cur.size)) := fun j hj => L2.lists bA hcA (by omega)
  have NC : Nd Any V2 lD A ((none, 0, 0), (ko g n, n, n)) := (Nd.bare Any w2 _ _ _ _ (Rt.of_own O2 rfl (fun _ _ => trivial) (L2.mono (fun _ _ _ => trivial)))).kept kV2
  -- the block, or any other where the row is empty
  obtain ⟨gg, hgg, hgp⟩ : ∃ gg, ko gg n = ko g n ∧ (V1.heap.size ≤ gg ∧ gg ≠ s4) ∧ (0 < n → gg = g) := by
    rcases Nat.eq_zero_or_pos n with h0 | h0
    · exact ⟨s4 + 1, by simp [ko, h0], ⟨by omega, by omega⟩, fun h => by omega⟩
    · exact ⟨g, rfl, ⟨hg2, by have := hgl h0; omega⟩, fun _ => rfl⟩
  have GD : Hid (Gd V1 gg n s4 zs V2) := by
    refine ⟨k12, fun h0 => ?_, fun j b off m d e hm => ?_, by rw [hgg]; exact T4, hgp.1⟩
    · obtain ⟨cur, a1, a2, a3, a4, a5⟩ := OwnK.cells O2 h0
      rw [hgp.2 h0]
      exact ⟨cur, a1.kept kV2 (by simp), a4, fun j hj => ⟨a5 _ (by omega), a5 _ (by omega)⟩⟩
    · have hjn : j < n := by
        have h1 := (List.getElem?_eq_some_iff.1 e).1
        have h2 := O2.1
        omega
      obtain ⟨_, ao, m', d', e1, _, _, e2⟩ := LS.out j hjn
      rw [e1] at e
      simp only [Option.some.injEq, Value.slice.injEq] at e
      obtain ⟨rfl, rfl, rfl⟩ := e
      obtain ⟨b', off', cur, e', f1, f2, f3, f4⟩ := e2 hm
      simp only [Option.some.injEq, Addr.mk.injEq] at f1
      obtain ⟨rfl, rfl, _⟩ := f1
      exact ⟨by rw [hgp.2 (by omega)]; exact f2.2, by have := f3.lt; omega, f2.1, cur, e', f3.kept kV2 (by simp), f4⟩
  have LS2 : Hid (∀ j, j < n → (∃ a d, zs[j * 6 + 3]? = some (.slice a 0 d)) ∧ ∃ ao m d, zs[j * 6 + 5]? = some (.slice ao m d) ∧ m ≤ 60 ∧ m ≤ d ∧ (0 < m → ∃ b off, ao = some ⟨b, off, none⟩)) := fun j hj => by
    obtain ⟨h1, ao, m, d, h2, h3, h4, h5⟩ := LS.out j hj
    refine ⟨h1, ao, m, d, h2, h3, h4, fun hm => ?_⟩
    obtain ⟨b, off, _, _, e, _⟩ := h5 hm
    exact ⟨b, off, e⟩
  rw [← hgg] at NC T4 ⊢
  have hn60 : n ≤ 60 := by omega
  have N3 := N1.kept k12
  have T3 := T3.kept k12 (by simp)
  have H13 : Hid (∀ W, Kp [] V1 W → Calls Try.prog 13 #[wv lD p1] W fun e w' => e = .returned (.string (showT lD A)) ∧ Kp [] W w') := fun W kW => ref_show_any W lD A p1 (N1.kept kW) tA.ok tA.show
  have H16 : Hid (∀ W, Kp [] V1 W → Calls Try.prog 16 #[wv lD p1] W fun e w' => e = .returned (.string (showT lD A)) ∧ Kp [] W w') := fun W kW => show_any W lD A p1 (N1.kept kW) tA.ok tA.pad tA.show
  have H13c : Hid (∀ W, Kp [] V2 W → Calls Try.prog 13 #[wv lD ((none, 0, 0), (ko gg n, n, n))] W fun e w' => e = .returned (.string (showT lD A)) ∧ Kp [] W w') := fun W kW => ref_show_any W lD A _ (NC.kept kW) tA.ok tA.show
  have H14 : Hid (∀ W, Kp [] V2 W → Calls Try.prog 14 #[wv lD p1, wv lD ((none, 0, 0), (ko gg n, n, n))] W fun e w' => e = .returned (.bool true) ∧ Kp [] W w') := fun W kW => by
    have := tsame_any W lD A p1 lD A _ (N3.kept kW) (NC.kept kW) tA.ok tA.ok
    rwa [(sameT_iff ..).2 ⟨rfl, rfl⟩] at this
  have H15 : Hid (∀ W, Kp [] V2 W → Calls Try.prog 15 #[wv lD p1] W fun e w' => e = .returned (.int .i64 (countT lD A : Nat)) ∧ Kp [] W w') := fun W kW => count_any W lD A p1 (N3.kept kW) tA.cnt
  have H15c : Hid (∀ W, Kp [] V2 W → Calls Try.prog 15 #[wv lD ((none, 0, 0), (ko gg n, n, n))] W fun e w' => e = .returned (.int .i64 (countT lD A : Nat)) ∧ Kp [] W w') := fun W kW => count_any W lD A _ (NC.kept kW) tA.cnt
  generalize showT lD A = S at H13 H16 H13c
  generalize countT lD A = ct at H15 H15c
  simp only [wv, lD] at H13 H16 H13c H14 H15 H15c
  have K12 : Hid (Kp [] V1 V2) := k12
  have T3k : Hid (∀ W, Kp [] V2 W → At W s3 (doc6 p1) 25) := fun W kW => T3.kept kW (by simp)
  have T4k : Hid (∀ W, Kp [] V2 W → At W s4 #[.int .i64 1, .int .i64 0, .string ⟨#[]⟩, .slice none 0 0, .string ⟨#[]⟩, .slice (ko gg n) n n] 25) := fun W kW => T4.kept kW (by simp)
  have T3l := T3.lt
  have T3v : Hid (∀ W, Kp [] V1 W → At W s3 (doc6 p1) 25) := fun W kW => by
    have h1 : s3 < V1.heap.size := zV1
    have h2 := T3
    unfold At at h2 ⊢
    rw [kW.block s3 h1 (by simp)]
    rwa [k12.block s3 h1 (by simp)] at h2
  clear O2 L2 LS N1 N3 NC hgl tA bA blA hcA hlA hn k12 k2 kV2 hV2 hs4 zV2 hg2 hgg hgp T3 T4 T3l zV1
  clear hz2
  obtain ⟨c0, c1, c2, c3, c4, c5⟩ := (T3k.out _ (Kp.refl _ _)).six
  go_upto_region 4 with (go_at_call 13; refine (H13.out _ K12.out).mono ?_; rintro e V3 ⟨rfl, k23⟩)
  clear c0 c1 c2 c3 c4 c5
  obtain ⟨Y0, hY0⟩ : ∃ V, V = V3.drew := ⟨_, rfl⟩
  have y0 : Kp [] V2 Y0 := by rw [hY0]; exact k23.drew
  refine wp_region_g (S := fun V => At V s3 (doc6 p1) 25 ∧ At V s4 #[.int .i64 1, .int .i64 0, .string ⟨#[]⟩, .slice none 0 0, .string ⟨#[]⟩, .slice (ko gg n) n n] 25) (T := []) (by kernel_rfl) ⟨T3k.out _ k23.drew, T4k.out _ k23.drew⟩ (fun hHeld => ?_)
  rw [← hY0] at hHeld ⊢
  clear hY0
  refine wpAnyG_take (i := 0) (oi := { dst := some 15, op := Go.Op.load 25 (Go.Operand.tmp 3), type := 25, pos := "law.go:124", after := #[], guard := none }) (v := ?_) rfl (by kernel_rfl) (by kernel_rfl) (by kernel_rfl) (by kernel_rfl) (fun _ _ _ h => h) (Or.inl ⟨by rfl, ?_⟩) (by assumption) ?_
  rotate_left
  · (intro w hSw; (obtain ⟨⟨c0, c1, c2, c3, c4, c5⟩, e0, e1, e2, e3, e4, e5⟩ := And.intro hSw.1.six hSw.2.six); go_simp; try with_reducible rfl)
  simp only [Act.put, List.setIfInBounds_toArray, List.set_cons_zero, List.set_cons_succ]
  refine wpAnyG_take (i := 1) (oi := { dst := some 16, op := Go.Op.load 25 (Go.Operand.tmp 4), type := 25, pos := "law.go:124", after := #[], guard := none }) (v := ?_) rfl (by kernel_rfl) (by kernel_rfl) (by kernel_rfl) (by kernel_rfl) (fun _ _ _ h => h) (Or.inl ⟨by rfl, ?_⟩) (by assumption) ?_
  rotate_left
  · (intro w hSw; (obtain ⟨⟨c0, c1, c2, c3, c4, c5⟩, e0, e1, e2, e3, e4, e5⟩ := And.intro hSw.1.six hSw.2.six); go_simp; try with_reducible rfl)
  simp only [Act.put, List.setIfInBounds_toArray, List.set_cons_zero, List.set_cons_succ]
  refine wpAnyG_ready (rs := [2]) (by kernel_rfl) (by simp) ?_
  refine AllReadyG.cons (o := { dst := some 17, op := Go.Op.call { callee := Go.Callee.value (Go.Operand.func 14), args := #[Go.Operand.tmp 15, Go.Operand.tmp 16], argTypes := #[25, 25] }, type := 4, pos := "law.go:124", after := #[{ on := 0, ground := Go.Ground.data }, { on := 1, ground := Go.Ground.data }], guard := none }) rfl (fun K hK => ?_) AllReadyG.nil
  go_simp
  go_at_call 14
  refine (H14.out _ y0).mono ?_
  rintro e Y1 ⟨rfl, u1⟩
  go_wp2_with fail
  have y1 : Kp [] V2 Y1 := y0.trans u1 (fun z hz => by simp at hz)
  refine hK.out _ _ ⟨T3k.out _ y1, T4k.out _ y1⟩ (fun hHeld1 => ?_)
  clear hK K hHeld
  try simp only [Act.put, List.setIfInBounds_toArray, List.set_cons_zero, List.set_cons_succ]
  refine wpAnyG_pure (i := 3) (oi := { dst := some 18, op := Go.Op.unOp Go.UnOp.not 4 (Go.Operand.tmp 17), type := 4, pos := "law.go:124", after := #[{ on := 2, ground := Go.Ground.data }], guard := none }) (v := ?_) rfl (by kernel_rfl) (by kernel_rfl) (by kernel_rfl) (by kernel_rfl) (fun _ _ _ h => h) (Or.inl ⟨by rfl, ?_⟩) (by assumption) ?_
  rotate_left
  · (intro w; go_simp; try with_reducible rfl)
  simp only [Act.put, List.setIfInBounds_toArray, List.set_cons_zero, List.set_cons_succ]
  refine wpAnyG_pure (i := 4) (oi := { dst := some 19, op := Go.Op.move (Go.Operand.tmp 18), type := 4, pos := "law.go:124", after := #[{ on := 3, ground := Go.Ground.data }, { on := 2, ground := Go.Ground.chain }], guard := none }) (v := ?_) rfl (by kernel_rfl) (by kernel_rfl) (by kernel_rfl) (by kernel_rfl) (fun _ _ _ h => h) (Or.inl ⟨by rfl, ?_⟩) (by assumption) ?_
  rotate_left
  · (intro w; go_simp; try with_reducible rfl)
  simp only [Act.put, List.setIfInBounds_toArray, List.set_cons_zero, List.set_cons_succ]
  refine wpAnyG_take (i := 5) (oi := { dst := some 20, op := Go.Op.load 25 (Go.Operand.tmp 4), type := 25, pos := "law.go:124", after := #[{ on := 4, ground := Go.Ground.guard }], guard := some (4, false) }) (v := ?_) rfl (by kernel_rfl) (by kernel_rfl) (by kernel_rfl) (by kernel_rfl) (fun _ _ _ h => h) (Or.inl ⟨by rfl, ?_⟩) (by assumption) ?_
  rotate_left
  · (intro w hSw; (obtain ⟨⟨c0, c1, c2, c3, c4, c5⟩, e0, e1, e2, e3, e4, e5⟩ := And.intro hSw.1.six hSw.2.six); go_simp; try with_reducible rfl)
  simp only [Act.put, List.setIfInBounds_toArray, List.set_cons_zero, List.set_cons_succ]
  refine wpAnyG_pure (i := 7) (oi := { dst := some 22, op := Go.Op.move (Go.Operand.tmp 5), type := 9, pos := "law.go:124", after := #[{ on := 4, ground := Go.Ground.guard }], guard := some (4, false) }) (v := ?_) rfl (by kernel_rfl) (by kernel_rfl) (by kernel_rfl) (by kernel_rfl) (fun _ _ _ h => h) (Or.inl ⟨by rfl, ?_⟩) (by assumption) ?_
  rotate_left
  · (intro w; go_simp; try with_reducible rfl)
  simp only [Act.put, List.setIfInBounds_toArray, List.set_cons_zero, List.set_cons_succ]
  refine wpAnyG_ready (rs := [6]) (by kernel_rfl) (by simp) ?_
  refine AllReadyG.cons (o := { dst := some 21, op := Go.Op.call { callee := Go.Callee.value (Go.Operand.func 13), args := #[Go.Operand.tmp 20], argTypes := #[25] }, type := 9, pos := "law.go:124", after := #[{ on := 5, ground := Go.Ground.data }, { on := 4, ground := Go.Ground.chain }, { on := 4, ground := Go.Ground.guard }], guard := some (4, false) }) rfl (fun K hK => ?_) AllReadyG.nil
  go_simp
  go_at_call 13
  refine (H13c.out _ y1).mono ?_
  rintro e Y2 ⟨rfl, u2⟩
  go_wp2_with fail
  have y2 : Kp [] V2 Y2 := y1.trans u2 (fun z hz => by simp at hz)
  refine hK.out _ _ ⟨T3k.out _ y2, T4k.out _ y2⟩ (fun hHeld2 => ?_)
  clear hK K hHeld1
  try simp only [Act.put, List.setIfInBounds_toArray, List.set_cons_zero, List.set_cons_succ]
  refine wpAnyG_pure (i := 8) (oi := { dst := some 23, op := Go.Op.binOp Go.BinOp.neq 9 (Go.Operand.tmp 21) (Go.Operand.tmp 22) 9, type := 4, pos := "law.go:124", after := #[{ on := 6, ground := Go.Ground.data }, { on := 7, ground := Go.Ground.data }, { on := 4, ground := Go.Ground.guard }], guard := some (4, false) }) (v := ?_) rfl (by kernel_rfl) (by kernel_rfl) (by kernel_rfl) (by kernel_rfl) (fun _ _ _ h => h) (Or.inl ⟨by rfl, ?_⟩) (by assumption) ?_
  rotate_left
  · (intro w; go_simp; try with_reducible rfl)
  simp only [Act.put, List.setIfInBounds_toArray, List.set_cons_zero, List.set_cons_succ]
  refine wpAnyG_pure (i := 9) (oi := { dst := some 24, op := Go.Op.pick (Go.Operand.tmp 19) (Go.Operand.const (Go.Value.bool true)) (Go.Operand.tmp 23), type := 4, pos := "law.go:124", after := #[{ on := 4, ground := Go.Ground.data }, { on := 8, ground := Go.Ground.data }], guard := none }) (v := ?_) rfl (by kernel_rfl) (by kernel_rfl) (by kernel_rfl) (by kernel_rfl) (fun _ _ _ h => h) (Or.inl ⟨by rfl, ?_⟩) (by assumption) ?_
  rotate_left
  · (intro w; go_simp; try with_reducible rfl)
  simp only [Act.put, List.setIfInBounds_toArray, List.set_cons_zero, List.set_cons_succ]
  refine wpAnyG_pure (i := 10) (oi := { dst := some 25, op := Go.Op.move (Go.Operand.tmp 24), type := 4, pos := "law.go:124", after := #[{ on := 9, ground := Go.Ground.data }, { on := 6, ground := Go.Ground.chain }], guard := none }) (v := ?_) rfl (by kernel_rfl) (by kernel_rfl) (by kernel_rfl) (by kernel_rfl) (fun _ _ _ h => h) (Or.inl ⟨by rfl, ?_⟩) (by assumption) ?_
  rotate_left
  · (intro w; go_simp; try with_reducible rfl)
  simp only [Act.put, List.setIfInBounds_toArray, List.set_cons_zero, List.set_cons_succ]
  refine wpAnyG_take (i := 11) (oi := { dst := some 26, op := Go.Op.load 25 (Go.Operand.tmp 4), type := 25, pos := "law.go:124", after := #[{ on := 10, ground := Go.Ground.guard }], guard := some (10, false) }) (v := ?_) rfl (by kernel_rfl) (by kernel_rfl) (by kernel_rfl) (by kernel_rfl) (fun _ _ _ h => h) (Or.inl ⟨by rfl, ?_⟩) (by assumption) ?_
  rotate_left
  · (intro w hSw; (obtain ⟨⟨c0, c1, c2, c3, c4, c5⟩, e0, e1, e2, e3, e4, e5⟩ := And.intro hSw.1.six hSw.2.six); go_simp; try with_reducible rfl)
  simp only [Act.put, List.setIfInBounds_toArray, List.set_cons_zero, List.set_cons_succ]
  refine wpAnyG_take (i := 13) (oi := { dst := some 28, op := Go.Op.load 25 (Go.Operand.tmp 3), type := 25, pos := "law.go:124", after := #[{ on := 10, ground := Go.Ground.guard }], guard := some (10, false) }) (v := ?_) rfl (by kernel_rfl) (by kernel_rfl) (by kernel_rfl) (by kernel_rfl) (fun _ _ _ h => h) (Or.inl ⟨by rfl, ?_⟩) (by assumption) ?_
  rotate_left
  · (intro w hSw; (obtain ⟨⟨c0, c1, c2, c3, c4, c5⟩, e0, e1, e2, e3, e4, e5⟩ := And.intro hSw.1.six hSw.2.six); go_simp; try with_reducible rfl)
  simp only [Act.put, List.setIfInBounds_toArray, List.set_cons_zero, List.set_cons_succ]
  refine wpAnyG_ready (rs := [12]) (by kernel_rfl) (by simp) ?_
  refine AllReadyG.cons (o := { dst := some 27, op := Go.Op.call { callee := Go.Callee.value (Go.Operand.func 15), args := #[Go.Operand.tmp 26], argTypes := #[25] }, type := 3, pos := "law.go:124", after := #[{ on := 11, ground := Go.Ground.data }, { on := 10, ground := Go.Ground.chain }, { on := 10, ground := Go.Ground.guard }], guard := some (10, false) }) rfl (fun K hK => ?_) AllReadyG.nil
  go_simp
  go_at_call 15
  refine (H15c.out _ y2).mono ?_
  rintro e Y3 ⟨rfl, u3⟩
  go_wp2_with fail
  have y3 : Kp [] V2 Y3 := y2.trans u3 (fun z hz => by simp at hz)
  refine hK.out _ _ ⟨T3k.out _ y3, T4k.out _ y3⟩ (fun hHeld3 => ?_)
  clear hK K hHeld2
  try simp only [Act.put, List.setIfInBounds_toArray, List.set_cons_zero, List.set_cons_succ]
  refine wpAnyG_ready (rs := [14]) (by kernel_rfl) (by simp) ?_
  refine AllReadyG.cons (o := { dst := some 29, op := Go.Op.call { callee := Go.Callee.value (Go.Operand.func 15), args := #[Go.Operand.tmp 28], argTypes := #[25] }, type := 3, pos := "law.go:124", after := #[{ on := 13, ground := Go.Ground.data }, { on := 12, ground := Go.Ground.chain }, { on := 10, ground := Go.Ground.guard }], guard := some (10, false) }) rfl (fun K hK => ?_) AllReadyG.nil
  go_simp
  go_at_call 15
  refine (H15.out _ y3).mono ?_
  rintro e Y4 ⟨rfl, u4⟩
  go_wp2_with fail
  have y4 : Kp [] V2 Y4 := y3.trans u4 (fun z hz => by simp at hz)
  refine hK.out _ _ ⟨T3k.out _ y4, T4k.out _ y4⟩ (fun hHeld4 => ?_)
  clear hK K hHeld3
  try simp only [Act.put, List.setIfInBounds_toArray, List.set_cons_zero, List.set_cons_succ]
  refine wpAnyG_pure (i := 15) (oi := { dst := some 30, op := Go.Op.binOp Go.BinOp.neq 3 (Go.Operand.tmp 27) (Go.Operand.tmp 29) 3, type := 4, pos := "law.go:124", after := #[{ on := 12, ground := Go.Ground.data }, { on := 14, ground := Go.Ground.data }, { on := 10, ground := Go.Ground.guard }], guard := some (10, false) }) (v := ?_) rfl (by kernel_rfl) (by kernel_rfl) (by kernel_rfl) (by kernel_rfl) (fun _ _ _ h => h) (Or.inl ⟨by rfl, ?_⟩) (by assumption) ?_
  rotate_left
  · (intro w; go_simp; try with_reducible rfl)
  simp only [Act.put, List.setIfInBounds_toArray, List.set_cons_zero, List.set_cons_succ]
  refine wpAnyG_pure (i := 16) (oi := { dst := some 31, op := Go.Op.pick (Go.Operand.tmp 25) (Go.Operand.const (Go.Value.bool true)) (Go.Operand.tmp 30), type := 4, pos := "law.go:124", after := #[{ on := 10, ground := Go.Ground.data }, { on := 15, ground := Go.Ground.data }], guard := none }) (v := ?_) rfl (by kernel_rfl) (by kernel_rfl) (by kernel_rfl) (by kernel_rfl) (fun _ _ _ h => h) (Or.inl ⟨by rfl, ?_⟩) (by assumption) ?_
  rotate_left
  · (intro w; go_simp; try with_reducible rfl)
  simp only [Act.put, List.setIfInBounds_toArray, List.set_cons_zero, List.set_cons_succ]
  refine wpAnyG_free (by kernel_rfl) ?_
  refine wpAny_done (by kernel_rfl) ?_ _
  have KY : Hid (Kp [] V2 Y4) := y4
  clear y0 y1 y2 y3 y4 u1 u2 u3 u4 hHeld4 k23
  clear H13c H14 H15 H15c
  have G4 : Hid (Gd V1 gg n s4 zs Y4) := GD.out.kept KY.out
  clear T3k T4k GD KY K12
  go_wp2_with fail
  go_loopw [6] (fun x6 wr => ∃ i : Nat, x6 = .int .i64 i ∧ i ≤ n ∧ Gd V1 gg n s4 zs wr) (fun x6 wr => n - (intOf x6).toNat)
  case atStart => exact ⟨0, rfl, Nat.zero_le _, G4.out⟩
  case round =>
    clear G4
    obtain ⟨i, rfl, hi, GW⟩ := hrel
    by_cases hlt : i < n
    · obtain ⟨⟨a3, d3, hz3⟩, ao, m, d, hz5, hm60, hmd, hmb⟩ := LS2.out i hlt
      have hko : ko gg n = some ⟨gg, 0, none⟩ := by unfold ko; rw [if_neg (by omega)]
      have HF : Hid (∀ W, Gd V1 gg n s4 zs W → W.cell? ⟨s4, 5, none⟩ = some (.slice (some ⟨gg, 0, none⟩) n n) ∧ (∃ u, W.cell? ⟨gg, i * 6 + 2, none⟩ = some u) ∧ (∃ u, W.cell? ⟨gg, i * 6 + 4, none⟩ = some u) ∧ W.frozen? ⟨gg, i * 6 + 2, none⟩ = false ∧ W.frozen? ⟨gg, i * 6 + 4, none⟩ = false ∧ W.cell? ⟨gg, i * 6 + 3, none⟩ = some (.slice a3 0 d3) ∧ W.cell? ⟨gg, i * 6 + 5, none⟩ = some (.slice ao m d)) := fun W hW => by
        obtain ⟨cur, t1, t2, t3⟩ := hW.top (by omega)
        obtain ⟨e3, e5⟩ := t3 i hlt
        have c5 := hW.t4.cell 5
        refine ⟨?_, t1.some (by omega), t1.some (by omega), t1.free _, t1.free _, by rw [t1.cell, e3, hz3], by rw [t1.cell, e5, hz5]⟩
        rw [← hko]; exact c5
      have j1 : (0 : Int) ≤ (i : Int) := by omega
      have j2 : (i : Int) < (n : Int) := by omega
      obtain ⟨x5, ⟨u2, x2⟩, _, f2, _, _, _⟩ := HF.out _ GW
      have GW1 := GW.field (by omega) i 2 (Or.inl rfl) (.string ⟨#[116, 117, 114, 110, 101, 100]⟩)
      go_upto_region 10 with fail
      clear x5 x2 f2 GW
      obtain ⟨W1, hW1⟩ : ∃ W, W = World.setCell wr ⟨gg, i * 6 + 2, none⟩ (.string ⟨#[116, 117, 114, 110, 101, 100]⟩) := ⟨_, rfl⟩
      rw [← hW1] at GW1 ⊢
      clear hW1
      obtain ⟨x5, _, ⟨u4, x4⟩, _, f4, _, _⟩ := HF.out _ GW1
      have GW2 := GW1.field (by omega) i 4 (Or.inr rfl) (.string ⟨#[116, 117, 114, 110, 101, 100]⟩)
      go_upto_region 11 with fail
      clear x5 x4 f4 GW1
      obtain ⟨W2, hW2⟩ : ∃ W, W = World.setCell W1 ⟨gg, i * 6 + 4, none⟩ (.string ⟨#[116, 117, 114, 110, 101, 100]⟩) := ⟨_, rfl⟩
      rw [← hW2] at GW2 ⊢
      clear hW2
      obtain ⟨wr0, rfl⟩ : ∃ x, x = wr := ⟨_, rfl⟩
      go_wp2_with fail
      go_loopw [7] (fun x7 wr => ∃ k : Nat, x7 = .int .i64 k ∧ k ≤ m ∧ Gd V1 gg n s4 zs wr) (fun x7 wr => m - (intOf x7).toNat)
      case atStart => exact ⟨0, rfl, Nat.zero_le _, GW2⟩
      case round =>
        clear GW2
        obtain ⟨k, rfl, hk, GK⟩ := hrel
        obtain ⟨x5, _, _, _, _, y3, y5⟩ := HF.out _ GK
        by_cases hlk : k < m
        · obtain ⟨b, off, rfl⟩ := hmb (by omega)
          obtain ⟨_, _, _, cur, e', t1, t2⟩ := GK.low i b off m d hz5 (by omega)
          have hkm : (k + 1) * 6 ≤ m * 6 := Nat.mul_le_mul_right 6 hlk
          obtain ⟨u0, q0⟩ := t1.some (j := off + k * 6) (by omega)
          obtain ⟨u1, q1⟩ := t1.some (j := off + k * 6 + 1) (by omega)
          obtain ⟨u2, q2⟩ := t1.some (j := off + k * 6 + 2) (by omega)
          obtain ⟨u3, q3⟩ := t1.some (j := off + k * 6 + 3) (by omega)
          obtain ⟨u4, q4⟩ := t1.some (j := off + k * 6 + 4) (by omega)
          obtain ⟨u5, q5⟩ := t1.some (j := off + k * 6 + 5) (by omega)
          have fz := fun j => t1.free j
          have GN : Hid (Gd V1 gg n s4 zs (put6 wr b (off + k * 6) (.int .i64 0) (.int .i64 0) (.string ⟨#[]⟩) (.slice none 0 0) (.string ⟨#[]⟩) (.slice none 0 0))) := GK.node hz5 (by omega) _ _ _ _ _ _ _
          have j3 : (0 : Int) ≤ (k : Int) := by omega
          have j4 : (k : Int) < (m : Int) := by omega
          unfold put6 at GN
          clear GK t1
          go_wp2
          go_roundw
          case measure => simp [intOf]; omega
          case rel => exact ⟨k + 1, by go_num, by omega, GN.out⟩
        · obtain rfl : k = m := by omega
          have HGK : Hid (Gd V1 gg n s4 zs wr) := GK
          obtain ⟨wr1, rfl⟩ : ∃ x, x = wr := ⟨_, rfl⟩
          clear GK hk
          go_wp2_with fail
          go_loopw [8] (fun x8 wr => x8 = .int .i64 0 ∧ wr = wr1) (fun x8 wr => 0)
          case atStart => exact ⟨rfl, rfl⟩
          case round =>
            obtain ⟨rfl, hw⟩ := hrel
            have hw2 := hw.symm
            clear hw
            subst hw2
            go_wp2
            go_roundw
            case measure => simp [intOf]; omega
            case rel => exact ⟨i + 1, by go_num, by omega, HGK.out⟩
    · obtain rfl : i = n := by omega
      have K1 : Hid (Kp [] V1 wr) := GW.kp
      obtain ⟨c0, c1, c2, c3, c4, c5⟩ := (T3v.out _ GW.kp).six
      have x5 := GW.t4.cell 5
      simp only [List.getElem?_toArray, List.getElem?_cons_succ, List.getElem?_cons_zero] at x5
      clear GW LS2
      go_wp2_with (first
        | (have D := K3.out; go_at_call 10; refine (known_any _).mono ?_; rintro e u4 ⟨rfl, j4⟩)
        | (have D := K2.out; go_at_call 16; refine (H16.out _ K2.out).mono ?_; rintro e u3 ⟨rfl, j3⟩; have K3 : Hid (Kp [] V1 u3) := K2.out.trans j3 (fun z hz => by simp at hz))
        | (go_at_call 13; refine (H13.out _ K1.out).mono ?_; rintro e u2 ⟨rfl, j2⟩; have K2 : Hid (Kp [] V1 u2) := K1.out.trans j2 (fun z hz => by simp at hz); clear c0 c1 c2 c3 c4 c5; obtain ⟨d0, d1, d2, d3, d4, d5⟩ := (T3v.out _ K2.out).six))
      go_ret
      exact ⟨rfl, (G1.out.trans K3.out (fun z hz => by simp at hz)).trans j4 (fun z hz => by simp at hz)⟩

end Go.Proofs.Ytgnbafgglkncmaa
