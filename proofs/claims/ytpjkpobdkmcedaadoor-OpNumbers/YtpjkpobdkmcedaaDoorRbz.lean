/-
  The document's bytes.
-/
import Derived.Test.YtpjkpobdkmcedaaDoorRby
import Derived.Test.YtpjkpobdkmcedaaDoorEncD
import Derived.Test.YtpjkpobdkmcedaaDoorHeld
namespace Go.Proofs.YtpjkpobdkmcedaaDoor
open Go.RowKit Utf
set_option linter.unusedVariables false
set_option linter.unusedSimpArgs false

/-- append, whose run is known, as one step of a region that draws its order. -/
theorem step_app2 {P : Program} {ops : Array Oper} {o : Oper} {a : Act} {w w' : World} {K : Act → World → Prop} {Q : Exit → Act → World → Prop} {E : Prop}
    (hg : o.guard = none) (s x : Operand) (t t' : TypeId) (hop : o.op = Op.call { callee := Callee.builtin Builtin.append, args := #[s, x], argTypes := #[t, t'] })
    (v u : Value) {v' : Value} (hs : a.eval s = v) (hx : a.eval x = u) (hrun : ∀ ty, (Builtin.append_ #[t, t'] ty #[v, u]).run P w = .ok v' w') (hK : K (a.put o.dst v') w') :
    if Region.wanted o (yielded ops a.tmps) = true then Oper.wp P o a w K Q else E := by
  have hw : Region.wanted o (yielded ops a.tmps) = true := by simp [Region.wanted, hg]
  rw [if_pos hw]
  have hr := hrun o.type
  unfold Oper.wp
  simp [execOp, hop, resolve, invoke, builtin, hs, hx, hr, Result.andThen]
  exact hK

/-- A literal of one byte. -/
theorem mb_lit {w U : World} (k : Kp [] w U) (x : Int) : Mb w (U.alloc (.cells #[.int .u8 x] 5)) (.slice (some ⟨U.heap.size, 0, none⟩) 1 1) [x] :=
  ⟨Or.inr ⟨U.heap.size, 1, #[.int .u8 x], rfl, heap_new U _, Nat.le_refl _, by unfold maxLen; omega, rfl, fun j hj => by simp [b8]⟩, k.alloc _, fun j hj => by simp [blk] at hj; have := k.size; omega⟩

theorem wrap8 {x : Int} (h0 : 0 ≤ x) (h1 : x ≤ 255) : IntKind.u8.wrap x = x := by
  simp [IntKind.wrap, IntKind.bits, IntKind.signed]
  omega

theorem Mb.lit {w w1 : World} {a : Option Addr} {n c : Nat} {xs : List Int} (h : Mb w w1 (.slice a n c) xs) (l : List Int) (cur : Array Value) (m : Nat) (hc : cur = (b8 l).toArray) (hm : m = l.length) (hm2 : m ≤ 1000) (hlen : xs.length + m ≤ 1000000) :
    ∃ a2 n2 c2 w2, (∀ ty, (Builtin.append_ #[27, 27] ty #[.slice a n c, .slice (some ⟨w1.heap.size, 0, none⟩) m m]).run Tryd.prog (w1.alloc (.cells cur 5)) = .ok (.slice a2 n2 c2) w2) ∧ Mb w w2 (.slice a2 n2 c2) (xs ++ l) := by
  obtain ⟨a2, c2, w2, hrun, X⟩ := ext_lit (Ext.refl h.1) l cur m hc hm hm2 hlen
  exact ⟨a2, _, c2, w2, hrun, h.ext X⟩

theorem Mb.four {w w1 : World} {v : Value} {xs : List Int} (h : Mb w w1 v xs) (n : Int) (hn : 0 ≤ n ∧ n ≤ 4294967295) (hlen : xs.length ≤ 900000) :
    Calls Tryd.prog 34 #[v, .int .i64 n] w1 fun e w' => ∃ a2 n2 c2, e = .returned (.slice a2 n2 c2) ∧ Mb w w' (.slice a2 n2 c2) (xs ++ nb n 4) :=
  (four_any w1 v xs h.1 n hn hlen).mono fun e w' ⟨v', he, X⟩ => by
    obtain ⟨a2, c2, hv⟩ := (h.ext X).shape
    exact ⟨a2, _, c2, by rw [he, hv], by rw [← hv]; exact h.ext X⟩

theorem Mb.text {w w1 : World} {v : Value} {xs : List Int} (h : Mb w w1 v xs) (s : ByteArray) (hs : s.size ≤ 16777215) (hlen : xs.length + s.size ≤ 900000) :
    Calls Tryd.prog 35 #[v, .string s] w1 fun e w' => ∃ a2 n2 c2, e = .returned (.slice a2 n2 c2) ∧ Mb w w' (.slice a2 n2 c2) (xs ++ tb s) :=
  (ltext_any w1 v xs h.1 s hs hlen).mono fun e w' ⟨v', he, X⟩ => by
    obtain ⟨a2, c2, hv⟩ := (h.ext X).shape
    exact ⟨a2, _, c2, by rw [he, hv], by rw [← hv]; exact h.ext X⟩

set_option maxRecDepth 100000 in
set_option maxHeartbeats 2000000 in
theorem bytes_any (w : World) (o : Ot) (p : Sl) (hA : At w (o, p)) (hr : rightO o = true) (hf : fitO o) (hlen : (ob o).length ≤ 800000) :
    Calls Tryd.prog 13 #[ov o p] w fun e w' => ∃ a' n' c', e = .returned (.slice a' n' c') ∧ Mb w w' (.slice a' n' c') (ob o) := by
  obtain ⟨⟨r1, r1'⟩, ⟨r2, r2'⟩, ⟨r3, r3'⟩, ⟨r4, r4'⟩, ⟨r5, r5'⟩, r6, r6'⟩ := right_range hr
  obtain ⟨t1, t2, t3, t4⟩ := hf
  have hq : p.2.1 = o.al.length := Rp.len hA
  rw [ob_len o] at hlen
  obtain ⟨o1, o2, o3, o4, o5, o6, o7, l, o9⟩ := o
  obtain ⟨p1, p2, p3⟩ := p
  simp only at hq r1 r1' r2 r2' r3 r3' r4 r4' r5 r5' r6 r6' t1 t2 t3 t4 hlen
  subst hq
  have HR : Hid (∀ W, Kp [] w W → Rp W p1 l.length p3 l) := fun W k => Rp.kept hA k
  have XO : Hid (ob ⟨o1, o2, o3, o4, o5, o6, o7, l, o9⟩ = [o1] ++ nb o2 4 ++ nb o3 4 ++ nb o4 4 ++ [o5, o6] ++ tb o7 ++ nb l.length 2 ++ ab l ++ tb o9) := (by
    have e1 : nb o1 1 = [o1] := by simp [nb]; omega
    have e2 : nb o5 1 = [o5] := by simp [nb]; omega
    have e3 : nb o6 1 = [o6] := by simp [nb]; omega
    simp only [ob, e1, e2, e3, List.append_assoc]
    rfl : ob ⟨o1, o2, o3, o4, o5, o6, o7, l, o9⟩ = [o1] ++ nb o2 4 ++ nb o3 4 ++ nb o4 4 ++ [o5, o6] ++ tb o7 ++ nb l.length 2 ++ ab l ++ tb o9)
  have HS : Hid (∀ V, Kp [] (w.alloc (.cells (oc ⟨o1, o2, o3, o4, o5, o6, o7, l, o9⟩ (p1, l.length, p3)) 24)) V → Nine V w.heap.size 0 ⟨o1, o2, o3, o4, o5, o6, o7, l, o9⟩ (p1, l.length, p3)) := fun V k => (nine_of (heap_new w _)).kept k (by simp)
  have kb : Kp [] w (w.alloc (.cells (oc ⟨o1, o2, o3, o4, o5, o6, o7, l, o9⟩ (p1, l.length, p3)) 24)) := (Kp.refl _ _).alloc _
  clear hA hr
  simp only [oc, ov, Nine, Nat.zero_add] at HS kb ⊢
  go_enter Tryd.func13, Tryd.ntmps13
  go_wp2_with fail
  generalize hW : w.alloc (Obj.cells _ 24) = W0 at HS kb ⊢
  clear hW
  generalize w.heap.size = g at HS ⊢
  have HM : Hid (∀ V v xs, Mb W0 V v xs → Mb w V v xs) := fun V v xs h => ⟨h.1, kb.trans h.2.1 (fun x hx => Or.inl hx), fun k hk => Nat.le_trans kb.size (h.2.2 k hk)⟩
  have HR2 : Hid (∀ V, Kp [] W0 V → Rp V p1 l.length p3 l) := fun V k => HR.out V (kb.trans k (fun x hx => Or.inl hx))
  clear kb HR
  have W1 : Hid (IntKind.u8.wrap o1 = o1) := wrap8 (by omega) (by omega)
  have W5 : Hid (IntKind.u8.wrap o5 = o5) := wrap8 (by omega) (by omega)
  have W6 : Hid (IntKind.u8.wrap o6 = o6) := wrap8 (by omega) (by omega)
  obtain ⟨U0, hU0⟩ : ∃ V, V = W0.drew := ⟨_, rfl⟩
  have k0 : Kp [] W0 U0 := by rw [hU0]; exact (Kp.refl _ _).drew
  refine wp_region_g (S := fun V => V.cell? ⟨g, 0, none⟩ = some (.int .i64 o1) ∧ V.cell? ⟨g, 1, none⟩ = some (.int .i64 o2) ∧ V.cell? ⟨g, 2, none⟩ = some (.int .i64 o3) ∧ V.cell? ⟨g, 3, none⟩ = some (.int .i64 o4) ∧ V.cell? ⟨g, 4, none⟩ = some (.int .i64 o5) ∧ V.cell? ⟨g, 5, none⟩ = some (.int .i64 o6) ∧ V.cell? ⟨g, 6, none⟩ = some (.string o7) ∧ V.cell? ⟨g, 7, none⟩ = some (.slice p1 l.length p3) ∧ V.cell? ⟨g, 8, none⟩ = some (.string o9)) (T := []) (by kernel_rfl) (HS.out _ (Kp.refl [] W0).drew) (fun hHeld => ?_)
  rw [← hU0] at hHeld ⊢
  clear hU0
  refine wpAnyG_pure (i := 0) (oi := { dst := some 5, op := Go.Op.fieldAddr 24 (Go.Operand.tmp 1) 0, type := 0, pos := "law.go:62", after := #[], guard := none }) (v := ?_) rfl (by kernel_rfl) (by kernel_rfl) (by kernel_rfl) (by kernel_rfl) (fun _ _ _ h => h) (Or.inl ⟨by rfl, ?_⟩) (by assumption) ?_
  rotate_left
  · (intro w; go_simp; try with_reducible rfl)
  simp only [Act.put, List.setIfInBounds_toArray, List.set_cons_zero, List.set_cons_succ]
  refine wpAnyG_take (i := 1) (oi := { dst := some 6, op := Go.Op.load 3 (Go.Operand.tmp 5), type := 3, pos := "law.go:62", after := #[{ on := 0, ground := Go.Ground.data }], guard := none }) (v := ?_) rfl (by kernel_rfl) (by kernel_rfl) (by kernel_rfl) (by kernel_rfl) (fun _ _ _ h => h) (Or.inl ⟨by rfl, ?_⟩) (by assumption) ?_
  rotate_left
  · (intro w hSw; (obtain ⟨q0, q1, q2, q3, q4, q5, q6, q7, q8⟩ := hSw); go_simp; try with_reducible rfl)
  simp only [Act.put, List.setIfInBounds_toArray, List.set_cons_zero, List.set_cons_succ]
  refine wpAnyG_take (i := 2) (oi := { dst := some 7, op := Go.Op.convert 3 5 (Go.Operand.tmp 6), type := 5, pos := "law.go:62", after := #[{ on := 1, ground := Go.Ground.data }], guard := none }) (v := ?_) rfl (by kernel_rfl) (by kernel_rfl) (by kernel_rfl) (by kernel_rfl) (fun _ _ _ h => h) (Or.inl ⟨by rfl, ?_⟩) (by assumption) ?_
  rotate_left
  · (intro w hSw; (obtain ⟨q0, q1, q2, q3, q4, q5, q6, q7, q8⟩ := hSw); go_simp; try with_reducible rfl)
  simp only [Act.put, List.setIfInBounds_toArray, List.set_cons_zero, List.set_cons_succ]
  refine wpAnyG_pure (i := 4) (oi := { dst := some 9, op := Go.Op.fieldAddr 24 (Go.Operand.tmp 1) 1, type := 0, pos := "law.go:62", after := #[], guard := none }) (v := ?_) rfl (by kernel_rfl) (by kernel_rfl) (by kernel_rfl) (by kernel_rfl) (fun _ _ _ h => h) (Or.inl ⟨by rfl, ?_⟩) (by assumption) ?_
  rotate_left
  · (intro w; go_simp; try with_reducible rfl)
  simp only [Act.put, List.setIfInBounds_toArray, List.set_cons_zero, List.set_cons_succ]
  refine wpAnyG_take (i := 5) (oi := { dst := some 10, op := Go.Op.load 3 (Go.Operand.tmp 9), type := 3, pos := "law.go:62", after := #[{ on := 4, ground := Go.Ground.data }], guard := none }) (v := ?_) rfl (by kernel_rfl) (by kernel_rfl) (by kernel_rfl) (by kernel_rfl) (fun _ _ _ h => h) (Or.inl ⟨by rfl, ?_⟩) (by assumption) ?_
  rotate_left
  · (intro w hSw; (obtain ⟨q0, q1, q2, q3, q4, q5, q6, q7, q8⟩ := hSw); go_simp; try with_reducible rfl)
  simp only [Act.put, List.setIfInBounds_toArray, List.set_cons_zero, List.set_cons_succ]
  refine wpAnyG_pure (i := 7) (oi := { dst := some 12, op := Go.Op.fieldAddr 24 (Go.Operand.tmp 1) 2, type := 0, pos := "law.go:62", after := #[], guard := none }) (v := ?_) rfl (by kernel_rfl) (by kernel_rfl) (by kernel_rfl) (by kernel_rfl) (fun _ _ _ h => h) (Or.inl ⟨by rfl, ?_⟩) (by assumption) ?_
  rotate_left
  · (intro w; go_simp; try with_reducible rfl)
  simp only [Act.put, List.setIfInBounds_toArray, List.set_cons_zero, List.set_cons_succ]
  refine wpAnyG_take (i := 8) (oi := { dst := some 13, op := Go.Op.load 3 (Go.Operand.tmp 12), type := 3, pos := "law.go:62", after := #[{ on := 7, ground := Go.Ground.data }], guard := none }) (v := ?_) rfl (by kernel_rfl) (by kernel_rfl) (by kernel_rfl) (by kernel_rfl) (fun _ _ _ h => h) (Or.inl ⟨by rfl, ?_⟩) (by assumption) ?_
  rotate_left
  · (intro w hSw; (obtain ⟨q0, q1, q2, q3, q4, q5, q6, q7, q8⟩ := hSw); go_simp; try with_reducible rfl)
  simp only [Act.put, List.setIfInBounds_toArray, List.set_cons_zero, List.set_cons_succ]
  refine wpAnyG_pure (i := 10) (oi := { dst := some 15, op := Go.Op.fieldAddr 24 (Go.Operand.tmp 1) 3, type := 0, pos := "law.go:62", after := #[], guard := none }) (v := ?_) rfl (by kernel_rfl) (by kernel_rfl) (by kernel_rfl) (by kernel_rfl) (fun _ _ _ h => h) (Or.inl ⟨by rfl, ?_⟩) (by assumption) ?_
  rotate_left
  · (intro w; go_simp; try with_reducible rfl)
  simp only [Act.put, List.setIfInBounds_toArray, List.set_cons_zero, List.set_cons_succ]
  refine wpAnyG_take (i := 11) (oi := { dst := some 16, op := Go.Op.load 3 (Go.Operand.tmp 15), type := 3, pos := "law.go:62", after := #[{ on := 10, ground := Go.Ground.data }], guard := none }) (v := ?_) rfl (by kernel_rfl) (by kernel_rfl) (by kernel_rfl) (by kernel_rfl) (fun _ _ _ h => h) (Or.inl ⟨by rfl, ?_⟩) (by assumption) ?_
  rotate_left
  · (intro w hSw; (obtain ⟨q0, q1, q2, q3, q4, q5, q6, q7, q8⟩ := hSw); go_simp; try with_reducible rfl)
  simp only [Act.put, List.setIfInBounds_toArray, List.set_cons_zero, List.set_cons_succ]
  refine wpAnyG_ready (rs := [3]) (by kernel_rfl) (by simp) ?_
  refine AllReadyG.cons (o := { dst := some 8, op := Go.Op.buildSlice 27 1 #[(0, Go.Operand.tmp 7)], type := 27, pos := "law.go:62", after := #[{ on := 2, ground := Go.Ground.data }], guard := none }) rfl (fun K hK => ?_) AllReadyG.nil
  go_simp
  rw [W1.out]
  have M1 := mb_lit k0 o1
  refine hK.out _ _ (HS.out _ M1.2.1) (fun hHeld1 => ?_)
  clear hK K hHeld
  try simp only [Act.put, List.setIfInBounds_toArray, List.set_cons_zero, List.set_cons_succ]
  refine wpAnyG_ready (rs := [6]) (by kernel_rfl) (by simp) ?_
  refine AllReadyG.cons (o := { dst := some 11, op := Go.Op.call { callee := Go.Callee.value (Go.Operand.func 34), args := #[Go.Operand.tmp 8, Go.Operand.tmp 10], argTypes := #[27, 3] }, type := 27, pos := "law.go:62", after := #[{ on := 3, ground := Go.Ground.data }, { on := 5, ground := Go.Ground.data }], guard := none }) rfl (fun K hK => ?_) AllReadyG.nil
  go_simp
  go_at_call 34
  refine (M1.four o2 (by omega) (by simp only [List.length_append, List.length_cons, List.length_nil, nb_len]; omega)).mono ?_
  rintro e U2 ⟨a2, n2, c2, rfl, M2⟩
  clear M1
  go_wp2_with fail
  refine hK.out _ _ (HS.out _ M2.2.1) (fun hHeld2 => ?_)
  clear hK K hHeld1
  try simp only [Act.put, List.setIfInBounds_toArray, List.set_cons_zero, List.set_cons_succ]
  refine wpAnyG_ready (rs := [9]) (by kernel_rfl) (by simp) ?_
  refine AllReadyG.cons (o := { dst := some 14, op := Go.Op.call { callee := Go.Callee.value (Go.Operand.func 34), args := #[Go.Operand.tmp 11, Go.Operand.tmp 13], argTypes := #[27, 3] }, type := 27, pos := "law.go:62", after := #[{ on := 6, ground := Go.Ground.data }, { on := 8, ground := Go.Ground.data }, { on := 6, ground := Go.Ground.chain }], guard := none }) rfl (fun K hK => ?_) AllReadyG.nil
  go_simp
  go_at_call 34
  refine (M2.four o3 (by omega) (by simp only [List.length_append, List.length_cons, List.length_nil, nb_len]; omega)).mono ?_
  rintro e U3 ⟨a3, n3, c3, rfl, M3⟩
  clear M2
  go_wp2_with fail
  refine hK.out _ _ (HS.out _ M3.2.1) (fun hHeld3 => ?_)
  clear hK K hHeld2
  try simp only [Act.put, List.setIfInBounds_toArray, List.set_cons_zero, List.set_cons_succ]
  refine wpAnyG_ready (rs := [12]) (by kernel_rfl) (by simp) ?_
  refine AllReadyG.cons (o := { dst := some 17, op := Go.Op.call { callee := Go.Callee.value (Go.Operand.func 34), args := #[Go.Operand.tmp 14, Go.Operand.tmp 16], argTypes := #[27, 3] }, type := 27, pos := "law.go:62", after := #[{ on := 9, ground := Go.Ground.data }, { on := 11, ground := Go.Ground.data }, { on := 9, ground := Go.Ground.chain }], guard := none }) rfl (fun K hK => ?_) AllReadyG.nil
  go_simp
  go_at_call 34
  refine (M3.four o4 (by omega) (by simp only [List.length_append, List.length_cons, List.length_nil, nb_len]; omega)).mono ?_
  rintro e U4 ⟨a4, n4, c4, rfl, M4⟩
  clear M3
  go_wp2_with fail
  refine hK.out _ _ (HS.out _ M4.2.1) (fun hHeld4 => ?_)
  clear hK K hHeld3
  try simp only [Act.put, List.setIfInBounds_toArray, List.set_cons_zero, List.set_cons_succ]
  refine wpAnyG_pure (i := 13) (oi := { dst := some 3, op := Go.Op.assign (Go.Operand.tmp 17), type := 27, pos := "law.go:62", after := #[{ on := 12, ground := Go.Ground.data }, { on := 12, ground := Go.Ground.chain }, { on := 0, ground := Go.Ground.phase }, { on := 1, ground := Go.Ground.phase }, { on := 2, ground := Go.Ground.phase }, { on := 3, ground := Go.Ground.phase }, { on := 4, ground := Go.Ground.phase }, { on := 5, ground := Go.Ground.phase }, { on := 6, ground := Go.Ground.phase }, { on := 7, ground := Go.Ground.phase }, { on := 8, ground := Go.Ground.phase }, { on := 9, ground := Go.Ground.phase }, { on := 10, ground := Go.Ground.phase }, { on := 11, ground := Go.Ground.phase }, { on := 12, ground := Go.Ground.phase }], guard := none }) (v := ?_) rfl (by kernel_rfl) (by kernel_rfl) (by kernel_rfl) (by kernel_rfl) (fun _ _ _ h => h) (Or.inl ⟨by rfl, ?_⟩) (by assumption) ?_
  rotate_left
  · (intro w; go_simp; try with_reducible rfl)
  simp only [Act.put, List.setIfInBounds_toArray, List.set_cons_zero, List.set_cons_succ]
  refine wpAnyG_free (by kernel_rfl) ?_
  refine wpAny_done (by kernel_rfl) ?_ _
  go_wp2_with fail
  have M4d := M4.kept (Kp.refl _ _).drew
  clear M4
  obtain ⟨U4d, hU4⟩ : ∃ V, V = U4.drew := ⟨_, rfl⟩
  rw [← hU4] at M4d
  have M4 := M4d
  clear M4d
  refine wp_region_g (S := fun V => V.cell? ⟨g, 0, none⟩ = some (.int .i64 o1) ∧ V.cell? ⟨g, 1, none⟩ = some (.int .i64 o2) ∧ V.cell? ⟨g, 2, none⟩ = some (.int .i64 o3) ∧ V.cell? ⟨g, 3, none⟩ = some (.int .i64 o4) ∧ V.cell? ⟨g, 4, none⟩ = some (.int .i64 o5) ∧ V.cell? ⟨g, 5, none⟩ = some (.int .i64 o6) ∧ V.cell? ⟨g, 6, none⟩ = some (.string o7) ∧ V.cell? ⟨g, 7, none⟩ = some (.slice p1 l.length p3) ∧ V.cell? ⟨g, 8, none⟩ = some (.string o9)) (T := []) (by kernel_rfl) (by rw [← hU4]; exact HS.out _ M4.2.1) (fun hHeld => ?_)
  rw [← hU4] at hHeld ⊢
  clear hU4
  refine wpAnyG_pure (i := 0) (oi := { dst := some 18, op := Go.Op.move (Go.Operand.tmp 3), type := 27, pos := "law.go:63", after := #[], guard := none }) (v := ?_) rfl (by kernel_rfl) (by kernel_rfl) (by kernel_rfl) (by kernel_rfl) (fun _ _ _ h => h) (Or.inl ⟨by rfl, ?_⟩) (by assumption) ?_
  rotate_left
  · (intro w; go_simp; try with_reducible rfl)
  simp only [Act.put, List.setIfInBounds_toArray, List.set_cons_zero, List.set_cons_succ]
  refine wpAnyG_pure (i := 1) (oi := { dst := some 19, op := Go.Op.fieldAddr 24 (Go.Operand.tmp 1) 4, type := 0, pos := "law.go:63", after := #[], guard := none }) (v := ?_) rfl (by kernel_rfl) (by kernel_rfl) (by kernel_rfl) (by kernel_rfl) (fun _ _ _ h => h) (Or.inl ⟨by rfl, ?_⟩) (by assumption) ?_
  rotate_left
  · (intro w; go_simp; try with_reducible rfl)
  simp only [Act.put, List.setIfInBounds_toArray, List.set_cons_zero, List.set_cons_succ]
  refine wpAnyG_take (i := 2) (oi := { dst := some 20, op := Go.Op.load 3 (Go.Operand.tmp 19), type := 3, pos := "law.go:63", after := #[{ on := 1, ground := Go.Ground.data }], guard := none }) (v := ?_) rfl (by kernel_rfl) (by kernel_rfl) (by kernel_rfl) (by kernel_rfl) (fun _ _ _ h => h) (Or.inl ⟨by rfl, ?_⟩) (by assumption) ?_
  rotate_left
  · (intro w hSw; (obtain ⟨q0, q1, q2, q3, q4, q5, q6, q7, q8⟩ := hSw); go_simp; try with_reducible rfl)
  simp only [Act.put, List.setIfInBounds_toArray, List.set_cons_zero, List.set_cons_succ]
  refine wpAnyG_take (i := 3) (oi := { dst := some 21, op := Go.Op.convert 3 5 (Go.Operand.tmp 20), type := 5, pos := "law.go:63", after := #[{ on := 2, ground := Go.Ground.data }], guard := none }) (v := ?_) rfl (by kernel_rfl) (by kernel_rfl) (by kernel_rfl) (by kernel_rfl) (fun _ _ _ h => h) (Or.inl ⟨by rfl, ?_⟩) (by assumption) ?_
  rotate_left
  · (intro w hSw; (obtain ⟨q0, q1, q2, q3, q4, q5, q6, q7, q8⟩ := hSw); go_simp; try with_reducible rfl)
  simp only [Act.put, List.setIfInBounds_toArray, List.set_cons_zero, List.set_cons_succ]
  refine wpAnyG_pure (i := 4) (oi := { dst := some 22, op := Go.Op.fieldAddr 24 (Go.Operand.tmp 1) 5, type := 0, pos := "law.go:63", after := #[], guard := none }) (v := ?_) rfl (by kernel_rfl) (by kernel_rfl) (by kernel_rfl) (by kernel_rfl) (fun _ _ _ h => h) (Or.inl ⟨by rfl, ?_⟩) (by assumption) ?_
  rotate_left
  · (intro w; go_simp; try with_reducible rfl)
  simp only [Act.put, List.setIfInBounds_toArray, List.set_cons_zero, List.set_cons_succ]
  refine wpAnyG_take (i := 5) (oi := { dst := some 23, op := Go.Op.load 3 (Go.Operand.tmp 22), type := 3, pos := "law.go:63", after := #[{ on := 4, ground := Go.Ground.data }], guard := none }) (v := ?_) rfl (by kernel_rfl) (by kernel_rfl) (by kernel_rfl) (by kernel_rfl) (fun _ _ _ h => h) (Or.inl ⟨by rfl, ?_⟩) (by assumption) ?_
  rotate_left
  · (intro w hSw; (obtain ⟨q0, q1, q2, q3, q4, q5, q6, q7, q8⟩ := hSw); go_simp; try with_reducible rfl)
  simp only [Act.put, List.setIfInBounds_toArray, List.set_cons_zero, List.set_cons_succ]
  refine wpAnyG_take (i := 6) (oi := { dst := some 24, op := Go.Op.convert 3 5 (Go.Operand.tmp 23), type := 5, pos := "law.go:63", after := #[{ on := 5, ground := Go.Ground.data }], guard := none }) (v := ?_) rfl (by kernel_rfl) (by kernel_rfl) (by kernel_rfl) (by kernel_rfl) (fun _ _ _ h => h) (Or.inl ⟨by rfl, ?_⟩) (by assumption) ?_
  rotate_left
  · (intro w hSw; (obtain ⟨q0, q1, q2, q3, q4, q5, q6, q7, q8⟩ := hSw); go_simp; try with_reducible rfl)
  simp only [Act.put, List.setIfInBounds_toArray, List.set_cons_zero, List.set_cons_succ]
  refine wpAnyG_pure (i := 9) (oi := { dst := some 27, op := Go.Op.fieldAddr 24 (Go.Operand.tmp 1) 6, type := 0, pos := "law.go:63", after := #[], guard := none }) (v := ?_) rfl (by kernel_rfl) (by kernel_rfl) (by kernel_rfl) (by kernel_rfl) (fun _ _ _ h => h) (Or.inl ⟨by rfl, ?_⟩) (by assumption) ?_
  rotate_left
  · (intro w; go_simp; try with_reducible rfl)
  simp only [Act.put, List.setIfInBounds_toArray, List.set_cons_zero, List.set_cons_succ]
  refine wpAnyG_take (i := 10) (oi := { dst := some 28, op := Go.Op.load 9 (Go.Operand.tmp 27), type := 9, pos := "law.go:63", after := #[{ on := 9, ground := Go.Ground.data }], guard := none }) (v := ?_) rfl (by kernel_rfl) (by kernel_rfl) (by kernel_rfl) (by kernel_rfl) (fun _ _ _ h => h) (Or.inl ⟨by rfl, ?_⟩) (by assumption) ?_
  rotate_left
  · (intro w hSw; (obtain ⟨q0, q1, q2, q3, q4, q5, q6, q7, q8⟩ := hSw); go_simp; try with_reducible rfl)
  simp only [Act.put, List.setIfInBounds_toArray, List.set_cons_zero, List.set_cons_succ]
  refine wpAnyG_ready (rs := [7]) (by kernel_rfl) (by simp) ?_
  refine AllReadyG.cons (o := { dst := some 25, op := Go.Op.buildSlice 27 2 #[(0, Go.Operand.tmp 21), (1, Go.Operand.tmp 24)], type := 27, pos := "law.go:63", after := #[{ on := 3, ground := Go.Ground.data }, { on := 6, ground := Go.Ground.data }], guard := none }) rfl (fun K hK => ?_) AllReadyG.nil
  obtain ⟨a5, n5, c5, U5, hrun5, M5⟩ := M4.lit [o5, o6] #[.int .u8 o5, .int .u8 o6] 2 rfl rfl (by omega) (by simp only [List.length_append, List.length_cons, List.length_nil, nb_len]; omega)
  go_simp
  rw [W5.out, W6.out]
  refine hK.out _ _ (HS.out _ (M4.2.1.alloc _)) (fun hHeld1 => ?_)
  clear hK K hHeld
  try simp only [Act.put, List.setIfInBounds_toArray, List.set_cons_zero, List.set_cons_succ]
  refine wpAnyG_ready (rs := [8]) (by kernel_rfl) (by simp) ?_
  refine AllReadyG.cons (o := { dst := some 26, op := Go.Op.call { callee := Go.Callee.builtin Go.Builtin.append, args := #[Go.Operand.tmp 18, Go.Operand.tmp 25], argTypes := #[27, 27] }, type := 27, pos := "law.go:63", after := #[{ on := 0, ground := Go.Ground.data }, { on := 7, ground := Go.Ground.data }], guard := none }) rfl (fun K hK => ?_) AllReadyG.nil
  refine step_app2 (by rfl) _ _ 27 27 (by rfl) _ _ (by rfl) (by rfl) hrun5 ?_
  clear hrun5 M4
  refine hK.out _ _ (HS.out _ M5.2.1) (fun hHeld2 => ?_)
  clear hK K hHeld1
  try simp only [Act.put, List.setIfInBounds_toArray, List.set_cons_zero, List.set_cons_succ]
  refine wpAnyG_ready (rs := [11]) (by kernel_rfl) (by simp) ?_
  refine AllReadyG.cons (o := { dst := some 29, op := Go.Op.call { callee := Go.Callee.value (Go.Operand.func 35), args := #[Go.Operand.tmp 26, Go.Operand.tmp 28], argTypes := #[27, 9] }, type := 27, pos := "law.go:63", after := #[{ on := 8, ground := Go.Ground.data }, { on := 10, ground := Go.Ground.data }, { on := 8, ground := Go.Ground.chain }], guard := none }) rfl (fun K hK => ?_) AllReadyG.nil
  go_simp
  go_at_call 35
  refine (M5.text o7 t1 (by simp only [List.length_append, List.length_cons, List.length_nil, nb_len]; omega)).mono ?_
  rintro e U6 ⟨a6, n6, c6, rfl, M6⟩
  clear M5
  go_wp2_with fail
  refine hK.out _ _ (HS.out _ M6.2.1) (fun hHeld3 => ?_)
  clear hK K hHeld2
  try simp only [Act.put, List.setIfInBounds_toArray, List.set_cons_zero, List.set_cons_succ]
  refine wpAnyG_pure (i := 12) (oi := { dst := some 3, op := Go.Op.assign (Go.Operand.tmp 29), type := 27, pos := "law.go:63", after := #[{ on := 11, ground := Go.Ground.data }, { on := 11, ground := Go.Ground.chain }, { on := 0, ground := Go.Ground.phase }, { on := 1, ground := Go.Ground.phase }, { on := 2, ground := Go.Ground.phase }, { on := 3, ground := Go.Ground.phase }, { on := 4, ground := Go.Ground.phase }, { on := 5, ground := Go.Ground.phase }, { on := 6, ground := Go.Ground.phase }, { on := 7, ground := Go.Ground.phase }, { on := 8, ground := Go.Ground.phase }, { on := 9, ground := Go.Ground.phase }, { on := 10, ground := Go.Ground.phase }, { on := 11, ground := Go.Ground.phase }], guard := none }) (v := ?_) rfl (by kernel_rfl) (by kernel_rfl) (by kernel_rfl) (by kernel_rfl) (fun _ _ _ h => h) (Or.inl ⟨by rfl, ?_⟩) (by assumption) ?_
  rotate_left
  · (intro w; go_simp; try with_reducible rfl)
  simp only [Act.put, List.setIfInBounds_toArray, List.set_cons_zero, List.set_cons_succ]
  refine wpAnyG_free (by kernel_rfl) ?_
  refine wpAny_done (by kernel_rfl) ?_ _
  clear hHeld4 hHeld3 W1 W5 W6 r1 r1' r2 r2' r3 r3' r4 r4' r5 r5' r6 r6' k0
  have ey : nb l.length 2 = [(l.length : Int) / 256, (l.length : Int) % 256] := by
    simp [nb]
    omega
  obtain ⟨a7, n7, c7, U7, hrun7, M7⟩ := M6.lit [(l.length : Int) / 256, (l.length : Int) % 256] #[.int .u8 ((l.length : Int) / 256), .int .u8 ((l.length : Int) % 256)] 2 rfl rfl (by omega) (by simp only [List.length_append, List.length_cons, List.length_nil, nb_len, tb_len]; omega)
  rw [← ey] at M7
  obtain ⟨y7, hy7⟩ : ∃ y, [o1] ++ nb o2 4 ++ nb o3 4 ++ nb o4 4 ++ [o5, o6] ++ tb o7 ++ nb l.length 2 = y := ⟨_, rfl⟩
  rw [hy7] at M7
  have HY7 : Hid (y7.length = 20 + o7.size) := (by rw [← hy7]; simp only [List.length_append, List.length_cons, List.length_nil, nb_len, tb_len]; omega : y7.length = 20 + o7.size)
  have XY : Hid (ob ⟨o1, o2, o3, o4, o5, o6, o7, l, o9⟩ = y7 ++ ab l ++ tb o9) := (by rw [XO.out, hy7] : ob ⟨o1, o2, o3, o4, o5, o6, o7, l, o9⟩ = y7 ++ ab l ++ tb o9)
  obtain ⟨f0, f1, f2, f3, f4, f5, f6, f7, f8⟩ := HS.out _ M6.2.1
  clear XO hy7 M6 ey
  have TT : Hid (fitA l) := t4
  clear t4
  go_wp2_with (at_builtin; refine Lib.wpList_append_run _ rfl _ _ _ _ rfl _ _ rfl rfl _ _ (hrun7 _) ?_)
  clear hrun7 f0 f1 f2 f3 f4 f5 f6 f7 f8
  go_loopw [3, 4] (fun bv i wr => ∃ (k : Nat) (a' : Option Addr) (n' c' : Nat) (ys : List Int), k ≤ l.length ∧ i = .int .i64 k ∧ bv = .slice a' n' c' ∧ Mb W0 wr (.slice a' n' c') ys ∧ ys = y7 ++ ab (l.take k)) (fun _ i _ => l.length - (intOf i).toNat)
  case atStart => exact ⟨0, _, _, _, y7, Nat.zero_le _, rfl, rfl, M7, by simp [ab]⟩
  case round =>
    obtain ⟨k, a', n', c', ys, hk, rfl, rfl, Z, hys⟩ := hrel
    clear M7
    obtain ⟨f0, f1, f2, f3, f4, f5, f6, f7, f8⟩ := HS.out _ Z.2.1
    clear f0 f1 f2 f3 f4 f5 f6
    have hyl : ys.length ≤ 20 + o7.size + (ab l).length := by
      rw [hys, List.length_append, HY7.out]
      have := ab_take_le l k
      omega
    by_cases hlt : k < l.length
    · have hyl2 : ys.length + (tb l[k].1).length + (tb l[k].2).length ≤ 20 + o7.size + (ab l).length := by
        have e1 := ab_at hlt
        have e2 := ab_take_le l (k + 1)
        rw [e1] at e2
        simp only [List.length_append] at e2
        rw [hys, List.length_append, HY7.out]
        omega
      rw [tb_len, tb_len] at hyl2
      obtain ⟨z1, z2⟩ := TT.out l[k] (List.getElem_mem hlt)
      have hnx : Hid (ys ++ tb l[k].1 ++ tb l[k].2 = y7 ++ ab (l.take (k + 1))) := (by rw [hys, ab_at hlt]; simp only [List.append_assoc] : ys ++ tb l[k].1 ++ tb l[k].2 = y7 ++ ab (l.take (k + 1)))
      obtain ⟨b, off, e0, h1, h2⟩ := (HR2.out _ Z.2.1).get k hlt
      subst e0
      have HX : Hid (∀ V, Kp [] W0 V → V.cell? ⟨g, 7, none⟩ = some (.slice (some ⟨b, off, none⟩) l.length p3) ∧ V.cell? ⟨b, off + k * 2, none⟩ = some (.string l[k].1) ∧ V.cell? ⟨b, off + k * 2 + 1, none⟩ = some (.string l[k].2)) := fun V kV => by
        obtain ⟨b', off', e, g1, g2⟩ := (HR2.out V kV).get k hlt
        simp only [Option.some.injEq, Addr.mk.injEq, and_true] at e
        obtain ⟨rfl, rfl⟩ := e
        exact ⟨(HS.out V kV).2.2.2.2.2.2.2.1, g1, g2⟩
      have HL : Hid (ys.length + (l[k].1.size + 3) + (l[k].2.size + 3) ≤ 20 + o7.size + (ab l).length) := hyl2
      have hk0 : (0 : Int) ≤ (k : Int) := by omega
      have hk1 : (k : Int) < (l.length : Int) := by omega
      clear hys hyl hyl2 h1 h2
      generalize l[k] = x at hnx z1 z2 HX HL
      go_upto_region 7 with fail
      clear f7 f8
      have Zd := Z.kept (Kp.refl _ _).drew
      clear Z
      obtain ⟨V0, hV0⟩ : ∃ V, V = wr.drew := ⟨_, rfl⟩
      rw [← hV0] at Zd
      have Z := Zd
      clear Zd
      refine wp_region_g (S := fun V => V.cell? ⟨g, 7, none⟩ = some (.slice (some ⟨b, off, none⟩) l.length p3) ∧ V.cell? ⟨b, off + k * 2, none⟩ = some (.string x.1) ∧ V.cell? ⟨b, off + k * 2 + 1, none⟩ = some (.string x.2)) (T := []) (by kernel_rfl) (by rw [← hV0]; exact HX.out _ Z.2.1) (fun hHeld => ?_)
      rw [← hV0] at hHeld ⊢
      clear hV0
      refine wpAnyG_pure (i := 0) (oi := { dst := some 49, op := Go.Op.move (Go.Operand.tmp 3), type := 27, pos := "law.go:66", after := #[], guard := none }) (v := ?_) rfl (by kernel_rfl) (by kernel_rfl) (by kernel_rfl) (by kernel_rfl) (fun _ _ _ h => h) (Or.inl ⟨by rfl, ?_⟩) (by assumption) ?_
      rotate_left
      · (intro w; go_simp; try with_reducible rfl)
      simp only [Act.put, List.setIfInBounds_toArray, List.set_cons_zero, List.set_cons_succ]
      refine wpAnyG_pure (i := 1) (oi := { dst := some 50, op := Go.Op.fieldAddr 24 (Go.Operand.tmp 1) 7, type := 0, pos := "law.go:66", after := #[], guard := none }) (v := ?_) rfl (by kernel_rfl) (by kernel_rfl) (by kernel_rfl) (by kernel_rfl) (fun _ _ _ h => h) (Or.inl ⟨by rfl, ?_⟩) (by assumption) ?_
      rotate_left
      · (intro w; go_simp; try with_reducible rfl)
      simp only [Act.put, List.setIfInBounds_toArray, List.set_cons_zero, List.set_cons_succ]
      refine wpAnyG_take (i := 2) (oi := { dst := some 51, op := Go.Op.load 22 (Go.Operand.tmp 50), type := 22, pos := "law.go:66", after := #[{ on := 1, ground := Go.Ground.data }], guard := none }) (v := ?_) rfl (by kernel_rfl) (by kernel_rfl) (by kernel_rfl) (by kernel_rfl) (fun _ _ _ h => h) (Or.inl ⟨by rfl, ?_⟩) (by assumption) ?_
      rotate_left
      · (intro w hSw; (obtain ⟨q0, q1, q2⟩ := hSw); go_simp; try with_reducible rfl)
      simp only [Act.put, List.setIfInBounds_toArray, List.set_cons_zero, List.set_cons_succ]
      refine wpAnyG_pure (i := 3) (oi := { dst := some 52, op := Go.Op.move (Go.Operand.tmp 4), type := 3, pos := "law.go:66", after := #[], guard := none }) (v := ?_) rfl (by kernel_rfl) (by kernel_rfl) (by kernel_rfl) (by kernel_rfl) (fun _ _ _ h => h) (Or.inl ⟨by rfl, ?_⟩) (by assumption) ?_
      rotate_left
      · (intro w; go_simp; try with_reducible rfl)
      simp only [Act.put, List.setIfInBounds_toArray, List.set_cons_zero, List.set_cons_succ]
      refine wpAnyG_pure (i := 4) (oi := { dst := some 53, op := Go.Op.indexAddr 22 (Go.Operand.tmp 51) (Go.Operand.tmp 52), type := 0, pos := "law.go:66", after := #[{ on := 2, ground := Go.Ground.data }, { on := 3, ground := Go.Ground.data }], guard := none }) (v := ?_) rfl (by kernel_rfl) (by kernel_rfl) (by kernel_rfl) (by kernel_rfl) (fun _ _ _ h => h) (Or.inl ⟨by rfl, ?_⟩) (by assumption) ?_
      rotate_left
      · (intro w; go_simp; try with_reducible rfl)
      simp only [Act.put, List.setIfInBounds_toArray, List.set_cons_zero, List.set_cons_succ]
      refine wpAnyG_pure (i := 5) (oi := { dst := some 54, op := Go.Op.fieldAddr 26 (Go.Operand.tmp 53) 0, type := 0, pos := "law.go:66", after := #[{ on := 4, ground := Go.Ground.data }], guard := none }) (v := ?_) rfl (by kernel_rfl) (by kernel_rfl) (by kernel_rfl) (by kernel_rfl) (fun _ _ _ h => h) (Or.inl ⟨by rfl, ?_⟩) (by assumption) ?_
      rotate_left
      · (intro w; go_simp; try with_reducible rfl)
      simp only [Act.put, List.setIfInBounds_toArray, List.set_cons_zero, List.set_cons_succ]
      refine wpAnyG_take (i := 6) (oi := { dst := some 55, op := Go.Op.load 9 (Go.Operand.tmp 54), type := 9, pos := "law.go:66", after := #[{ on := 5, ground := Go.Ground.data }], guard := none }) (v := ?_) rfl (by kernel_rfl) (by kernel_rfl) (by kernel_rfl) (by kernel_rfl) (fun _ _ _ h => h) (Or.inl ⟨by rfl, ?_⟩) (by assumption) ?_
      rotate_left
      · (intro w hSw; (obtain ⟨q0, q1, q2⟩ := hSw); go_simp; try with_reducible rfl)
      simp only [Act.put, List.setIfInBounds_toArray, List.set_cons_zero, List.set_cons_succ]
      refine wpAnyG_pure (i := 8) (oi := { dst := some 57, op := Go.Op.fieldAddr 24 (Go.Operand.tmp 1) 7, type := 0, pos := "law.go:66", after := #[], guard := none }) (v := ?_) rfl (by kernel_rfl) (by kernel_rfl) (by kernel_rfl) (by kernel_rfl) (fun _ _ _ h => h) (Or.inl ⟨by rfl, ?_⟩) (by assumption) ?_
      rotate_left
      · (intro w; go_simp; try with_reducible rfl)
      simp only [Act.put, List.setIfInBounds_toArray, List.set_cons_zero, List.set_cons_succ]
      refine wpAnyG_take (i := 9) (oi := { dst := some 58, op := Go.Op.load 22 (Go.Operand.tmp 57), type := 22, pos := "law.go:66", after := #[{ on := 8, ground := Go.Ground.data }], guard := none }) (v := ?_) rfl (by kernel_rfl) (by kernel_rfl) (by kernel_rfl) (by kernel_rfl) (fun _ _ _ h => h) (Or.inl ⟨by rfl, ?_⟩) (by assumption) ?_
      rotate_left
      · (intro w hSw; (obtain ⟨q0, q1, q2⟩ := hSw); go_simp; try with_reducible rfl)
      simp only [Act.put, List.setIfInBounds_toArray, List.set_cons_zero, List.set_cons_succ]
      refine wpAnyG_pure (i := 10) (oi := { dst := some 59, op := Go.Op.move (Go.Operand.tmp 4), type := 3, pos := "law.go:66", after := #[], guard := none }) (v := ?_) rfl (by kernel_rfl) (by kernel_rfl) (by kernel_rfl) (by kernel_rfl) (fun _ _ _ h => h) (Or.inl ⟨by rfl, ?_⟩) (by assumption) ?_
      rotate_left
      · (intro w; go_simp; try with_reducible rfl)
      simp only [Act.put, List.setIfInBounds_toArray, List.set_cons_zero, List.set_cons_succ]
      refine wpAnyG_pure (i := 11) (oi := { dst := some 60, op := Go.Op.indexAddr 22 (Go.Operand.tmp 58) (Go.Operand.tmp 59), type := 0, pos := "law.go:66", after := #[{ on := 9, ground := Go.Ground.data }, { on := 10, ground := Go.Ground.data }], guard := none }) (v := ?_) rfl (by kernel_rfl) (by kernel_rfl) (by kernel_rfl) (by kernel_rfl) (fun _ _ _ h => h) (Or.inl ⟨by rfl, ?_⟩) (by assumption) ?_
      rotate_left
      · (intro w; go_simp; try with_reducible rfl)
      simp only [Act.put, List.setIfInBounds_toArray, List.set_cons_zero, List.set_cons_succ]
      refine wpAnyG_pure (i := 12) (oi := { dst := some 61, op := Go.Op.fieldAddr 26 (Go.Operand.tmp 60) 1, type := 0, pos := "law.go:66", after := #[{ on := 11, ground := Go.Ground.data }], guard := none }) (v := ?_) rfl (by kernel_rfl) (by kernel_rfl) (by kernel_rfl) (by kernel_rfl) (fun _ _ _ h => h) (Or.inl ⟨by rfl, ?_⟩) (by assumption) ?_
      rotate_left
      · (intro w; go_simp; try with_reducible rfl)
      simp only [Act.put, List.setIfInBounds_toArray, List.set_cons_zero, List.set_cons_succ]
      refine wpAnyG_take (i := 13) (oi := { dst := some 62, op := Go.Op.load 9 (Go.Operand.tmp 61), type := 9, pos := "law.go:66", after := #[{ on := 12, ground := Go.Ground.data }], guard := none }) (v := ?_) rfl (by kernel_rfl) (by kernel_rfl) (by kernel_rfl) (by kernel_rfl) (fun _ _ _ h => h) (Or.inl ⟨by rfl, ?_⟩) (by assumption) ?_
      rotate_left
      · (intro w hSw; (obtain ⟨q0, q1, q2⟩ := hSw); go_simp; try with_reducible rfl)
      simp only [Act.put, List.setIfInBounds_toArray, List.set_cons_zero, List.set_cons_succ]
      refine wpAnyG_ready (rs := [7]) (by kernel_rfl) (by simp) ?_
      refine AllReadyG.cons (o := { dst := some 56, op := Go.Op.call { callee := Go.Callee.value (Go.Operand.func 35), args := #[Go.Operand.tmp 49, Go.Operand.tmp 55], argTypes := #[27, 9] }, type := 27, pos := "law.go:66", after := #[{ on := 0, ground := Go.Ground.data }, { on := 6, ground := Go.Ground.data }], guard := none }) rfl (fun K hK => ?_) AllReadyG.nil
      go_simp
      go_at_call 35
      refine (Z.text x.1 z1 (by have := HL.out; omega)).mono ?_
      rintro e V1 ⟨b1, d1, e1, rfl, Z1⟩
      clear Z
      go_wp2_with fail
      refine hK.out _ _ (HX.out _ Z1.2.1) (fun hHeld1 => ?_)
      clear hK K hHeld
      try simp only [Act.put, List.setIfInBounds_toArray, List.set_cons_zero, List.set_cons_succ]
      refine wpAnyG_ready (rs := [14]) (by kernel_rfl) (by simp) ?_
      refine AllReadyG.cons (o := { dst := some 63, op := Go.Op.call { callee := Go.Callee.value (Go.Operand.func 35), args := #[Go.Operand.tmp 56, Go.Operand.tmp 62], argTypes := #[27, 9] }, type := 27, pos := "law.go:66", after := #[{ on := 7, ground := Go.Ground.data }, { on := 13, ground := Go.Ground.data }, { on := 7, ground := Go.Ground.chain }], guard := none }) rfl (fun K hK => ?_) AllReadyG.nil
      go_simp
      go_at_call 35
      refine (Z1.text x.2 z2 (by have := HL.out; rw [List.length_append, tb_len]; omega)).mono ?_
      rintro e V2 ⟨b2, d2, e2, rfl, Z2⟩
      clear Z1
      go_wp2_with fail
      refine hK.out _ _ (HX.out _ Z2.2.1) (fun hHeld2 => ?_)
      clear hK K hHeld1
      try simp only [Act.put, List.setIfInBounds_toArray, List.set_cons_zero, List.set_cons_succ]
      refine wpAnyG_pure (i := 15) (oi := { dst := some 3, op := Go.Op.assign (Go.Operand.tmp 63), type := 27, pos := "law.go:66", after := #[{ on := 14, ground := Go.Ground.data }, { on := 14, ground := Go.Ground.chain }, { on := 0, ground := Go.Ground.phase }, { on := 1, ground := Go.Ground.phase }, { on := 2, ground := Go.Ground.phase }, { on := 3, ground := Go.Ground.phase }, { on := 4, ground := Go.Ground.phase }, { on := 5, ground := Go.Ground.phase }, { on := 6, ground := Go.Ground.phase }, { on := 7, ground := Go.Ground.phase }, { on := 8, ground := Go.Ground.phase }, { on := 9, ground := Go.Ground.phase }, { on := 10, ground := Go.Ground.phase }, { on := 11, ground := Go.Ground.phase }, { on := 12, ground := Go.Ground.phase }, { on := 13, ground := Go.Ground.phase }, { on := 14, ground := Go.Ground.phase }], guard := none }) (v := ?_) rfl (by kernel_rfl) (by kernel_rfl) (by kernel_rfl) (by kernel_rfl) (fun _ _ _ h => h) (Or.inl ⟨by rfl, ?_⟩) (by assumption) ?_
      rotate_left
      · (intro w; go_simp; try with_reducible rfl)
      simp only [Act.put, List.setIfInBounds_toArray, List.set_cons_zero, List.set_cons_succ]
      refine wpAnyG_free (by kernel_rfl) ?_
      refine wpAny_done (by kernel_rfl) ?_ _
      clear HX HL
      go_wp2
      go_roundw
      case rel => exact ⟨k + 1, _, _, _, _, by omega, by go_num, rfl, Z2, hnx.out⟩
      case measure => simp [intOf]; omega
    · obtain rfl : k = l.length := by omega
      rw [List.take_length] at hys
      have HY : Hid (ys = y7 ++ ab l) := hys
      have HL : Hid (ys.length ≤ 20 + o7.size + (ab l).length) := hyl
      clear hys hyl TT HR2
      go_wp2_with fail
      refine (Z.text o9 t2 (by have := HL.out; omega)).mono ?_
      rintro e V1 ⟨b1, d1, e1, rfl, Z1⟩
      have ZZ : Hid (Mb w V1 (.slice b1 d1 e1) (ys ++ tb o9)) := HM.out _ _ _ Z1
      clear Z Z1
      go_wp2
      go_ret
      refine ⟨_, _, _, rfl, ?_⟩
      rw [XY.out, ← HY.out]
      exact ZZ.out

end Go.Proofs.YtpjkpobdkmcedaaDoor
