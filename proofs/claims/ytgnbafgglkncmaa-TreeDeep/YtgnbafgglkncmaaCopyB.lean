/-
  own: a node without its kids, with room for them.
-/
import Derived.Test.YtgnbafgglkncmaaCopyA
import Derived.Test.YtgnbafgglkncmaaClone
import Derived.Laws.MakeOwn
import Derived.Deep.CutRange
namespace Go.Proofs.Ytgnbafgglkncmaa
open Go.RowKit
set_option linter.unusedVariables false
set_option linter.unusedSimpArgs false

/-- make, of none, with room. -/
theorem make_kids (w : World) (n : Nat) (h0 : 0 < n) (h1 : n ≤ 100000) :
    ∃ w1, (Instr.makeSlice 23 (.int .i64 0) (.int .i64 (n : Int))).run Try.prog w = .ok (.slice (some ⟨w.heap.size, 0, none⟩) 0 n) w1 ∧ OwnK 6 w1 25 (.slice (ko w.heap.size n) 0 n) 0 [] ∧ Kp [] w w1 := by
  obtain ⟨i, hi0, hi1, hi2, hi3⟩ := info_parts info25t
  have hr := run_make (P := Try.prog) w 23 25 i _ Try.underlying23 hi0 hi1 .i64 .i64 0 (n : Int) (Int.le_refl _) (by omega) (by rw [hi3]; omega) (by omega)
  rw [show ((n : Int)).toNat = n by omega] at hr
  refine ⟨_, hr, ?_, (Kp.refl _ _).alloc _⟩
  unfold ko
  rw [if_neg (by omega)]
  exact ownK_new 6 w 25 _ [] 0 n rfl (by omega) (by unfold maxLen; omega) (by rw [size_madeCells, hi2]; exact Nat.le_refl _) (fun j hj => by omega)

set_option maxRecDepth 100000 in
set_option maxHeartbeats 2000000 in
theorem own_node (w : World) (b off : Nat) (l : Lb) (p : Pl) (hc : Cl w b off l p) (hpn : p.1.2.1 = 0) (hm : p.2.2.1 ≤ 100000) (h1 : l.name.size ≤ 1000000) (h2 : l.text.size ≤ 1000000) :
    Calls Try.prog 37 #[.pointer (some ⟨b, off, none⟩)] w fun e w' => ∃ g, e = .returned (.agg #[.int .i64 l.kind, .int .i64 l.ns, .string l.name, .slice none 0 0, .string l.text, .slice (ko g p.2.2.1) 0 p.2.2.1]) ∧ Kp [] w w' ∧ OwnK 6 w' 25 (.slice (ko g p.2.2.1) 0 p.2.2.1) 0 [] ∧ ∀ x, x ∈ blk (.slice (ko g p.2.2.1) 0 p.2.2.1) → w.heap.size ≤ x := by
  obtain ⟨s, hs⟩ : ∃ s, w.heap.size = s := ⟨_, rfl⟩
  obtain ⟨B, hB⟩ : ∃ B, B = w.alloc (.cells #[.int .i64 0, .int .i64 0, .string ⟨#[]⟩, .slice none 0 0, .string ⟨#[]⟩, .slice none 0 0] 25) := ⟨_, rfl⟩
  have kB : Kp [] w B := by rw [hB]; exact (Kp.refl _ _).alloc _
  have A0 : At B s #[.int .i64 0, .int .i64 0, .string ⟨#[]⟩, .slice none 0 0, .string ⟨#[]⟩, .slice none 0 0] 25 := by rw [hB, ← hs]; exact At.new _ _ _
  have HW : Hid (w.alloc (.cells #[.int .i64 0, .int .i64 0, .string ⟨#[]⟩, .slice none 0 0, .string ⟨#[]⟩, .slice none 0 0] 25) = B) := hB.symm
  have CLk : Hid (∀ W, Kp [] B W → Cl W b off l p) := fun W kW => (hc.keep kB (by simp)).keep kW (by simp)
  have SB : Hid (s < B.heap.size) := A0.lt
  have KB : Hid (Kp [] w B) := kB
  have HN : Hid (∀ W, Calls Try.prog 57 #[.string l.name] W fun e w' => e = .returned (.string l.name) ∧ Kp [] W w') := fun W => clone_any W l.name (by omega)
  have HT : Hid (∀ W, Calls Try.prog 57 #[.string l.text] W fun e w' => e = .returned (.string l.text) ∧ Kp [] W w') := fun W => clone_any W l.text (by omega)
  clear hc hB kB
  obtain ⟨⟨pa, pn, pcap⟩, bo, m, d⟩ := p
  simp only at hpn hm ⊢
  subst hpn
  go_enter Try.func37, Try.ntmps37
  go_wp2_with fail
  rw [HW.out]
  clear HW
  go_cut [3] from 6 to 60 (fun x3 wc => ∃ g3, x3 = .pointer (some ⟨g3, 0, none⟩) ∧ At wc g3 #[.int .i64 l.kind, .int .i64 l.ns, .string l.name, .slice none 0 0, .string l.text, .slice none 0 0] 25 ∧ Kp [] B wc ∧ B.heap.size ≤ g3)
  case first =>
    obtain ⟨U0, hU0⟩ : ∃ V, V = B.drew := ⟨_, rfl⟩
    have k0 : Kp [] B U0 := by rw [hU0]; exact (Kp.refl _ _).drew
    refine wp_region_g (S := fun V => Cl V b off l ((pa, 0, pcap), (bo, m, d))) (T := [20]) (by kernel_rfl) (CLk.out _ (Kp.refl [] B).drew) (fun hHeld => ?_)
    rw [← hU0] at hHeld ⊢
    clear hU0
    refine wpAnyG_pure (i := 0) (oi := { dst := some 6, op := Go.Op.move (Go.Operand.tmp 0), type := 52, pos := "tree.go:86", after := #[], guard := none }) (v := ?_) rfl (by kernel_rfl) (by kernel_rfl) (by kernel_rfl) (by kernel_rfl) (fun _ _ _ h => h) (Or.inl ⟨by rfl, ?_⟩) (by assumption) ?_
    rotate_left
    · (intro w; go_simp; try with_reducible rfl)
    simp only [Act.put, List.setIfInBounds_toArray, List.set_cons_zero, List.set_cons_succ]
    refine wpAnyG_pure (i := 1) (oi := { dst := some 7, op := Go.Op.nilCheck (Go.Operand.tmp 6), type := 0, pos := "tree.go:86", after := #[{ on := 0, ground := Go.Ground.data }], guard := none }) (v := ?_) rfl (by kernel_rfl) (by kernel_rfl) (by kernel_rfl) (by kernel_rfl) (fun _ _ _ h => h) (Or.inl ⟨by rfl, ?_⟩) (by assumption) ?_
    rotate_left
    · (intro w; go_simp; try with_reducible rfl)
    simp only [Act.put, List.setIfInBounds_toArray, List.set_cons_zero, List.set_cons_succ]
    refine wpAnyG_pure (i := 2) (oi := { dst := some 8, op := Go.Op.fieldAddr 25 (Go.Operand.tmp 7) 0, type := 0, pos := "tree.go:86", after := #[{ on := 1, ground := Go.Ground.data }], guard := none }) (v := ?_) rfl (by kernel_rfl) (by kernel_rfl) (by kernel_rfl) (by kernel_rfl) (fun _ _ _ h => h) (Or.inl ⟨by rfl, ?_⟩) (by assumption) ?_
    rotate_left
    · (intro w; go_simp; try with_reducible rfl)
    simp only [Act.put, List.setIfInBounds_toArray, List.set_cons_zero, List.set_cons_succ]
    refine wpAnyG_take (i := 3) (oi := { dst := some 9, op := Go.Op.load 3 (Go.Operand.tmp 8), type := 3, pos := "tree.go:86", after := #[{ on := 2, ground := Go.Ground.data }], guard := none }) (v := ?_) rfl (by kernel_rfl) (by kernel_rfl) (by kernel_rfl) (by kernel_rfl) (fun _ _ _ h => h) (Or.inl ⟨by rfl, ?_⟩) (by assumption) ?_
    rotate_left
    · (intro w hSw; (obtain ⟨c0, c1, c2, c3, c4, c5⟩ := Cl.cells hSw); go_simp; try with_reducible rfl)
    simp only [Act.put, List.setIfInBounds_toArray, List.set_cons_zero, List.set_cons_succ]
    refine wpAnyG_pure (i := 4) (oi := { dst := some 10, op := Go.Op.move (Go.Operand.tmp 0), type := 52, pos := "tree.go:86", after := #[], guard := none }) (v := ?_) rfl (by kernel_rfl) (by kernel_rfl) (by kernel_rfl) (by kernel_rfl) (fun _ _ _ h => h) (Or.inl ⟨by rfl, ?_⟩) (by assumption) ?_
    rotate_left
    · (intro w; go_simp; try with_reducible rfl)
    simp only [Act.put, List.setIfInBounds_toArray, List.set_cons_zero, List.set_cons_succ]
    refine wpAnyG_pure (i := 5) (oi := { dst := some 11, op := Go.Op.nilCheck (Go.Operand.tmp 10), type := 0, pos := "tree.go:86", after := #[{ on := 4, ground := Go.Ground.data }], guard := none }) (v := ?_) rfl (by kernel_rfl) (by kernel_rfl) (by kernel_rfl) (by kernel_rfl) (fun _ _ _ h => h) (Or.inl ⟨by rfl, ?_⟩) (by assumption) ?_
    rotate_left
    · (intro w; go_simp; try with_reducible rfl)
    simp only [Act.put, List.setIfInBounds_toArray, List.set_cons_zero, List.set_cons_succ]
    refine wpAnyG_pure (i := 6) (oi := { dst := some 12, op := Go.Op.fieldAddr 25 (Go.Operand.tmp 11) 1, type := 0, pos := "tree.go:86", after := #[{ on := 5, ground := Go.Ground.data }], guard := none }) (v := ?_) rfl (by kernel_rfl) (by kernel_rfl) (by kernel_rfl) (by kernel_rfl) (fun _ _ _ h => h) (Or.inl ⟨by rfl, ?_⟩) (by assumption) ?_
    rotate_left
    · (intro w; go_simp; try with_reducible rfl)
    simp only [Act.put, List.setIfInBounds_toArray, List.set_cons_zero, List.set_cons_succ]
    refine wpAnyG_take (i := 7) (oi := { dst := some 13, op := Go.Op.load 3 (Go.Operand.tmp 12), type := 3, pos := "tree.go:86", after := #[{ on := 6, ground := Go.Ground.data }], guard := none }) (v := ?_) rfl (by kernel_rfl) (by kernel_rfl) (by kernel_rfl) (by kernel_rfl) (fun _ _ _ h => h) (Or.inl ⟨by rfl, ?_⟩) (by assumption) ?_
    rotate_left
    · (intro w hSw; (obtain ⟨c0, c1, c2, c3, c4, c5⟩ := Cl.cells hSw); go_simp; try with_reducible rfl)
    simp only [Act.put, List.setIfInBounds_toArray, List.set_cons_zero, List.set_cons_succ]
    refine wpAnyG_pure (i := 8) (oi := { dst := some 14, op := Go.Op.move (Go.Operand.tmp 0), type := 52, pos := "tree.go:86", after := #[], guard := none }) (v := ?_) rfl (by kernel_rfl) (by kernel_rfl) (by kernel_rfl) (by kernel_rfl) (fun _ _ _ h => h) (Or.inl ⟨by rfl, ?_⟩) (by assumption) ?_
    rotate_left
    · (intro w; go_simp; try with_reducible rfl)
    simp only [Act.put, List.setIfInBounds_toArray, List.set_cons_zero, List.set_cons_succ]
    refine wpAnyG_pure (i := 9) (oi := { dst := some 15, op := Go.Op.nilCheck (Go.Operand.tmp 14), type := 0, pos := "tree.go:86", after := #[{ on := 8, ground := Go.Ground.data }], guard := none }) (v := ?_) rfl (by kernel_rfl) (by kernel_rfl) (by kernel_rfl) (by kernel_rfl) (fun _ _ _ h => h) (Or.inl ⟨by rfl, ?_⟩) (by assumption) ?_
    rotate_left
    · (intro w; go_simp; try with_reducible rfl)
    simp only [Act.put, List.setIfInBounds_toArray, List.set_cons_zero, List.set_cons_succ]
    refine wpAnyG_pure (i := 10) (oi := { dst := some 16, op := Go.Op.fieldAddr 25 (Go.Operand.tmp 15) 2, type := 0, pos := "tree.go:86", after := #[{ on := 9, ground := Go.Ground.data }], guard := none }) (v := ?_) rfl (by kernel_rfl) (by kernel_rfl) (by kernel_rfl) (by kernel_rfl) (fun _ _ _ h => h) (Or.inl ⟨by rfl, ?_⟩) (by assumption) ?_
    rotate_left
    · (intro w; go_simp; try with_reducible rfl)
    simp only [Act.put, List.setIfInBounds_toArray, List.set_cons_zero, List.set_cons_succ]
    refine wpAnyG_take (i := 11) (oi := { dst := some 17, op := Go.Op.load 9 (Go.Operand.tmp 16), type := 9, pos := "tree.go:86", after := #[{ on := 10, ground := Go.Ground.data }], guard := none }) (v := ?_) rfl (by kernel_rfl) (by kernel_rfl) (by kernel_rfl) (by kernel_rfl) (fun _ _ _ h => h) (Or.inl ⟨by rfl, ?_⟩) (by assumption) ?_
    rotate_left
    · (intro w hSw; (obtain ⟨c0, c1, c2, c3, c4, c5⟩ := Cl.cells hSw); go_simp; try with_reducible rfl)
    simp only [Act.put, List.setIfInBounds_toArray, List.set_cons_zero, List.set_cons_succ]
    refine wpAnyG_pure (i := 13) (oi := { dst := some 19, op := Go.Op.move (Go.Operand.tmp 0), type := 52, pos := "tree.go:86", after := #[], guard := none }) (v := ?_) rfl (by kernel_rfl) (by kernel_rfl) (by kernel_rfl) (by kernel_rfl) (fun _ _ _ h => h) (Or.inl ⟨by rfl, ?_⟩) (by assumption) ?_
    rotate_left
    · (intro w; go_simp; try with_reducible rfl)
    simp only [Act.put, List.setIfInBounds_toArray, List.set_cons_zero, List.set_cons_succ]
    refine wpAnyG_pure (i := 14) (oi := { dst := some 20, op := Go.Op.nilCheck (Go.Operand.tmp 19), type := 0, pos := "tree.go:86", after := #[{ on := 13, ground := Go.Ground.data }], guard := none }) (v := ?_) rfl (by kernel_rfl) (by kernel_rfl) (by kernel_rfl) (by kernel_rfl) (fun _ _ _ h => h) (Or.inl ⟨by rfl, ?_⟩) (by assumption) ?_
    rotate_left
    · (intro w; go_simp; try with_reducible rfl)
    simp only [Act.put, List.setIfInBounds_toArray, List.set_cons_zero, List.set_cons_succ]
    refine wpAnyG_pure (i := 15) (oi := { dst := some 21, op := Go.Op.fieldAddr 25 (Go.Operand.tmp 20) 4, type := 0, pos := "tree.go:86", after := #[{ on := 14, ground := Go.Ground.data }], guard := none }) (v := ?_) rfl (by kernel_rfl) (by kernel_rfl) (by kernel_rfl) (by kernel_rfl) (fun _ _ _ h => h) (Or.inl ⟨by rfl, ?_⟩) (by assumption) ?_
    rotate_left
    · (intro w; go_simp; try with_reducible rfl)
    simp only [Act.put, List.setIfInBounds_toArray, List.set_cons_zero, List.set_cons_succ]
    refine wpAnyG_take (i := 16) (oi := { dst := some 22, op := Go.Op.load 9 (Go.Operand.tmp 21), type := 9, pos := "tree.go:86", after := #[{ on := 15, ground := Go.Ground.data }], guard := none }) (v := ?_) rfl (by kernel_rfl) (by kernel_rfl) (by kernel_rfl) (by kernel_rfl) (fun _ _ _ h => h) (Or.inl ⟨by rfl, ?_⟩) (by assumption) ?_
    rotate_left
    · (intro w hSw; (obtain ⟨c0, c1, c2, c3, c4, c5⟩ := Cl.cells hSw); go_simp; try with_reducible rfl)
    simp only [Act.put, List.setIfInBounds_toArray, List.set_cons_zero, List.set_cons_succ]
    refine wpAnyG_ready (rs := [12, 19]) (by kernel_rfl) (by simp) ?_
    refine AllReadyG.cons (o := { dst := some 18, op := Go.Op.call { callee := Go.Callee.value (Go.Operand.func 57), args := #[Go.Operand.tmp 17], argTypes := #[9] }, type := 9, pos := "tree.go:86", after := #[{ on := 11, ground := Go.Ground.data }], guard := none }) rfl (fun K hK => ?_) ?_
    · go_simp
      go_at_call 57
      refine (HN.out _).mono ?_
      rintro e U1 ⟨rfl, u1⟩
      go_wp2_with fail
      have k1 : Kp [] B U1 := k0.trans u1 (fun z hz => by simp at hz)
      refine hK.out _ _ (CLk.out _ k1) (fun hHeld1 => ?_)
      clear hK K hHeld
      try simp only [Act.put, List.setIfInBounds_toArray, List.set_cons_zero, List.set_cons_succ]
      refine wpAnyG_ready (rs := [17, 19]) (by kernel_rfl) (by simp) ?_
      refine AllReadyG.cons (o := { dst := some 23, op := Go.Op.call { callee := Go.Callee.value (Go.Operand.func 57), args := #[Go.Operand.tmp 22], argTypes := #[9] }, type := 9, pos := "tree.go:86", after := #[{ on := 16, ground := Go.Ground.data }, { on := 12, ground := Go.Ground.chain }], guard := none }) rfl (fun K hK => ?_) ?_
      · go_simp
        go_at_call 57
        refine (HT.out _).mono ?_
        rintro e U2 ⟨rfl, u2⟩
        go_wp2_with fail
        have k2 : Kp [] B U2 := k1.trans u2 (fun z hz => by simp at hz)
        refine hK.out _ _ (CLk.out _ k2) (fun hHeld2 => ?_)
        clear hK K hHeld1
        try simp only [Act.put, List.setIfInBounds_toArray, List.set_cons_zero, List.set_cons_succ]
        refine wpAnyG_pure (i := 18) (oi := { dst := some 24, op := Go.Op.build 25 #[(0, Go.Operand.tmp 9), (1, Go.Operand.tmp 13), (2, Go.Operand.tmp 18), (4, Go.Operand.tmp 23)], type := 25, pos := "tree.go:86", after := #[{ on := 3, ground := Go.Ground.data }, { on := 7, ground := Go.Ground.data }, { on := 12, ground := Go.Ground.data }, { on := 17, ground := Go.Ground.data }], guard := none }) (v := ?_) rfl (by kernel_rfl) (by kernel_rfl) (by kernel_rfl) (by kernel_rfl) (fun _ _ _ h => h) (Or.inl ⟨by rfl, ?_⟩) (by assumption) ?_
        rotate_left
        · (intro w; go_simp; try with_reducible rfl)
        simp only [Act.put, List.setIfInBounds_toArray, List.set_cons_zero, List.set_cons_succ]
        refine wpAnyG_ready (rs := [19]) (by kernel_rfl) (by simp) ?_
        refine AllReadyG.cons (o := { dst := some 3, op := Go.Op.alloc 25, type := 0, pos := "tree.go:86", after := #[], guard := none }) rfl (fun K hK => ?_) AllReadyG.nil
        go_simp
        obtain ⟨U3, hU⟩ : ∃ V, V = World.alloc U2 (.cells #[.int .i64 0, .int .i64 0, .string ⟨#[]⟩, .slice none 0 0, .string ⟨#[]⟩, .slice none 0 0] 25) := ⟨_, rfl⟩
        rw [← hU]
        have u3 : Kp [] U2 U3 := by rw [hU]; exact (Kp.refl _ _).alloc _
        have k3 : Kp [] B U3 := k2.trans u3 (fun z hz => by simp at hz)
        have T3 : At U3 U2.heap.size #[.int .i64 0, .int .i64 0, .string ⟨#[]⟩, .slice none 0 0, .string ⟨#[]⟩, .slice none 0 0] 25 := by rw [hU]; exact At.new _ _ _
        have n3 := k2.size
        obtain ⟨g3, hg3⟩ : ∃ g, U2.heap.size = g := ⟨_, rfl⟩
        rw [hg3] at T3 ⊢
        clear hU
        refine hK.out _ _ (CLk.out _ k3) (fun hHeld3 => ?_)
        clear hK K hHeld2
        try simp only [Act.put, List.setIfInBounds_toArray, List.set_cons_zero, List.set_cons_succ]
        refine wpAnyG_free (by kernel_rfl) ?_
        refine wpAny_ready (rs := [20]) (by kernel_rfl) (by simp) ?_
        refine AllReady.cons (o := { dst := none, op := Go.Op.store 25 (Go.Operand.tmp 3) (Go.Operand.tmp 24), type := 0, pos := "tree.go:86", after := #[{ on := 19, ground := Go.Ground.data }, { on := 18, ground := Go.Ground.data }, { on := 17, ground := Go.Ground.chain }, { on := 0, ground := Go.Ground.phase }, { on := 1, ground := Go.Ground.phase }, { on := 2, ground := Go.Ground.phase }, { on := 3, ground := Go.Ground.phase }, { on := 4, ground := Go.Ground.phase }, { on := 5, ground := Go.Ground.phase }, { on := 6, ground := Go.Ground.phase }, { on := 7, ground := Go.Ground.phase }, { on := 8, ground := Go.Ground.phase }, { on := 9, ground := Go.Ground.phase }, { on := 10, ground := Go.Ground.phase }, { on := 11, ground := Go.Ground.phase }, { on := 12, ground := Go.Ground.phase }, { on := 13, ground := Go.Ground.phase }, { on := 14, ground := Go.Ground.phase }, { on := 15, ground := Go.Ground.phase }, { on := 16, ground := Go.Ground.phase }, { on := 17, ground := Go.Ground.phase }, { on := 18, ground := Go.Ground.phase }, { on := 19, ground := Go.Ground.phase }], guard := none }) rfl (fun K hK => ?_) AllReady.nil
        obtain ⟨d20, d21, d22, d23, d24, d25⟩ := T3.six
        have fr2 := fun j => T3.free j
        go_simp
        refine hK _ _ ?_
        clear hK K
        try simp only [Act.put, List.setIfInBounds_toArray, List.set_cons_zero, List.set_cons_succ]
        refine wpAny_done (by kernel_rfl) ?_ _
        clear d20 d21 d22 d23 d24 d25 fr2
        obtain ⟨W, hW⟩ : ∃ F, F = putZ U3 g3 (.int .i64 l.kind) (.int .i64 l.ns) (.string l.name) (.slice none 0 0) (.string l.text) (.slice none 0 0) := ⟨_, rfl⟩
        have hWu := hW
        unfold putZ at hWu
        rw [← hWu]
        clear hWu
        have v3 : Kp [g3] U3 W := by rw [hW]; exact (Kp.refl _ _).putZ (g := g3) (Or.inl (by simp)) (.int .i64 l.kind) (.int .i64 l.ns) (.string l.name) (.slice none 0 0) (.string l.text) (.slice none 0 0)
        have T3 : At W g3 #[.int .i64 l.kind, .int .i64 l.ns, .string l.name, .slice none 0 0, .string l.text, .slice none 0 0] 25 := by rw [hW]; exact T3.putZ (.int .i64 l.kind) (.int .i64 l.ns) (.string l.name) (.slice none 0 0) (.string l.text) (.slice none 0 0)
        clear hW
        have kW : Kp [] B W := k3.trans v3 (fun z hz => Or.inr (by simp at hz; omega))
        go_wp2_with fail
        go_meet
        case rel => exact ⟨g3, rfl, T3, kW, by omega⟩
      refine AllReadyG.cons (o := { dst := some 3, op := Go.Op.alloc 25, type := 0, pos := "tree.go:86", after := #[], guard := none }) rfl (fun K hK => ?_) AllReadyG.nil
      go_simp
      obtain ⟨U2, hU⟩ : ∃ V, V = World.alloc U1 (.cells #[.int .i64 0, .int .i64 0, .string ⟨#[]⟩, .slice none 0 0, .string ⟨#[]⟩, .slice none 0 0] 25) := ⟨_, rfl⟩
      rw [← hU]
      have u2 : Kp [] U1 U2 := by rw [hU]; exact (Kp.refl _ _).alloc _
      have k2 : Kp [] B U2 := k1.trans u2 (fun z hz => by simp at hz)
      have T3 : At U2 U1.heap.size #[.int .i64 0, .int .i64 0, .string ⟨#[]⟩, .slice none 0 0, .string ⟨#[]⟩, .slice none 0 0] 25 := by rw [hU]; exact At.new _ _ _
      have n3 := k1.size
      obtain ⟨g3, hg3⟩ : ∃ g, U1.heap.size = g := ⟨_, rfl⟩
      rw [hg3] at T3 ⊢
      clear hU
      refine hK.out _ _ (CLk.out _ k2) (fun hHeld2 => ?_)
      clear hK K hHeld1
      try simp only [Act.put, List.setIfInBounds_toArray, List.set_cons_zero, List.set_cons_succ]
      refine wpAnyG_ready (rs := [17]) (by kernel_rfl) (by simp) ?_
      refine AllReadyG.cons (o := { dst := some 23, op := Go.Op.call { callee := Go.Callee.value (Go.Operand.func 57), args := #[Go.Operand.tmp 22], argTypes := #[9] }, type := 9, pos := "tree.go:86", after := #[{ on := 16, ground := Go.Ground.data }, { on := 12, ground := Go.Ground.chain }], guard := none }) rfl (fun K hK => ?_) AllReadyG.nil
      go_simp
      go_at_call 57
      refine (HT.out _).mono ?_
      rintro e U3 ⟨rfl, u3⟩
      go_wp2_with fail
      have k3 : Kp [] B U3 := k2.trans u3 (fun z hz => by simp at hz)
      have T3 := T3.kept u3 (by simp)
      refine hK.out _ _ (CLk.out _ k3) (fun hHeld3 => ?_)
      clear hK K hHeld2
      try simp only [Act.put, List.setIfInBounds_toArray, List.set_cons_zero, List.set_cons_succ]
      refine wpAnyG_pure (i := 18) (oi := { dst := some 24, op := Go.Op.build 25 #[(0, Go.Operand.tmp 9), (1, Go.Operand.tmp 13), (2, Go.Operand.tmp 18), (4, Go.Operand.tmp 23)], type := 25, pos := "tree.go:86", after := #[{ on := 3, ground := Go.Ground.data }, { on := 7, ground := Go.Ground.data }, { on := 12, ground := Go.Ground.data }, { on := 17, ground := Go.Ground.data }], guard := none }) (v := ?_) rfl (by kernel_rfl) (by kernel_rfl) (by kernel_rfl) (by kernel_rfl) (fun _ _ _ h => h) (Or.inl ⟨by rfl, ?_⟩) (by assumption) ?_
      rotate_left
      · (intro w; go_simp; try with_reducible rfl)
      simp only [Act.put, List.setIfInBounds_toArray, List.set_cons_zero, List.set_cons_succ]
      refine wpAnyG_free (by kernel_rfl) ?_
      refine wpAny_ready (rs := [20]) (by kernel_rfl) (by simp) ?_
      refine AllReady.cons (o := { dst := none, op := Go.Op.store 25 (Go.Operand.tmp 3) (Go.Operand.tmp 24), type := 0, pos := "tree.go:86", after := #[{ on := 19, ground := Go.Ground.data }, { on := 18, ground := Go.Ground.data }, { on := 17, ground := Go.Ground.chain }, { on := 0, ground := Go.Ground.phase }, { on := 1, ground := Go.Ground.phase }, { on := 2, ground := Go.Ground.phase }, { on := 3, ground := Go.Ground.phase }, { on := 4, ground := Go.Ground.phase }, { on := 5, ground := Go.Ground.phase }, { on := 6, ground := Go.Ground.phase }, { on := 7, ground := Go.Ground.phase }, { on := 8, ground := Go.Ground.phase }, { on := 9, ground := Go.Ground.phase }, { on := 10, ground := Go.Ground.phase }, { on := 11, ground := Go.Ground.phase }, { on := 12, ground := Go.Ground.phase }, { on := 13, ground := Go.Ground.phase }, { on := 14, ground := Go.Ground.phase }, { on := 15, ground := Go.Ground.phase }, { on := 16, ground := Go.Ground.phase }, { on := 17, ground := Go.Ground.phase }, { on := 18, ground := Go.Ground.phase }, { on := 19, ground := Go.Ground.phase }], guard := none }) rfl (fun K hK => ?_) AllReady.nil
      obtain ⟨d20, d21, d22, d23, d24, d25⟩ := T3.six
      have fr2 := fun j => T3.free j
      go_simp
      refine hK _ _ ?_
      clear hK K
      try simp only [Act.put, List.setIfInBounds_toArray, List.set_cons_zero, List.set_cons_succ]
      refine wpAny_done (by kernel_rfl) ?_ _
      clear d20 d21 d22 d23 d24 d25 fr2
      obtain ⟨W, hW⟩ : ∃ F, F = putZ U3 g3 (.int .i64 l.kind) (.int .i64 l.ns) (.string l.name) (.slice none 0 0) (.string l.text) (.slice none 0 0) := ⟨_, rfl⟩
      have hWu := hW
      unfold putZ at hWu
      rw [← hWu]
      clear hWu
      have v3 : Kp [g3] U3 W := by rw [hW]; exact (Kp.refl _ _).putZ (g := g3) (Or.inl (by simp)) (.int .i64 l.kind) (.int .i64 l.ns) (.string l.name) (.slice none 0 0) (.string l.text) (.slice none 0 0)
      have T3 : At W g3 #[.int .i64 l.kind, .int .i64 l.ns, .string l.name, .slice none 0 0, .string l.text, .slice none 0 0] 25 := by rw [hW]; exact T3.putZ (.int .i64 l.kind) (.int .i64 l.ns) (.string l.name) (.slice none 0 0) (.string l.text) (.slice none 0 0)
      clear hW
      have kW : Kp [] B W := k3.trans v3 (fun z hz => Or.inr (by simp at hz; omega))
      go_wp2_with fail
      go_meet
      case rel => exact ⟨g3, rfl, T3, kW, by omega⟩
    refine AllReadyG.cons (o := { dst := some 3, op := Go.Op.alloc 25, type := 0, pos := "tree.go:86", after := #[], guard := none }) rfl (fun K hK => ?_) AllReadyG.nil
    go_simp
    obtain ⟨U1, hU⟩ : ∃ V, V = World.alloc U0 (.cells #[.int .i64 0, .int .i64 0, .string ⟨#[]⟩, .slice none 0 0, .string ⟨#[]⟩, .slice none 0 0] 25) := ⟨_, rfl⟩
    rw [← hU]
    have u1 : Kp [] U0 U1 := by rw [hU]; exact (Kp.refl _ _).alloc _
    have k1 : Kp [] B U1 := k0.trans u1 (fun z hz => by simp at hz)
    have T3 : At U1 U0.heap.size #[.int .i64 0, .int .i64 0, .string ⟨#[]⟩, .slice none 0 0, .string ⟨#[]⟩, .slice none 0 0] 25 := by rw [hU]; exact At.new _ _ _
    have n3 := k0.size
    obtain ⟨g3, hg3⟩ : ∃ g, U0.heap.size = g := ⟨_, rfl⟩
    rw [hg3] at T3 ⊢
    clear hU
    refine hK.out _ _ (CLk.out _ k1) (fun hHeld1 => ?_)
    clear hK K hHeld
    try simp only [Act.put, List.setIfInBounds_toArray, List.set_cons_zero, List.set_cons_succ]
    refine wpAnyG_ready (rs := [12]) (by kernel_rfl) (by simp) ?_
    refine AllReadyG.cons (o := { dst := some 18, op := Go.Op.call { callee := Go.Callee.value (Go.Operand.func 57), args := #[Go.Operand.tmp 17], argTypes := #[9] }, type := 9, pos := "tree.go:86", after := #[{ on := 11, ground := Go.Ground.data }], guard := none }) rfl (fun K hK => ?_) AllReadyG.nil
    go_simp
    go_at_call 57
    refine (HN.out _).mono ?_
    rintro e U2 ⟨rfl, u2⟩
    go_wp2_with fail
    have k2 : Kp [] B U2 := k1.trans u2 (fun z hz => by simp at hz)
    have T3 := T3.kept u2 (by simp)
    refine hK.out _ _ (CLk.out _ k2) (fun hHeld2 => ?_)
    clear hK K hHeld1
    try simp only [Act.put, List.setIfInBounds_toArray, List.set_cons_zero, List.set_cons_succ]
    refine wpAnyG_ready (rs := [17]) (by kernel_rfl) (by simp) ?_
    refine AllReadyG.cons (o := { dst := some 23, op := Go.Op.call { callee := Go.Callee.value (Go.Operand.func 57), args := #[Go.Operand.tmp 22], argTypes := #[9] }, type := 9, pos := "tree.go:86", after := #[{ on := 16, ground := Go.Ground.data }, { on := 12, ground := Go.Ground.chain }], guard := none }) rfl (fun K hK => ?_) AllReadyG.nil
    go_simp
    go_at_call 57
    refine (HT.out _).mono ?_
    rintro e U3 ⟨rfl, u3⟩
    go_wp2_with fail
    have k3 : Kp [] B U3 := k2.trans u3 (fun z hz => by simp at hz)
    have T3 := T3.kept u3 (by simp)
    refine hK.out _ _ (CLk.out _ k3) (fun hHeld3 => ?_)
    clear hK K hHeld2
    try simp only [Act.put, List.setIfInBounds_toArray, List.set_cons_zero, List.set_cons_succ]
    refine wpAnyG_pure (i := 18) (oi := { dst := some 24, op := Go.Op.build 25 #[(0, Go.Operand.tmp 9), (1, Go.Operand.tmp 13), (2, Go.Operand.tmp 18), (4, Go.Operand.tmp 23)], type := 25, pos := "tree.go:86", after := #[{ on := 3, ground := Go.Ground.data }, { on := 7, ground := Go.Ground.data }, { on := 12, ground := Go.Ground.data }, { on := 17, ground := Go.Ground.data }], guard := none }) (v := ?_) rfl (by kernel_rfl) (by kernel_rfl) (by kernel_rfl) (by kernel_rfl) (fun _ _ _ h => h) (Or.inl ⟨by rfl, ?_⟩) (by assumption) ?_
    rotate_left
    · (intro w; go_simp; try with_reducible rfl)
    simp only [Act.put, List.setIfInBounds_toArray, List.set_cons_zero, List.set_cons_succ]
    refine wpAnyG_free (by kernel_rfl) ?_
    refine wpAny_ready (rs := [20]) (by kernel_rfl) (by simp) ?_
    refine AllReady.cons (o := { dst := none, op := Go.Op.store 25 (Go.Operand.tmp 3) (Go.Operand.tmp 24), type := 0, pos := "tree.go:86", after := #[{ on := 19, ground := Go.Ground.data }, { on := 18, ground := Go.Ground.data }, { on := 17, ground := Go.Ground.chain }, { on := 0, ground := Go.Ground.phase }, { on := 1, ground := Go.Ground.phase }, { on := 2, ground := Go.Ground.phase }, { on := 3, ground := Go.Ground.phase }, { on := 4, ground := Go.Ground.phase }, { on := 5, ground := Go.Ground.phase }, { on := 6, ground := Go.Ground.phase }, { on := 7, ground := Go.Ground.phase }, { on := 8, ground := Go.Ground.phase }, { on := 9, ground := Go.Ground.phase }, { on := 10, ground := Go.Ground.phase }, { on := 11, ground := Go.Ground.phase }, { on := 12, ground := Go.Ground.phase }, { on := 13, ground := Go.Ground.phase }, { on := 14, ground := Go.Ground.phase }, { on := 15, ground := Go.Ground.phase }, { on := 16, ground := Go.Ground.phase }, { on := 17, ground := Go.Ground.phase }, { on := 18, ground := Go.Ground.phase }, { on := 19, ground := Go.Ground.phase }], guard := none }) rfl (fun K hK => ?_) AllReady.nil
    obtain ⟨d20, d21, d22, d23, d24, d25⟩ := T3.six
    have fr2 := fun j => T3.free j
    go_simp
    refine hK _ _ ?_
    clear hK K
    try simp only [Act.put, List.setIfInBounds_toArray, List.set_cons_zero, List.set_cons_succ]
    refine wpAny_done (by kernel_rfl) ?_ _
    clear d20 d21 d22 d23 d24 d25 fr2
    obtain ⟨W, hW⟩ : ∃ F, F = putZ U3 g3 (.int .i64 l.kind) (.int .i64 l.ns) (.string l.name) (.slice none 0 0) (.string l.text) (.slice none 0 0) := ⟨_, rfl⟩
    have hWu := hW
    unfold putZ at hWu
    rw [← hWu]
    clear hWu
    have v3 : Kp [g3] U3 W := by rw [hW]; exact (Kp.refl _ _).putZ (g := g3) (Or.inl (by simp)) (.int .i64 l.kind) (.int .i64 l.ns) (.string l.name) (.slice none 0 0) (.string l.text) (.slice none 0 0)
    have T3 : At W g3 #[.int .i64 l.kind, .int .i64 l.ns, .string l.name, .slice none 0 0, .string l.text, .slice none 0 0] 25 := by rw [hW]; exact T3.putZ (.int .i64 l.kind) (.int .i64 l.ns) (.string l.name) (.slice none 0 0) (.string l.text) (.slice none 0 0)
    clear hW
    have kW : Kp [] B W := k3.trans v3 (fun z hz => Or.inr (by simp at hz; omega))
    go_wp2_with fail
    go_meet
    case rel => exact ⟨g3, rfl, T3, kW, by omega⟩
  obtain ⟨g3, rfl, T3, kc, hg3⟩ := hcut
  have A0 := A0.kept kc (by simp)
  have KC : Hid (Kp [] w wc) := KB.out.trans kc (fun z hz => by simp at hz)
  have sB := SB.out
  clear HN HT SB KB
  obtain ⟨c0, c1, c2, c3, c4, c5⟩ := (CLk.out _ kc).cells
  go_wp2_with fail
  go_loopw [30] (fun x30 wr => x30 = .int .i64 0 ∧ wr = wc) (fun x30 wr => 0)
  case atStart => exact ⟨rfl, rfl⟩
  case round =>
    obtain ⟨rfl, hw⟩ := hrel
    have hw2 := hw.symm
    clear hw
    subst hw2
    by_cases hm0 : m = 0
    · subst hm0
      obtain ⟨d0, d1, d2, d3, d4, d5⟩ := T3.six
      obtain ⟨f0, f1, f2, f3, f4, f5⟩ := A0.six
      have fr := fun j => A0.free j
      have D : Hid _ := (A0.putZ (.int .i64 l.kind) (.int .i64 l.ns) (.string l.name) (.slice none 0 0) (.string l.text) (.slice none 0 0)).six
      have KZ : Hid (Kp [] w (putZ wc s (.int .i64 l.kind) (.int .i64 l.ns) (.string l.name) (.slice none 0 0) (.string l.text) (.slice none 0 0))) := KC.out.putZ (g := s) (Or.inr (by omega)) _ _ _ _ _ _
      unfold putZ at D KZ
      clear A0 T3 CLk
      go_wp2
      obtain ⟨x0, x1, x2, x3, x4, x5⟩ := D.out
      refine bodyPost_ret (v := .agg #[.int .i64 l.kind, .int .i64 l.ns, .string l.name, .slice none 0 0, .string l.text, .slice none 0 0]) (by simp [results, go_sem, x0, x1, x2, x3, x4, x5]) rfl ⟨0, rfl, KZ.out, ⟨rfl, Or.inl ⟨rfl, rfl⟩⟩, fun x hx => by simp [ko, blk] at hx⟩
    · have hmp : 0 < m := by omega
      have bm : decide ((m : Int) > 0) = true := decide_eq_true (by omega)
      go_upto_region 8 with fail
      obtain ⟨w1, hmk, O1, K1⟩ := make_kids wc m hmp hm
      have n1 := KC.out.size
      obtain ⟨gk, hgk⟩ : ∃ g, wc.heap.size = g := ⟨_, rfl⟩
      rw [hgk] at hmk O1
      have T3a := T3.kept K1 (by simp)
      have A0a := A0.kept K1 (by simp)
      have cl3 := T3.lt
      obtain ⟨d0, d1, d2, d3, d4, d5⟩ := T3a.six
      have fd := fun j => T3a.free j
      go_upto_region 9 with fail
      clear hmk d0 d1 d2 d3 d4 d5 fd
      obtain ⟨F, hF⟩ : ∃ F, F = World.setCell w1 ⟨g3, 5, none⟩ (.slice (some ⟨gk, 0, none⟩) 0 m) := ⟨_, rfl⟩
      rw [← hF]
      have vF : Kp [g3] w1 F := by rw [hF]; exact (Kp.refl _ _).setCell (Or.inl (by simp)) _
      have T3b : At F g3 #[.int .i64 l.kind, .int .i64 l.ns, .string l.name, .slice none 0 0, .string l.text, .slice (some ⟨gk, 0, none⟩) 0 m] 25 := by rw [hF]; exact T3a.set 5 _
      have A0b := A0a.kept vF (by simp; omega)
      have hko : ko gk m = some ⟨gk, 0, none⟩ := by unfold ko; rw [if_neg hm0]
      have O2 := O1.keep vF (fun x hx => by rw [hko] at hx; simp [blk] at hx; simp; omega)
      have v9 : Kp [s] F (putZ F s (.int .i64 l.kind) (.int .i64 l.ns) (.string l.name) (.slice none 0 0) (.string l.text) (.slice (some ⟨gk, 0, none⟩) 0 m)) := (Kp.refl _ _).putZ (g := s) (Or.inl (by simp)) _ _ _ _ _ _
      have O3 : Hid (OwnK 6 (putZ F s (.int .i64 l.kind) (.int .i64 l.ns) (.string l.name) (.slice none 0 0) (.string l.text) (.slice (some ⟨gk, 0, none⟩) 0 m)) 25 (.slice (ko gk m) 0 m) 0 []) := O2.keep v9 (fun x hx => by rw [hko] at hx; simp [blk] at hx; simp; omega)
      have D : Hid _ := (A0b.putZ (.int .i64 l.kind) (.int .i64 l.ns) (.string l.name) (.slice none 0 0) (.string l.text) (.slice (some ⟨gk, 0, none⟩) 0 m)).six
      have KZ : Hid (Kp [] w (putZ F s (.int .i64 l.kind) (.int .i64 l.ns) (.string l.name) (.slice none 0 0) (.string l.text) (.slice (some ⟨gk, 0, none⟩) 0 m))) := ((KC.out.trans K1 (fun z hz => by simp at hz)).trans vF (fun z hz => Or.inr (by simp at hz; omega))).trans v9 (fun z hz => Or.inr (by simp at hz; omega))
      obtain ⟨d0, d1, d2, d3, d4, d5⟩ := T3b.six
      obtain ⟨f0, f1, f2, f3, f4, f5⟩ := A0b.six
      have fr := fun j => A0b.free j
      have HKO : Hid (ko gk m = some ⟨gk, 0, none⟩) := hko
      unfold putZ at D KZ O3
      clear hF vF T3b A0b O2 v9 O1 K1 T3a A0a T3 A0 hko CLk
      go_wp2
      obtain ⟨x0, x1, x2, x3, x4, x5⟩ := D.out
      refine bodyPost_ret (v := .agg #[.int .i64 l.kind, .int .i64 l.ns, .string l.name, .slice none 0 0, .string l.text, .slice (some ⟨gk, 0, none⟩) 0 m]) (by simp [results, go_sem, x0, x1, x2, x3, x4, x5]) rfl ⟨gk, by rw [HKO.out], KZ.out, O3.out, fun x hx => by rw [HKO.out] at hx; simp [blk] at hx; omega⟩

end Go.Proofs.Ytgnbafgglkncmaa
