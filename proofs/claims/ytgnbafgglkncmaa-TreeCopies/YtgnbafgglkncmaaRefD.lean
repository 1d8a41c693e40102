/-
  More, Unique and alone of the document.
-/
import Derived.Test.YtgnbafgglkncmaaRefC
import Derived.Test.YtgnbafgglkncmaaRightC
namespace Go.Proofs.Ytgnbafgglkncmaa
open Go.RowKit
set_option linter.unusedVariables false
set_option linter.unusedSimpArgs false

set_option maxHeartbeats 1000000 in
theorem ref_more_any (w : World) (l m : List Att) (ao bo : Option Addr) (n c p d : Nat) (hr : Rp w ao n c l) (hs : Rp w bo p d m) (hl : n ≤ 400) (hm : p ≤ 400) :
    Calls Try.prog 80 #[.slice ao n c, .slice bo p d] w fun e w' => ∃ ao' n' c', e = .returned (.slice ao' n' c') ∧ Mp w w' ao' n' c' (more l m) := by
  have M1 := mp_none w
  obtain ⟨a2, n2, c2, w2, hrun, M2⟩ := M1.app ((hr.kept M1.kp).src Try.underlying22) (fun h => by cases h) (by omega)
  rw [List.nil_append] at M2
  have hln : l.length ≤ 400 := by have := hr.len; omega
  obtain rfl := hs.len
  clear M1 hr
  go_enter Try.func80, Try.ntmps80
  go_wp2_with (at_builtin; refine Lib.wpList_append_run _ rfl _ _ _ _ rfl _ _ rfl rfl _ _ (hrun _) ?_)
  clear hrun
  go_loopw [5, 6] (fun v i wr => ∃ (k : Nat) (ao' : Option Addr) (n' c' : Nat), k ≤ m.length ∧ i = .int .i64 k ∧ v = .slice ao' n' c' ∧ Mp w wr ao' n' c' (more l (m.take k))) (fun _ i _ => m.length - (intOf i).toNat)
  case atStart => exact ⟨0, _, _, _, Nat.zero_le _, rfl, rfl, M2⟩
  case round =>
    obtain ⟨k, ao', n', c', hk, rfl, rfl, M⟩ := hrel
    clear M2
    by_cases hlt : k < m.length
    · obtain ⟨b1, o1, rfl, h1, h2⟩ := (hs.kept M.kp).get k hlt
      have hts := take_snoc hlt
      have hn : n' ≤ 900 := by
        have e1 := M.len
        have e2 := more_len (m.take k) l
        simp at e2
        omega
      generalize m[k] = a at h1 h2 hts
      have HA := ref_add_any wr _ a ao' n' c' M.rp hn
      unfold av at HA
      clear hs
      go_wp2_with (go_at_call 85; refine HA.mono ?_; rintro e w3 ⟨a3, n3, c3, rfl, M3⟩)
      have M4 := M3.back M.kp
      rw [← more_snoc, ← hts] at M4
      clear M M3 hts h1 h2 HA
      go_roundw
      case rel => exact ⟨k + 1, _, _, _, by omega, by go_num, rfl, M4⟩
      case measure => simp [intOf]; omega
    · obtain rfl : k = m.length := by omega
      rw [List.take_length] at M
      go_wp2
      go_ret
      exact ⟨_, _, _, rfl, M⟩

set_option maxHeartbeats 1000000 in
theorem ref_uniq_any (w : World) (m : List Att) (bo : Option Addr) (p d : Nat) (hs : Rp w bo p d m) (hm : p ≤ 400) :
    Calls Try.prog 76 #[.slice bo p d] w fun e w' => ∃ ao' n' c', e = .returned (.slice ao' n' c') ∧ Mp w w' ao' n' c' (uniq m) := by
  have H := ref_more_any w [] m none bo 0 0 p d (rp_nil w) hs (by omega) hm
  go_enter Try.func76, Try.ntmps76
  go_wp2_with (go_at_call 80; refine H.mono ?_; rintro e w3 ⟨a3, n3, c3, rfl, M3⟩)
  go_ret
  exact ⟨_, _, _, rfl, M3⟩

set_option maxRecDepth 100000 in
set_option maxHeartbeats 1500000 in
theorem ref_alone_any (w : World) (l : Lb) (p : Pl) (hr : Rp w p.1.1 p.1.2.1 p.1.2.2 l.attrs) (hl : l.attrs.length ≤ 300) (hn : p.2.2.1 ≤ 20000) :
    Calls Try.prog 67 #[wv l p] w fun e w' => e = .returned (.bool (aloneF l p.2.2.1)) ∧ Kp [] w w' := by
  obtain ⟨A, hA⟩ : ∃ A, aloneF l p.2.2.1 = A := ⟨_, rfl⟩
  rw [hA]
  obtain ⟨B, hB⟩ : ∃ B, B = w.alloc (.cells (six l p).toArray 25) := ⟨_, rfl⟩
  have k0 : Kp [] w B := by rw [hB]; exact (Kp.refl _ _).alloc _
  have g1 : B.heap[w.heap.size]? = some (.cells (six l p).toArray 25 (0, 0)) := by rw [hB]; exact heap_new _ _
  have sB : B.heap.size = w.heap.size + 1 := by rw [hB]; simp
  have HW : Hid (w.alloc (.cells #[.int .i64 l.kind, .int .i64 l.ns, .string l.name, .slice p.1.1 p.1.2.1 p.1.2.2, .string l.text, .slice p.2.1 p.2.2.1 p.2.2.2] 25) = B) := hB.symm
  have HS : Hid (∀ V, Kp [] B V → V.cell? ⟨w.heap.size, 1, none⟩ = some (.int .i64 l.ns) ∧ V.cell? ⟨w.heap.size, 2, none⟩ = some (.string l.name) ∧ V.cell? ⟨w.heap.size, 3, none⟩ = some (.slice p.1.1 p.1.2.1 p.1.2.2) ∧ V.cell? ⟨w.heap.size, 4, none⟩ = some (.string l.text)) := fun V kV => by
    have g := (kV.block _ (by omega) (by simp)).trans g1
    exact ⟨cell_of g 1, cell_of g 2, cell_of g 3, cell_of g 4⟩
  have HPL : Hid (p.1.2.1 = l.attrs.length) := hr.len
  have hpn : p.1.2.1 ≤ 300 := by have := hr.len; omega
  have HU : Hid (∀ V, Kp [] B V → Calls Try.prog 76 #[.slice p.1.1 p.1.2.1 p.1.2.2] V fun e w' => ∃ ao' n' c', e = .returned (.slice ao' n' c') ∧ Mp V w' ao' n' c' (uniq l.attrs)) := fun V kV => ref_uniq_any V l.attrs _ _ _ ((hr.kept k0).kept kV) (by omega)
  have KB : Hid (Kp [] w B) := k0
  have KL : Hid (Kp [] w (w.alloc (.cells #[.int .i64 l.kind, .int .i64 l.ns, .string l.name, .slice p.1.1 p.1.2.1 p.1.2.2, .string l.text, .slice p.2.1 p.2.2.1 p.2.2.2] 25))) := (Kp.refl _ _).alloc _
  unfold aloneF at hA
  rw [← HPL.out] at hA
  clear hr hl g1 hB k0 sB
  simp only [wv]
  by_cases h3 : l.kind = 3
  · have r3k : ((l.kind : Int) == 3) = true := int_eq_yes h3
    rw [if_pos h3] at hA
    clear h3
    by_cases en : l.name = NON
    · have qname : (l.name.toList == NON.toList) = true := eqs_yes en
      rw [show NON.toList = [] from by decide +kernel] at qname
      have zname : (l.name.toList != []) = false := by simp only [bne, qname]; rfl
      by_cases s1 : l.ns = 1
      · have r1 : ((l.ns : Int) == 1) = true := int_eq_yes s1
        obtain rfl : false = A := by rw [← hA]; simp [en, s1]
        clear hA HU HS HPL HW KB en s1
        go_enter Try.func67, Try.ntmps67
        go_wp2_with fail
        go_quiet (fail)
        go_wp2
        go_ret
        exact ⟨rfl, KL.out.drewN nq⟩
      · have r1 : ((l.ns : Int) == 1) = false := int_eq_no s1
        by_cases s2 : l.ns = 2
        · have r2 : ((l.ns : Int) == 2) = true := int_eq_yes s2
          obtain rfl : false = A := by rw [← hA]; simp [en, s1, s2]
          clear hA HU HS HPL HW KB en s1 s2
          go_enter Try.func67, Try.ntmps67
          go_wp2_with fail
          go_quiet (fail)
          go_wp2
          go_ret
          exact ⟨rfl, KL.out.drewN nq⟩
        · have r2 : ((l.ns : Int) == 2) = false := int_eq_no s2
          obtain rfl : false = A := by rw [← hA]; simp [en, s1, s2]
          clear hA HU HS HPL HW KB en s1 s2
          go_enter Try.func67, Try.ntmps67
          go_wp2_with fail
          go_quiet (fail)
          go_wp2
          go_ret
          exact ⟨rfl, KL.out.drewN nq⟩
    · have qname : (l.name.toList == NON.toList) = false := eqs_no en
      rw [show NON.toList = [] from by decide +kernel] at qname
      have zname : (l.name.toList != []) = true := by simp only [bne, qname]; rfl
      by_cases et : l.text = NON
      · have qtext : (l.text.toList == NON.toList) = true := eqs_yes et
        rw [show NON.toList = [] from by decide +kernel] at qtext
        have ztext : (l.text.toList != []) = false := by simp only [bne, qtext]; rfl
        by_cases s1 : l.ns = 1
        · have r1 : ((l.ns : Int) == 1) = true := int_eq_yes s1
          have hA' : decide ((uniq l.attrs).length = p.1.2.1) = A := by rw [← hA]; simp [en, et, s1]
          clear hA KL en et s1
          go_enter Try.func67, Try.ntmps67
          go_wp2_with fail
          rw [HW.out]
          refine wp_region_held_drew (S := fun V => V.cell? ⟨w.heap.size, 1, none⟩ = some (.int .i64 l.ns) ∧ V.cell? ⟨w.heap.size, 2, none⟩ = some (.string l.name) ∧ V.cell? ⟨w.heap.size, 3, none⟩ = some (.slice p.1.1 p.1.2.1 p.1.2.2) ∧ V.cell? ⟨w.heap.size, 4, none⟩ = some (.string l.text)) (by kernel_rfl) (HS.out _ (Kp.refl _ _).drew) (fun hHeld => ?_)
          refine wpAnyH_take (i := 0) (oi := { dst := some 7, op := Go.Op.fieldAddr 25 (Go.Operand.tmp 1) 1, type := 0, pos := "ref.go:77", after := #[], guard := none }) (v := ?_) rfl (by kernel_rfl) (by kernel_rfl) (by kernel_rfl) (fun _ _ _ h => h) (Or.inl ⟨by rfl, ?_⟩) (by assumption) ?_
          rotate_left
          · (intro w hSw; (try dsimp only at hSw); go_simp; try with_reducible rfl)
          simp only [Act.put, List.setIfInBounds_toArray, List.set_cons_zero, List.set_cons_succ]
          refine wpAnyH_take (i := 1) (oi := { dst := some 8, op := Go.Op.load 3 (Go.Operand.tmp 7), type := 3, pos := "ref.go:77", after := #[{ on := 0, ground := Go.Ground.data }], guard := none }) (v := ?_) rfl (by kernel_rfl) (by kernel_rfl) (by kernel_rfl) (fun _ _ _ h => h) (Or.inl ⟨by rfl, ?_⟩) (by assumption) ?_
          rotate_left
          · (intro w hSw; (try dsimp only at hSw); go_simp; try with_reducible rfl)
          simp only [Act.put, List.setIfInBounds_toArray, List.set_cons_zero, List.set_cons_succ]
          refine wpAnyH_take (i := 2) (oi := { dst := some 9, op := Go.Op.binOp Go.BinOp.eql 3 (Go.Operand.tmp 8) (Go.Operand.const (Go.Value.int Go.IntKind.i64 1)) 3, type := 4, pos := "ref.go:77", after := #[{ on := 1, ground := Go.Ground.data }], guard := none }) (v := ?_) rfl (by kernel_rfl) (by kernel_rfl) (by kernel_rfl) (fun _ _ _ h => h) (Or.inl ⟨by rfl, ?_⟩) (by assumption) ?_
          rotate_left
          · (intro w hSw; (try dsimp only at hSw); go_simp; try with_reducible rfl)
          simp only [Act.put, List.setIfInBounds_toArray, List.set_cons_zero, List.set_cons_succ]
          refine wpAnyH_take (i := 3) (oi := { dst := some 10, op := Go.Op.move (Go.Operand.tmp 9), type := 4, pos := "ref.go:77", after := #[{ on := 2, ground := Go.Ground.data }], guard := none }) (v := ?_) rfl (by kernel_rfl) (by kernel_rfl) (by kernel_rfl) (fun _ _ _ h => h) (Or.inl ⟨by rfl, ?_⟩) (by assumption) ?_
          rotate_left
          · (intro w hSw; (try dsimp only at hSw); go_simp; try with_reducible rfl)
          simp only [Act.put, List.setIfInBounds_toArray, List.set_cons_zero, List.set_cons_succ]
          refine wpAnyH_take (i := 4) (oi := { dst := some 11, op := Go.Op.fieldAddr 25 (Go.Operand.tmp 1) 1, type := 0, pos := "ref.go:77", after := #[{ on := 3, ground := Go.Ground.guard }], guard := some (3, false) }) (v := undef) rfl (by kernel_rfl) (by kernel_rfl) (by kernel_rfl) (fun _ _ _ h => h) (Or.inr ⟨by rfl, rfl⟩) (by assumption) ?_
          simp only [Act.put, List.setIfInBounds_toArray, List.set_cons_zero, List.set_cons_succ]
          refine wpAnyH_take (i := 5) (oi := { dst := some 12, op := Go.Op.load 3 (Go.Operand.tmp 11), type := 3, pos := "ref.go:77", after := #[{ on := 4, ground := Go.Ground.data }, { on := 3, ground := Go.Ground.guard }], guard := some (3, false) }) (v := undef) rfl (by kernel_rfl) (by kernel_rfl) (by kernel_rfl) (fun _ _ _ h => h) (Or.inr ⟨by rfl, rfl⟩) (by assumption) ?_
          simp only [Act.put, List.setIfInBounds_toArray, List.set_cons_zero, List.set_cons_succ]
          refine wpAnyH_take (i := 6) (oi := { dst := some 13, op := Go.Op.binOp Go.BinOp.eql 3 (Go.Operand.tmp 12) (Go.Operand.const (Go.Value.int Go.IntKind.i64 2)) 3, type := 4, pos := "ref.go:77", after := #[{ on := 5, ground := Go.Ground.data }, { on := 3, ground := Go.Ground.guard }], guard := some (3, false) }) (v := undef) rfl (by kernel_rfl) (by kernel_rfl) (by kernel_rfl) (fun _ _ _ h => h) (Or.inr ⟨by rfl, rfl⟩) (by assumption) ?_
          simp only [Act.put, List.setIfInBounds_toArray, List.set_cons_zero, List.set_cons_succ]
          refine wpAnyH_take (i := 7) (oi := { dst := some 14, op := Go.Op.pick (Go.Operand.tmp 10) (Go.Operand.const (Go.Value.bool true)) (Go.Operand.tmp 13), type := 4, pos := "ref.go:77", after := #[{ on := 3, ground := Go.Ground.data }, { on := 6, ground := Go.Ground.data }], guard := none }) (v := ?_) rfl (by kernel_rfl) (by kernel_rfl) (by kernel_rfl) (fun _ _ _ h => h) (Or.inl ⟨by rfl, ?_⟩) (by assumption) ?_
          rotate_left
          · (intro w hSw; (try dsimp only at hSw); go_simp; try with_reducible rfl)
          simp only [Act.put, List.setIfInBounds_toArray, List.set_cons_zero, List.set_cons_succ]
          refine wpAnyH_take (i := 8) (oi := { dst := some 15, op := Go.Op.move (Go.Operand.tmp 14), type := 4, pos := "ref.go:77", after := #[{ on := 7, ground := Go.Ground.data }, { on := 3, ground := Go.Ground.chain }], guard := none }) (v := ?_) rfl (by kernel_rfl) (by kernel_rfl) (by kernel_rfl) (fun _ _ _ h => h) (Or.inl ⟨by rfl, ?_⟩) (by assumption) ?_
          rotate_left
          · (intro w hSw; (try dsimp only at hSw); go_simp; try with_reducible rfl)
          simp only [Act.put, List.setIfInBounds_toArray, List.set_cons_zero, List.set_cons_succ]
          refine wpAnyH_take (i := 9) (oi := { dst := some 16, op := Go.Op.fieldAddr 25 (Go.Operand.tmp 1) 2, type := 0, pos := "ref.go:77", after := #[{ on := 8, ground := Go.Ground.guard }], guard := some (8, true) }) (v := ?_) rfl (by kernel_rfl) (by kernel_rfl) (by kernel_rfl) (fun _ _ _ h => h) (Or.inl ⟨by rfl, ?_⟩) (by assumption) ?_
          rotate_left
          · (intro w hSw; (try dsimp only at hSw); go_simp; try with_reducible rfl)
          simp only [Act.put, List.setIfInBounds_toArray, List.set_cons_zero, List.set_cons_succ]
          refine wpAnyH_take (i := 10) (oi := { dst := some 17, op := Go.Op.load 9 (Go.Operand.tmp 16), type := 9, pos := "ref.go:77", after := #[{ on := 9, ground := Go.Ground.data }, { on := 8, ground := Go.Ground.guard }], guard := some (8, true) }) (v := ?_) rfl (by kernel_rfl) (by kernel_rfl) (by kernel_rfl) (fun _ _ _ h => h) (Or.inl ⟨by rfl, ?_⟩) (by assumption) ?_
          rotate_left
          · (intro w hSw; (try dsimp only at hSw); go_simp; try with_reducible rfl)
          simp only [Act.put, List.setIfInBounds_toArray, List.set_cons_zero, List.set_cons_succ]
          refine wpAnyH_take (i := 11) (oi := { dst := some 18, op := Go.Op.binOp Go.BinOp.neq 9 (Go.Operand.tmp 17) (Go.Operand.const (Go.Value.string { data := #[] })) 9, type := 4, pos := "ref.go:77", after := #[{ on := 10, ground := Go.Ground.data }, { on := 8, ground := Go.Ground.guard }], guard := some (8, true) }) (v := ?_) rfl (by kernel_rfl) (by kernel_rfl) (by kernel_rfl) (fun _ _ _ h => h) (Or.inl ⟨by rfl, ?_⟩) (by assumption) ?_
          rotate_left
          · (intro w hSw; (try dsimp only at hSw); go_simp; try with_reducible rfl)
          simp only [Act.put, List.setIfInBounds_toArray, List.set_cons_zero, List.set_cons_succ]
          refine wpAnyH_take (i := 12) (oi := { dst := some 19, op := Go.Op.pick (Go.Operand.tmp 15) (Go.Operand.tmp 18) (Go.Operand.const (Go.Value.bool false)), type := 4, pos := "ref.go:77", after := #[{ on := 8, ground := Go.Ground.data }, { on := 11, ground := Go.Ground.data }], guard := none }) (v := ?_) rfl (by kernel_rfl) (by kernel_rfl) (by kernel_rfl) (fun _ _ _ h => h) (Or.inl ⟨by rfl, ?_⟩) (by assumption) ?_
          rotate_left
          · (intro w hSw; (try dsimp only at hSw); go_simp; try with_reducible rfl)
          simp only [Act.put, List.setIfInBounds_toArray, List.set_cons_zero, List.set_cons_succ]
          refine wpAnyH_take (i := 13) (oi := { dst := some 20, op := Go.Op.move (Go.Operand.tmp 19), type := 4, pos := "ref.go:77", after := #[{ on := 12, ground := Go.Ground.data }, { on := 8, ground := Go.Ground.chain }], guard := none }) (v := ?_) rfl (by kernel_rfl) (by kernel_rfl) (by kernel_rfl) (fun _ _ _ h => h) (Or.inl ⟨by rfl, ?_⟩) (by assumption) ?_
          rotate_left
          · (intro w hSw; (try dsimp only at hSw); go_simp; try with_reducible rfl)
          simp only [Act.put, List.setIfInBounds_toArray, List.set_cons_zero, List.set_cons_succ]
          refine wpAnyH_take (i := 14) (oi := { dst := some 21, op := Go.Op.fieldAddr 25 (Go.Operand.tmp 1) 4, type := 0, pos := "ref.go:77", after := #[{ on := 13, ground := Go.Ground.guard }], guard := some (13, true) }) (v := ?_) rfl (by kernel_rfl) (by kernel_rfl) (by kernel_rfl) (fun _ _ _ h => h) (Or.inl ⟨by rfl, ?_⟩) (by assumption) ?_
          rotate_left
          · (intro w hSw; (try dsimp only at hSw); go_simp; try with_reducible rfl)
          simp only [Act.put, List.setIfInBounds_toArray, List.set_cons_zero, List.set_cons_succ]
          refine wpAnyH_take (i := 15) (oi := { dst := some 22, op := Go.Op.load 9 (Go.Operand.tmp 21), type := 9, pos := "ref.go:77", after := #[{ on := 14, ground := Go.Ground.data }, { on := 13, ground := Go.Ground.guard }], guard := some (13, true) }) (v := ?_) rfl (by kernel_rfl) (by kernel_rfl) (by kernel_rfl) (fun _ _ _ h => h) (Or.inl ⟨by rfl, ?_⟩) (by assumption) ?_
          rotate_left
          · (intro w hSw; (try dsimp only at hSw); go_simp; try with_reducible rfl)
          simp only [Act.put, List.setIfInBounds_toArray, List.set_cons_zero, List.set_cons_succ]
          refine wpAnyH_take (i := 16) (oi := { dst := some 23, op := Go.Op.binOp Go.BinOp.eql 9 (Go.Operand.tmp 22) (Go.Operand.const (Go.Value.string { data := #[] })) 9, type := 4, pos := "ref.go:77", after := #[{ on := 15, ground := Go.Ground.data }, { on := 13, ground := Go.Ground.guard }], guard := some (13, true) }) (v := ?_) rfl (by kernel_rfl) (by kernel_rfl) (by kernel_rfl) (fun _ _ _ h => h) (Or.inl ⟨by rfl, ?_⟩) (by assumption) ?_
          rotate_left
          · (intro w hSw; (try dsimp only at hSw); go_simp; try with_reducible rfl)
          simp only [Act.put, List.setIfInBounds_toArray, List.set_cons_zero, List.set_cons_succ]
          refine wpAnyH_take (i := 17) (oi := { dst := some 24, op := Go.Op.pick (Go.Operand.tmp 20) (Go.Operand.tmp 23) (Go.Operand.const (Go.Value.bool false)), type := 4, pos := "ref.go:77", after := #[{ on := 13, ground := Go.Ground.data }, { on := 16, ground := Go.Ground.data }], guard := none }) (v := ?_) rfl (by kernel_rfl) (by kernel_rfl) (by kernel_rfl) (fun _ _ _ h => h) (Or.inl ⟨by rfl, ?_⟩) (by assumption) ?_
          rotate_left
          · (intro w hSw; (try dsimp only at hSw); go_simp; try with_reducible rfl)
          simp only [Act.put, List.setIfInBounds_toArray, List.set_cons_zero, List.set_cons_succ]
          refine wpAnyH_take (i := 18) (oi := { dst := some 25, op := Go.Op.move (Go.Operand.tmp 24), type := 4, pos := "ref.go:77", after := #[{ on := 17, ground := Go.Ground.data }, { on := 13, ground := Go.Ground.chain }], guard := none }) (v := ?_) rfl (by kernel_rfl) (by kernel_rfl) (by kernel_rfl) (fun _ _ _ h => h) (Or.inl ⟨by rfl, ?_⟩) (by assumption) ?_
          rotate_left
          · (intro w hSw; (try dsimp only at hSw); go_simp; try with_reducible rfl)
          simp only [Act.put, List.setIfInBounds_toArray, List.set_cons_zero, List.set_cons_succ]
          refine wpAnyH_take (i := 19) (oi := { dst := some 26, op := Go.Op.fieldAddr 25 (Go.Operand.tmp 1) 3, type := 0, pos := "ref.go:77", after := #[{ on := 18, ground := Go.Ground.guard }], guard := some (18, true) }) (v := ?_) rfl (by kernel_rfl) (by kernel_rfl) (by kernel_rfl) (fun _ _ _ h => h) (Or.inl ⟨by rfl, ?_⟩) (by assumption) ?_
          rotate_left
          · (intro w hSw; (try dsimp only at hSw); go_simp; try with_reducible rfl)
          simp only [Act.put, List.setIfInBounds_toArray, List.set_cons_zero, List.set_cons_succ]
          refine wpAnyH_take (i := 20) (oi := { dst := some 27, op := Go.Op.load 22 (Go.Operand.tmp 26), type := 22, pos := "ref.go:77", after := #[{ on := 19, ground := Go.Ground.data }, { on := 18, ground := Go.Ground.guard }], guard := some (18, true) }) (v := ?_) rfl (by kernel_rfl) (by kernel_rfl) (by kernel_rfl) (fun _ _ _ h => h) (Or.inl ⟨by rfl, ?_⟩) (by assumption) ?_
          rotate_left
          · (intro w hSw; (try dsimp only at hSw); go_simp; try with_reducible rfl)
          simp only [Act.put, List.setIfInBounds_toArray, List.set_cons_zero, List.set_cons_succ]
          refine wpAnyH_take (i := 23) (oi := { dst := some 30, op := Go.Op.fieldAddr 25 (Go.Operand.tmp 1) 3, type := 0, pos := "ref.go:77", after := #[{ on := 18, ground := Go.Ground.guard }], guard := some (18, true) }) (v := ?_) rfl (by kernel_rfl) (by kernel_rfl) (by kernel_rfl) (fun _ _ _ h => h) (Or.inl ⟨by rfl, ?_⟩) (by assumption) ?_
          rotate_left
          · (intro w hSw; (try dsimp only at hSw); go_simp; try with_reducible rfl)
          simp only [Act.put, List.setIfInBounds_toArray, List.set_cons_zero, List.set_cons_succ]
          refine wpAnyH_take (i := 24) (oi := { dst := some 31, op := Go.Op.load 22 (Go.Operand.tmp 30), type := 22, pos := "ref.go:77", after := #[{ on := 23, ground := Go.Ground.data }, { on := 18, ground := Go.Ground.guard }], guard := some (18, true) }) (v := ?_) rfl (by kernel_rfl) (by kernel_rfl) (by kernel_rfl) (fun _ _ _ h => h) (Or.inl ⟨by rfl, ?_⟩) (by assumption) ?_
          rotate_left
          · (intro w hSw; (try dsimp only at hSw); go_simp; try with_reducible rfl)
          simp only [Act.put, List.setIfInBounds_toArray, List.set_cons_zero, List.set_cons_succ]
          refine wpAnyH_take (i := 25) (oi := { dst := some 32, op := Go.Op.call { callee := Go.Callee.builtin Go.Builtin.len, args := #[Go.Operand.tmp 31], argTypes := #[22] }, type := 3, pos := "ref.go:77", after := #[{ on := 24, ground := Go.Ground.data }, { on := 18, ground := Go.Ground.guard }], guard := some (18, true) }) (v := ?_) rfl (by kernel_rfl) (by kernel_rfl) (by kernel_rfl) (fun _ _ _ h => h) (Or.inl ⟨by rfl, ?_⟩) (by assumption) ?_
          rotate_left
          · (intro w hSw; (try dsimp only at hSw); go_simp; try with_reducible rfl)
          simp only [Act.put, List.setIfInBounds_toArray, List.set_cons_zero, List.set_cons_succ]
          refine wpAnyH_ready (rs := [21]) (by kernel_rfl) (by simp) ?_
          refine AllReadyH.cons (o := { dst := some 28, op := Go.Op.call { callee := Go.Callee.value (Go.Operand.func 76), args := #[Go.Operand.tmp 27], argTypes := #[22] }, type := 22, pos := "ref.go:77", after := #[{ on := 20, ground := Go.Ground.data }, { on := 18, ground := Go.Ground.chain }, { on := 18, ground := Go.Ground.guard }], guard := some (18, true) }) rfl (fun K hK => ?_) AllReadyH.nil
          go_simp
          go_at_call 76
          refine (HU.out _ (Kp.refl _ _).drew).mono ?_
          rintro e w1 ⟨ao1, n1, d1, rfl, M1⟩
          have K1 : Hid (Kp [] B w1) := (Kp.refl _ _).drew.trans M1.kp (fun x hx => Or.inl hx)
          go_wp2_with fail
          refine hK.out _ _ (HS.out _ K1.out) (fun hHeld2 => ?_)
          clear hK K hHeld
          refine wpAnyH_take (i := 22) (oi := { dst := some 29, op := Go.Op.call { callee := Go.Callee.builtin Go.Builtin.len, args := #[Go.Operand.tmp 28], argTypes := #[22] }, type := 3, pos := "ref.go:77", after := #[{ on := 21, ground := Go.Ground.data }, { on := 18, ground := Go.Ground.guard }], guard := some (18, true) }) (v := ?_) rfl (by kernel_rfl) (by kernel_rfl) (by kernel_rfl) (fun _ _ _ h => h) (Or.inl ⟨by rfl, ?_⟩) (by assumption) ?_
          rotate_left
          · (intro w hSw; (try dsimp only at hSw); go_simp; try with_reducible rfl)
          simp only [Act.put, List.setIfInBounds_toArray, List.set_cons_zero, List.set_cons_succ]
          refine wpAnyH_take (i := 26) (oi := { dst := some 33, op := Go.Op.binOp Go.BinOp.eql 3 (Go.Operand.tmp 29) (Go.Operand.tmp 32) 3, type := 4, pos := "ref.go:77", after := #[{ on := 22, ground := Go.Ground.data }, { on := 25, ground := Go.Ground.data }, { on := 18, ground := Go.Ground.guard }], guard := some (18, true) }) (v := ?_) rfl (by kernel_rfl) (by kernel_rfl) (by kernel_rfl) (fun _ _ _ h => h) (Or.inl ⟨by rfl, ?_⟩) (by assumption) ?_
          rotate_left
          · (intro w hSw; (try dsimp only at hSw); go_simp; try with_reducible rfl)
          simp only [Act.put, List.setIfInBounds_toArray, List.set_cons_zero, List.set_cons_succ]
          refine wpAnyH_take (i := 27) (oi := { dst := some 34, op := Go.Op.pick (Go.Operand.tmp 25) (Go.Operand.tmp 33) (Go.Operand.const (Go.Value.bool false)), type := 4, pos := "ref.go:77", after := #[{ on := 18, ground := Go.Ground.data }, { on := 26, ground := Go.Ground.data }], guard := none }) (v := ?_) rfl (by kernel_rfl) (by kernel_rfl) (by kernel_rfl) (fun _ _ _ h => h) (Or.inl ⟨by rfl, ?_⟩) (by assumption) ?_
          rotate_left
          · (intro w hSw; (try dsimp only at hSw); go_simp; try with_reducible rfl)
          simp only [Act.put, List.setIfInBounds_toArray, List.set_cons_zero, List.set_cons_succ]
          refine wpAnyH_take (i := 28) (oi := { dst := some 2, op := Go.Op.assign (Go.Operand.tmp 34), type := 4, pos := "ref.go:77", after := #[{ on := 27, ground := Go.Ground.data }, { on := 21, ground := Go.Ground.chain }, { on := 0, ground := Go.Ground.phase }, { on := 1, ground := Go.Ground.phase }, { on := 2, ground := Go.Ground.phase }, { on := 3, ground := Go.Ground.phase }, { on := 4, ground := Go.Ground.phase }, { on := 5, ground := Go.Ground.phase }, { on := 6, ground := Go.Ground.phase }, { on := 7, ground := Go.Ground.phase }, { on := 8, ground := Go.Ground.phase }, { on := 9, ground := Go.Ground.phase }, { on := 10, ground := Go.Ground.phase }, { on := 11, ground := Go.Ground.phase }, { on := 12, ground := Go.Ground.phase }, { on := 13, ground := Go.Ground.phase }, { on := 14, ground := Go.Ground.phase }, { on := 15, ground := Go.Ground.phase }, { on := 16, ground := Go.Ground.phase }, { on := 17, ground := Go.Ground.phase }, { on := 18, ground := Go.Ground.phase }, { on := 19, ground := Go.Ground.phase }, { on := 20, ground := Go.Ground.phase }, { on := 21, ground := Go.Ground.phase }, { on := 22, ground := Go.Ground.phase }, { on := 23, ground := Go.Ground.phase }, { on := 24, ground := Go.Ground.phase }, { on := 25, ground := Go.Ground.phase }, { on := 26, ground := Go.Ground.phase }, { on := 27, ground := Go.Ground.phase }], guard := none }) (v := ?_) rfl (by kernel_rfl) (by kernel_rfl) (by kernel_rfl) (fun _ _ _ h => h) (Or.inl ⟨by rfl, ?_⟩) (by assumption) ?_
          rotate_left
          · (intro w hSw; (try dsimp only at hSw); go_simp; try with_reducible rfl)
          simp only [Act.put, List.setIfInBounds_toArray, List.set_cons_zero, List.set_cons_succ]
          refine wpAnyH_done (by kernel_rfl) ?_ _
          have hl1 := M1.len
          have hA2 : Hid (((n1 : Int) == (p.1.2.1 : Int)) = A) := by
            show ((n1 : Int) == (p.1.2.1 : Int)) = A
            rw [← hA', hl1]
            by_cases hh : (uniq l.attrs).length = p.1.2.1
            · rw [int_eq_yes (by omega), decide_eq_true hh]
            · rw [int_eq_no (by omega), decide_eq_false hh]
          clear hl1 M1 HU HS hA' HPL HW
          go_wp2
          go_ret
          exact ⟨by rw [← hA2.out]; rfl, KB.out.trans K1.out (fun x hx => Or.inl hx)⟩
        · have r1 : ((l.ns : Int) == 1) = false := int_eq_no s1
          by_cases s2 : l.ns = 2
          · have r2 : ((l.ns : Int) == 2) = true := int_eq_yes s2
            have hA' : decide ((uniq l.attrs).length = p.1.2.1) = A := by rw [← hA]; simp [en, et, s2, s1]
            clear hA KL en et s2 s1
            go_enter Try.func67, Try.ntmps67
            go_wp2_with fail
            rw [HW.out]
            first
            | go_region_held3 (fun V => V.cell? ⟨w.heap.size, 1, none⟩ = some (.int .i64 l.ns) ∧ V.cell? ⟨w.heap.size, 2, none⟩ = some (.string l.name) ∧ V.cell? ⟨w.heap.size, 3, none⟩ = some (.slice p.1.1 p.1.2.1 p.1.2.2) ∧ V.cell? ⟨w.heap.size, 4, none⟩ = some (.string l.text))
              (first
                | exact HS.out _ K1.out
                | exact HS.out _ (Kp.refl _ _).drew)
              (first | (go_at_call 76; refine (HU.out _ (Kp.refl _ _).drew).mono ?_; rintro e w1 ⟨ao1, n1, d1, rfl, M1⟩; have K1 : Hid (Kp [] B w1) := (Kp.refl _ _).drew.trans M1.kp (fun x hx => Or.inl hx)))
            | fail
            have hl1 := M1.len
            have hA2 : Hid (((n1 : Int) == (p.1.2.1 : Int)) = A) := by
              show ((n1 : Int) == (p.1.2.1 : Int)) = A
              rw [← hA', hl1]
              by_cases hh : (uniq l.attrs).length = p.1.2.1
              · rw [int_eq_yes (by omega), decide_eq_true hh]
              · rw [int_eq_no (by omega), decide_eq_false hh]
            clear hl1 M1 HU HS hA' HPL HW
            go_wp2
            go_ret
            exact ⟨by rw [← hA2.out]; rfl, KB.out.trans K1.out (fun x hx => Or.inl hx)⟩
          · have r2 : ((l.ns : Int) == 2) = false := int_eq_no s2
            obtain rfl : false = A := by rw [← hA]; simp [en, et, s1, s2]
            clear hA HU HS HPL HW KB en et s1 s2
            go_enter Try.func67, Try.ntmps67
            go_wp2_with fail
            go_quiet (fail)
            go_wp2
            go_ret
            exact ⟨rfl, KL.out.drewN nq⟩
      · have qtext : (l.text.toList == NON.toList) = false := eqs_no et
        rw [show NON.toList = [] from by decide +kernel] at qtext
        have ztext : (l.text.toList != []) = true := by simp only [bne, qtext]; rfl
        by_cases s1 : l.ns = 1
        · have r1 : ((l.ns : Int) == 1) = true := int_eq_yes s1
          obtain rfl : false = A := by rw [← hA]; simp [en, et, s1]
          clear hA HU HS HPL HW KB en et s1
          go_enter Try.func67, Try.ntmps67
          go_wp2_with fail
          go_quiet (fail)
          go_wp2
          go_ret
          exact ⟨rfl, KL.out.drewN nq⟩
        · have r1 : ((l.ns : Int) == 1) = false := int_eq_no s1
          by_cases s2 : l.ns = 2
          · have r2 : ((l.ns : Int) == 2) = true := int_eq_yes s2
            obtain rfl : false = A := by rw [← hA]; simp [en, et, s1, s2]
            clear hA HU HS HPL HW KB en et s1 s2
            go_enter Try.func67, Try.ntmps67
            go_wp2_with fail
            go_quiet (fail)
            go_wp2
            go_ret
            exact ⟨rfl, KL.out.drewN nq⟩
          · have r2 : ((l.ns : Int) == 2) = false := int_eq_no s2
            obtain rfl : false = A := by rw [← hA]; simp [en, et, s1, s2]
            clear hA HU HS HPL HW KB en et s1 s2
            go_enter Try.func67, Try.ntmps67
            go_wp2_with fail
            go_quiet (fail)
            go_wp2
            go_ret
            exact ⟨rfl, KL.out.drewN nq⟩
  · have r3k : ((l.kind : Int) == 3) = false := int_eq_no h3
    by_cases h4 : l.kind = 4
    · have r4k : ((l.kind : Int) == 4) = true := int_eq_yes h4
      rw [if_neg h3, if_pos h4] at hA
      clear h3 h4
      by_cases ens : l.ns = 0
      · have rns : ((l.ns : Int) == 0) = true := int_eq_yes ens
        by_cases ename : l.name = NON
        · have qname : (l.name.toList == NON.toList) = true := eqs_yes ename
          rw [show NON.toList = [] from by decide +kernel] at qname
          have zname : (l.name.toList != []) = false := by simp only [bne, qname]; rfl
          by_cases eat : p.1.2.1 = 0
          · have rat : ((p.1.2.1 : Int) == 0) = true := int_eq_yes (by omega)
            by_cases etext : l.text = NON
            · have qtext : (l.text.toList == NON.toList) = true := eqs_yes etext
              rw [show NON.toList = [] from by decide +kernel] at qtext
              have ztext : (l.text.toList != []) = false := by simp only [bne, qtext]; rfl
              obtain rfl : false = A := by rw [← hA]; simp [ens, ename, eat, etext]
              clear hA HU HS HPL HW KB ens ename eat etext
              go_enter Try.func67, Try.ntmps67
              go_wp2
              go_ret
              exact ⟨rfl, KL.out⟩
            · have qtext : (l.text.toList == NON.toList) = false := eqs_no etext
              rw [show NON.toList = [] from by decide +kernel] at qtext
              have ztext : (l.text.toList != []) = true := by simp only [bne, qtext]; rfl
              by_cases ekd : p.2.2.1 = 0
              · have rkd : ((p.2.2.1 : Int) == 0) = true := int_eq_yes (by omega)
                obtain rfl : true = A := by rw [← hA]; simp [ens, ename, eat, etext, ekd]
                clear hA HU HS HPL HW KB ens ename eat etext ekd
                go_enter Try.func67, Try.ntmps67
                go_wp2
                go_ret
                exact ⟨rfl, KL.out⟩
              · have rkd : ((p.2.2.1 : Int) == 0) = false := int_eq_no (by omega)
                obtain rfl : false = A := by rw [← hA]; simp [ens, ename, eat, etext, ekd]
                clear hA HU HS HPL HW KB ens ename eat etext ekd
                go_enter Try.func67, Try.ntmps67
                go_wp2
                go_ret
                exact ⟨rfl, KL.out⟩
          · have rat : ((p.1.2.1 : Int) == 0) = false := int_eq_no (by omega)
            obtain rfl : false = A := by rw [← hA]; simp [ens, ename, eat]
            clear hA HU HS HPL HW KB ens ename eat
            go_enter Try.func67, Try.ntmps67
            go_wp2
            go_ret
            exact ⟨rfl, KL.out⟩
        · have qname : (l.name.toList == NON.toList) = false := eqs_no ename
          rw [show NON.toList = [] from by decide +kernel] at qname
          have zname : (l.name.toList != []) = true := by simp only [bne, qname]; rfl
          obtain rfl : false = A := by rw [← hA]; simp [ens, ename]
          clear hA HU HS HPL HW KB ens ename
          go_enter Try.func67, Try.ntmps67
          go_wp2
          go_ret
          exact ⟨rfl, KL.out⟩
      · have rns : ((l.ns : Int) == 0) = false := int_eq_no ens
        obtain rfl : false = A := by rw [← hA]; simp [ens]
        clear hA HU HS HPL HW KB ens
        go_enter Try.func67, Try.ntmps67
        go_wp2
        go_ret
        exact ⟨rfl, KL.out⟩
    · have r4k : ((l.kind : Int) == 4) = false := int_eq_no h4
      by_cases h5 : l.kind = 5
      · have r5k : ((l.kind : Int) == 5) = true := int_eq_yes h5
        rw [if_neg h3, if_neg h4, if_pos h5] at hA
        clear h3 h4 h5
        by_cases ens : l.ns = 0
        · have rns : ((l.ns : Int) == 0) = true := int_eq_yes ens
          by_cases ename : l.name = NON
          · have qname : (l.name.toList == NON.toList) = true := eqs_yes ename
            rw [show NON.toList = [] from by decide +kernel] at qname
            have zname : (l.name.toList != []) = false := by simp only [bne, qname]; rfl
            by_cases eat : p.1.2.1 = 0
            · have rat : ((p.1.2.1 : Int) == 0) = true := int_eq_yes (by omega)
              by_cases ekd : p.2.2.1 = 0
              · have rkd : ((p.2.2.1 : Int) == 0) = true := int_eq_yes (by omega)
                obtain rfl : true = A := by rw [← hA]; simp [ens, ename, eat, ekd]
                clear hA HU HS HPL HW KB ens ename eat ekd
                go_enter Try.func67, Try.ntmps67
                go_wp2
                go_ret
                exact ⟨rfl, KL.out⟩
              · have rkd : ((p.2.2.1 : Int) == 0) = false := int_eq_no (by omega)
                obtain rfl : false = A := by rw [← hA]; simp [ens, ename, eat, ekd]
                clear hA HU HS HPL HW KB ens ename eat ekd
                go_enter Try.func67, Try.ntmps67
                go_wp2
                go_ret
                exact ⟨rfl, KL.out⟩
            · have rat : ((p.1.2.1 : Int) == 0) = false := int_eq_no (by omega)
              obtain rfl : false = A := by rw [← hA]; simp [ens, ename, eat]
              clear hA HU HS HPL HW KB ens ename eat
              go_enter Try.func67, Try.ntmps67
              go_wp2
              go_ret
              exact ⟨rfl, KL.out⟩
          · have qname : (l.name.toList == NON.toList) = false := eqs_no ename
            rw [show NON.toList = [] from by decide +kernel] at qname
            have zname : (l.name.toList != []) = true := by simp only [bne, qname]; rfl
            obtain rfl : false = A := by rw [← hA]; simp [ens, ename]
            clear hA HU HS HPL HW KB ens ename
            go_enter Try.func67, Try.ntmps67
            go_wp2
            go_ret
            exact ⟨rfl, KL.out⟩
        · have rns : ((l.ns : Int) == 0) = false := int_eq_no ens
          obtain rfl : false = A := by rw [← hA]; simp [ens]
          clear hA HU HS HPL HW KB ens
          go_enter Try.func67, Try.ntmps67
          go_wp2
          go_ret
          exact ⟨rfl, KL.out⟩
      · have r5k : ((l.kind : Int) == 5) = false := int_eq_no h5
        by_cases h2 : l.kind = 2
        · have r2k : ((l.kind : Int) == 2) = true := int_eq_yes h2
          rw [if_neg h3, if_neg h4, if_neg h5, if_pos h2] at hA
          clear h3 h4 h5 h2
          by_cases ens : l.ns = 0
          · have rns : ((l.ns : Int) == 0) = true := int_eq_yes ens
            by_cases etext : l.text = NON
            · have qtext : (l.text.toList == NON.toList) = true := eqs_yes etext
              rw [show NON.toList = [] from by decide +kernel] at qtext
              have ztext : (l.text.toList != []) = false := by simp only [bne, qtext]; rfl
              by_cases eat : p.1.2.1 = 0
              · have rat : ((p.1.2.1 : Int) == 0) = true := int_eq_yes (by omega)
                by_cases ekd : p.2.2.1 = 0
                · have rkd : ((p.2.2.1 : Int) == 0) = true := int_eq_yes (by omega)
                  obtain rfl : true = A := by rw [← hA]; simp [ens, etext, eat, ekd]
                  clear hA HU HS HPL HW KB ens etext eat ekd
                  go_enter Try.func67, Try.ntmps67
                  go_wp2
                  go_ret
                  exact ⟨rfl, KL.out⟩
                · have rkd : ((p.2.2.1 : Int) == 0) = false := int_eq_no (by omega)
                  obtain rfl : false = A := by rw [← hA]; simp [ens, etext, eat, ekd]
                  clear hA HU HS HPL HW KB ens etext eat ekd
                  go_enter Try.func67, Try.ntmps67
                  go_wp2
                  go_ret
                  exact ⟨rfl, KL.out⟩
              · have rat : ((p.1.2.1 : Int) == 0) = false := int_eq_no (by omega)
                obtain rfl : false = A := by rw [← hA]; simp [ens, etext, eat]
                clear hA HU HS HPL HW KB ens etext eat
                go_enter Try.func67, Try.ntmps67
                go_wp2
                go_ret
                exact ⟨rfl, KL.out⟩
            · have qtext : (l.text.toList == NON.toList) = false := eqs_no etext
              rw [show NON.toList = [] from by decide +kernel] at qtext
              have ztext : (l.text.toList != []) = true := by simp only [bne, qtext]; rfl
              obtain rfl : false = A := by rw [← hA]; simp [ens, etext]
              clear hA HU HS HPL HW KB ens etext
              go_enter Try.func67, Try.ntmps67
              go_wp2
              go_ret
              exact ⟨rfl, KL.out⟩
          · have rns : ((l.ns : Int) == 0) = false := int_eq_no ens
            obtain rfl : false = A := by rw [← hA]; simp [ens]
            clear hA HU HS HPL HW KB ens
            go_enter Try.func67, Try.ntmps67
            go_wp2
            go_ret
            exact ⟨rfl, KL.out⟩
        · have r2k : ((l.kind : Int) == 2) = false := int_eq_no h2
          by_cases h1 : l.kind = 1
          · have r1k : ((l.kind : Int) == 1) = true := int_eq_yes h1
            rw [if_neg h3, if_neg h4, if_neg h5, if_neg h2, if_pos (by omega)] at hA
            clear h3 h4 h5 h2 h1
            by_cases ens : l.ns = 0
            · have rns : ((l.ns : Int) == 0) = true := int_eq_yes ens
              by_cases ename : l.name = NON
              · have qname : (l.name.toList == NON.toList) = true := eqs_yes ename
                rw [show NON.toList = [] from by decide +kernel] at qname
                have zname : (l.name.toList != []) = false := by simp only [bne, qname]; rfl
                by_cases etext : l.text = NON
                · have qtext : (l.text.toList == NON.toList) = true := eqs_yes etext
                  rw [show NON.toList = [] from by decide +kernel] at qtext
                  have ztext : (l.text.toList != []) = false := by simp only [bne, qtext]; rfl
                  by_cases eat : p.1.2.1 = 0
                  · have rat : ((p.1.2.1 : Int) == 0) = true := int_eq_yes (by omega)
                    obtain rfl : true = A := by rw [← hA]; simp [ens, ename, etext, eat]
                    clear hA HU HS HPL HW KB ens ename etext eat
                    go_enter Try.func67, Try.ntmps67
                    go_wp2
                    go_ret
                    exact ⟨rfl, KL.out⟩
                  · have rat : ((p.1.2.1 : Int) == 0) = false := int_eq_no (by omega)
                    obtain rfl : false = A := by rw [← hA]; simp [ens, ename, etext, eat]
                    clear hA HU HS HPL HW KB ens ename etext eat
                    go_enter Try.func67, Try.ntmps67
                    go_wp2
                    go_ret
                    exact ⟨rfl, KL.out⟩
                · have qtext : (l.text.toList == NON.toList) = false := eqs_no etext
                  rw [show NON.toList = [] from by decide +kernel] at qtext
                  have ztext : (l.text.toList != []) = true := by simp only [bne, qtext]; rfl
                  obtain rfl : false = A := by rw [← hA]; simp [ens, ename, etext]
                  clear hA HU HS HPL HW KB ens ename etext
                  go_enter Try.func67, Try.ntmps67
                  go_wp2
                  go_ret
                  exact ⟨rfl, KL.out⟩
              · have qname : (l.name.toList == NON.toList) = false := eqs_no ename
                rw [show NON.toList = [] from by decide +kernel] at qname
                have zname : (l.name.toList != []) = true := by simp only [bne, qname]; rfl
                obtain rfl : false = A := by rw [← hA]; simp [ens, ename]
                clear hA HU HS HPL HW KB ens ename
                go_enter Try.func67, Try.ntmps67
                go_wp2
                go_ret
                exact ⟨rfl, KL.out⟩
            · have rns : ((l.ns : Int) == 0) = false := int_eq_no ens
              obtain rfl : false = A := by rw [← hA]; simp [ens]
              clear hA HU HS HPL HW KB ens
              go_enter Try.func67, Try.ntmps67
              go_wp2
              go_ret
              exact ⟨rfl, KL.out⟩
          · have r1k : ((l.kind : Int) == 1) = false := int_eq_no h1
            by_cases h6 : l.kind = 6
            · have r6k : ((l.kind : Int) == 6) = true := int_eq_yes h6
              rw [if_neg h3, if_neg h4, if_neg h5, if_neg h2, if_pos (by omega)] at hA
              clear h3 h4 h5 h2 h1 h6
              by_cases ens : l.ns = 0
              · have rns : ((l.ns : Int) == 0) = true := int_eq_yes ens
                by_cases ename : l.name = NON
                · have qname : (l.name.toList == NON.toList) = true := eqs_yes ename
                  rw [show NON.toList = [] from by decide +kernel] at qname
                  have zname : (l.name.toList != []) = false := by simp only [bne, qname]; rfl
                  by_cases etext : l.text = NON
                  · have qtext : (l.text.toList == NON.toList) = true := eqs_yes etext
                    rw [show NON.toList = [] from by decide +kernel] at qtext
                    have ztext : (l.text.toList != []) = false := by simp only [bne, qtext]; rfl
                    by_cases eat : p.1.2.1 = 0
                    · have rat : ((p.1.2.1 : Int) == 0) = true := int_eq_yes (by omega)
                      obtain rfl : true = A := by rw [← hA]; simp [ens, ename, etext, eat]
                      clear hA HU HS HPL HW KB ens ename etext eat
                      go_enter Try.func67, Try.ntmps67
                      go_wp2
                      go_ret
                      exact ⟨rfl, KL.out⟩
                    · have rat : ((p.1.2.1 : Int) == 0) = false := int_eq_no (by omega)
                      obtain rfl : false = A := by rw [← hA]; simp [ens, ename, etext, eat]
                      clear hA HU HS HPL HW KB ens ename etext eat
                      go_enter Try.func67, Try.ntmps67
                      go_wp2
                      go_ret
                      exact ⟨rfl, KL.out⟩
                  · have qtext : (l.text.toList == NON.toList) = false := eqs_no etext
                    rw [show NON.toList = [] from by decide +kernel] at qtext
                    have ztext : (l.text.toList != []) = true := by simp only [bne, qtext]; rfl
                    obtain rfl : false = A := by rw [← hA]; simp [ens, ename, etext]
                    clear hA HU HS HPL HW KB ens ename etext
                    go_enter Try.func67, Try.ntmps67
                    go_wp2
                    go_ret
                    exact ⟨rfl, KL.out⟩
                · have qname : (l.name.toList == NON.toList) = false := eqs_no ename
                  rw [show NON.toList = [] from by decide +kernel] at qname
                  have zname : (l.name.toList != []) = true := by simp only [bne, qname]; rfl
                  obtain rfl : false = A := by rw [← hA]; simp [ens, ename]
                  clear hA HU HS HPL HW KB ens ename
                  go_enter Try.func67, Try.ntmps67
                  go_wp2
                  go_ret
                  exact ⟨rfl, KL.out⟩
              · have rns : ((l.ns : Int) == 0) = false := int_eq_no ens
                obtain rfl : false = A := by rw [← hA]; simp [ens]
                clear hA HU HS HPL HW KB ens
                go_enter Try.func67, Try.ntmps67
                go_wp2
                go_ret
                exact ⟨rfl, KL.out⟩
            · have r6k : ((l.kind : Int) == 6) = false := int_eq_no h6
              rw [if_neg h3, if_neg h4, if_neg h5, if_neg h2, if_neg (by omega)] at hA
              subst hA
              clear HU HS HPL HW KB h1 h6 h2 h3 h4 h5
              go_enter Try.func67, Try.ntmps67
              go_wp2
              go_ret
              exact ⟨rfl, KL.out⟩

end Go.Proofs.Ytgnbafgglkncmaa
