/-
  grow of the law: a tree of a row of nodes.
-/
import Derived.Test.YtgnbafgglkncmaaUnderZ
import Derived.Test.YtgnbafgglkncmaaShort
import Derived.Deep.CutRange
namespace Go.Proofs.Ytgnbafgglkncmaa
open Go.RowKit
set_option linter.unusedVariables false
set_option linter.unusedSimpArgs false

/-- One of a row that trees are made of: Kind, NS, Up, Name, Text, Attrs. -/
abbrev Nn := Int × Int × Int × ByteArray × ByteArray × List Att
abbrev Nn.kind (n : Nn) : Int := n.1
abbrev Nn.ns (n : Nn) : Int := n.2.1
abbrev Nn.up (n : Nn) : Int := n.2.2.1
abbrev Nn.name (n : Nn) : ByteArray := n.2.2.2.1
abbrev Nn.text (n : Nn) : ByteArray := n.2.2.2.2.1
abbrev Nn.attrs (n : Nn) : List Att := n.2.2.2.2.2

/-- Its cells. -/
def CN (w : World) (b off : Nat) (n : Nn) (ao : Option Addr) (m c : Nat) : Prop := w.cell? ⟨b, off, none⟩ = some (.int .i64 n.kind) ∧ w.cell? ⟨b, off + 1, none⟩ = some (.int .i64 n.ns) ∧ w.cell? ⟨b, off + 2, none⟩ = some (.int .i64 n.up) ∧ w.cell? ⟨b, off + 3, none⟩ = some (.string n.name) ∧ w.cell? ⟨b, off + 4, none⟩ = some (.string n.text) ∧ w.cell? ⟨b, off + 5, none⟩ = some (.slice ao m c)

theorem CN.kept {w W : World} {b off : Nat} {n : Nn} {ao : Option Addr} {m c : Nat} (h : CN w b off n ao m c) (k : Kp [] w W) : CN W b off n ao m c := by
  obtain ⟨h0, h1, h2, h3, h4, h5⟩ := h
  have hb := block_lt_of_cell h0
  have hk : ∀ j, W.cell? ⟨b, j, none⟩ = w.cell? ⟨b, j, none⟩ := fun j => k.cell (a := ⟨b, j, none⟩) hb (by simp)
  exact ⟨by rw [hk]; exact h0, by rw [hk]; exact h1, by rw [hk]; exact h2, by rw [hk]; exact h3, by rw [hk]; exact h4, by rw [hk]; exact h5⟩

/-- A slice of them. -/
structure Ns (w : World) (ao : Option Addr) (n c : Nat) (L : List Nn) : Prop where
  len : n = L.length
  cap : n ≤ c
  at' : ∀ i (h : i < L.length), ∃ b off pa pn pc, ao = some ⟨b, off, none⟩ ∧ CN w b (off + i * 6) L[i] pa pn pc ∧ Rp w pa pn pc L[i].attrs ∧ pn ≤ 140737488355328

theorem Ns.kept {w W : World} {ao : Option Addr} {n c : Nat} {L : List Nn} (h : Ns w ao n c L) (k : Kp [] w W) : Ns W ao n c L := by
  refine ⟨h.len, h.cap, fun i hi => ?_⟩
  obtain ⟨b, off, pa, pn, pc, h1, h2, h3, h4⟩ := h.at' i hi
  exact ⟨b, off, pa, pn, pc, h1, h2.kept k, h3.kept k, h4⟩

/-- What comes of one. -/
def cutN (n : Nn) : Lb := (n.kind, n.ns, cutB n.name 9, short n.attrs, cutB n.text 9)
def nodeN (right : Bool) (n : Nn) : Int × Lb × Fo := if right then (n.up, madeF n.kind n.ns (cutB n.name 9) (cutB n.text 9)) else (n.up, cutN n, .nil)
def rowN (right : Bool) (L : List Nn) : List (Int × Lb × Fo) := (L.take 30).map (nodeN right)
def growT (right : Bool) (L : List Nn) : Fo := (growF (rowN right L)).1

theorem rowN_len (right : Bool) (L : List Nn) : (rowN right L).length = min 30 L.length := by simp [rowN]
theorem rowN_take (right : Bool) (L : List Nn) {i : Nat} (h : i < L.length) (h30 : i < 30) : (rowN right L).take (i + 1) = (rowN right L).take i ++ [nodeN right L[i]] := by
  have hi : i < (rowN right L).length := by rw [rowN_len]; omega
  rw [List.take_succ_eq_append_getElem hi]
  congr 2
  simp [rowN]

theorem rowN_cnt (right : Bool) (L : List Nn) (i : Nat) : ((rowN right L).take i).length ≤ 30 ∧ ∀ n, n ∈ (rowN right L).take i → n.2.2.cnt ≤ 1 := by
  refine ⟨by rw [List.length_take, rowN_len]; omega, fun n hn => ?_⟩
  have := List.mem_of_mem_take hn
  simp only [rowN, List.mem_map] at this
  obtain ⟨m, _, rfl⟩ := this
  unfold nodeN
  split
  · exact made_cnt _ _ _ _
  · simp

theorem cutB_le (s : ByteArray) (m : Nat) : (cutB s m).size ≤ m := by
  unfold cutB
  split
  · simp; omega
  · omega

theorem hd_any (w : World) (s : ByteArray) : Calls Try.prog 18 #[.string s, .int .i64 9] w fun e w' => e = .returned (.string (cutB s 9)) ∧ Kp [] w w' := by
  have := cut_any w s 9 (by decide)
  refine Calls.mono this ?_
  rintro e w' ⟨rfl, rfl⟩
  exact ⟨rfl, Kp.refl _ _⟩

/-- The loop: the tree so far, in the variable's block, and the way. -/
def Gr (w wr : World) (s : Nat) (M : List (Int × Lb × Fo)) (i : Nat) (ao : Option Addr) (n c : Nat) : Prop :=
  ∃ p : Pl, At wr (s + 1) #[.int .i64 1, .int .i64 0, .string ⟨#[]⟩, .slice p.1.1 p.1.2.1 p.1.2.2, .string ⟨#[]⟩, .slice p.2.1 p.2.2.1 p.2.2.2] 25 ∧ At wr s #[.int .i64 0, .int .i64 0, .string ⟨#[]⟩, .slice none 0 0, .string ⟨#[]⟩, .slice none 0 0] 25 ∧ Nd (fun z => z ≠ s ∧ z ≠ s + 1) wr lD (growF (M.take i)).1 p ∧ Rk (fun z => z ≠ s ∧ z ≠ s + 1) 1 wr ao n c (iv (growF (M.take i)).2) ∧ Kp [] w wr ∧ s + 2 ≤ wr.heap.size ∧ n ≤ i

set_option maxRecDepth 100000 in
set_option maxHeartbeats 4000000 in
theorem grow_any (w : World) (L : List Nn) (lo : Option Addr) (ln lc : Nat) (right : Bool) (h : Ns w lo ln lc L) :
    Calls Try.prog 11 #[.slice lo ln lc, .bool right] w fun e w' => ∃ p, e = .returned (wv lD p) ∧ Nd Any w' lD (growT right L) p ∧ Kp [] w w' := by
  obtain ⟨s, hs⟩ : ∃ s, w.heap.size = s := ⟨_, rfl⟩
  obtain ⟨B, hB⟩ : ∃ B, B = ((w.alloc (.cells #[.int .i64 0, .int .i64 0, .string ⟨#[]⟩, .slice none 0 0, .string ⟨#[]⟩, .slice none 0 0] 25)).alloc (.cells #[.int .i64 1, .int .i64 0, .string ⟨#[]⟩, .slice none 0 0, .string ⟨#[]⟩, .slice none 0 0] 25)).alloc (.cells #[] 3) := ⟨_, rfl⟩
  have hlen := h.len
  subst hlen
  have G0 : Gr w B s (rowN right L) 0 (some ⟨s + 1 + 1, 0, none⟩) 0 0 := by
    refine ⟨((none, 0, 0), (none, 0, 0)), ?_, ?_, Nd.bare _ _ _ _ _ _ (Rt.nil _ _ none 0), Rk.nil _ 1 _ _ _, ?_, ?_, Nat.le_refl _⟩
    · rw [hB, ← hs]; exact (At.new' _ _ _ _ (by simp)).kept ((Kp.refl [] _).alloc _) (by simp)
    · rw [hB, ← hs]; exact ((At.new _ _ _).kept ((Kp.refl [] _).alloc _) (by simp)).kept ((Kp.refl [] _).alloc _) (by simp)
    · rw [hB]; exact (((Kp.refl _ _).alloc _).alloc _).alloc _
    · rw [hB, ← hs]; simp
  have HW : Hid (((w.alloc (.cells #[.int .i64 0, .int .i64 0, .string ⟨#[]⟩, .slice none 0 0, .string ⟨#[]⟩, .slice none 0 0] 25)).alloc (.cells #[.int .i64 1, .int .i64 0, .string ⟨#[]⟩, .slice none 0 0, .string ⟨#[]⟩, .slice none 0 0] 25)).alloc (.cells #[] 3) = B) := hB.symm
  have HS : Hid (w.heap.size = s) := hs
  have HM : Hid (∀ i (hi : i < L.length), i < 30 → (rowN right L).take (i + 1) = (rowN right L).take i ++ [nodeN right L[i]]) := fun i hi h30 => rowN_take right L hi h30
  have HL : Hid ((rowN right L).length = min 30 L.length) := rowN_len right L
  have HR : Hid (∀ i, ((rowN right L).take i).length ≤ 30 ∧ ∀ n, n ∈ (rowN right L).take i → n.2.2.cnt ≤ 1) := rowN_cnt right L
  have HT : Hid ((growF (rowN right L)).1 = growT right L) := rfl
  generalize growT right L = GT at HT ⊢
  simp only [lD, wv]
  clear hB
  cases right
  · go_enter Try.func11, Try.ntmps11
    go_wp2_with fail
    rw [HW.out]
    clear HW hs
    go_loopw [6, 7] (fun x6 x7 wr => ∃ (i : Nat) (ao : Option Addr) (n c : Nat), x6 = .slice ao n c ∧ x7 = .int .i64 i ∧ i ≤ 30 ∧ i ≤ L.length ∧ Gr w wr s (rowN false L) i ao n c) (fun x6 x7 wr => 30 - (intOf x7).toNat)
    case atStart => exact ⟨0, _, _, _, rfl, rfl, Nat.zero_le _, Nat.zero_le _, G0⟩
    case round =>
      clear G0
      obtain ⟨i, ao, n, c, rfl, rfl, hi, hiL, Gi⟩ := hrel
      obtain ⟨p, T5, T4, ND, RW, kw, hsz, hni⟩ := Gi
      have hcap := RW.cap
      by_cases hlt : i < L.length ∧ i < 30
      · obtain ⟨lt1, lt2⟩ := hlt
        obtain ⟨b, off, pa, pn, pc, rfl, hCN, hRp, hpn⟩ := h.at' i lt1
        have hM := HM.out i lt1 lt2
        have HI : Hid (growF ((rowN false L).take (i + 1)) = growS (growF ((rowN false L).take i)) (nodeN false L[i])) := by
          show growF ((rowN false L).take (i + 1)) = _
          rw [hM, grow_snoc]
        have hnode : Hid (nodeN false L[i] = (L[i].up, cutN L[i], .nil)) := rfl
        have hcc := grow_cnt _ (HR.out i).2
        have hw0 := grow_way ((rowN false L).take i)
        have hl0 := grow_len ((rowN false L).take i)
        have hr0 := (HR.out i).1
        generalize L[i] = nd at hCN hRp HI hnode
        generalize growF ((rowN false L).take i) = gi at ND RW HI hcc hw0 hl0
        have b1 : decide ((i : Int) < (L.length : Int)) = true := decide_eq_true (by omega)
        have b2 : decide ((i : Int) < 30) = true := decide_eq_true (by omega)
        have j1 : (0 : Int) ≤ (i : Int) := by omega
        have j2 : (i : Int) < (L.length : Int) := by omega
        have CNW : Hid (∀ W, Kp [] wr W → CN W b (off + i * 6) nd pa pn pc) := fun W kW => (hCN.kept kw).kept kW
        have SH : Hid (∀ W, Kp [] wr W → Calls Try.prog 27 #[.slice pa pn pc] W fun e w' => ∃ ao' n' c', e = .returned (.slice ao' n' c') ∧ Mp W w' ao' n' c' (short nd.attrs)) := fun W kW => short_any W nd.attrs pa pn pc ((hRp.kept kw).kept kW) hpn
        clear hCN hRp hM
        go_wp2_with fail
        go_cut [8] from 12 to 78 (fun x8 wc => ∃ (g8 : Nat) (pX : Pl), x8 = .pointer (some ⟨g8, 0, none⟩) ∧ At wc g8 #[.int .i64 nd.kind, .int .i64 nd.ns, .string (cutB nd.name 9), .slice pX.1.1 pX.1.2.1 pX.1.2.2, .string (cutB nd.text 9), .slice pX.2.1 pX.2.2.1 pX.2.2.2] 25 ∧ Nd (fun z => wr.heap.size ≤ z ∧ z ≠ g8) wc (cutN nd) .nil pX ∧ Kp [] wr wc ∧ wr.heap.size ≤ g8)
        case first =>
          obtain ⟨U0, hU0⟩ : ∃ V, V = wr.drew := ⟨_, rfl⟩
          have k0 : Kp [] wr U0 := by rw [hU0]; exact (Kp.refl _ _).drew
          refine wp_region_g (S := fun V => CN V b (off + i * 6) nd pa pn pc) (T := [30]) (by kernel_rfl) (CNW.out _ (Kp.refl [] wr).drew) (fun hHeld => ?_)
          rw [← hU0] at hHeld ⊢
          clear hU0
          refine wpAnyG_pure (i := 0) (oi := { dst := some 22, op := Go.Op.move (Go.Operand.tmp 0), type := 30, pos := "law.go:24", after := #[], guard := none }) (v := ?_) rfl (by kernel_rfl) (by kernel_rfl) (by kernel_rfl) (by kernel_rfl) (fun _ _ _ h => h) (Or.inl ⟨by rfl, ?_⟩) (by assumption) ?_
          rotate_left
          · (intro w; go_simp; try with_reducible rfl)
          simp only [Act.put, List.setIfInBounds_toArray, List.set_cons_zero, List.set_cons_succ]
          refine wpAnyG_pure (i := 1) (oi := { dst := some 23, op := Go.Op.move (Go.Operand.tmp 7), type := 3, pos := "law.go:24", after := #[], guard := none }) (v := ?_) rfl (by kernel_rfl) (by kernel_rfl) (by kernel_rfl) (by kernel_rfl) (fun _ _ _ h => h) (Or.inl ⟨by rfl, ?_⟩) (by assumption) ?_
          rotate_left
          · (intro w; go_simp; try with_reducible rfl)
          simp only [Act.put, List.setIfInBounds_toArray, List.set_cons_zero, List.set_cons_succ]
          refine wpAnyG_pure (i := 2) (oi := { dst := some 24, op := Go.Op.indexAddr 30 (Go.Operand.tmp 22) (Go.Operand.tmp 23), type := 0, pos := "law.go:24", after := #[{ on := 0, ground := Go.Ground.data }, { on := 1, ground := Go.Ground.data }], guard := none }) (v := ?_) rfl (by kernel_rfl) (by kernel_rfl) (by kernel_rfl) (by kernel_rfl) (fun _ _ _ h => h) (Or.inl ⟨by rfl, ?_⟩) (by assumption) ?_
          rotate_left
          · (intro w; go_simp; try with_reducible rfl)
          simp only [Act.put, List.setIfInBounds_toArray, List.set_cons_zero, List.set_cons_succ]
          refine wpAnyG_pure (i := 3) (oi := { dst := some 25, op := Go.Op.fieldAddr 42 (Go.Operand.tmp 24) 0, type := 0, pos := "law.go:24", after := #[{ on := 2, ground := Go.Ground.data }], guard := none }) (v := ?_) rfl (by kernel_rfl) (by kernel_rfl) (by kernel_rfl) (by kernel_rfl) (fun _ _ _ h => h) (Or.inl ⟨by rfl, ?_⟩) (by assumption) ?_
          rotate_left
          · (intro w; go_simp; try with_reducible rfl)
          simp only [Act.put, List.setIfInBounds_toArray, List.set_cons_zero, List.set_cons_succ]
          refine wpAnyG_take (i := 4) (oi := { dst := some 26, op := Go.Op.load 3 (Go.Operand.tmp 25), type := 3, pos := "law.go:24", after := #[{ on := 3, ground := Go.Ground.data }], guard := none }) (v := ?_) rfl (by kernel_rfl) (by kernel_rfl) (by kernel_rfl) (by kernel_rfl) (fun _ _ _ h => h) (Or.inl ⟨by rfl, ?_⟩) (by assumption) ?_
          rotate_left
          · (intro w hSw; (obtain ⟨c0, c1, c2, c3, c4, c5⟩ := hSw); go_simp; try with_reducible rfl)
          simp only [Act.put, List.setIfInBounds_toArray, List.set_cons_zero, List.set_cons_succ]
          refine wpAnyG_pure (i := 5) (oi := { dst := some 27, op := Go.Op.move (Go.Operand.tmp 0), type := 30, pos := "law.go:24", after := #[], guard := none }) (v := ?_) rfl (by kernel_rfl) (by kernel_rfl) (by kernel_rfl) (by kernel_rfl) (fun _ _ _ h => h) (Or.inl ⟨by rfl, ?_⟩) (by assumption) ?_
          rotate_left
          · (intro w; go_simp; try with_reducible rfl)
          simp only [Act.put, List.setIfInBounds_toArray, List.set_cons_zero, List.set_cons_succ]
          refine wpAnyG_pure (i := 6) (oi := { dst := some 28, op := Go.Op.move (Go.Operand.tmp 7), type := 3, pos := "law.go:24", after := #[], guard := none }) (v := ?_) rfl (by kernel_rfl) (by kernel_rfl) (by kernel_rfl) (by kernel_rfl) (fun _ _ _ h => h) (Or.inl ⟨by rfl, ?_⟩) (by assumption) ?_
          rotate_left
          · (intro w; go_simp; try with_reducible rfl)
          simp only [Act.put, List.setIfInBounds_toArray, List.set_cons_zero, List.set_cons_succ]
          refine wpAnyG_pure (i := 7) (oi := { dst := some 29, op := Go.Op.indexAddr 30 (Go.Operand.tmp 27) (Go.Operand.tmp 28), type := 0, pos := "law.go:24", after := #[{ on := 5, ground := Go.Ground.data }, { on := 6, ground := Go.Ground.data }], guard := none }) (v := ?_) rfl (by kernel_rfl) (by kernel_rfl) (by kernel_rfl) (by kernel_rfl) (fun _ _ _ h => h) (Or.inl ⟨by rfl, ?_⟩) (by assumption) ?_
          rotate_left
          · (intro w; go_simp; try with_reducible rfl)
          simp only [Act.put, List.setIfInBounds_toArray, List.set_cons_zero, List.set_cons_succ]
          refine wpAnyG_pure (i := 8) (oi := { dst := some 30, op := Go.Op.fieldAddr 42 (Go.Operand.tmp 29) 1, type := 0, pos := "law.go:24", after := #[{ on := 7, ground := Go.Ground.data }], guard := none }) (v := ?_) rfl (by kernel_rfl) (by kernel_rfl) (by kernel_rfl) (by kernel_rfl) (fun _ _ _ h => h) (Or.inl ⟨by rfl, ?_⟩) (by assumption) ?_
          rotate_left
          · (intro w; go_simp; try with_reducible rfl)
          simp only [Act.put, List.setIfInBounds_toArray, List.set_cons_zero, List.set_cons_succ]
          refine wpAnyG_take (i := 9) (oi := { dst := some 31, op := Go.Op.load 3 (Go.Operand.tmp 30), type := 3, pos := "law.go:24", after := #[{ on := 8, ground := Go.Ground.data }], guard := none }) (v := ?_) rfl (by kernel_rfl) (by kernel_rfl) (by kernel_rfl) (by kernel_rfl) (fun _ _ _ h => h) (Or.inl ⟨by rfl, ?_⟩) (by assumption) ?_
          rotate_left
          · (intro w hSw; (obtain ⟨c0, c1, c2, c3, c4, c5⟩ := hSw); go_simp; try with_reducible rfl)
          simp only [Act.put, List.setIfInBounds_toArray, List.set_cons_zero, List.set_cons_succ]
          refine wpAnyG_pure (i := 10) (oi := { dst := some 32, op := Go.Op.move (Go.Operand.tmp 0), type := 30, pos := "law.go:24", after := #[], guard := none }) (v := ?_) rfl (by kernel_rfl) (by kernel_rfl) (by kernel_rfl) (by kernel_rfl) (fun _ _ _ h => h) (Or.inl ⟨by rfl, ?_⟩) (by assumption) ?_
          rotate_left
          · (intro w; go_simp; try with_reducible rfl)
          simp only [Act.put, List.setIfInBounds_toArray, List.set_cons_zero, List.set_cons_succ]
          refine wpAnyG_pure (i := 11) (oi := { dst := some 33, op := Go.Op.move (Go.Operand.tmp 7), type := 3, pos := "law.go:24", after := #[], guard := none }) (v := ?_) rfl (by kernel_rfl) (by kernel_rfl) (by kernel_rfl) (by kernel_rfl) (fun _ _ _ h => h) (Or.inl ⟨by rfl, ?_⟩) (by assumption) ?_
          rotate_left
          · (intro w; go_simp; try with_reducible rfl)
          simp only [Act.put, List.setIfInBounds_toArray, List.set_cons_zero, List.set_cons_succ]
          refine wpAnyG_pure (i := 12) (oi := { dst := some 34, op := Go.Op.indexAddr 30 (Go.Operand.tmp 32) (Go.Operand.tmp 33), type := 0, pos := "law.go:24", after := #[{ on := 10, ground := Go.Ground.data }, { on := 11, ground := Go.Ground.data }], guard := none }) (v := ?_) rfl (by kernel_rfl) (by kernel_rfl) (by kernel_rfl) (by kernel_rfl) (fun _ _ _ h => h) (Or.inl ⟨by rfl, ?_⟩) (by assumption) ?_
          rotate_left
          · (intro w; go_simp; try with_reducible rfl)
          simp only [Act.put, List.setIfInBounds_toArray, List.set_cons_zero, List.set_cons_succ]
          refine wpAnyG_pure (i := 13) (oi := { dst := some 35, op := Go.Op.fieldAddr 42 (Go.Operand.tmp 34) 3, type := 0, pos := "law.go:24", after := #[{ on := 12, ground := Go.Ground.data }], guard := none }) (v := ?_) rfl (by kernel_rfl) (by kernel_rfl) (by kernel_rfl) (by kernel_rfl) (fun _ _ _ h => h) (Or.inl ⟨by rfl, ?_⟩) (by assumption) ?_
          rotate_left
          · (intro w; go_simp; try with_reducible rfl)
          simp only [Act.put, List.setIfInBounds_toArray, List.set_cons_zero, List.set_cons_succ]
          refine wpAnyG_take (i := 14) (oi := { dst := some 36, op := Go.Op.load 9 (Go.Operand.tmp 35), type := 9, pos := "law.go:24", after := #[{ on := 13, ground := Go.Ground.data }], guard := none }) (v := ?_) rfl (by kernel_rfl) (by kernel_rfl) (by kernel_rfl) (by kernel_rfl) (fun _ _ _ h => h) (Or.inl ⟨by rfl, ?_⟩) (by assumption) ?_
          rotate_left
          · (intro w hSw; (obtain ⟨c0, c1, c2, c3, c4, c5⟩ := hSw); go_simp; try with_reducible rfl)
          simp only [Act.put, List.setIfInBounds_toArray, List.set_cons_zero, List.set_cons_succ]
          refine wpAnyG_pure (i := 16) (oi := { dst := some 38, op := Go.Op.move (Go.Operand.tmp 0), type := 30, pos := "law.go:24", after := #[], guard := none }) (v := ?_) rfl (by kernel_rfl) (by kernel_rfl) (by kernel_rfl) (by kernel_rfl) (fun _ _ _ h => h) (Or.inl ⟨by rfl, ?_⟩) (by assumption) ?_
          rotate_left
          · (intro w; go_simp; try with_reducible rfl)
          simp only [Act.put, List.setIfInBounds_toArray, List.set_cons_zero, List.set_cons_succ]
          refine wpAnyG_pure (i := 17) (oi := { dst := some 39, op := Go.Op.move (Go.Operand.tmp 7), type := 3, pos := "law.go:24", after := #[], guard := none }) (v := ?_) rfl (by kernel_rfl) (by kernel_rfl) (by kernel_rfl) (by kernel_rfl) (fun _ _ _ h => h) (Or.inl ⟨by rfl, ?_⟩) (by assumption) ?_
          rotate_left
          · (intro w; go_simp; try with_reducible rfl)
          simp only [Act.put, List.setIfInBounds_toArray, List.set_cons_zero, List.set_cons_succ]
          refine wpAnyG_pure (i := 18) (oi := { dst := some 40, op := Go.Op.indexAddr 30 (Go.Operand.tmp 38) (Go.Operand.tmp 39), type := 0, pos := "law.go:24", after := #[{ on := 16, ground := Go.Ground.data }, { on := 17, ground := Go.Ground.data }], guard := none }) (v := ?_) rfl (by kernel_rfl) (by kernel_rfl) (by kernel_rfl) (by kernel_rfl) (fun _ _ _ h => h) (Or.inl ⟨by rfl, ?_⟩) (by assumption) ?_
          rotate_left
          · (intro w; go_simp; try with_reducible rfl)
          simp only [Act.put, List.setIfInBounds_toArray, List.set_cons_zero, List.set_cons_succ]
          refine wpAnyG_pure (i := 19) (oi := { dst := some 41, op := Go.Op.fieldAddr 42 (Go.Operand.tmp 40) 4, type := 0, pos := "law.go:24", after := #[{ on := 18, ground := Go.Ground.data }], guard := none }) (v := ?_) rfl (by kernel_rfl) (by kernel_rfl) (by kernel_rfl) (by kernel_rfl) (fun _ _ _ h => h) (Or.inl ⟨by rfl, ?_⟩) (by assumption) ?_
          rotate_left
          · (intro w; go_simp; try with_reducible rfl)
          simp only [Act.put, List.setIfInBounds_toArray, List.set_cons_zero, List.set_cons_succ]
          refine wpAnyG_take (i := 20) (oi := { dst := some 42, op := Go.Op.load 9 (Go.Operand.tmp 41), type := 9, pos := "law.go:24", after := #[{ on := 19, ground := Go.Ground.data }], guard := none }) (v := ?_) rfl (by kernel_rfl) (by kernel_rfl) (by kernel_rfl) (by kernel_rfl) (fun _ _ _ h => h) (Or.inl ⟨by rfl, ?_⟩) (by assumption) ?_
          rotate_left
          · (intro w hSw; (obtain ⟨c0, c1, c2, c3, c4, c5⟩ := hSw); go_simp; try with_reducible rfl)
          simp only [Act.put, List.setIfInBounds_toArray, List.set_cons_zero, List.set_cons_succ]
          refine wpAnyG_pure (i := 22) (oi := { dst := some 44, op := Go.Op.move (Go.Operand.tmp 0), type := 30, pos := "law.go:24", after := #[], guard := none }) (v := ?_) rfl (by kernel_rfl) (by kernel_rfl) (by kernel_rfl) (by kernel_rfl) (fun _ _ _ h => h) (Or.inl ⟨by rfl, ?_⟩) (by assumption) ?_
          rotate_left
          · (intro w; go_simp; try with_reducible rfl)
          simp only [Act.put, List.setIfInBounds_toArray, List.set_cons_zero, List.set_cons_succ]
          refine wpAnyG_pure (i := 23) (oi := { dst := some 45, op := Go.Op.move (Go.Operand.tmp 7), type := 3, pos := "law.go:24", after := #[], guard := none }) (v := ?_) rfl (by kernel_rfl) (by kernel_rfl) (by kernel_rfl) (by kernel_rfl) (fun _ _ _ h => h) (Or.inl ⟨by rfl, ?_⟩) (by assumption) ?_
          rotate_left
          · (intro w; go_simp; try with_reducible rfl)
          simp only [Act.put, List.setIfInBounds_toArray, List.set_cons_zero, List.set_cons_succ]
          refine wpAnyG_pure (i := 24) (oi := { dst := some 46, op := Go.Op.indexAddr 30 (Go.Operand.tmp 44) (Go.Operand.tmp 45), type := 0, pos := "law.go:24", after := #[{ on := 22, ground := Go.Ground.data }, { on := 23, ground := Go.Ground.data }], guard := none }) (v := ?_) rfl (by kernel_rfl) (by kernel_rfl) (by kernel_rfl) (by kernel_rfl) (fun _ _ _ h => h) (Or.inl ⟨by rfl, ?_⟩) (by assumption) ?_
          rotate_left
          · (intro w; go_simp; try with_reducible rfl)
          simp only [Act.put, List.setIfInBounds_toArray, List.set_cons_zero, List.set_cons_succ]
          refine wpAnyG_pure (i := 25) (oi := { dst := some 47, op := Go.Op.fieldAddr 42 (Go.Operand.tmp 46) 5, type := 0, pos := "law.go:24", after := #[{ on := 24, ground := Go.Ground.data }], guard := none }) (v := ?_) rfl (by kernel_rfl) (by kernel_rfl) (by kernel_rfl) (by kernel_rfl) (fun _ _ _ h => h) (Or.inl ⟨by rfl, ?_⟩) (by assumption) ?_
          rotate_left
          · (intro w; go_simp; try with_reducible rfl)
          simp only [Act.put, List.setIfInBounds_toArray, List.set_cons_zero, List.set_cons_succ]
          refine wpAnyG_take (i := 26) (oi := { dst := some 48, op := Go.Op.load 22 (Go.Operand.tmp 47), type := 22, pos := "law.go:24", after := #[{ on := 25, ground := Go.Ground.data }], guard := none }) (v := ?_) rfl (by kernel_rfl) (by kernel_rfl) (by kernel_rfl) (by kernel_rfl) (fun _ _ _ h => h) (Or.inl ⟨by rfl, ?_⟩) (by assumption) ?_
          rotate_left
          · (intro w hSw; (obtain ⟨c0, c1, c2, c3, c4, c5⟩ := hSw); go_simp; try with_reducible rfl)
          simp only [Act.put, List.setIfInBounds_toArray, List.set_cons_zero, List.set_cons_succ]
          refine wpAnyG_ready (rs := [15, 29]) (by kernel_rfl) (by simp) ?_
          refine AllReadyG.cons (o := { dst := some 37, op := Go.Op.call { callee := Go.Callee.value (Go.Operand.func 18), args := #[Go.Operand.tmp 36, Go.Operand.const (Go.Value.int Go.IntKind.i64 9)], argTypes := #[9, 3] }, type := 9, pos := "law.go:24", after := #[{ on := 14, ground := Go.Ground.data }], guard := none }) rfl (fun K hK => ?_) ?_
          · go_simp
            go_at_call 18
            refine (hd_any U0 nd.name).mono ?_
            rintro e U1 ⟨rfl, u1⟩
            go_wp2_with fail
            have k1 : Kp [] wr U1 := k0.trans u1 (fun z hz => by simp at hz)
            refine hK.out _ _ (CNW.out _ k1) (fun hHeld1 => ?_)
            clear hK K hHeld
            try simp only [Act.put, List.setIfInBounds_toArray, List.set_cons_zero, List.set_cons_succ]
            refine wpAnyG_ready (rs := [21, 29]) (by kernel_rfl) (by simp) ?_
            refine AllReadyG.cons (o := { dst := some 43, op := Go.Op.call { callee := Go.Callee.value (Go.Operand.func 18), args := #[Go.Operand.tmp 42, Go.Operand.const (Go.Value.int Go.IntKind.i64 9)], argTypes := #[9, 3] }, type := 9, pos := "law.go:24", after := #[{ on := 20, ground := Go.Ground.data }, { on := 15, ground := Go.Ground.chain }], guard := none }) rfl (fun K hK => ?_) ?_
            · go_simp
              go_at_call 18
              refine (hd_any U1 nd.text).mono ?_
              rintro e U2 ⟨rfl, u2⟩
              go_wp2_with fail
              have k2 : Kp [] wr U2 := k1.trans u2 (fun z hz => by simp at hz)
              refine hK.out _ _ (CNW.out _ k2) (fun hHeld2 => ?_)
              clear hK K hHeld1
              try simp only [Act.put, List.setIfInBounds_toArray, List.set_cons_zero, List.set_cons_succ]
              refine wpAnyG_ready (rs := [27, 29]) (by kernel_rfl) (by simp) ?_
              refine AllReadyG.cons (o := { dst := some 49, op := Go.Op.call { callee := Go.Callee.value (Go.Operand.func 27), args := #[Go.Operand.tmp 48], argTypes := #[22] }, type := 22, pos := "law.go:24", after := #[{ on := 26, ground := Go.Ground.data }, { on := 21, ground := Go.Ground.chain }], guard := none }) rfl (fun K hK => ?_) ?_
              · go_simp
                go_at_call 27
                refine (SH.out _ k2).mono ?_
                rintro e U3 ⟨aX, nX, cX, rfl, MP⟩
                go_wp2_with fail
                have u3 := MP.kp
                have k3 : Kp [] wr U3 := k2.trans u3 (fun z hz => by simp at hz)
                have sz2 := k2.size
                have RA : Rk (fun z => wr.heap.size ≤ z ∧ z < U3.heap.size) 2 U3 aX nX cX (cs (short nd.attrs)) := (MP.rk (Q := fun z => wr.heap.size ≤ z) (fun z hz => by omega)).mono (fun z hl hz => ⟨hz, hl⟩)
                refine hK.out _ _ (CNW.out _ k3) (fun hHeld3 => ?_)
                clear hK K hHeld2
                try simp only [Act.put, List.setIfInBounds_toArray, List.set_cons_zero, List.set_cons_succ]
                refine wpAnyG_pure (i := 28) (oi := { dst := some 50, op := Go.Op.build 25 #[(0, Go.Operand.tmp 26), (1, Go.Operand.tmp 31), (2, Go.Operand.tmp 37), (4, Go.Operand.tmp 43), (3, Go.Operand.tmp 49)], type := 25, pos := "law.go:24", after := #[{ on := 4, ground := Go.Ground.data }, { on := 9, ground := Go.Ground.data }, { on := 15, ground := Go.Ground.data }, { on := 21, ground := Go.Ground.data }, { on := 27, ground := Go.Ground.data }], guard := none }) (v := ?_) rfl (by kernel_rfl) (by kernel_rfl) (by kernel_rfl) (by kernel_rfl) (fun _ _ _ h => h) (Or.inl ⟨by rfl, ?_⟩) (by assumption) ?_
                rotate_left
                · (intro w; go_simp; try with_reducible rfl)
                simp only [Act.put, List.setIfInBounds_toArray, List.set_cons_zero, List.set_cons_succ]
                refine wpAnyG_ready (rs := [29]) (by kernel_rfl) (by simp) ?_
                refine AllReadyG.cons (o := { dst := some 8, op := Go.Op.alloc 25, type := 0, pos := "law.go:24", after := #[], guard := none }) rfl (fun K hK => ?_) AllReadyG.nil
                go_simp
                obtain ⟨U4, hU⟩ : ∃ V, V = World.alloc U3 (.cells #[.int .i64 0, .int .i64 0, .string ⟨#[]⟩, .slice none 0 0, .string ⟨#[]⟩, .slice none 0 0] 25) := ⟨_, rfl⟩
                rw [← hU]
                have u4 : Kp [] U3 U4 := by rw [hU]; exact (Kp.refl _ _).alloc _
                have k4 : Kp [] wr U4 := k3.trans u4 (fun z hz => by simp at hz)
                have T8 : At U4 U3.heap.size #[.int .i64 0, .int .i64 0, .string ⟨#[]⟩, .slice none 0 0, .string ⟨#[]⟩, .slice none 0 0] 25 := by rw [hU]; exact At.new _ _ _
                have zz : U3.heap.size < U4.heap.size := by rw [hU]; simp
                have n8 := k3.size
                obtain ⟨g8, hg8⟩ : ∃ g, U3.heap.size = g := ⟨_, rfl⟩
                rw [hg8] at T8 ⊢
                clear hU
                have RA := (RA.kept u4).mono (R := fun z => wr.heap.size ≤ z ∧ z ≠ g8) (fun z _ hz => ⟨hz.1, by have := hz.2; omega⟩)
                refine hK.out _ _ (CNW.out _ k4) (fun hHeld4 => ?_)
                clear hK K hHeld3
                try simp only [Act.put, List.setIfInBounds_toArray, List.set_cons_zero, List.set_cons_succ]
                refine wpAnyG_free (by kernel_rfl) ?_
                refine wpAny_ready (rs := [30]) (by kernel_rfl) (by simp) ?_
                refine AllReady.cons (o := { dst := none, op := Go.Op.store 25 (Go.Operand.tmp 8) (Go.Operand.tmp 50), type := 0, pos := "law.go:24", after := #[{ on := 29, ground := Go.Ground.data }, { on := 28, ground := Go.Ground.data }, { on := 27, ground := Go.Ground.chain }, { on := 0, ground := Go.Ground.phase }, { on := 1, ground := Go.Ground.phase }, { on := 2, ground := Go.Ground.phase }, { on := 3, ground := Go.Ground.phase }, { on := 4, ground := Go.Ground.phase }, { on := 5, ground := Go.Ground.phase }, { on := 6, ground := Go.Ground.phase }, { on := 7, ground := Go.Ground.phase }, { on := 8, ground := Go.Ground.phase }, { on := 9, ground := Go.Ground.phase }, { on := 10, ground := Go.Ground.phase }, { on := 11, ground := Go.Ground.phase }, { on := 12, ground := Go.Ground.phase }, { on := 13, ground := Go.Ground.phase }, { on := 14, ground := Go.Ground.phase }, { on := 15, ground := Go.Ground.phase }, { on := 16, ground := Go.Ground.phase }, { on := 17, ground := Go.Ground.phase }, { on := 18, ground := Go.Ground.phase }, { on := 19, ground := Go.Ground.phase }, { on := 20, ground := Go.Ground.phase }, { on := 21, ground := Go.Ground.phase }, { on := 22, ground := Go.Ground.phase }, { on := 23, ground := Go.Ground.phase }, { on := 24, ground := Go.Ground.phase }, { on := 25, ground := Go.Ground.phase }, { on := 26, ground := Go.Ground.phase }, { on := 27, ground := Go.Ground.phase }, { on := 28, ground := Go.Ground.phase }, { on := 29, ground := Go.Ground.phase }], guard := none }) rfl (fun K hK => ?_) AllReady.nil
                obtain ⟨d20, d21, d22, d23, d24, d25⟩ := T8.six
                have fr2 := fun j => T8.free j
                go_simp
                refine hK _ _ ?_
                clear hK K
                try simp only [Act.put, List.setIfInBounds_toArray, List.set_cons_zero, List.set_cons_succ]
                refine wpAny_done (by kernel_rfl) ?_ _
                clear d20 d21 d22 d23 d24 d25 fr2
                obtain ⟨W, hW⟩ : ∃ F, F = putZ U4 g8 (.int .i64 nd.kind) (.int .i64 nd.ns) (.string (cutB nd.name 9)) (.slice aX nX cX) (.string (cutB nd.text 9)) (.slice none 0 0) := ⟨_, rfl⟩
                have hWu := hW
                unfold putZ at hWu
                rw [← hWu]
                clear hWu
                have v8 : Kp [g8] U4 W := by rw [hW]; exact (Kp.refl _ _).putZ (g := g8) (Or.inl (by simp)) (.int .i64 nd.kind) (.int .i64 nd.ns) (.string (cutB nd.name 9)) (.slice aX nX cX) (.string (cutB nd.text 9)) (.slice none 0 0)
                have T8 : At W g8 #[.int .i64 nd.kind, .int .i64 nd.ns, .string (cutB nd.name 9), .slice aX nX cX, .string (cutB nd.text 9), .slice none 0 0] 25 := by rw [hW]; exact T8.putZ (.int .i64 nd.kind) (.int .i64 nd.ns) (.string (cutB nd.name 9)) (.slice aX nX cX) (.string (cutB nd.text 9)) (.slice none 0 0)
                clear hW
                have kW : Kp [] wr W := k4.trans v8 (fun z hz => Or.inr (by simp at hz; omega))
                have RA := RA.keep (v8.sms (fun z hz => by simp; exact hz.2))
                go_wp2_with fail
                go_meet
                case rel => exact ⟨g8, ((aX, nX, cX), (none, 0, 0)), rfl, T8, ⟨RA, Rt.nil _ _ _ _⟩, kW, by omega⟩
              refine AllReadyG.cons (o := { dst := some 8, op := Go.Op.alloc 25, type := 0, pos := "law.go:24", after := #[], guard := none }) rfl (fun K hK => ?_) AllReadyG.nil
              go_simp
              obtain ⟨U3, hU⟩ : ∃ V, V = World.alloc U2 (.cells #[.int .i64 0, .int .i64 0, .string ⟨#[]⟩, .slice none 0 0, .string ⟨#[]⟩, .slice none 0 0] 25) := ⟨_, rfl⟩
              rw [← hU]
              have u3 : Kp [] U2 U3 := by rw [hU]; exact (Kp.refl _ _).alloc _
              have k3 : Kp [] wr U3 := k2.trans u3 (fun z hz => by simp at hz)
              have T8 : At U3 U2.heap.size #[.int .i64 0, .int .i64 0, .string ⟨#[]⟩, .slice none 0 0, .string ⟨#[]⟩, .slice none 0 0] 25 := by rw [hU]; exact At.new _ _ _
              have zz : U2.heap.size < U3.heap.size := by rw [hU]; simp
              have n8 := k2.size
              obtain ⟨g8, hg8⟩ : ∃ g, U2.heap.size = g := ⟨_, rfl⟩
              rw [hg8] at T8 ⊢
              clear hU
              refine hK.out _ _ (CNW.out _ k3) (fun hHeld3 => ?_)
              clear hK K hHeld2
              try simp only [Act.put, List.setIfInBounds_toArray, List.set_cons_zero, List.set_cons_succ]
              refine wpAnyG_ready (rs := [27]) (by kernel_rfl) (by simp) ?_
              refine AllReadyG.cons (o := { dst := some 49, op := Go.Op.call { callee := Go.Callee.value (Go.Operand.func 27), args := #[Go.Operand.tmp 48], argTypes := #[22] }, type := 22, pos := "law.go:24", after := #[{ on := 26, ground := Go.Ground.data }, { on := 21, ground := Go.Ground.chain }], guard := none }) rfl (fun K hK => ?_) AllReadyG.nil
              go_simp
              go_at_call 27
              refine (SH.out _ k3).mono ?_
              rintro e U4 ⟨aX, nX, cX, rfl, MP⟩
              go_wp2_with fail
              have u4 := MP.kp
              have k4 : Kp [] wr U4 := k3.trans u4 (fun z hz => by simp at hz)
              have sz3 := k3.size
              have T8 := T8.kept u4 (by simp)
              have RA : Rk (fun z => wr.heap.size ≤ z ∧ z ≠ g8) 2 U4 aX nX cX (cs (short nd.attrs)) := MP.rk (fun z hz => by  exact ⟨by omega, by omega⟩)
              refine hK.out _ _ (CNW.out _ k4) (fun hHeld4 => ?_)
              clear hK K hHeld3
              try simp only [Act.put, List.setIfInBounds_toArray, List.set_cons_zero, List.set_cons_succ]
              refine wpAnyG_pure (i := 28) (oi := { dst := some 50, op := Go.Op.build 25 #[(0, Go.Operand.tmp 26), (1, Go.Operand.tmp 31), (2, Go.Operand.tmp 37), (4, Go.Operand.tmp 43), (3, Go.Operand.tmp 49)], type := 25, pos := "law.go:24", after := #[{ on := 4, ground := Go.Ground.data }, { on := 9, ground := Go.Ground.data }, { on := 15, ground := Go.Ground.data }, { on := 21, ground := Go.Ground.data }, { on := 27, ground := Go.Ground.data }], guard := none }) (v := ?_) rfl (by kernel_rfl) (by kernel_rfl) (by kernel_rfl) (by kernel_rfl) (fun _ _ _ h => h) (Or.inl ⟨by rfl, ?_⟩) (by assumption) ?_
              rotate_left
              · (intro w; go_simp; try with_reducible rfl)
              simp only [Act.put, List.setIfInBounds_toArray, List.set_cons_zero, List.set_cons_succ]
              refine wpAnyG_free (by kernel_rfl) ?_
              refine wpAny_ready (rs := [30]) (by kernel_rfl) (by simp) ?_
              refine AllReady.cons (o := { dst := none, op := Go.Op.store 25 (Go.Operand.tmp 8) (Go.Operand.tmp 50), type := 0, pos := "law.go:24", after := #[{ on := 29, ground := Go.Ground.data }, { on := 28, ground := Go.Ground.data }, { on := 27, ground := Go.Ground.chain }, { on := 0, ground := Go.Ground.phase }, { on := 1, ground := Go.Ground.phase }, { on := 2, ground := Go.Ground.phase }, { on := 3, ground := Go.Ground.phase }, { on := 4, ground := Go.Ground.phase }, { on := 5, ground := Go.Ground.phase }, { on := 6, ground := Go.Ground.phase }, { on := 7, ground := Go.Ground.phase }, { on := 8, ground := Go.Ground.phase }, { on := 9, ground := Go.Ground.phase }, { on := 10, ground := Go.Ground.phase }, { on := 11, ground := Go.Ground.phase }, { on := 12, ground := Go.Ground.phase }, { on := 13, ground := Go.Ground.phase }, { on := 14, ground := Go.Ground.phase }, { on := 15, ground := Go.Ground.phase }, { on := 16, ground := Go.Ground.phase }, { on := 17, ground := Go.Ground.phase }, { on := 18, ground := Go.Ground.phase }, { on := 19, ground := Go.Ground.phase }, { on := 20, ground := Go.Ground.phase }, { on := 21, ground := Go.Ground.phase }, { on := 22, ground := Go.Ground.phase }, { on := 23, ground := Go.Ground.phase }, { on := 24, ground := Go.Ground.phase }, { on := 25, ground := Go.Ground.phase }, { on := 26, ground := Go.Ground.phase }, { on := 27, ground := Go.Ground.phase }, { on := 28, ground := Go.Ground.phase }, { on := 29, ground := Go.Ground.phase }], guard := none }) rfl (fun K hK => ?_) AllReady.nil
              obtain ⟨d20, d21, d22, d23, d24, d25⟩ := T8.six
              have fr2 := fun j => T8.free j
              go_simp
              refine hK _ _ ?_
              clear hK K
              try simp only [Act.put, List.setIfInBounds_toArray, List.set_cons_zero, List.set_cons_succ]
              refine wpAny_done (by kernel_rfl) ?_ _
              clear d20 d21 d22 d23 d24 d25 fr2
              obtain ⟨W, hW⟩ : ∃ F, F = putZ U4 g8 (.int .i64 nd.kind) (.int .i64 nd.ns) (.string (cutB nd.name 9)) (.slice aX nX cX) (.string (cutB nd.text 9)) (.slice none 0 0) := ⟨_, rfl⟩
              have hWu := hW
              unfold putZ at hWu
              rw [← hWu]
              clear hWu
              have v8 : Kp [g8] U4 W := by rw [hW]; exact (Kp.refl _ _).putZ (g := g8) (Or.inl (by simp)) (.int .i64 nd.kind) (.int .i64 nd.ns) (.string (cutB nd.name 9)) (.slice aX nX cX) (.string (cutB nd.text 9)) (.slice none 0 0)
              have T8 : At W g8 #[.int .i64 nd.kind, .int .i64 nd.ns, .string (cutB nd.name 9), .slice aX nX cX, .string (cutB nd.text 9), .slice none 0 0] 25 := by rw [hW]; exact T8.putZ (.int .i64 nd.kind) (.int .i64 nd.ns) (.string (cutB nd.name 9)) (.slice aX nX cX) (.string (cutB nd.text 9)) (.slice none 0 0)
              clear hW
              have kW : Kp [] wr W := k4.trans v8 (fun z hz => Or.inr (by simp at hz; omega))
              have RA := RA.keep (v8.sms (fun z hz => by simp; exact hz.2))
              go_wp2_with fail
              go_meet
              case rel => exact ⟨g8, ((aX, nX, cX), (none, 0, 0)), rfl, T8, ⟨RA, Rt.nil _ _ _ _⟩, kW, by omega⟩
            refine AllReadyG.cons (o := { dst := some 8, op := Go.Op.alloc 25, type := 0, pos := "law.go:24", after := #[], guard := none }) rfl (fun K hK => ?_) AllReadyG.nil
            go_simp
            obtain ⟨U2, hU⟩ : ∃ V, V = World.alloc U1 (.cells #[.int .i64 0, .int .i64 0, .string ⟨#[]⟩, .slice none 0 0, .string ⟨#[]⟩, .slice none 0 0] 25) := ⟨_, rfl⟩
            rw [← hU]
            have u2 : Kp [] U1 U2 := by rw [hU]; exact (Kp.refl _ _).alloc _
            have k2 : Kp [] wr U2 := k1.trans u2 (fun z hz => by simp at hz)
            have T8 : At U2 U1.heap.size #[.int .i64 0, .int .i64 0, .string ⟨#[]⟩, .slice none 0 0, .string ⟨#[]⟩, .slice none 0 0] 25 := by rw [hU]; exact At.new _ _ _
            have zz : U1.heap.size < U2.heap.size := by rw [hU]; simp
            have n8 := k1.size
            obtain ⟨g8, hg8⟩ : ∃ g, U1.heap.size = g := ⟨_, rfl⟩
            rw [hg8] at T8 ⊢
            clear hU
            refine hK.out _ _ (CNW.out _ k2) (fun hHeld2 => ?_)
            clear hK K hHeld1
            try simp only [Act.put, List.setIfInBounds_toArray, List.set_cons_zero, List.set_cons_succ]
            refine wpAnyG_ready (rs := [21]) (by kernel_rfl) (by simp) ?_
            refine AllReadyG.cons (o := { dst := some 43, op := Go.Op.call { callee := Go.Callee.value (Go.Operand.func 18), args := #[Go.Operand.tmp 42, Go.Operand.const (Go.Value.int Go.IntKind.i64 9)], argTypes := #[9, 3] }, type := 9, pos := "law.go:24", after := #[{ on := 20, ground := Go.Ground.data }, { on := 15, ground := Go.Ground.chain }], guard := none }) rfl (fun K hK => ?_) AllReadyG.nil
            go_simp
            go_at_call 18
            refine (hd_any U2 nd.text).mono ?_
            rintro e U3 ⟨rfl, u3⟩
            go_wp2_with fail
            have k3 : Kp [] wr U3 := k2.trans u3 (fun z hz => by simp at hz)
            have T8 := T8.kept u3 (by simp)
            refine hK.out _ _ (CNW.out _ k3) (fun hHeld3 => ?_)
            clear hK K hHeld2
            try simp only [Act.put, List.setIfInBounds_toArray, List.set_cons_zero, List.set_cons_succ]
            refine wpAnyG_ready (rs := [27]) (by kernel_rfl) (by simp) ?_
            refine AllReadyG.cons (o := { dst := some 49, op := Go.Op.call { callee := Go.Callee.value (Go.Operand.func 27), args := #[Go.Operand.tmp 48], argTypes := #[22] }, type := 22, pos := "law.go:24", after := #[{ on := 26, ground := Go.Ground.data }, { on := 21, ground := Go.Ground.chain }], guard := none }) rfl (fun K hK => ?_) AllReadyG.nil
            go_simp
            go_at_call 27
            refine (SH.out _ k3).mono ?_
            rintro e U4 ⟨aX, nX, cX, rfl, MP⟩
            go_wp2_with fail
            have u4 := MP.kp
            have k4 : Kp [] wr U4 := k3.trans u4 (fun z hz => by simp at hz)
            have sz3 := k3.size
            have T8 := T8.kept u4 (by simp)
            have RA : Rk (fun z => wr.heap.size ≤ z ∧ z ≠ g8) 2 U4 aX nX cX (cs (short nd.attrs)) := MP.rk (fun z hz => by have := u3.size; exact ⟨by omega, by omega⟩)
            refine hK.out _ _ (CNW.out _ k4) (fun hHeld4 => ?_)
            clear hK K hHeld3
            try simp only [Act.put, List.setIfInBounds_toArray, List.set_cons_zero, List.set_cons_succ]
            refine wpAnyG_pure (i := 28) (oi := { dst := some 50, op := Go.Op.build 25 #[(0, Go.Operand.tmp 26), (1, Go.Operand.tmp 31), (2, Go.Operand.tmp 37), (4, Go.Operand.tmp 43), (3, Go.Operand.tmp 49)], type := 25, pos := "law.go:24", after := #[{ on := 4, ground := Go.Ground.data }, { on := 9, ground := Go.Ground.data }, { on := 15, ground := Go.Ground.data }, { on := 21, ground := Go.Ground.data }, { on := 27, ground := Go.Ground.data }], guard := none }) (v := ?_) rfl (by kernel_rfl) (by kernel_rfl) (by kernel_rfl) (by kernel_rfl) (fun _ _ _ h => h) (Or.inl ⟨by rfl, ?_⟩) (by assumption) ?_
            rotate_left
            · (intro w; go_simp; try with_reducible rfl)
            simp only [Act.put, List.setIfInBounds_toArray, List.set_cons_zero, List.set_cons_succ]
            refine wpAnyG_free (by kernel_rfl) ?_
            refine wpAny_ready (rs := [30]) (by kernel_rfl) (by simp) ?_
            refine AllReady.cons (o := { dst := none, op := Go.Op.store 25 (Go.Operand.tmp 8) (Go.Operand.tmp 50), type := 0, pos := "law.go:24", after := #[{ on := 29, ground := Go.Ground.data }, { on := 28, ground := Go.Ground.data }, { on := 27, ground := Go.Ground.chain }, { on := 0, ground := Go.Ground.phase }, { on := 1, ground := Go.Ground.phase }, { on := 2, ground := Go.Ground.phase }, { on := 3, ground := Go.Ground.phase }, { on := 4, ground := Go.Ground.phase }, { on := 5, ground := Go.Ground.phase }, { on := 6, ground := Go.Ground.phase }, { on := 7, ground := Go.Ground.phase }, { on := 8, ground := Go.Ground.phase }, { on := 9, ground := Go.Ground.phase }, { on := 10, ground := Go.Ground.phase }, { on := 11, ground := Go.Ground.phase }, { on := 12, ground := Go.Ground.phase }, { on := 13, ground := Go.Ground.phase }, { on := 14, ground := Go.Ground.phase }, { on := 15, ground := Go.Ground.phase }, { on := 16, ground := Go.Ground.phase }, { on := 17, ground := Go.Ground.phase }, { on := 18, ground := Go.Ground.phase }, { on := 19, ground := Go.Ground.phase }, { on := 20, ground := Go.Ground.phase }, { on := 21, ground := Go.Ground.phase }, { on := 22, ground := Go.Ground.phase }, { on := 23, ground := Go.Ground.phase }, { on := 24, ground := Go.Ground.phase }, { on := 25, ground := Go.Ground.phase }, { on := 26, ground := Go.Ground.phase }, { on := 27, ground := Go.Ground.phase }, { on := 28, ground := Go.Ground.phase }, { on := 29, ground := Go.Ground.phase }], guard := none }) rfl (fun K hK => ?_) AllReady.nil
            obtain ⟨d20, d21, d22, d23, d24, d25⟩ := T8.six
            have fr2 := fun j => T8.free j
            go_simp
            refine hK _ _ ?_
            clear hK K
            try simp only [Act.put, List.setIfInBounds_toArray, List.set_cons_zero, List.set_cons_succ]
            refine wpAny_done (by kernel_rfl) ?_ _
            clear d20 d21 d22 d23 d24 d25 fr2
            obtain ⟨W, hW⟩ : ∃ F, F = putZ U4 g8 (.int .i64 nd.kind) (.int .i64 nd.ns) (.string (cutB nd.name 9)) (.slice aX nX cX) (.string (cutB nd.text 9)) (.slice none 0 0) := ⟨_, rfl⟩
            have hWu := hW
            unfold putZ at hWu
            rw [← hWu]
            clear hWu
            have v8 : Kp [g8] U4 W := by rw [hW]; exact (Kp.refl _ _).putZ (g := g8) (Or.inl (by simp)) (.int .i64 nd.kind) (.int .i64 nd.ns) (.string (cutB nd.name 9)) (.slice aX nX cX) (.string (cutB nd.text 9)) (.slice none 0 0)
            have T8 : At W g8 #[.int .i64 nd.kind, .int .i64 nd.ns, .string (cutB nd.name 9), .slice aX nX cX, .string (cutB nd.text 9), .slice none 0 0] 25 := by rw [hW]; exact T8.putZ (.int .i64 nd.kind) (.int .i64 nd.ns) (.string (cutB nd.name 9)) (.slice aX nX cX) (.string (cutB nd.text 9)) (.slice none 0 0)
            clear hW
            have kW : Kp [] wr W := k4.trans v8 (fun z hz => Or.inr (by simp at hz; omega))
            have RA := RA.keep (v8.sms (fun z hz => by simp; exact hz.2))
            go_wp2_with fail
            go_meet
            case rel => exact ⟨g8, ((aX, nX, cX), (none, 0, 0)), rfl, T8, ⟨RA, Rt.nil _ _ _ _⟩, kW, by omega⟩
          refine AllReadyG.cons (o := { dst := some 8, op := Go.Op.alloc 25, type := 0, pos := "law.go:24", after := #[], guard := none }) rfl (fun K hK => ?_) AllReadyG.nil
          go_simp
          obtain ⟨U1, hU⟩ : ∃ V, V = World.alloc U0 (.cells #[.int .i64 0, .int .i64 0, .string ⟨#[]⟩, .slice none 0 0, .string ⟨#[]⟩, .slice none 0 0] 25) := ⟨_, rfl⟩
          rw [← hU]
          have u1 : Kp [] U0 U1 := by rw [hU]; exact (Kp.refl _ _).alloc _
          have k1 : Kp [] wr U1 := k0.trans u1 (fun z hz => by simp at hz)
          have T8 : At U1 U0.heap.size #[.int .i64 0, .int .i64 0, .string ⟨#[]⟩, .slice none 0 0, .string ⟨#[]⟩, .slice none 0 0] 25 := by rw [hU]; exact At.new _ _ _
          have zz : U0.heap.size < U1.heap.size := by rw [hU]; simp
          have n8 := k0.size
          obtain ⟨g8, hg8⟩ : ∃ g, U0.heap.size = g := ⟨_, rfl⟩
          rw [hg8] at T8 ⊢
          clear hU
          refine hK.out _ _ (CNW.out _ k1) (fun hHeld1 => ?_)
          clear hK K hHeld
          try simp only [Act.put, List.setIfInBounds_toArray, List.set_cons_zero, List.set_cons_succ]
          refine wpAnyG_ready (rs := [15]) (by kernel_rfl) (by simp) ?_
          refine AllReadyG.cons (o := { dst := some 37, op := Go.Op.call { callee := Go.Callee.value (Go.Operand.func 18), args := #[Go.Operand.tmp 36, Go.Operand.const (Go.Value.int Go.IntKind.i64 9)], argTypes := #[9, 3] }, type := 9, pos := "law.go:24", after := #[{ on := 14, ground := Go.Ground.data }], guard := none }) rfl (fun K hK => ?_) AllReadyG.nil
          go_simp
          go_at_call 18
          refine (hd_any U1 nd.name).mono ?_
          rintro e U2 ⟨rfl, u2⟩
          go_wp2_with fail
          have k2 : Kp [] wr U2 := k1.trans u2 (fun z hz => by simp at hz)
          have T8 := T8.kept u2 (by simp)
          refine hK.out _ _ (CNW.out _ k2) (fun hHeld2 => ?_)
          clear hK K hHeld1
          try simp only [Act.put, List.setIfInBounds_toArray, List.set_cons_zero, List.set_cons_succ]
          refine wpAnyG_ready (rs := [21]) (by kernel_rfl) (by simp) ?_
          refine AllReadyG.cons (o := { dst := some 43, op := Go.Op.call { callee := Go.Callee.value (Go.Operand.func 18), args := #[Go.Operand.tmp 42, Go.Operand.const (Go.Value.int Go.IntKind.i64 9)], argTypes := #[9, 3] }, type := 9, pos := "law.go:24", after := #[{ on := 20, ground := Go.Ground.data }, { on := 15, ground := Go.Ground.chain }], guard := none }) rfl (fun K hK => ?_) AllReadyG.nil
          go_simp
          go_at_call 18
          refine (hd_any U2 nd.text).mono ?_
          rintro e U3 ⟨rfl, u3⟩
          go_wp2_with fail
          have k3 : Kp [] wr U3 := k2.trans u3 (fun z hz => by simp at hz)
          have T8 := T8.kept u3 (by simp)
          refine hK.out _ _ (CNW.out _ k3) (fun hHeld3 => ?_)
          clear hK K hHeld2
          try simp only [Act.put, List.setIfInBounds_toArray, List.set_cons_zero, List.set_cons_succ]
          refine wpAnyG_ready (rs := [27]) (by kernel_rfl) (by simp) ?_
          refine AllReadyG.cons (o := { dst := some 49, op := Go.Op.call { callee := Go.Callee.value (Go.Operand.func 27), args := #[Go.Operand.tmp 48], argTypes := #[22] }, type := 22, pos := "law.go:24", after := #[{ on := 26, ground := Go.Ground.data }, { on := 21, ground := Go.Ground.chain }], guard := none }) rfl (fun K hK => ?_) AllReadyG.nil
          go_simp
          go_at_call 27
          refine (SH.out _ k3).mono ?_
          rintro e U4 ⟨aX, nX, cX, rfl, MP⟩
          go_wp2_with fail
          have u4 := MP.kp
          have k4 : Kp [] wr U4 := k3.trans u4 (fun z hz => by simp at hz)
          have sz3 := k3.size
          have T8 := T8.kept u4 (by simp)
          have RA : Rk (fun z => wr.heap.size ≤ z ∧ z ≠ g8) 2 U4 aX nX cX (cs (short nd.attrs)) := MP.rk (fun z hz => by have := u2.size; have := u3.size; exact ⟨by omega, by omega⟩)
          refine hK.out _ _ (CNW.out _ k4) (fun hHeld4 => ?_)
          clear hK K hHeld3
          try simp only [Act.put, List.setIfInBounds_toArray, List.set_cons_zero, List.set_cons_succ]
          refine wpAnyG_pure (i := 28) (oi := { dst := some 50, op := Go.Op.build 25 #[(0, Go.Operand.tmp 26), (1, Go.Operand.tmp 31), (2, Go.Operand.tmp 37), (4, Go.Operand.tmp 43), (3, Go.Operand.tmp 49)], type := 25, pos := "law.go:24", after := #[{ on := 4, ground := Go.Ground.data }, { on := 9, ground := Go.Ground.data }, { on := 15, ground := Go.Ground.data }, { on := 21, ground := Go.Ground.data }, { on := 27, ground := Go.Ground.data }], guard := none }) (v := ?_) rfl (by kernel_rfl) (by kernel_rfl) (by kernel_rfl) (by kernel_rfl) (fun _ _ _ h => h) (Or.inl ⟨by rfl, ?_⟩) (by assumption) ?_
          rotate_left
          · (intro w; go_simp; try with_reducible rfl)
          simp only [Act.put, List.setIfInBounds_toArray, List.set_cons_zero, List.set_cons_succ]
          refine wpAnyG_free (by kernel_rfl) ?_
          refine wpAny_ready (rs := [30]) (by kernel_rfl) (by simp) ?_
          refine AllReady.cons (o := { dst := none, op := Go.Op.store 25 (Go.Operand.tmp 8) (Go.Operand.tmp 50), type := 0, pos := "law.go:24", after := #[{ on := 29, ground := Go.Ground.data }, { on := 28, ground := Go.Ground.data }, { on := 27, ground := Go.Ground.chain }, { on := 0, ground := Go.Ground.phase }, { on := 1, ground := Go.Ground.phase }, { on := 2, ground := Go.Ground.phase }, { on := 3, ground := Go.Ground.phase }, { on := 4, ground := Go.Ground.phase }, { on := 5, ground := Go.Ground.phase }, { on := 6, ground := Go.Ground.phase }, { on := 7, ground := Go.Ground.phase }, { on := 8, ground := Go.Ground.phase }, { on := 9, ground := Go.Ground.phase }, { on := 10, ground := Go.Ground.phase }, { on := 11, ground := Go.Ground.phase }, { on := 12, ground := Go.Ground.phase }, { on := 13, ground := Go.Ground.phase }, { on := 14, ground := Go.Ground.phase }, { on := 15, ground := Go.Ground.phase }, { on := 16, ground := Go.Ground.phase }, { on := 17, ground := Go.Ground.phase }, { on := 18, ground := Go.Ground.phase }, { on := 19, ground := Go.Ground.phase }, { on := 20, ground := Go.Ground.phase }, { on := 21, ground := Go.Ground.phase }, { on := 22, ground := Go.Ground.phase }, { on := 23, ground := Go.Ground.phase }, { on := 24, ground := Go.Ground.phase }, { on := 25, ground := Go.Ground.phase }, { on := 26, ground := Go.Ground.phase }, { on := 27, ground := Go.Ground.phase }, { on := 28, ground := Go.Ground.phase }, { on := 29, ground := Go.Ground.phase }], guard := none }) rfl (fun K hK => ?_) AllReady.nil
          obtain ⟨d20, d21, d22, d23, d24, d25⟩ := T8.six
          have fr2 := fun j => T8.free j
          go_simp
          refine hK _ _ ?_
          clear hK K
          try simp only [Act.put, List.setIfInBounds_toArray, List.set_cons_zero, List.set_cons_succ]
          refine wpAny_done (by kernel_rfl) ?_ _
          clear d20 d21 d22 d23 d24 d25 fr2
          obtain ⟨W, hW⟩ : ∃ F, F = putZ U4 g8 (.int .i64 nd.kind) (.int .i64 nd.ns) (.string (cutB nd.name 9)) (.slice aX nX cX) (.string (cutB nd.text 9)) (.slice none 0 0) := ⟨_, rfl⟩
          have hWu := hW
          unfold putZ at hWu
          rw [← hWu]
          clear hWu
          have v8 : Kp [g8] U4 W := by rw [hW]; exact (Kp.refl _ _).putZ (g := g8) (Or.inl (by simp)) (.int .i64 nd.kind) (.int .i64 nd.ns) (.string (cutB nd.name 9)) (.slice aX nX cX) (.string (cutB nd.text 9)) (.slice none 0 0)
          have T8 : At W g8 #[.int .i64 nd.kind, .int .i64 nd.ns, .string (cutB nd.name 9), .slice aX nX cX, .string (cutB nd.text 9), .slice none 0 0] 25 := by rw [hW]; exact T8.putZ (.int .i64 nd.kind) (.int .i64 nd.ns) (.string (cutB nd.name 9)) (.slice aX nX cX) (.string (cutB nd.text 9)) (.slice none 0 0)
          clear hW
          have kW : Kp [] wr W := k4.trans v8 (fun z hz => Or.inr (by simp at hz; omega))
          have RA := RA.keep (v8.sms (fun z hz => by simp; exact hz.2))
          go_wp2_with fail
          go_meet
          case rel => exact ⟨g8, ((aX, nX, cX), (none, 0, 0)), rfl, T8, ⟨RA, Rt.nil _ _ _ _⟩, kW, by omega⟩
        obtain ⟨g8, pX, rfl, T8, NX, kc, hg8⟩ := hcut
        clear SH
        have HND : Hid (nodeN false nd = (nd.up, cutN nd, .nil)) := rfl
        have kW := kc
        clear hnode
        have zW := kW.size
        have T5 := T5.kept kW (by simp)
        have T4 := T4.kept kW (by simp)
        have ND := ND.kept kW
        have RW := RW.kept kW
        have cN := CNW.out _ kW
        obtain ⟨c0, c1, c2, c3, c4, c5⟩ := cN
        clear c0 c1 c3 c4 c5
        have hu := wi_le nd.up n
        have HWI : Hid (Calls Try.prog 17 #[.int .i64 nd.up, .int .i64 0, .int .i64 (n : Int)] wc fun e w' => e = .returned (.int .i64 (wi nd.up n : Nat)) ∧ w' = wc) := by
          have := within_any wc nd.up 0 n (by omega) (by omega)
          show Calls _ _ _ _ _
          simpa using this
        have HG : Hid (growF ((rowN false L).take (i + 1)) = underF (cutN nd) .nil (gi.2.take (gi.2.length - wi nd.up gi.2.length)) gi.1) := by
          show growF ((rowN false L).take (i + 1)) = _
          rw [HI.out, HND.out]
          rfl
        have hgl : n = gi.2.length := by have := RW.len; rw [iv_len] at this; omega
        rw [← hgl] at HG
        generalize wi nd.up n = u at HWI hu HG
        have hsub : (n : Int) - (u : Int) = ((n - u : Nat) : Int) := by omega
        have hwr : IntKind.i64.wrap ((n : Int) - (u : Int)) = ((n - u : Nat) : Int) := by rw [IntKind.wrap_i64]; omega
        have RT := RW.take (n - u) (by omega)
        have htk : (iv gi.2).take ((n - u) * 1) = iv (gi.2.take (n - u)) := by rw [Nat.mul_one]; simp [iv, List.map_take]
        rw [htk] at RT
        have hway := hw0.take (n - u)
        have HUD := under_any (cutN nd) .nil pX (gi.2.take (n - u)) (fun z => (z ≠ s ∧ z ≠ s + 1)) wc lD gi.1 p ao (n - u) c ND (NX.mono (fun z _ hz => ⟨by have := hz.1; omega, by have := hz.1; omega⟩)) (RT.mono (fun _ _ _ => trivial)) hway (by omega) (by rw [List.length_take]; omega)
        rw [← HG.out] at HUD
        simp only [lD, wv, cutN] at HUD
        have HU2 : Hid (Calls Try.prog 29 _ _ _) := HUD
        clear HUD
        have T5k : Hid (∀ V, Kp [] wc V → At V (s + 1) _ 25) := fun V kV => T5.kept kV (by simp)
        have T4k : Hid (∀ V, Kp [] wc V → At V s _ 25) := fun V kV => T4.kept kV (by simp)
        obtain ⟨t50, t51, t52, t53, t54, t55⟩ := T5.six
        obtain ⟨t80, t81, t82, t83, t84, t85⟩ := T8.six
        have jb1 : (0 : Int) ≤ ((n - u : Nat) : Int) := by omega
        have jb2 : ((n - u : Nat) : Int) ≤ (c : Int) := by omega
        have jb3 : n - u ≤ c := by omega
        clear ND RW NX T5 T4 T8 HI HND HG RT hway htk hw0 hl0 hcc hgl kc
        go_upto_region 11 with (first | (go_at_call 17; refine HWI.out.mono ?_; rintro e w1 ⟨rfl, hw1⟩; have hw2 := hw1.symm; clear hw1; subst hw2))
        clear c2 HWI
        go_upto_region 5 with (first | (go_at_call 29; refine HU2.out.mono ?_; rintro e W9 ⟨p9, ao9, n9, c9, rfl, N9, R9, k9⟩; obtain ⟨x50, x51, x52, x53, x54, x55⟩ := (T5k.out _ k9).six; have fx := fun j => (T5k.out _ k9).free j))
        clear t50 t51 t52 t53 t54 t55 t80 t81 t82 t83 t84 t85 x50 x51 x52 x53 x54 x55 fx HU2
        have KE : Hid (Gr w (putZ W9 (s + 1) (.int .i64 1) (.int .i64 0) (.string ⟨#[]⟩) (.slice p9.1.1 p9.1.2.1 p9.1.2.2) (.string ⟨#[]⟩) (.slice p9.2.1 p9.2.2.1 p9.2.2.2)) s (rowN false L) (i + 1) ao9 n9 c9) := by
          have z9 := k9.size
          have v9 : Kp [s + 1] W9 (putZ W9 (s + 1) (.int .i64 1) (.int .i64 0) (.string ⟨#[]⟩) (.slice p9.1.1 p9.1.2.1 p9.1.2.2) (.string ⟨#[]⟩) (.slice p9.2.1 p9.2.2.1 p9.2.2.2)) := (Kp.refl _ _).putZ (g := s + 1) (Or.inl (by simp)) _ _ _ _ _ _
          have z10 := v9.size
          have hs9 := HS.out
          refine ⟨p9, (T5k.out _ k9).putZ _ _ _ _ _ _, (T4k.out _ k9).kept v9 (by simp), (N9.mono (R := fun z => z ≠ s ∧ z ≠ s + 1) (fun z _ hz => ?_)).keep (v9.sms (fun z hz => by simp; exact hz.2)), (R9.mono (R := fun z => z ≠ s ∧ z ≠ s + 1) (fun z _ hz => ?_)).keep (v9.sms (fun z hz => by simp; exact hz.2)), ((kw.trans kW (fun z hz => by simp at hz)).trans k9 (fun z hz => by simp at hz)).trans v9 (fun z hz => Or.inr (by simp at hz; omega)), by omega, ?_⟩
          · rcases hz with h1 | h1
            · exact h1
            · exact ⟨by omega, by omega⟩
          · exact ⟨by omega, by omega⟩
          · have h1 := R9.len
            have h2 := grow_len ((rowN false L).take (i + 1))
            rw [iv_len] at h1
            have h3 : ((rowN false L).take (i + 1)).length ≤ i + 1 := by rw [List.length_take]; omega
            omega
        clear N9 R9 T5k T4k k9
        unfold putZ at KE
        go_wp2
        go_roundw
        case measure => simp [intOf]; omega
        case rel => exact ⟨i + 1, _, _, _, rfl, by go_num, by omega, by omega, KE.out⟩
      · have hend : (rowN false L).take i = rowN false L := List.take_of_length_le (by rw [HL.out]; omega)
        rw [hend, HT.out] at ND
        have b0 : i = 30 ∨ (i < 30 ∧ i = L.length) := by omega
        have kz : Kp [] w (putZ wr s (.int .i64 1) (.int .i64 0) (.string ⟨#[]⟩) (.slice p.1.1 p.1.2.1 p.1.2.2) (.string ⟨#[]⟩) (.slice p.2.1 p.2.2.1 p.2.2.2)) := kw.putZ (Or.inr (by have := HS.out; omega)) _ _ _ _ _ _
        have NF : Hid (Nd Any (putZ wr s (.int .i64 1) (.int .i64 0) (.string ⟨#[]⟩) (.slice p.1.1 p.1.2.1 p.1.2.2) (.string ⟨#[]⟩) (.slice p.2.1 p.2.2.1 p.2.2.2)) (1, 0, NON, [], NON) GT p) := (ND.keep (((Kp.refl [s] wr).putZ (g := s) (Or.inl (by simp)) _ _ _ _ _ _).sms (fun z hz => by simp; exact hz.1))).any
        have D : Hid _ := (T4.putZ (.int .i64 1) (.int .i64 0) (.string ⟨#[]⟩) (.slice p.1.1 p.1.2.1 p.1.2.2) (.string ⟨#[]⟩) (.slice p.2.1 p.2.2.1 p.2.2.2)).six
        have KZ : Hid _ := kz
        obtain ⟨t50, t51, t52, t53, t54, t55⟩ := T5.six
        obtain ⟨t40, t41, t42, t43, t44, t45⟩ := T4.six
        have fr := fun j => T4.free j
        clear ND RW T5 T4 HM HR HT HL kz hend h
        unfold putZ at D KZ NF
        clear b0
        by_cases hh : i < L.length
        · have h30 : ¬ i < 30 := fun h => hlt ⟨hh, h⟩
          clear hlt
          go_wp2
          obtain ⟨d0, d1, d2, d3, d4, d5⟩ := D.out
          exact bodyPost_ret (v := .agg #[.int .i64 1, .int .i64 0, .string ⟨#[]⟩, .slice p.1.1 p.1.2.1 p.1.2.2, .string ⟨#[]⟩, .slice p.2.1 p.2.2.1 p.2.2.2]) (by simp [results, go_sem, d0, d1, d2, d3, d4, d5]) rfl ⟨p, rfl, NF.out, KZ.out⟩
        · clear hlt
          go_wp2
          obtain ⟨d0, d1, d2, d3, d4, d5⟩ := D.out
          exact bodyPost_ret (v := .agg #[.int .i64 1, .int .i64 0, .string ⟨#[]⟩, .slice p.1.1 p.1.2.1 p.1.2.2, .string ⟨#[]⟩, .slice p.2.1 p.2.2.1 p.2.2.2]) (by simp [results, go_sem, d0, d1, d2, d3, d4, d5]) rfl ⟨p, rfl, NF.out, KZ.out⟩
  · go_enter Try.func11, Try.ntmps11
    go_wp2_with fail
    rw [HW.out]
    clear HW hs
    go_loopw [6, 7] (fun x6 x7 wr => ∃ (i : Nat) (ao : Option Addr) (n c : Nat), x6 = .slice ao n c ∧ x7 = .int .i64 i ∧ i ≤ 30 ∧ i ≤ L.length ∧ Gr w wr s (rowN true L) i ao n c) (fun x6 x7 wr => 30 - (intOf x7).toNat)
    case atStart => exact ⟨0, _, _, _, rfl, rfl, Nat.zero_le _, Nat.zero_le _, G0⟩
    case round =>
      clear G0
      obtain ⟨i, ao, n, c, rfl, rfl, hi, hiL, Gi⟩ := hrel
      obtain ⟨p, T5, T4, ND, RW, kw, hsz, hni⟩ := Gi
      have hcap := RW.cap
      by_cases hlt : i < L.length ∧ i < 30
      · obtain ⟨lt1, lt2⟩ := hlt
        obtain ⟨b, off, pa, pn, pc, rfl, hCN, hRp, hpn⟩ := h.at' i lt1
        have hM := HM.out i lt1 lt2
        have HI : Hid (growF ((rowN true L).take (i + 1)) = growS (growF ((rowN true L).take i)) (nodeN true L[i])) := by
          show growF ((rowN true L).take (i + 1)) = _
          rw [hM, grow_snoc]
        have hnode : Hid (nodeN true L[i] = (L[i].up, madeF L[i].kind L[i].ns (cutB L[i].name 9) (cutB L[i].text 9))) := rfl
        have hcc := grow_cnt _ (HR.out i).2
        have hw0 := grow_way ((rowN true L).take i)
        have hl0 := grow_len ((rowN true L).take i)
        have hr0 := (HR.out i).1
        generalize L[i] = nd at hCN hRp HI hnode
        generalize growF ((rowN true L).take i) = gi at ND RW HI hcc hw0 hl0
        have b1 : decide ((i : Int) < (L.length : Int)) = true := decide_eq_true (by omega)
        have b2 : decide ((i : Int) < 30) = true := decide_eq_true (by omega)
        have j1 : (0 : Int) ≤ (i : Int) := by omega
        have j2 : (i : Int) < (L.length : Int) := by omega
        have CNW : Hid (∀ W, Kp [] wr W → CN W b (off + i * 6) nd pa pn pc) := fun W kW => (hCN.kept kw).kept kW
        have SH : Hid (∀ W, Kp [] wr W → Calls Try.prog 27 #[.slice pa pn pc] W fun e w' => ∃ ao' n' c', e = .returned (.slice ao' n' c') ∧ Mp W w' ao' n' c' (short nd.attrs)) := fun W kW => short_any W nd.attrs pa pn pc ((hRp.kept kw).kept kW) hpn
        clear hCN hRp hM
        go_wp2_with fail
        go_cut [8] from 12 to 78 (fun x8 wc => ∃ (g8 : Nat) (pX : Pl), x8 = .pointer (some ⟨g8, 0, none⟩) ∧ At wc g8 #[.int .i64 nd.kind, .int .i64 nd.ns, .string (cutB nd.name 9), .slice pX.1.1 pX.1.2.1 pX.1.2.2, .string (cutB nd.text 9), .slice pX.2.1 pX.2.2.1 pX.2.2.2] 25 ∧ Nd (fun z => wr.heap.size ≤ z ∧ z ≠ g8) wc (cutN nd) .nil pX ∧ Kp [] wr wc ∧ wr.heap.size ≤ g8)
        case first =>
          obtain ⟨U0, hU0⟩ : ∃ V, V = wr.drew := ⟨_, rfl⟩
          have k0 : Kp [] wr U0 := by rw [hU0]; exact (Kp.refl _ _).drew
          refine wp_region_g (S := fun V => CN V b (off + i * 6) nd pa pn pc) (T := [30]) (by kernel_rfl) (CNW.out _ (Kp.refl [] wr).drew) (fun hHeld => ?_)
          rw [← hU0] at hHeld ⊢
          clear hU0
          refine wpAnyG_pure (i := 0) (oi := { dst := some 22, op := Go.Op.move (Go.Operand.tmp 0), type := 30, pos := "law.go:24", after := #[], guard := none }) (v := ?_) rfl (by kernel_rfl) (by kernel_rfl) (by kernel_rfl) (by kernel_rfl) (fun _ _ _ h => h) (Or.inl ⟨by rfl, ?_⟩) (by assumption) ?_
          rotate_left
          · (intro w; go_simp; try with_reducible rfl)
          simp only [Act.put, List.setIfInBounds_toArray, List.set_cons_zero, List.set_cons_succ]
          refine wpAnyG_pure (i := 1) (oi := { dst := some 23, op := Go.Op.move (Go.Operand.tmp 7), type := 3, pos := "law.go:24", after := #[], guard := none }) (v := ?_) rfl (by kernel_rfl) (by kernel_rfl) (by kernel_rfl) (by kernel_rfl) (fun _ _ _ h => h) (Or.inl ⟨by rfl, ?_⟩) (by assumption) ?_
          rotate_left
          · (intro w; go_simp; try with_reducible rfl)
          simp only [Act.put, List.setIfInBounds_toArray, List.set_cons_zero, List.set_cons_succ]
          refine wpAnyG_pure (i := 2) (oi := { dst := some 24, op := Go.Op.indexAddr 30 (Go.Operand.tmp 22) (Go.Operand.tmp 23), type := 0, pos := "law.go:24", after := #[{ on := 0, ground := Go.Ground.data }, { on := 1, ground := Go.Ground.data }], guard := none }) (v := ?_) rfl (by kernel_rfl) (by kernel_rfl) (by kernel_rfl) (by kernel_rfl) (fun _ _ _ h => h) (Or.inl ⟨by rfl, ?_⟩) (by assumption) ?_
          rotate_left
          · (intro w; go_simp; try with_reducible rfl)
          simp only [Act.put, List.setIfInBounds_toArray, List.set_cons_zero, List.set_cons_succ]
          refine wpAnyG_pure (i := 3) (oi := { dst := some 25, op := Go.Op.fieldAddr 42 (Go.Operand.tmp 24) 0, type := 0, pos := "law.go:24", after := #[{ on := 2, ground := Go.Ground.data }], guard := none }) (v := ?_) rfl (by kernel_rfl) (by kernel_rfl) (by kernel_rfl) (by kernel_rfl) (fun _ _ _ h => h) (Or.inl ⟨by rfl, ?_⟩) (by assumption) ?_
          rotate_left
          · (intro w; go_simp; try with_reducible rfl)
          simp only [Act.put, List.setIfInBounds_toArray, List.set_cons_zero, List.set_cons_succ]
          refine wpAnyG_take (i := 4) (oi := { dst := some 26, op := Go.Op.load 3 (Go.Operand.tmp 25), type := 3, pos := "law.go:24", after := #[{ on := 3, ground := Go.Ground.data }], guard := none }) (v := ?_) rfl (by kernel_rfl) (by kernel_rfl) (by kernel_rfl) (by kernel_rfl) (fun _ _ _ h => h) (Or.inl ⟨by rfl, ?_⟩) (by assumption) ?_
          rotate_left
          · (intro w hSw; (obtain ⟨c0, c1, c2, c3, c4, c5⟩ := hSw); go_simp; try with_reducible rfl)
          simp only [Act.put, List.setIfInBounds_toArray, List.set_cons_zero, List.set_cons_succ]
          refine wpAnyG_pure (i := 5) (oi := { dst := some 27, op := Go.Op.move (Go.Operand.tmp 0), type := 30, pos := "law.go:24", after := #[], guard := none }) (v := ?_) rfl (by kernel_rfl) (by kernel_rfl) (by kernel_rfl) (by kernel_rfl) (fun _ _ _ h => h) (Or.inl ⟨by rfl, ?_⟩) (by assumption) ?_
          rotate_left
          · (intro w; go_simp; try with_reducible rfl)
          simp only [Act.put, List.setIfInBounds_toArray, List.set_cons_zero, List.set_cons_succ]
          refine wpAnyG_pure (i := 6) (oi := { dst := some 28, op := Go.Op.move (Go.Operand.tmp 7), type := 3, pos := "law.go:24", after := #[], guard := none }) (v := ?_) rfl (by kernel_rfl) (by kernel_rfl) (by kernel_rfl) (by kernel_rfl) (fun _ _ _ h => h) (Or.inl ⟨by rfl, ?_⟩) (by assumption) ?_
          rotate_left
          · (intro w; go_simp; try with_reducible rfl)
          simp only [Act.put, List.setIfInBounds_toArray, List.set_cons_zero, List.set_cons_succ]
          refine wpAnyG_pure (i := 7) (oi := { dst := some 29, op := Go.Op.indexAddr 30 (Go.Operand.tmp 27) (Go.Operand.tmp 28), type := 0, pos := "law.go:24", after := #[{ on := 5, ground := Go.Ground.data }, { on := 6, ground := Go.Ground.data }], guard := none }) (v := ?_) rfl (by kernel_rfl) (by kernel_rfl) (by kernel_rfl) (by kernel_rfl) (fun _ _ _ h => h) (Or.inl ⟨by rfl, ?_⟩) (by assumption) ?_
          rotate_left
          · (intro w; go_simp; try with_reducible rfl)
          simp only [Act.put, List.setIfInBounds_toArray, List.set_cons_zero, List.set_cons_succ]
          refine wpAnyG_pure (i := 8) (oi := { dst := some 30, op := Go.Op.fieldAddr 42 (Go.Operand.tmp 29) 1, type := 0, pos := "law.go:24", after := #[{ on := 7, ground := Go.Ground.data }], guard := none }) (v := ?_) rfl (by kernel_rfl) (by kernel_rfl) (by kernel_rfl) (by kernel_rfl) (fun _ _ _ h => h) (Or.inl ⟨by rfl, ?_⟩) (by assumption) ?_
          rotate_left
          · (intro w; go_simp; try with_reducible rfl)
          simp only [Act.put, List.setIfInBounds_toArray, List.set_cons_zero, List.set_cons_succ]
          refine wpAnyG_take (i := 9) (oi := { dst := some 31, op := Go.Op.load 3 (Go.Operand.tmp 30), type := 3, pos := "law.go:24", after := #[{ on := 8, ground := Go.Ground.data }], guard := none }) (v := ?_) rfl (by kernel_rfl) (by kernel_rfl) (by kernel_rfl) (by kernel_rfl) (fun _ _ _ h => h) (Or.inl ⟨by rfl, ?_⟩) (by assumption) ?_
          rotate_left
          · (intro w hSw; (obtain ⟨c0, c1, c2, c3, c4, c5⟩ := hSw); go_simp; try with_reducible rfl)
          simp only [Act.put, List.setIfInBounds_toArray, List.set_cons_zero, List.set_cons_succ]
          refine wpAnyG_pure (i := 10) (oi := { dst := some 32, op := Go.Op.move (Go.Operand.tmp 0), type := 30, pos := "law.go:24", after := #[], guard := none }) (v := ?_) rfl (by kernel_rfl) (by kernel_rfl) (by kernel_rfl) (by kernel_rfl) (fun _ _ _ h => h) (Or.inl ⟨by rfl, ?_⟩) (by assumption) ?_
          rotate_left
          · (intro w; go_simp; try with_reducible rfl)
          simp only [Act.put, List.setIfInBounds_toArray, List.set_cons_zero, List.set_cons_succ]
          refine wpAnyG_pure (i := 11) (oi := { dst := some 33, op := Go.Op.move (Go.Operand.tmp 7), type := 3, pos := "law.go:24", after := #[], guard := none }) (v := ?_) rfl (by kernel_rfl) (by kernel_rfl) (by kernel_rfl) (by kernel_rfl) (fun _ _ _ h => h) (Or.inl ⟨by rfl, ?_⟩) (by assumption) ?_
          rotate_left
          · (intro w; go_simp; try with_reducible rfl)
          simp only [Act.put, List.setIfInBounds_toArray, List.set_cons_zero, List.set_cons_succ]
          refine wpAnyG_pure (i := 12) (oi := { dst := some 34, op := Go.Op.indexAddr 30 (Go.Operand.tmp 32) (Go.Operand.tmp 33), type := 0, pos := "law.go:24", after := #[{ on := 10, ground := Go.Ground.data }, { on := 11, ground := Go.Ground.data }], guard := none }) (v := ?_) rfl (by kernel_rfl) (by kernel_rfl) (by kernel_rfl) (by kernel_rfl) (fun _ _ _ h => h) (Or.inl ⟨by rfl, ?_⟩) (by assumption) ?_
          rotate_left
          · (intro w; go_simp; try with_reducible rfl)
          simp only [Act.put, List.setIfInBounds_toArray, List.set_cons_zero, List.set_cons_succ]
          refine wpAnyG_pure (i := 13) (oi := { dst := some 35, op := Go.Op.fieldAddr 42 (Go.Operand.tmp 34) 3, type := 0, pos := "law.go:24", after := #[{ on := 12, ground := Go.Ground.data }], guard := none }) (v := ?_) rfl (by kernel_rfl) (by kernel_rfl) (by kernel_rfl) (by kernel_rfl) (fun _ _ _ h => h) (Or.inl ⟨by rfl, ?_⟩) (by assumption) ?_
          rotate_left
          · (intro w; go_simp; try with_reducible rfl)
          simp only [Act.put, List.setIfInBounds_toArray, List.set_cons_zero, List.set_cons_succ]
          refine wpAnyG_take (i := 14) (oi := { dst := some 36, op := Go.Op.load 9 (Go.Operand.tmp 35), type := 9, pos := "law.go:24", after := #[{ on := 13, ground := Go.Ground.data }], guard := none }) (v := ?_) rfl (by kernel_rfl) (by kernel_rfl) (by kernel_rfl) (by kernel_rfl) (fun _ _ _ h => h) (Or.inl ⟨by rfl, ?_⟩) (by assumption) ?_
          rotate_left
          · (intro w hSw; (obtain ⟨c0, c1, c2, c3, c4, c5⟩ := hSw); go_simp; try with_reducible rfl)
          simp only [Act.put, List.setIfInBounds_toArray, List.set_cons_zero, List.set_cons_succ]
          refine wpAnyG_pure (i := 16) (oi := { dst := some 38, op := Go.Op.move (Go.Operand.tmp 0), type := 30, pos := "law.go:24", after := #[], guard := none }) (v := ?_) rfl (by kernel_rfl) (by kernel_rfl) (by kernel_rfl) (by kernel_rfl) (fun _ _ _ h => h) (Or.inl ⟨by rfl, ?_⟩) (by assumption) ?_
          rotate_left
          · (intro w; go_simp; try with_reducible rfl)
          simp only [Act.put, List.setIfInBounds_toArray, List.set_cons_zero, List.set_cons_succ]
          refine wpAnyG_pure (i := 17) (oi := { dst := some 39, op := Go.Op.move (Go.Operand.tmp 7), type := 3, pos := "law.go:24", after := #[], guard := none }) (v := ?_) rfl (by kernel_rfl) (by kernel_rfl) (by kernel_rfl) (by kernel_rfl) (fun _ _ _ h => h) (Or.inl ⟨by rfl, ?_⟩) (by assumption) ?_
          rotate_left
          · (intro w; go_simp; try with_reducible rfl)
          simp only [Act.put, List.setIfInBounds_toArray, List.set_cons_zero, List.set_cons_succ]
          refine wpAnyG_pure (i := 18) (oi := { dst := some 40, op := Go.Op.indexAddr 30 (Go.Operand.tmp 38) (Go.Operand.tmp 39), type := 0, pos := "law.go:24", after := #[{ on := 16, ground := Go.Ground.data }, { on := 17, ground := Go.Ground.data }], guard := none }) (v := ?_) rfl (by kernel_rfl) (by kernel_rfl) (by kernel_rfl) (by kernel_rfl) (fun _ _ _ h => h) (Or.inl ⟨by rfl, ?_⟩) (by assumption) ?_
          rotate_left
          · (intro w; go_simp; try with_reducible rfl)
          simp only [Act.put, List.setIfInBounds_toArray, List.set_cons_zero, List.set_cons_succ]
          refine wpAnyG_pure (i := 19) (oi := { dst := some 41, op := Go.Op.fieldAddr 42 (Go.Operand.tmp 40) 4, type := 0, pos := "law.go:24", after := #[{ on := 18, ground := Go.Ground.data }], guard := none }) (v := ?_) rfl (by kernel_rfl) (by kernel_rfl) (by kernel_rfl) (by kernel_rfl) (fun _ _ _ h => h) (Or.inl ⟨by rfl, ?_⟩) (by assumption) ?_
          rotate_left
          · (intro w; go_simp; try with_reducible rfl)
          simp only [Act.put, List.setIfInBounds_toArray, List.set_cons_zero, List.set_cons_succ]
          refine wpAnyG_take (i := 20) (oi := { dst := some 42, op := Go.Op.load 9 (Go.Operand.tmp 41), type := 9, pos := "law.go:24", after := #[{ on := 19, ground := Go.Ground.data }], guard := none }) (v := ?_) rfl (by kernel_rfl) (by kernel_rfl) (by kernel_rfl) (by kernel_rfl) (fun _ _ _ h => h) (Or.inl ⟨by rfl, ?_⟩) (by assumption) ?_
          rotate_left
          · (intro w hSw; (obtain ⟨c0, c1, c2, c3, c4, c5⟩ := hSw); go_simp; try with_reducible rfl)
          simp only [Act.put, List.setIfInBounds_toArray, List.set_cons_zero, List.set_cons_succ]
          refine wpAnyG_pure (i := 22) (oi := { dst := some 44, op := Go.Op.move (Go.Operand.tmp 0), type := 30, pos := "law.go:24", after := #[], guard := none }) (v := ?_) rfl (by kernel_rfl) (by kernel_rfl) (by kernel_rfl) (by kernel_rfl) (fun _ _ _ h => h) (Or.inl ⟨by rfl, ?_⟩) (by assumption) ?_
          rotate_left
          · (intro w; go_simp; try with_reducible rfl)
          simp only [Act.put, List.setIfInBounds_toArray, List.set_cons_zero, List.set_cons_succ]
          refine wpAnyG_pure (i := 23) (oi := { dst := some 45, op := Go.Op.move (Go.Operand.tmp 7), type := 3, pos := "law.go:24", after := #[], guard := none }) (v := ?_) rfl (by kernel_rfl) (by kernel_rfl) (by kernel_rfl) (by kernel_rfl) (fun _ _ _ h => h) (Or.inl ⟨by rfl, ?_⟩) (by assumption) ?_
          rotate_left
          · (intro w; go_simp; try with_reducible rfl)
          simp only [Act.put, List.setIfInBounds_toArray, List.set_cons_zero, List.set_cons_succ]
          refine wpAnyG_pure (i := 24) (oi := { dst := some 46, op := Go.Op.indexAddr 30 (Go.Operand.tmp 44) (Go.Operand.tmp 45), type := 0, pos := "law.go:24", after := #[{ on := 22, ground := Go.Ground.data }, { on := 23, ground := Go.Ground.data }], guard := none }) (v := ?_) rfl (by kernel_rfl) (by kernel_rfl) (by kernel_rfl) (by kernel_rfl) (fun _ _ _ h => h) (Or.inl ⟨by rfl, ?_⟩) (by assumption) ?_
          rotate_left
          · (intro w; go_simp; try with_reducible rfl)
          simp only [Act.put, List.setIfInBounds_toArray, List.set_cons_zero, List.set_cons_succ]
          refine wpAnyG_pure (i := 25) (oi := { dst := some 47, op := Go.Op.fieldAddr 42 (Go.Operand.tmp 46) 5, type := 0, pos := "law.go:24", after := #[{ on := 24, ground := Go.Ground.data }], guard := none }) (v := ?_) rfl (by kernel_rfl) (by kernel_rfl) (by kernel_rfl) (by kernel_rfl) (fun _ _ _ h => h) (Or.inl ⟨by rfl, ?_⟩) (by assumption) ?_
          rotate_left
          · (intro w; go_simp; try with_reducible rfl)
          simp only [Act.put, List.setIfInBounds_toArray, List.set_cons_zero, List.set_cons_succ]
          refine wpAnyG_take (i := 26) (oi := { dst := some 48, op := Go.Op.load 22 (Go.Operand.tmp 47), type := 22, pos := "law.go:24", after := #[{ on := 25, ground := Go.Ground.data }], guard := none }) (v := ?_) rfl (by kernel_rfl) (by kernel_rfl) (by kernel_rfl) (by kernel_rfl) (fun _ _ _ h => h) (Or.inl ⟨by rfl, ?_⟩) (by assumption) ?_
          rotate_left
          · (intro w hSw; (obtain ⟨c0, c1, c2, c3, c4, c5⟩ := hSw); go_simp; try with_reducible rfl)
          simp only [Act.put, List.setIfInBounds_toArray, List.set_cons_zero, List.set_cons_succ]
          refine wpAnyG_ready (rs := [15, 29]) (by kernel_rfl) (by simp) ?_
          refine AllReadyG.cons (o := { dst := some 37, op := Go.Op.call { callee := Go.Callee.value (Go.Operand.func 18), args := #[Go.Operand.tmp 36, Go.Operand.const (Go.Value.int Go.IntKind.i64 9)], argTypes := #[9, 3] }, type := 9, pos := "law.go:24", after := #[{ on := 14, ground := Go.Ground.data }], guard := none }) rfl (fun K hK => ?_) ?_
          · go_simp
            go_at_call 18
            refine (hd_any U0 nd.name).mono ?_
            rintro e U1 ⟨rfl, u1⟩
            go_wp2_with fail
            have k1 : Kp [] wr U1 := k0.trans u1 (fun z hz => by simp at hz)
            refine hK.out _ _ (CNW.out _ k1) (fun hHeld1 => ?_)
            clear hK K hHeld
            try simp only [Act.put, List.setIfInBounds_toArray, List.set_cons_zero, List.set_cons_succ]
            refine wpAnyG_ready (rs := [21, 29]) (by kernel_rfl) (by simp) ?_
            refine AllReadyG.cons (o := { dst := some 43, op := Go.Op.call { callee := Go.Callee.value (Go.Operand.func 18), args := #[Go.Operand.tmp 42, Go.Operand.const (Go.Value.int Go.IntKind.i64 9)], argTypes := #[9, 3] }, type := 9, pos := "law.go:24", after := #[{ on := 20, ground := Go.Ground.data }, { on := 15, ground := Go.Ground.chain }], guard := none }) rfl (fun K hK => ?_) ?_
            · go_simp
              go_at_call 18
              refine (hd_any U1 nd.text).mono ?_
              rintro e U2 ⟨rfl, u2⟩
              go_wp2_with fail
              have k2 : Kp [] wr U2 := k1.trans u2 (fun z hz => by simp at hz)
              refine hK.out _ _ (CNW.out _ k2) (fun hHeld2 => ?_)
              clear hK K hHeld1
              try simp only [Act.put, List.setIfInBounds_toArray, List.set_cons_zero, List.set_cons_succ]
              refine wpAnyG_ready (rs := [27, 29]) (by kernel_rfl) (by simp) ?_
              refine AllReadyG.cons (o := { dst := some 49, op := Go.Op.call { callee := Go.Callee.value (Go.Operand.func 27), args := #[Go.Operand.tmp 48], argTypes := #[22] }, type := 22, pos := "law.go:24", after := #[{ on := 26, ground := Go.Ground.data }, { on := 21, ground := Go.Ground.chain }], guard := none }) rfl (fun K hK => ?_) ?_
              · go_simp
                go_at_call 27
                refine (SH.out _ k2).mono ?_
                rintro e U3 ⟨aX, nX, cX, rfl, MP⟩
                go_wp2_with fail
                have u3 := MP.kp
                have k3 : Kp [] wr U3 := k2.trans u3 (fun z hz => by simp at hz)
                have sz2 := k2.size
                have RA : Rk (fun z => wr.heap.size ≤ z ∧ z < U3.heap.size) 2 U3 aX nX cX (cs (short nd.attrs)) := (MP.rk (Q := fun z => wr.heap.size ≤ z) (fun z hz => by omega)).mono (fun z hl hz => ⟨hz, hl⟩)
                refine hK.out _ _ (CNW.out _ k3) (fun hHeld3 => ?_)
                clear hK K hHeld2
                try simp only [Act.put, List.setIfInBounds_toArray, List.set_cons_zero, List.set_cons_succ]
                refine wpAnyG_pure (i := 28) (oi := { dst := some 50, op := Go.Op.build 25 #[(0, Go.Operand.tmp 26), (1, Go.Operand.tmp 31), (2, Go.Operand.tmp 37), (4, Go.Operand.tmp 43), (3, Go.Operand.tmp 49)], type := 25, pos := "law.go:24", after := #[{ on := 4, ground := Go.Ground.data }, { on := 9, ground := Go.Ground.data }, { on := 15, ground := Go.Ground.data }, { on := 21, ground := Go.Ground.data }, { on := 27, ground := Go.Ground.data }], guard := none }) (v := ?_) rfl (by kernel_rfl) (by kernel_rfl) (by kernel_rfl) (by kernel_rfl) (fun _ _ _ h => h) (Or.inl ⟨by rfl, ?_⟩) (by assumption) ?_
                rotate_left
                · (intro w; go_simp; try with_reducible rfl)
                simp only [Act.put, List.setIfInBounds_toArray, List.set_cons_zero, List.set_cons_succ]
                refine wpAnyG_ready (rs := [29]) (by kernel_rfl) (by simp) ?_
                refine AllReadyG.cons (o := { dst := some 8, op := Go.Op.alloc 25, type := 0, pos := "law.go:24", after := #[], guard := none }) rfl (fun K hK => ?_) AllReadyG.nil
                go_simp
                obtain ⟨U4, hU⟩ : ∃ V, V = World.alloc U3 (.cells #[.int .i64 0, .int .i64 0, .string ⟨#[]⟩, .slice none 0 0, .string ⟨#[]⟩, .slice none 0 0] 25) := ⟨_, rfl⟩
                rw [← hU]
                have u4 : Kp [] U3 U4 := by rw [hU]; exact (Kp.refl _ _).alloc _
                have k4 : Kp [] wr U4 := k3.trans u4 (fun z hz => by simp at hz)
                have T8 : At U4 U3.heap.size #[.int .i64 0, .int .i64 0, .string ⟨#[]⟩, .slice none 0 0, .string ⟨#[]⟩, .slice none 0 0] 25 := by rw [hU]; exact At.new _ _ _
                have zz : U3.heap.size < U4.heap.size := by rw [hU]; simp
                have n8 := k3.size
                obtain ⟨g8, hg8⟩ : ∃ g, U3.heap.size = g := ⟨_, rfl⟩
                rw [hg8] at T8 ⊢
                clear hU
                have RA := (RA.kept u4).mono (R := fun z => wr.heap.size ≤ z ∧ z ≠ g8) (fun z _ hz => ⟨hz.1, by have := hz.2; omega⟩)
                refine hK.out _ _ (CNW.out _ k4) (fun hHeld4 => ?_)
                clear hK K hHeld3
                try simp only [Act.put, List.setIfInBounds_toArray, List.set_cons_zero, List.set_cons_succ]
                refine wpAnyG_free (by kernel_rfl) ?_
                refine wpAny_ready (rs := [30]) (by kernel_rfl) (by simp) ?_
                refine AllReady.cons (o := { dst := none, op := Go.Op.store 25 (Go.Operand.tmp 8) (Go.Operand.tmp 50), type := 0, pos := "law.go:24", after := #[{ on := 29, ground := Go.Ground.data }, { on := 28, ground := Go.Ground.data }, { on := 27, ground := Go.Ground.chain }, { on := 0, ground := Go.Ground.phase }, { on := 1, ground := Go.Ground.phase }, { on := 2, ground := Go.Ground.phase }, { on := 3, ground := Go.Ground.phase }, { on := 4, ground := Go.Ground.phase }, { on := 5, ground := Go.Ground.phase }, { on := 6, ground := Go.Ground.phase }, { on := 7, ground := Go.Ground.phase }, { on := 8, ground := Go.Ground.phase }, { on := 9, ground := Go.Ground.phase }, { on := 10, ground := Go.Ground.phase }, { on := 11, ground := Go.Ground.phase }, { on := 12, ground := Go.Ground.phase }, { on := 13, ground := Go.Ground.phase }, { on := 14, ground := Go.Ground.phase }, { on := 15, ground := Go.Ground.phase }, { on := 16, ground := Go.Ground.phase }, { on := 17, ground := Go.Ground.phase }, { on := 18, ground := Go.Ground.phase }, { on := 19, ground := Go.Ground.phase }, { on := 20, ground := Go.Ground.phase }, { on := 21, ground := Go.Ground.phase }, { on := 22, ground := Go.Ground.phase }, { on := 23, ground := Go.Ground.phase }, { on := 24, ground := Go.Ground.phase }, { on := 25, ground := Go.Ground.phase }, { on := 26, ground := Go.Ground.phase }, { on := 27, ground := Go.Ground.phase }, { on := 28, ground := Go.Ground.phase }, { on := 29, ground := Go.Ground.phase }], guard := none }) rfl (fun K hK => ?_) AllReady.nil
                obtain ⟨d20, d21, d22, d23, d24, d25⟩ := T8.six
                have fr2 := fun j => T8.free j
                go_simp
                refine hK _ _ ?_
                clear hK K
                try simp only [Act.put, List.setIfInBounds_toArray, List.set_cons_zero, List.set_cons_succ]
                refine wpAny_done (by kernel_rfl) ?_ _
                clear d20 d21 d22 d23 d24 d25 fr2
                obtain ⟨W, hW⟩ : ∃ F, F = putZ U4 g8 (.int .i64 nd.kind) (.int .i64 nd.ns) (.string (cutB nd.name 9)) (.slice aX nX cX) (.string (cutB nd.text 9)) (.slice none 0 0) := ⟨_, rfl⟩
                have hWu := hW
                unfold putZ at hWu
                rw [← hWu]
                clear hWu
                have v8 : Kp [g8] U4 W := by rw [hW]; exact (Kp.refl _ _).putZ (g := g8) (Or.inl (by simp)) (.int .i64 nd.kind) (.int .i64 nd.ns) (.string (cutB nd.name 9)) (.slice aX nX cX) (.string (cutB nd.text 9)) (.slice none 0 0)
                have T8 : At W g8 #[.int .i64 nd.kind, .int .i64 nd.ns, .string (cutB nd.name 9), .slice aX nX cX, .string (cutB nd.text 9), .slice none 0 0] 25 := by rw [hW]; exact T8.putZ (.int .i64 nd.kind) (.int .i64 nd.ns) (.string (cutB nd.name 9)) (.slice aX nX cX) (.string (cutB nd.text 9)) (.slice none 0 0)
                clear hW
                have kW : Kp [] wr W := k4.trans v8 (fun z hz => Or.inr (by simp at hz; omega))
                have RA := RA.keep (v8.sms (fun z hz => by simp; exact hz.2))
                go_wp2_with fail
                go_meet
                case rel => exact ⟨g8, ((aX, nX, cX), (none, 0, 0)), rfl, T8, ⟨RA, Rt.nil _ _ _ _⟩, kW, by omega⟩
              refine AllReadyG.cons (o := { dst := some 8, op := Go.Op.alloc 25, type := 0, pos := "law.go:24", after := #[], guard := none }) rfl (fun K hK => ?_) AllReadyG.nil
              go_simp
              obtain ⟨U3, hU⟩ : ∃ V, V = World.alloc U2 (.cells #[.int .i64 0, .int .i64 0, .string ⟨#[]⟩, .slice none 0 0, .string ⟨#[]⟩, .slice none 0 0] 25) := ⟨_, rfl⟩
              rw [← hU]
              have u3 : Kp [] U2 U3 := by rw [hU]; exact (Kp.refl _ _).alloc _
              have k3 : Kp [] wr U3 := k2.trans u3 (fun z hz => by simp at hz)
              have T8 : At U3 U2.heap.size #[.int .i64 0, .int .i64 0, .string ⟨#[]⟩, .slice none 0 0, .string ⟨#[]⟩, .slice none 0 0] 25 := by rw [hU]; exact At.new _ _ _
              have zz : U2.heap.size < U3.heap.size := by rw [hU]; simp
              have n8 := k2.size
              obtain ⟨g8, hg8⟩ : ∃ g, U2.heap.size = g := ⟨_, rfl⟩
              rw [hg8] at T8 ⊢
              clear hU
              refine hK.out _ _ (CNW.out _ k3) (fun hHeld3 => ?_)
              clear hK K hHeld2
              try simp only [Act.put, List.setIfInBounds_toArray, List.set_cons_zero, List.set_cons_succ]
              refine wpAnyG_ready (rs := [27]) (by kernel_rfl) (by simp) ?_
              refine AllReadyG.cons (o := { dst := some 49, op := Go.Op.call { callee := Go.Callee.value (Go.Operand.func 27), args := #[Go.Operand.tmp 48], argTypes := #[22] }, type := 22, pos := "law.go:24", after := #[{ on := 26, ground := Go.Ground.data }, { on := 21, ground := Go.Ground.chain }], guard := none }) rfl (fun K hK => ?_) AllReadyG.nil
              go_simp
              go_at_call 27
              refine (SH.out _ k3).mono ?_
              rintro e U4 ⟨aX, nX, cX, rfl, MP⟩
              go_wp2_with fail
              have u4 := MP.kp
              have k4 : Kp [] wr U4 := k3.trans u4 (fun z hz => by simp at hz)
              have sz3 := k3.size
              have T8 := T8.kept u4 (by simp)
              have RA : Rk (fun z => wr.heap.size ≤ z ∧ z ≠ g8) 2 U4 aX nX cX (cs (short nd.attrs)) := MP.rk (fun z hz => by  exact ⟨by omega, by omega⟩)
              refine hK.out _ _ (CNW.out _ k4) (fun hHeld4 => ?_)
              clear hK K hHeld3
              try simp only [Act.put, List.setIfInBounds_toArray, List.set_cons_zero, List.set_cons_succ]
              refine wpAnyG_pure (i := 28) (oi := { dst := some 50, op := Go.Op.build 25 #[(0, Go.Operand.tmp 26), (1, Go.Operand.tmp 31), (2, Go.Operand.tmp 37), (4, Go.Operand.tmp 43), (3, Go.Operand.tmp 49)], type := 25, pos := "law.go:24", after := #[{ on := 4, ground := Go.Ground.data }, { on := 9, ground := Go.Ground.data }, { on := 15, ground := Go.Ground.data }, { on := 21, ground := Go.Ground.data }, { on := 27, ground := Go.Ground.data }], guard := none }) (v := ?_) rfl (by kernel_rfl) (by kernel_rfl) (by kernel_rfl) (by kernel_rfl) (fun _ _ _ h => h) (Or.inl ⟨by rfl, ?_⟩) (by assumption) ?_
              rotate_left
              · (intro w; go_simp; try with_reducible rfl)
              simp only [Act.put, List.setIfInBounds_toArray, List.set_cons_zero, List.set_cons_succ]
              refine wpAnyG_free (by kernel_rfl) ?_
              refine wpAny_ready (rs := [30]) (by kernel_rfl) (by simp) ?_
              refine AllReady.cons (o := { dst := none, op := Go.Op.store 25 (Go.Operand.tmp 8) (Go.Operand.tmp 50), type := 0, pos := "law.go:24", after := #[{ on := 29, ground := Go.Ground.data }, { on := 28, ground := Go.Ground.data }, { on := 27, ground := Go.Ground.chain }, { on := 0, ground := Go.Ground.phase }, { on := 1, ground := Go.Ground.phase }, { on := 2, ground := Go.Ground.phase }, { on := 3, ground := Go.Ground.phase }, { on := 4, ground := Go.Ground.phase }, { on := 5, ground := Go.Ground.phase }, { on := 6, ground := Go.Ground.phase }, { on := 7, ground := Go.Ground.phase }, { on := 8, ground := Go.Ground.phase }, { on := 9, ground := Go.Ground.phase }, { on := 10, ground := Go.Ground.phase }, { on := 11, ground := Go.Ground.phase }, { on := 12, ground := Go.Ground.phase }, { on := 13, ground := Go.Ground.phase }, { on := 14, ground := Go.Ground.phase }, { on := 15, ground := Go.Ground.phase }, { on := 16, ground := Go.Ground.phase }, { on := 17, ground := Go.Ground.phase }, { on := 18, ground := Go.Ground.phase }, { on := 19, ground := Go.Ground.phase }, { on := 20, ground := Go.Ground.phase }, { on := 21, ground := Go.Ground.phase }, { on := 22, ground := Go.Ground.phase }, { on := 23, ground := Go.Ground.phase }, { on := 24, ground := Go.Ground.phase }, { on := 25, ground := Go.Ground.phase }, { on := 26, ground := Go.Ground.phase }, { on := 27, ground := Go.Ground.phase }, { on := 28, ground := Go.Ground.phase }, { on := 29, ground := Go.Ground.phase }], guard := none }) rfl (fun K hK => ?_) AllReady.nil
              obtain ⟨d20, d21, d22, d23, d24, d25⟩ := T8.six
              have fr2 := fun j => T8.free j
              go_simp
              refine hK _ _ ?_
              clear hK K
              try simp only [Act.put, List.setIfInBounds_toArray, List.set_cons_zero, List.set_cons_succ]
              refine wpAny_done (by kernel_rfl) ?_ _
              clear d20 d21 d22 d23 d24 d25 fr2
              obtain ⟨W, hW⟩ : ∃ F, F = putZ U4 g8 (.int .i64 nd.kind) (.int .i64 nd.ns) (.string (cutB nd.name 9)) (.slice aX nX cX) (.string (cutB nd.text 9)) (.slice none 0 0) := ⟨_, rfl⟩
              have hWu := hW
              unfold putZ at hWu
              rw [← hWu]
              clear hWu
              have v8 : Kp [g8] U4 W := by rw [hW]; exact (Kp.refl _ _).putZ (g := g8) (Or.inl (by simp)) (.int .i64 nd.kind) (.int .i64 nd.ns) (.string (cutB nd.name 9)) (.slice aX nX cX) (.string (cutB nd.text 9)) (.slice none 0 0)
              have T8 : At W g8 #[.int .i64 nd.kind, .int .i64 nd.ns, .string (cutB nd.name 9), .slice aX nX cX, .string (cutB nd.text 9), .slice none 0 0] 25 := by rw [hW]; exact T8.putZ (.int .i64 nd.kind) (.int .i64 nd.ns) (.string (cutB nd.name 9)) (.slice aX nX cX) (.string (cutB nd.text 9)) (.slice none 0 0)
              clear hW
              have kW : Kp [] wr W := k4.trans v8 (fun z hz => Or.inr (by simp at hz; omega))
              have RA := RA.keep (v8.sms (fun z hz => by simp; exact hz.2))
              go_wp2_with fail
              go_meet
              case rel => exact ⟨g8, ((aX, nX, cX), (none, 0, 0)), rfl, T8, ⟨RA, Rt.nil _ _ _ _⟩, kW, by omega⟩
            refine AllReadyG.cons (o := { dst := some 8, op := Go.Op.alloc 25, type := 0, pos := "law.go:24", after := #[], guard := none }) rfl (fun K hK => ?_) AllReadyG.nil
            go_simp
            obtain ⟨U2, hU⟩ : ∃ V, V = World.alloc U1 (.cells #[.int .i64 0, .int .i64 0, .string ⟨#[]⟩, .slice none 0 0, .string ⟨#[]⟩, .slice none 0 0] 25) := ⟨_, rfl⟩
            rw [← hU]
            have u2 : Kp [] U1 U2 := by rw [hU]; exact (Kp.refl _ _).alloc _
            have k2 : Kp [] wr U2 := k1.trans u2 (fun z hz => by simp at hz)
            have T8 : At U2 U1.heap.size #[.int .i64 0, .int .i64 0, .string ⟨#[]⟩, .slice none 0 0, .string ⟨#[]⟩, .slice none 0 0] 25 := by rw [hU]; exact At.new _ _ _
            have zz : U1.heap.size < U2.heap.size := by rw [hU]; simp
            have n8 := k1.size
            obtain ⟨g8, hg8⟩ : ∃ g, U1.heap.size = g := ⟨_, rfl⟩
            rw [hg8] at T8 ⊢
            clear hU
            refine hK.out _ _ (CNW.out _ k2) (fun hHeld2 => ?_)
            clear hK K hHeld1
            try simp only [Act.put, List.setIfInBounds_toArray, List.set_cons_zero, List.set_cons_succ]
            refine wpAnyG_ready (rs := [21]) (by kernel_rfl) (by simp) ?_
            refine AllReadyG.cons (o := { dst := some 43, op := Go.Op.call { callee := Go.Callee.value (Go.Operand.func 18), args := #[Go.Operand.tmp 42, Go.Operand.const (Go.Value.int Go.IntKind.i64 9)], argTypes := #[9, 3] }, type := 9, pos := "law.go:24", after := #[{ on := 20, ground := Go.Ground.data }, { on := 15, ground := Go.Ground.chain }], guard := none }) rfl (fun K hK => ?_) AllReadyG.nil
            go_simp
            go_at_call 18
            refine (hd_any U2 nd.text).mono ?_
            rintro e U3 ⟨rfl, u3⟩
            go_wp2_with fail
            have k3 : Kp [] wr U3 := k2.trans u3 (fun z hz => by simp at hz)
            have T8 := T8.kept u3 (by simp)
            refine hK.out _ _ (CNW.out _ k3) (fun hHeld3 => ?_)
            clear hK K hHeld2
            try simp only [Act.put, List.setIfInBounds_toArray, List.set_cons_zero, List.set_cons_succ]
            refine wpAnyG_ready (rs := [27]) (by kernel_rfl) (by simp) ?_
            refine AllReadyG.cons (o := { dst := some 49, op := Go.Op.call { callee := Go.Callee.value (Go.Operand.func 27), args := #[Go.Operand.tmp 48], argTypes := #[22] }, type := 22, pos := "law.go:24", after := #[{ on := 26, ground := Go.Ground.data }, { on := 21, ground := Go.Ground.chain }], guard := none }) rfl (fun K hK => ?_) AllReadyG.nil
            go_simp
            go_at_call 27
            refine (SH.out _ k3).mono ?_
            rintro e U4 ⟨aX, nX, cX, rfl, MP⟩
            go_wp2_with fail
            have u4 := MP.kp
            have k4 : Kp [] wr U4 := k3.trans u4 (fun z hz => by simp at hz)
            have sz3 := k3.size
            have T8 := T8.kept u4 (by simp)
            have RA : Rk (fun z => wr.heap.size ≤ z ∧ z ≠ g8) 2 U4 aX nX cX (cs (short nd.attrs)) := MP.rk (fun z hz => by have := u3.size; exact ⟨by omega, by omega⟩)
            refine hK.out _ _ (CNW.out _ k4) (fun hHeld4 => ?_)
            clear hK K hHeld3
            try simp only [Act.put, List.setIfInBounds_toArray, List.set_cons_zero, List.set_cons_succ]
            refine wpAnyG_pure (i := 28) (oi := { dst := some 50, op := Go.Op.build 25 #[(0, Go.Operand.tmp 26), (1, Go.Operand.tmp 31), (2, Go.Operand.tmp 37), (4, Go.Operand.tmp 43), (3, Go.Operand.tmp 49)], type := 25, pos := "law.go:24", after := #[{ on := 4, ground := Go.Ground.data }, { on := 9, ground := Go.Ground.data }, { on := 15, ground := Go.Ground.data }, { on := 21, ground := Go.Ground.data }, { on := 27, ground := Go.Ground.data }], guard := none }) (v := ?_) rfl (by kernel_rfl) (by kernel_rfl) (by kernel_rfl) (by kernel_rfl) (fun _ _ _ h => h) (Or.inl ⟨by rfl, ?_⟩) (by assumption) ?_
            rotate_left
            · (intro w; go_simp; try with_reducible rfl)
            simp only [Act.put, List.setIfInBounds_toArray, List.set_cons_zero, List.set_cons_succ]
            refine wpAnyG_free (by kernel_rfl) ?_
            refine wpAny_ready (rs := [30]) (by kernel_rfl) (by simp) ?_
            refine AllReady.cons (o := { dst := none, op := Go.Op.store 25 (Go.Operand.tmp 8) (Go.Operand.tmp 50), type := 0, pos := "law.go:24", after := #[{ on := 29, ground := Go.Ground.data }, { on := 28, ground := Go.Ground.data }, { on := 27, ground := Go.Ground.chain }, { on := 0, ground := Go.Ground.phase }, { on := 1, ground := Go.Ground.phase }, { on := 2, ground := Go.Ground.phase }, { on := 3, ground := Go.Ground.phase }, { on := 4, ground := Go.Ground.phase }, { on := 5, ground := Go.Ground.phase }, { on := 6, ground := Go.Ground.phase }, { on := 7, ground := Go.Ground.phase }, { on := 8, ground := Go.Ground.phase }, { on := 9, ground := Go.Ground.phase }, { on := 10, ground := Go.Ground.phase }, { on := 11, ground := Go.Ground.phase }, { on := 12, ground := Go.Ground.phase }, { on := 13, ground := Go.Ground.phase }, { on := 14, ground := Go.Ground.phase }, { on := 15, ground := Go.Ground.phase }, { on := 16, ground := Go.Ground.phase }, { on := 17, ground := Go.Ground.phase }, { on := 18, ground := Go.Ground.phase }, { on := 19, ground := Go.Ground.phase }, { on := 20, ground := Go.Ground.phase }, { on := 21, ground := Go.Ground.phase }, { on := 22, ground := Go.Ground.phase }, { on := 23, ground := Go.Ground.phase }, { on := 24, ground := Go.Ground.phase }, { on := 25, ground := Go.Ground.phase }, { on := 26, ground := Go.Ground.phase }, { on := 27, ground := Go.Ground.phase }, { on := 28, ground := Go.Ground.phase }, { on := 29, ground := Go.Ground.phase }], guard := none }) rfl (fun K hK => ?_) AllReady.nil
            obtain ⟨d20, d21, d22, d23, d24, d25⟩ := T8.six
            have fr2 := fun j => T8.free j
            go_simp
            refine hK _ _ ?_
            clear hK K
            try simp only [Act.put, List.setIfInBounds_toArray, List.set_cons_zero, List.set_cons_succ]
            refine wpAny_done (by kernel_rfl) ?_ _
            clear d20 d21 d22 d23 d24 d25 fr2
            obtain ⟨W, hW⟩ : ∃ F, F = putZ U4 g8 (.int .i64 nd.kind) (.int .i64 nd.ns) (.string (cutB nd.name 9)) (.slice aX nX cX) (.string (cutB nd.text 9)) (.slice none 0 0) := ⟨_, rfl⟩
            have hWu := hW
            unfold putZ at hWu
            rw [← hWu]
            clear hWu
            have v8 : Kp [g8] U4 W := by rw [hW]; exact (Kp.refl _ _).putZ (g := g8) (Or.inl (by simp)) (.int .i64 nd.kind) (.int .i64 nd.ns) (.string (cutB nd.name 9)) (.slice aX nX cX) (.string (cutB nd.text 9)) (.slice none 0 0)
            have T8 : At W g8 #[.int .i64 nd.kind, .int .i64 nd.ns, .string (cutB nd.name 9), .slice aX nX cX, .string (cutB nd.text 9), .slice none 0 0] 25 := by rw [hW]; exact T8.putZ (.int .i64 nd.kind) (.int .i64 nd.ns) (.string (cutB nd.name 9)) (.slice aX nX cX) (.string (cutB nd.text 9)) (.slice none 0 0)
            clear hW
            have kW : Kp [] wr W := k4.trans v8 (fun z hz => Or.inr (by simp at hz; omega))
            have RA := RA.keep (v8.sms (fun z hz => by simp; exact hz.2))
            go_wp2_with fail
            go_meet
            case rel => exact ⟨g8, ((aX, nX, cX), (none, 0, 0)), rfl, T8, ⟨RA, Rt.nil _ _ _ _⟩, kW, by omega⟩
          refine AllReadyG.cons (o := { dst := some 8, op := Go.Op.alloc 25, type := 0, pos := "law.go:24", after := #[], guard := none }) rfl (fun K hK => ?_) AllReadyG.nil
          go_simp
          obtain ⟨U1, hU⟩ : ∃ V, V = World.alloc U0 (.cells #[.int .i64 0, .int .i64 0, .string ⟨#[]⟩, .slice none 0 0, .string ⟨#[]⟩, .slice none 0 0] 25) := ⟨_, rfl⟩
          rw [← hU]
          have u1 : Kp [] U0 U1 := by rw [hU]; exact (Kp.refl _ _).alloc _
          have k1 : Kp [] wr U1 := k0.trans u1 (fun z hz => by simp at hz)
          have T8 : At U1 U0.heap.size #[.int .i64 0, .int .i64 0, .string ⟨#[]⟩, .slice none 0 0, .string ⟨#[]⟩, .slice none 0 0] 25 := by rw [hU]; exact At.new _ _ _
          have zz : U0.heap.size < U1.heap.size := by rw [hU]; simp
          have n8 := k0.size
          obtain ⟨g8, hg8⟩ : ∃ g, U0.heap.size = g := ⟨_, rfl⟩
          rw [hg8] at T8 ⊢
          clear hU
          refine hK.out _ _ (CNW.out _ k1) (fun hHeld1 => ?_)
          clear hK K hHeld
          try simp only [Act.put, List.setIfInBounds_toArray, List.set_cons_zero, List.set_cons_succ]
          refine wpAnyG_ready (rs := [15]) (by kernel_rfl) (by simp) ?_
          refine AllReadyG.cons (o := { dst := some 37, op := Go.Op.call { callee := Go.Callee.value (Go.Operand.func 18), args := #[Go.Operand.tmp 36, Go.Operand.const (Go.Value.int Go.IntKind.i64 9)], argTypes := #[9, 3] }, type := 9, pos := "law.go:24", after := #[{ on := 14, ground := Go.Ground.data }], guard := none }) rfl (fun K hK => ?_) AllReadyG.nil
          go_simp
          go_at_call 18
          refine (hd_any U1 nd.name).mono ?_
          rintro e U2 ⟨rfl, u2⟩
          go_wp2_with fail
          have k2 : Kp [] wr U2 := k1.trans u2 (fun z hz => by simp at hz)
          have T8 := T8.kept u2 (by simp)
          refine hK.out _ _ (CNW.out _ k2) (fun hHeld2 => ?_)
          clear hK K hHeld1
          try simp only [Act.put, List.setIfInBounds_toArray, List.set_cons_zero, List.set_cons_succ]
          refine wpAnyG_ready (rs := [21]) (by kernel_rfl) (by simp) ?_
          refine AllReadyG.cons (o := { dst := some 43, op := Go.Op.call { callee := Go.Callee.value (Go.Operand.func 18), args := #[Go.Operand.tmp 42, Go.Operand.const (Go.Value.int Go.IntKind.i64 9)], argTypes := #[9, 3] }, type := 9, pos := "law.go:24", after := #[{ on := 20, ground := Go.Ground.data }, { on := 15, ground := Go.Ground.chain }], guard := none }) rfl (fun K hK => ?_) AllReadyG.nil
          go_simp
          go_at_call 18
          refine (hd_any U2 nd.text).mono ?_
          rintro e U3 ⟨rfl, u3⟩
          go_wp2_with fail
          have k3 : Kp [] wr U3 := k2.trans u3 (fun z hz => by simp at hz)
          have T8 := T8.kept u3 (by simp)
          refine hK.out _ _ (CNW.out _ k3) (fun hHeld3 => ?_)
          clear hK K hHeld2
          try simp only [Act.put, List.setIfInBounds_toArray, List.set_cons_zero, List.set_cons_succ]
          refine wpAnyG_ready (rs := [27]) (by kernel_rfl) (by simp) ?_
          refine AllReadyG.cons (o := { dst := some 49, op := Go.Op.call { callee := Go.Callee.value (Go.Operand.func 27), args := #[Go.Operand.tmp 48], argTypes := #[22] }, type := 22, pos := "law.go:24", after := #[{ on := 26, ground := Go.Ground.data }, { on := 21, ground := Go.Ground.chain }], guard := none }) rfl (fun K hK => ?_) AllReadyG.nil
          go_simp
          go_at_call 27
          refine (SH.out _ k3).mono ?_
          rintro e U4 ⟨aX, nX, cX, rfl, MP⟩
          go_wp2_with fail
          have u4 := MP.kp
          have k4 : Kp [] wr U4 := k3.trans u4 (fun z hz => by simp at hz)
          have sz3 := k3.size
          have T8 := T8.kept u4 (by simp)
          have RA : Rk (fun z => wr.heap.size ≤ z ∧ z ≠ g8) 2 U4 aX nX cX (cs (short nd.attrs)) := MP.rk (fun z hz => by have := u2.size; have := u3.size; exact ⟨by omega, by omega⟩)
          refine hK.out _ _ (CNW.out _ k4) (fun hHeld4 => ?_)
          clear hK K hHeld3
          try simp only [Act.put, List.setIfInBounds_toArray, List.set_cons_zero, List.set_cons_succ]
          refine wpAnyG_pure (i := 28) (oi := { dst := some 50, op := Go.Op.build 25 #[(0, Go.Operand.tmp 26), (1, Go.Operand.tmp 31), (2, Go.Operand.tmp 37), (4, Go.Operand.tmp 43), (3, Go.Operand.tmp 49)], type := 25, pos := "law.go:24", after := #[{ on := 4, ground := Go.Ground.data }, { on := 9, ground := Go.Ground.data }, { on := 15, ground := Go.Ground.data }, { on := 21, ground := Go.Ground.data }, { on := 27, ground := Go.Ground.data }], guard := none }) (v := ?_) rfl (by kernel_rfl) (by kernel_rfl) (by kernel_rfl) (by kernel_rfl) (fun _ _ _ h => h) (Or.inl ⟨by rfl, ?_⟩) (by assumption) ?_
          rotate_left
          · (intro w; go_simp; try with_reducible rfl)
          simp only [Act.put, List.setIfInBounds_toArray, List.set_cons_zero, List.set_cons_succ]
          refine wpAnyG_free (by kernel_rfl) ?_
          refine wpAny_ready (rs := [30]) (by kernel_rfl) (by simp) ?_
          refine AllReady.cons (o := { dst := none, op := Go.Op.store 25 (Go.Operand.tmp 8) (Go.Operand.tmp 50), type := 0, pos := "law.go:24", after := #[{ on := 29, ground := Go.Ground.data }, { on := 28, ground := Go.Ground.data }, { on := 27, ground := Go.Ground.chain }, { on := 0, ground := Go.Ground.phase }, { on := 1, ground := Go.Ground.phase }, { on := 2, ground := Go.Ground.phase }, { on := 3, ground := Go.Ground.phase }, { on := 4, ground := Go.Ground.phase }, { on := 5, ground := Go.Ground.phase }, { on := 6, ground := Go.Ground.phase }, { on := 7, ground := Go.Ground.phase }, { on := 8, ground := Go.Ground.phase }, { on := 9, ground := Go.Ground.phase }, { on := 10, ground := Go.Ground.phase }, { on := 11, ground := Go.Ground.phase }, { on := 12, ground := Go.Ground.phase }, { on := 13, ground := Go.Ground.phase }, { on := 14, ground := Go.Ground.phase }, { on := 15, ground := Go.Ground.phase }, { on := 16, ground := Go.Ground.phase }, { on := 17, ground := Go.Ground.phase }, { on := 18, ground := Go.Ground.phase }, { on := 19, ground := Go.Ground.phase }, { on := 20, ground := Go.Ground.phase }, { on := 21, ground := Go.Ground.phase }, { on := 22, ground := Go.Ground.phase }, { on := 23, ground := Go.Ground.phase }, { on := 24, ground := Go.Ground.phase }, { on := 25, ground := Go.Ground.phase }, { on := 26, ground := Go.Ground.phase }, { on := 27, ground := Go.Ground.phase }, { on := 28, ground := Go.Ground.phase }, { on := 29, ground := Go.Ground.phase }], guard := none }) rfl (fun K hK => ?_) AllReady.nil
          obtain ⟨d20, d21, d22, d23, d24, d25⟩ := T8.six
          have fr2 := fun j => T8.free j
          go_simp
          refine hK _ _ ?_
          clear hK K
          try simp only [Act.put, List.setIfInBounds_toArray, List.set_cons_zero, List.set_cons_succ]
          refine wpAny_done (by kernel_rfl) ?_ _
          clear d20 d21 d22 d23 d24 d25 fr2
          obtain ⟨W, hW⟩ : ∃ F, F = putZ U4 g8 (.int .i64 nd.kind) (.int .i64 nd.ns) (.string (cutB nd.name 9)) (.slice aX nX cX) (.string (cutB nd.text 9)) (.slice none 0 0) := ⟨_, rfl⟩
          have hWu := hW
          unfold putZ at hWu
          rw [← hWu]
          clear hWu
          have v8 : Kp [g8] U4 W := by rw [hW]; exact (Kp.refl _ _).putZ (g := g8) (Or.inl (by simp)) (.int .i64 nd.kind) (.int .i64 nd.ns) (.string (cutB nd.name 9)) (.slice aX nX cX) (.string (cutB nd.text 9)) (.slice none 0 0)
          have T8 : At W g8 #[.int .i64 nd.kind, .int .i64 nd.ns, .string (cutB nd.name 9), .slice aX nX cX, .string (cutB nd.text 9), .slice none 0 0] 25 := by rw [hW]; exact T8.putZ (.int .i64 nd.kind) (.int .i64 nd.ns) (.string (cutB nd.name 9)) (.slice aX nX cX) (.string (cutB nd.text 9)) (.slice none 0 0)
          clear hW
          have kW : Kp [] wr W := k4.trans v8 (fun z hz => Or.inr (by simp at hz; omega))
          have RA := RA.keep (v8.sms (fun z hz => by simp; exact hz.2))
          go_wp2_with fail
          go_meet
          case rel => exact ⟨g8, ((aX, nX, cX), (none, 0, 0)), rfl, T8, ⟨RA, Rt.nil _ _ _ _⟩, kW, by omega⟩
        obtain ⟨g8, pX, rfl, T8, NX, kc, hg8⟩ := hcut
        clear SH
        have HMD : Hid (∀ W, Calls Try.prog 28 #[nv nd.kind nd.ns nd.up nd.name nd.text pa pn pc, wv (cutN nd) pX] W fun e w' => ∃ q, e = .returned (wv (madeF nd.kind nd.ns (cutN nd).name (cutN nd).text).1 q) ∧ Nd (fun z => W.heap.size ≤ z) w' (madeF nd.kind nd.ns (cutN nd).name (cutN nd).text).1 (madeF nd.kind nd.ns (cutN nd).name (cutN nd).text).2 q ∧ Kp [] W w') := fun W => made_any W nd.kind nd.ns nd.up nd.name nd.text pa pn pc (cutN nd) pX (by have := cutB_le nd.name 9; show (cutB nd.name 9).size ≤ 1000; omega)
        simp only [nv, wv, cutN] at HMD
        generalize hmd : madeF nd.kind nd.ns (cutB nd.name 9) (cutB nd.text 9) = XY at HMD
        obtain ⟨X, Y⟩ := XY
        have HND : Hid (nodeN true nd = (nd.up, X, Y)) := by show nodeN true nd = _; rw [← hmd]; rfl
        clear hmd NX hnode
        go_wp2_with fail
        have T8c := T8
        refine wp_region_g (S := fun V => CN V b (off + i * 6) nd pa pn pc ∧ At V g8 #[.int .i64 nd.kind, .int .i64 nd.ns, .string (cutB nd.name 9), .slice pX.1.1 pX.1.2.1 pX.1.2.2, .string (cutB nd.text 9), .slice pX.2.1 pX.2.2.1 pX.2.2.2] 25) (T := [6]) (by kernel_rfl) ⟨CNW.out _ kc.drew, T8.kept (Kp.refl [] wc).drew (by simp)⟩ (fun hHeld => ?_)
        refine wpAnyG_pure (i := 0) (oi := { dst := some 52, op := Go.Op.move (Go.Operand.tmp 0), type := 30, pos := "law.go:26", after := #[], guard := none }) (v := ?_) rfl (by kernel_rfl) (by kernel_rfl) (by kernel_rfl) (by kernel_rfl) (fun _ _ _ h => h) (Or.inl ⟨by rfl, ?_⟩) (by assumption) ?_
        rotate_left
        · (intro w; go_simp; try with_reducible rfl)
        simp only [Act.put, List.setIfInBounds_toArray, List.set_cons_zero, List.set_cons_succ]
        refine wpAnyG_pure (i := 1) (oi := { dst := some 53, op := Go.Op.move (Go.Operand.tmp 7), type := 3, pos := "law.go:26", after := #[], guard := none }) (v := ?_) rfl (by kernel_rfl) (by kernel_rfl) (by kernel_rfl) (by kernel_rfl) (fun _ _ _ h => h) (Or.inl ⟨by rfl, ?_⟩) (by assumption) ?_
        rotate_left
        · (intro w; go_simp; try with_reducible rfl)
        simp only [Act.put, List.setIfInBounds_toArray, List.set_cons_zero, List.set_cons_succ]
        refine wpAnyG_pure (i := 2) (oi := { dst := some 54, op := Go.Op.indexAddr 30 (Go.Operand.tmp 52) (Go.Operand.tmp 53), type := 0, pos := "law.go:26", after := #[{ on := 0, ground := Go.Ground.data }, { on := 1, ground := Go.Ground.data }], guard := none }) (v := ?_) rfl (by kernel_rfl) (by kernel_rfl) (by kernel_rfl) (by kernel_rfl) (fun _ _ _ h => h) (Or.inl ⟨by rfl, ?_⟩) (by assumption) ?_
        rotate_left
        · (intro w; go_simp; try with_reducible rfl)
        simp only [Act.put, List.setIfInBounds_toArray, List.set_cons_zero, List.set_cons_succ]
        refine wpAnyG_take (i := 3) (oi := { dst := some 55, op := Go.Op.load 42 (Go.Operand.tmp 54), type := 42, pos := "law.go:26", after := #[{ on := 2, ground := Go.Ground.data }], guard := none }) (v := ?_) rfl (by kernel_rfl) (by kernel_rfl) (by kernel_rfl) (by kernel_rfl) (fun _ _ _ h => h) (Or.inl ⟨by rfl, ?_⟩) (by assumption) ?_
        rotate_left
        · (intro w hSw; (obtain ⟨⟨c0, c1, c2, c3, c4, c5⟩, e0, e1, e2, e3, e4, e5⟩ := And.intro hSw.1 hSw.2.six); go_simp; try with_reducible rfl)
        simp only [Act.put, List.setIfInBounds_toArray, List.set_cons_zero, List.set_cons_succ]
        refine wpAnyG_take (i := 4) (oi := { dst := some 56, op := Go.Op.load 25 (Go.Operand.tmp 8), type := 25, pos := "law.go:26", after := #[], guard := none }) (v := ?_) rfl (by kernel_rfl) (by kernel_rfl) (by kernel_rfl) (by kernel_rfl) (fun _ _ _ h => h) (Or.inl ⟨by rfl, ?_⟩) (by assumption) ?_
        rotate_left
        · (intro w hSw; (obtain ⟨⟨c0, c1, c2, c3, c4, c5⟩, e0, e1, e2, e3, e4, e5⟩ := And.intro hSw.1 hSw.2.six); go_simp; try with_reducible rfl)
        simp only [Act.put, List.setIfInBounds_toArray, List.set_cons_zero, List.set_cons_succ]
        refine wpAnyG_ready (rs := [5]) (by kernel_rfl) (by simp) ?_
        refine AllReadyG.cons (o := { dst := some 57, op := Go.Op.call { callee := Go.Callee.value (Go.Operand.func 28), args := #[Go.Operand.tmp 55, Go.Operand.tmp 56], argTypes := #[42, 25] }, type := 25, pos := "law.go:26", after := #[{ on := 3, ground := Go.Ground.data }, { on := 4, ground := Go.Ground.data }], guard := none }) rfl (fun K hK => ?_) AllReadyG.nil
        go_simp
        go_at_call 28
        refine (HMD.out _).mono ?_
        rintro e M1 ⟨q, rfl, NX, u1⟩
        go_wp2_with fail
        have m1 : Kp [] wr M1 := (kc.drew).trans u1 (fun z hz => by simp at hz)
        have T8 := (T8.kept (Kp.refl [] wc).drew (by simp)).kept u1 (by simp)
        have zc := kc.size
        have gl := T8c.lt
        refine hK.out _ _ ⟨CNW.out _ m1, T8⟩ (fun hHeld1 => ?_)
        clear hK K hHeld
        try simp only [Act.put, List.setIfInBounds_toArray, List.set_cons_zero, List.set_cons_succ]
        refine wpAnyG_free (by kernel_rfl) ?_
        refine wpAny_ready (rs := [6]) (by kernel_rfl) (by simp) ?_
        refine AllReady.cons (o := { dst := none, op := Go.Op.store 25 (Go.Operand.tmp 8) (Go.Operand.tmp 57), type := 0, pos := "law.go:26", after := #[{ on := 5, ground := Go.Ground.data }, { on := 5, ground := Go.Ground.chain }, { on := 0, ground := Go.Ground.phase }, { on := 1, ground := Go.Ground.phase }, { on := 2, ground := Go.Ground.phase }, { on := 3, ground := Go.Ground.phase }, { on := 4, ground := Go.Ground.phase }, { on := 5, ground := Go.Ground.phase }], guard := none }) rfl (fun K hK => ?_) AllReady.nil
        obtain ⟨d20, d21, d22, d23, d24, d25⟩ := T8.six
        have fr2 := fun j => T8.free j
        go_simp
        refine hK _ _ ?_
        clear hK K
        try simp only [Act.put, List.setIfInBounds_toArray, List.set_cons_zero, List.set_cons_succ]
        refine wpAny_done (by kernel_rfl) ?_ _
        clear d20 d21 d22 d23 d24 d25 fr2
        obtain ⟨W2, hW⟩ : ∃ F, F = putZ M1 g8 (.int .i64 X.kind) (.int .i64 X.ns) (.string X.name) (.slice q.1.1 q.1.2.1 q.1.2.2) (.string X.text) (.slice q.2.1 q.2.2.1 q.2.2.2) := ⟨_, rfl⟩
        have hWu := hW
        unfold putZ at hWu
        rw [← hWu]
        clear hWu
        have v8 : Kp [g8] M1 W2 := by rw [hW]; exact (Kp.refl _ _).putZ (g := g8) (Or.inl (by simp)) (.int .i64 X.kind) (.int .i64 X.ns) (.string X.name) (.slice q.1.1 q.1.2.1 q.1.2.2) (.string X.text) (.slice q.2.1 q.2.2.1 q.2.2.2)
        have T8 : At W2 g8 #[.int .i64 X.kind, .int .i64 X.ns, .string X.name, .slice q.1.1 q.1.2.1 q.1.2.2, .string X.text, .slice q.2.1 q.2.2.1 q.2.2.2] 25 := by rw [hW]; exact T8.putZ (.int .i64 X.kind) (.int .i64 X.ns) (.string X.name) (.slice q.1.1 q.1.2.1 q.1.2.2) (.string X.text) (.slice q.2.1 q.2.2.1 q.2.2.2)
        clear hW
        have kW : Kp [] wr W2 := m1.trans v8 (fun z hz => Or.inr (by simp at hz; omega))
        have NX := (NX.keep (v8.sms (fun z hz => by simp at hz ⊢; omega))).mono (R := fun z => wr.heap.size ≤ z ∧ z ≠ g8) (fun z _ hz => ⟨by simp at hz; omega, by simp at hz; omega⟩)
        clear HMD v8 m1 u1 hHeld1 T8c
        have zW := kW.size
        have T5 := T5.kept kW (by simp)
        have T4 := T4.kept kW (by simp)
        have ND := ND.kept kW
        have RW := RW.kept kW
        have cN := CNW.out _ kW
        obtain ⟨c0, c1, c2, c3, c4, c5⟩ := cN
        clear c0 c1 c3 c4 c5
        have hu := wi_le nd.up n
        have HWI : Hid (Calls Try.prog 17 #[.int .i64 nd.up, .int .i64 0, .int .i64 (n : Int)] W2 fun e w' => e = .returned (.int .i64 (wi nd.up n : Nat)) ∧ w' = W2) := by
          have := within_any W2 nd.up 0 n (by omega) (by omega)
          show Calls _ _ _ _ _
          simpa using this
        have HG : Hid (growF ((rowN true L).take (i + 1)) = underF X Y (gi.2.take (gi.2.length - wi nd.up gi.2.length)) gi.1) := by
          show growF ((rowN true L).take (i + 1)) = _
          rw [HI.out, HND.out]
          rfl
        have hgl : n = gi.2.length := by have := RW.len; rw [iv_len] at this; omega
        rw [← hgl] at HG
        generalize wi nd.up n = u at HWI hu HG
        have hsub : (n : Int) - (u : Int) = ((n - u : Nat) : Int) := by omega
        have hwr : IntKind.i64.wrap ((n : Int) - (u : Int)) = ((n - u : Nat) : Int) := by rw [IntKind.wrap_i64]; omega
        have RT := RW.take (n - u) (by omega)
        have htk : (iv gi.2).take ((n - u) * 1) = iv (gi.2.take (n - u)) := by rw [Nat.mul_one]; simp [iv, List.map_take]
        rw [htk] at RT
        have hway := hw0.take (n - u)
        have HUD := under_any X Y q (gi.2.take (n - u)) (fun z => (z ≠ s ∧ z ≠ s + 1)) W2 lD gi.1 p ao (n - u) c ND (NX.mono (fun z _ hz => ⟨by have := hz.1; omega, by have := hz.1; omega⟩)) (RT.mono (fun _ _ _ => trivial)) hway (by omega) (by rw [List.length_take]; omega)
        rw [← HG.out] at HUD
        simp only [lD, wv, cutN] at HUD
        have HU2 : Hid (Calls Try.prog 29 _ _ _) := HUD
        clear HUD
        have T5k : Hid (∀ V, Kp [] W2 V → At V (s + 1) _ 25) := fun V kV => T5.kept kV (by simp)
        have T4k : Hid (∀ V, Kp [] W2 V → At V s _ 25) := fun V kV => T4.kept kV (by simp)
        obtain ⟨t50, t51, t52, t53, t54, t55⟩ := T5.six
        obtain ⟨t80, t81, t82, t83, t84, t85⟩ := T8.six
        have jb1 : (0 : Int) ≤ ((n - u : Nat) : Int) := by omega
        have jb2 : ((n - u : Nat) : Int) ≤ (c : Int) := by omega
        have jb3 : n - u ≤ c := by omega
        clear ND RW NX T5 T4 T8 HI HND HG RT hway htk hw0 hl0 hcc hgl kc
        go_upto_region 11 with (first | (go_at_call 17; refine HWI.out.mono ?_; rintro e w1 ⟨rfl, hw1⟩; have hw2 := hw1.symm; clear hw1; subst hw2))
        clear c2 HWI
        go_upto_region 5 with (first | (go_at_call 29; refine HU2.out.mono ?_; rintro e W9 ⟨p9, ao9, n9, c9, rfl, N9, R9, k9⟩; obtain ⟨x50, x51, x52, x53, x54, x55⟩ := (T5k.out _ k9).six; have fx := fun j => (T5k.out _ k9).free j))
        clear t50 t51 t52 t53 t54 t55 t80 t81 t82 t83 t84 t85 x50 x51 x52 x53 x54 x55 fx HU2
        have KE : Hid (Gr w (putZ W9 (s + 1) (.int .i64 1) (.int .i64 0) (.string ⟨#[]⟩) (.slice p9.1.1 p9.1.2.1 p9.1.2.2) (.string ⟨#[]⟩) (.slice p9.2.1 p9.2.2.1 p9.2.2.2)) s (rowN true L) (i + 1) ao9 n9 c9) := by
          have z9 := k9.size
          have v9 : Kp [s + 1] W9 (putZ W9 (s + 1) (.int .i64 1) (.int .i64 0) (.string ⟨#[]⟩) (.slice p9.1.1 p9.1.2.1 p9.1.2.2) (.string ⟨#[]⟩) (.slice p9.2.1 p9.2.2.1 p9.2.2.2)) := (Kp.refl _ _).putZ (g := s + 1) (Or.inl (by simp)) _ _ _ _ _ _
          have z10 := v9.size
          have hs9 := HS.out
          refine ⟨p9, (T5k.out _ k9).putZ _ _ _ _ _ _, (T4k.out _ k9).kept v9 (by simp), (N9.mono (R := fun z => z ≠ s ∧ z ≠ s + 1) (fun z _ hz => ?_)).keep (v9.sms (fun z hz => by simp; exact hz.2)), (R9.mono (R := fun z => z ≠ s ∧ z ≠ s + 1) (fun z _ hz => ?_)).keep (v9.sms (fun z hz => by simp; exact hz.2)), ((kw.trans kW (fun z hz => by simp at hz)).trans k9 (fun z hz => by simp at hz)).trans v9 (fun z hz => Or.inr (by simp at hz; omega)), by omega, ?_⟩
          · rcases hz with h1 | h1
            · exact h1
            · exact ⟨by omega, by omega⟩
          · exact ⟨by omega, by omega⟩
          · have h1 := R9.len
            have h2 := grow_len ((rowN true L).take (i + 1))
            rw [iv_len] at h1
            have h3 : ((rowN true L).take (i + 1)).length ≤ i + 1 := by rw [List.length_take]; omega
            omega
        clear N9 R9 T5k T4k k9
        unfold putZ at KE
        go_wp2
        go_roundw
        case measure => simp [intOf]; omega
        case rel => exact ⟨i + 1, _, _, _, rfl, by go_num, by omega, by omega, KE.out⟩
      · have hend : (rowN true L).take i = rowN true L := List.take_of_length_le (by rw [HL.out]; omega)
        rw [hend, HT.out] at ND
        have b0 : i = 30 ∨ (i < 30 ∧ i = L.length) := by omega
        have kz : Kp [] w (putZ wr s (.int .i64 1) (.int .i64 0) (.string ⟨#[]⟩) (.slice p.1.1 p.1.2.1 p.1.2.2) (.string ⟨#[]⟩) (.slice p.2.1 p.2.2.1 p.2.2.2)) := kw.putZ (Or.inr (by have := HS.out; omega)) _ _ _ _ _ _
        have NF : Hid (Nd Any (putZ wr s (.int .i64 1) (.int .i64 0) (.string ⟨#[]⟩) (.slice p.1.1 p.1.2.1 p.1.2.2) (.string ⟨#[]⟩) (.slice p.2.1 p.2.2.1 p.2.2.2)) (1, 0, NON, [], NON) GT p) := (ND.keep (((Kp.refl [s] wr).putZ (g := s) (Or.inl (by simp)) _ _ _ _ _ _).sms (fun z hz => by simp; exact hz.1))).any
        have D : Hid _ := (T4.putZ (.int .i64 1) (.int .i64 0) (.string ⟨#[]⟩) (.slice p.1.1 p.1.2.1 p.1.2.2) (.string ⟨#[]⟩) (.slice p.2.1 p.2.2.1 p.2.2.2)).six
        have KZ : Hid _ := kz
        obtain ⟨t50, t51, t52, t53, t54, t55⟩ := T5.six
        obtain ⟨t40, t41, t42, t43, t44, t45⟩ := T4.six
        have fr := fun j => T4.free j
        clear ND RW T5 T4 HM HR HT HL kz hend h
        unfold putZ at D KZ NF
        clear b0
        by_cases hh : i < L.length
        · have h30 : ¬ i < 30 := fun h => hlt ⟨hh, h⟩
          clear hlt
          go_wp2
          obtain ⟨d0, d1, d2, d3, d4, d5⟩ := D.out
          exact bodyPost_ret (v := .agg #[.int .i64 1, .int .i64 0, .string ⟨#[]⟩, .slice p.1.1 p.1.2.1 p.1.2.2, .string ⟨#[]⟩, .slice p.2.1 p.2.2.1 p.2.2.2]) (by simp [results, go_sem, d0, d1, d2, d3, d4, d5]) rfl ⟨p, rfl, NF.out, KZ.out⟩
        · clear hlt
          go_wp2
          obtain ⟨d0, d1, d2, d3, d4, d5⟩ := D.out
          exact bodyPost_ret (v := .agg #[.int .i64 1, .int .i64 0, .string ⟨#[]⟩, .slice p.1.1 p.1.2.1 p.1.2.2, .string ⟨#[]⟩, .slice p.2.1 p.2.2.1 p.2.2.2]) (by simp [results, go_sem, d0, d1, d2, d3, d4, d5]) rfl ⟨p, rfl, NF.out, KZ.out⟩

end Go.Proofs.Ytgnbafgglkncmaa
