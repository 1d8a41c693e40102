/-
  TreeShows, where what came in is not too much.
-/
import Derived.Test.YtgnbafgglkncmaaTellsW
namespace Go.Proofs.Ytgnbafgglkncmaa
open Go.RowKit
set_option linter.unusedVariables false
set_option linter.unusedSimpArgs false

/-- How many of the first k bytes end a line. -/
def lfTo (s : ByteArray) (k : Nat) : Nat := ((s.data.toList.take k).filter (· == 10)).length

theorem lfTo_le (s : ByteArray) (k : Nat) : lfTo s k ≤ k := by
  unfold lfTo
  have h1 := List.length_filter_le (· == 10) (s.data.toList.take k)
  rw [List.length_take] at h1
  omega

theorem lfTo_all (s : ByteArray) : lfTo s s.size = Fo.lfs s := by
  unfold lfTo Fo.lfs
  rw [List.take_of_length_le (by rw [Array.length_toList]; exact Nat.le_refl _)]

theorem lfs_le (s : ByteArray) : Fo.lfs s ≤ s.size := by rw [← lfTo_all]; exact lfTo_le s _

/-- The byte at a place, and whether it ends a line. -/
theorem idx_at (s : ByteArray) (k : Nat) (h : k < s.size) : ∃ B : Int, (∀ W, (Instr.index 9 (.string s) (.int .i64 (k : Int))).run Try.prog W = .ok (.int .u8 B) W) ∧ lfTo s (k + 1) = lfTo s k + (if B = 10 then 1 else 0) := by
  refine ⟨((s[k]'h).toNat : Int), fun W => ?_, ?_⟩
  · rw [run_index_string W 9 s .i64 k Try.underlying9]
    simp [h]
  · unfold lfTo
    have hk : k < s.data.toList.length := by rw [Array.length_toList]; exact h
    rw [List.take_succ_eq_append_getElem hk, List.filter_append, List.length_append]
    congr 1
    have e : s.data.toList[k] = s[k]'h := by simp; rfl
    rw [e]
    by_cases h10 : (s[k]'h) = 10
    · rw [h10]; rfl
    · rw [if_neg (fun e => h10 (by
        apply UInt8.toNat_inj.1
        have : (s[k]'h).toNat = 10 := by omega
        rw [this]; rfl))]
      simp [h10]

/-- How long the attributes are, in all. -/
def asum (l : List Att) : Nat := (l.map (fun a => a.1.size + a.2.size)).sum
theorem asum_take {l : List Att} {j : Nat} (h : j < l.length) : asum (l.take (j + 1)) = asum (l.take j) + l[j].1.size + l[j].2.size := by
  unfold asum
  rw [List.take_succ_eq_append_getElem h, List.map_append, List.sum_append]
  simp; omega
theorem asum_take_le (l : List Att) (j : Nat) : asum (l.take j) ≤ asum l := by
  have := congrArg asum (List.take_append_drop j l)
  unfold asum at *
  rw [List.map_append, List.sum_append] at this
  omega

def ends1 (n : Nn) : Nat := Fo.lfs n.name + Fo.lfs n.text + asum n.attrs
def endsT (L : List Nn) (i : Nat) : Nat := ((L.take i).map ends1).sum
theorem endsT_step {L : List Nn} {i : Nat} (h : i < L.length) : endsT L (i + 1) = endsT L i + ends1 L[i] := by
  unfold endsT
  rw [List.take_succ_eq_append_getElem h, List.map_append, List.sum_append]
  simp

/-- What came in is not too much. -/
def few (L : List Nn) : Prop := ∀ i (hi : i < L.length), L[i].name.size ≤ 1048576 ∧ L[i].text.size ≤ 1048576 ∧ asum L[i].attrs ≤ 1048576 ∧ L[i].attrs.length ≤ 1048576

theorem ends1_le {L : List Nn} (h : few L) {i : Nat} (hi : i < L.length) : ends1 L[i] ≤ 4000000 := by
  obtain ⟨h1, h2, h3, _⟩ := h i hi
  have := lfs_le L[i].name
  have := lfs_le L[i].text
  unfold ends1
  omega

theorem endsT_le {L : List Nn} (h : few L) : ∀ i, i ≤ L.length → endsT L i ≤ i * 4000000
  | 0, _ => by simp [endsT]
  | i + 1, hi => by
    have h1 := endsT_le h i (by omega)
    have h2 := ends1_le h (i := i) (by omega)
    rw [endsT_step (by omega)]
    omega

theorem endsT_zero {L : List Nn} : ∀ {i : Nat}, i ≤ L.length → endsT L i = 0 → ∀ j (hj : j < i) (hL : j < L.length), ends1 L[j] = 0
  | 0, _, _, j, hj, _ => by omega
  | i + 1, hi, h, j, hj, hL => by
    rw [endsT_step (by omega)] at h
    by_cases e : j = i
    · subst e; omega
    · exact endsT_zero (i := i) (by omega) (by omega) j (by omega) hL

theorem lfs_cut {s : ByteArray} (m : Nat) (h : Fo.lfs s = 0) : Fo.lfs (cutB s m) = 0 := by
  unfold cutB
  split
  · have e : s = s.extract 0 m ++ s.extract m s.size := by
      rw [ByteArray.extract_append_extract]
      simp
      try rw [Nat.max_eq_right (by omega)]
    have := congrArg Fo.lfs e
    rw [Fo.lfs_app] at this
    omega
  · exact h

/-- As many lines as nodes below the top one. -/
theorem show_lines_of {L : List Nn} (h : endsT L (min 30 L.length) = 0) : Fo.lfs (showT lD (growT true L)) = (growT true L).cnt := by
  unfold showT
  refine Fo.show_lines _ rfl (grow_each _ (fun n hn => ?_))
  simp only [rowN, List.mem_map] at hn
  obtain ⟨m, hm, rfl⟩ := hn
  obtain ⟨j, hj, rfl⟩ := List.getElem_of_mem hm
  have hj' : j < min 30 L.length := by simpa using hj
  have h0 := endsT_zero (by omega) h j hj' (by omega)
  rw [List.getElem_take]
  unfold ends1 at h0
  exact made_plain (lfs_cut 9 (by omega)) (lfs_cut 9 (by omega)) _ _

/-- The texts of a node, one behind the other. -/
def part (n : Nn) : Nat → Nat
  | 0 => 0
  | 1 => Fo.lfs n.name
  | _ => Fo.lfs n.name + Fo.lfs n.text

set_option maxRecDepth 100000 in
set_option maxHeartbeats 4000000 in
theorem shows_any (w : World) (L M : List Nn) (lo mo : Option Addr) (ln lc mn mc : Nat) (h : Ns w lo ln lc L) (h' : Ns w mo mn mc M) (hf : few L) :
    Calls Try.prog 7 #[.slice lo ln lc, .slice mo mn mc] w fun e w' => e = .returned (.bool true) ∧ Kp [] w w' := by
  have HL := grow_c w L lo ln lc true h
  have HM : Hid (∀ W, Kp [] w W → Calls Try.prog 11 #[.slice mo mn mc, .bool true] W fun e w' => ∃ p : Pl, e = .returned (.agg #[.int .i64 1, .int .i64 0, .string ⟨#[]⟩, .slice p.1.1 p.1.2.1 p.1.2.2, .string ⟨#[]⟩, .slice p.2.1 p.2.2.1 p.2.2.2]) ∧ Nd Any w' lD (growT true M) p ∧ Kp [] W w') := fun W kW => grow_c W M mo mn mc true (h'.kept kW)
  have t1 := grow_tiny true L
  have t2 := grow_tiny true M
  have HE : Hid (endsT L (min 30 L.length) = 0 → Fo.lfs (showT lD (growT true L)) = (growT true L).cnt) := show_lines_of
  generalize growT true L = A at t1 HE HL
  generalize growT true M = C at t2 HM
  obtain rfl := h.len
  clear h'
  go_enter Try.func7, Try.ntmps7
  go_upto_region 2 with (first
    | (have D := G1.out; go_at_call 11; refine (HM.out _ G1.out).mono ?_; rintro e w2 ⟨p2, rfl, N2, k2⟩; have G2 : Hid (Kp [] w w2) := G1.out.trans k2 (fun z hz => by simp at hz))
    | (go_at_call 11; refine HL.mono ?_; rintro e w1 ⟨p1, rfl, N1, k1⟩; have G1 : Hid (Kp [] w w1) := k1))
  obtain ⟨V, hV, T5, T6, kV⟩ := two6 w2 p1 p2
  rw [hV]
  have N1 := (N1.kept k2).kept kV
  have N2 := N2.kept kV
  have GV : Hid (Kp [] w V) := G2.out.trans kV (fun z hz => by simp at hz)
  obtain ⟨g5, hg5⟩ : ∃ g, w2.heap.size = g := ⟨_, rfl⟩
  rw [hg5] at T5 T6 ⊢
  clear hV kV k1 k2 G1 G2 hg5 HL HM
  have HS : Hid (∀ W, Kp [] V W → Calls Try.prog 16 #[wv lD p1] W fun e w' => e = .returned (.string (showT lD A)) ∧ Kp [] W w') := fun W kW => show_any W lD A p1 (N1.kept kW) t1.ok t1.pad t1.show
  have HS2 : Hid (∀ W, Kp [] V W → Calls Try.prog 16 #[wv lD p2] W fun e w' => e = .returned (.string (showT lD C)) ∧ Kp [] W w') := fun W kW => show_any W lD C p2 (N2.kept kW) t2.ok t2.pad t2.show
  have HC : Hid (∀ W, Kp [] V W → Calls Try.prog 15 #[wv lD p1] W fun e w' => e = .returned (.int .i64 (1 + A.cnt : Nat)) ∧ Kp [] W w') := fun W kW => count_any W lD A p1 (N1.kept kW) t1.cnt
  have H12 : Hid (∀ W, Kp [] V W → Calls Try.prog 14 #[wv lD p1, wv lD p2] W fun e w' => e = .returned (.bool (sameT lD A lD C)) ∧ Kp [] W w') := fun W kW => tsame_any W lD A p1 lD C p2 (N1.kept kW) (N2.kept kW) t1.ok t2.ok
  have H21 : Hid (∀ W, Kp [] V W → Calls Try.prog 14 #[wv lD p2, wv lD p1] W fun e w' => e = .returned (.bool (sameT lD A lD C)) ∧ Kp [] W w') := fun W kW => by
    have := tsame_any W lD C p2 lD A p1 (N2.kept kW) (N1.kept kW) t2.ok t1.ok
    rwa [sameT_comm] at this
  have HQ : Hid (sameT lD A lD C = true → showT lD C = showT lD A) := fun hq => by rw [((sameT_iff ..).1 hq).2]
  have hcnt : A.cnt ≤ 100 := t1.2.2
  have hss := t1.show
  have T5k : Hid (∀ W, Kp [] V W → At W g5 (doc6 p1) 25) := fun W kW => T5.kept kW (by simp)
  have T6k : Hid (∀ W, Kp [] V W → At W (g5 + 1) (doc6 p2) 25) := fun W kW => T6.kept kW (by simp)
  have hV := h.kept GV.out
  generalize showT lD A = S at HS HE HQ hss
  generalize showT lD C = S2 at HS2 HQ
  generalize sameT lD A lD C = E at H12 H21 HQ
  generalize A.cnt = ac at HC HE hcnt
  simp only [wv, lD] at HS HS2 HC H12 H21
  clear N1 N2 t1 t2 T5 T6 h
  have K0 : Hid (Kp [] V V) := Kp.refl _ _
  obtain ⟨c50, c51, c52, c53, c54, c55⟩ := (T5k.out _ K0.out).six
  go_upto_region 3 with (go_at_call 16; refine (HS.out _ K0.out).mono ?_; rintro e V1 ⟨rfl, j1⟩)
  clear c50 c51 c52 c53 c54 c55 HS
  have K1 : Hid (Kp [] V V1) := j1
  have hV1 := hV.kept j1
  clear hV j1 K0
  go_wp2_with fail
  go_loopw [8, 10] (fun x8 x10 wr => ∃ i : Nat, x8 = .int .i64 (lfTo S i : Nat) ∧ x10 = .int .i64 i ∧ i ≤ S.size ∧ wr = V1) (fun x8 x10 wr => S.size - (intOf x10).toNat)
  case atStart => exact ⟨0, rfl, rfl, Nat.zero_le _, rfl⟩
  case round =>
    obtain ⟨i, rfl, rfl, hi, rfl⟩ := hrel
    have hl1 := lfTo_le S i
    by_cases hlt : i < S.size
    · obtain ⟨Bt, hidx, hst⟩ := idx_at S i hlt
      have b1 : decide ((i : Int) < (S.size : Int)) = true := decide_eq_true (by omega)
      have HST : Hid (lfTo S (i + 1) = lfTo S i + (if Bt = 10 then 1 else 0)) := hst
      clear hst
      by_cases h10 : Bt = 10
      · have q1 : ((Bt : Int) == 10) = true := int_eq_yes h10
        have HS1 : Hid (lfTo S (i + 1) = lfTo S i + 1) := by show lfTo S (i + 1) = lfTo S i + 1; rw [HST.out, if_pos h10]
        clear h10 HST
        generalize lfTo S i = ct at hl1 HS1
        go_wp2
        go_roundw
        case measure => simp [intOf]; omega
        case rel => exact ⟨i + 1, by rw [HS1.out]; go_num, by go_num, by omega, trivial⟩
      · have q1 : ((Bt : Int) == 10) = false := int_eq_no h10
        have HS1 : Hid (lfTo S (i + 1) = lfTo S i) := by show lfTo S (i + 1) = lfTo S i; rw [HST.out, if_neg h10]; rfl
        clear h10 HST
        generalize lfTo S i = ct at hl1 HS1
        go_wp2
        go_roundw
        case measure => simp [intOf]; omega
        case rel => exact ⟨i + 1, by rw [HS1.out], by go_num, by omega, trivial⟩
    · obtain rfl : i = S.size := by omega
      obtain ⟨wr1, rfl⟩ : ∃ x, x = wr := ⟨_, rfl⟩
      rw [lfTo_all] at hl1 ⊢
      have HLF : Hid (Fo.lfs S ≤ S.size) := hl1
      clear hlt hi hl1
      generalize hlf : Fo.lfs S = lf at HE HLF
      clear hlf
      go_wp2
      go_loopw [9, 11] (fun x9 x11 wr2 => ∃ i : Nat, x9 = .int .i64 (endsT L i : Nat) ∧ x11 = .int .i64 i ∧ i ≤ L.length ∧ i ≤ 30 ∧ Kp [] wr1 wr2) (fun x9 x11 wr2 => 30 - (intOf x11).toNat)
      case atStart => exact ⟨0, rfl, rfl, Nat.zero_le _, Nat.zero_le _, Kp.refl _ _⟩
      case round =>
        obtain ⟨wr2, rfl⟩ : ∃ x, x = wr := ⟨_, rfl⟩
        obtain ⟨i, rfl, rfl, hiL, hi30, kr⟩ := hrel
        have hel := endsT_le hf i hiL
        by_cases hlt : i < L.length ∧ i < 30
        · obtain ⟨lt1, lt2⟩ := hlt
          obtain ⟨bb, off, pa, pn, pc, rfl, hCN, hRp, hpn⟩ := hV1.at' i lt1
          obtain ⟨hf1, hf2, hf3, hf4⟩ := hf i lt1
          have hEs : Hid (endsT L (i + 1) = endsT L i + ends1 L[i]) := endsT_step lt1
          generalize L[i] = nd at hCN hRp hf1 hf2 hf3 hf4 hEs
          have hle : endsT L i ≤ 120000000 := by omega
          have hl1 := lfs_le nd.name
          have hl2 := lfs_le nd.text
          have CNW : Hid (∀ W, Kp [] wr2 W → CN W bb (off + i * 6) nd pa pn pc) := fun W kW => (hCN.kept kr).kept kW
          have RPW : Hid (∀ W, Kp [] wr2 W → Rp W pa pn pc nd.attrs) := fun W kW => (hRp.kept kr).kept kW
          have hpl : pn = nd.attrs.length := hRp.len
          subst hpl
          have j1 : (0 : Int) ≤ (i : Int) := by omega
          have j2 : (i : Int) < (L.length : Int) := by omega
          have KR : Hid (Kp [] wr1 wr2) := kr
          generalize hEi : endsT L i = Ei at hEs hle hel
          clear hCN hRp hpn hEi hel kr
          go_wp2_with fail
          obtain ⟨U0, hU0⟩ : ∃ V, V = wr2.drew := ⟨_, rfl⟩
          have k0 : Kp [] wr2 U0 := by rw [hU0]; exact (Kp.refl _ _).drew
          refine wp_region_g (S := fun V => CN V bb (off + i * 6) nd pa nd.attrs.length pc) (T := []) (by kernel_rfl) (CNW.out _ (Kp.refl [] wr2).drew) (fun hHeld => ?_)
          rw [← hU0] at hHeld ⊢
          clear hU0
          refine wpAnyG_pure (i := 0) (oi := { dst := some 45, op := Go.Op.move (Go.Operand.tmp 0), type := 30, pos := "law.go:162", after := #[], guard := none }) (v := ?_) rfl (by kernel_rfl) (by kernel_rfl) (by kernel_rfl) (by kernel_rfl) (fun _ _ _ h => h) (Or.inl ⟨by rfl, ?_⟩) (by assumption) ?_
          rotate_left
          · (intro w; go_simp; try with_reducible rfl)
          simp only [Act.put, List.setIfInBounds_toArray, List.set_cons_zero, List.set_cons_succ]
          refine wpAnyG_pure (i := 1) (oi := { dst := some 46, op := Go.Op.move (Go.Operand.tmp 11), type := 3, pos := "law.go:162", after := #[], guard := none }) (v := ?_) rfl (by kernel_rfl) (by kernel_rfl) (by kernel_rfl) (by kernel_rfl) (fun _ _ _ h => h) (Or.inl ⟨by rfl, ?_⟩) (by assumption) ?_
          rotate_left
          · (intro w; go_simp; try with_reducible rfl)
          simp only [Act.put, List.setIfInBounds_toArray, List.set_cons_zero, List.set_cons_succ]
          refine wpAnyG_pure (i := 2) (oi := { dst := some 47, op := Go.Op.indexAddr 30 (Go.Operand.tmp 45) (Go.Operand.tmp 46), type := 0, pos := "law.go:162", after := #[{ on := 0, ground := Go.Ground.data }, { on := 1, ground := Go.Ground.data }], guard := none }) (v := ?_) rfl (by kernel_rfl) (by kernel_rfl) (by kernel_rfl) (by kernel_rfl) (fun _ _ _ h => h) (Or.inl ⟨by rfl, ?_⟩) (by assumption) ?_
          rotate_left
          · (intro w; go_simp; try with_reducible rfl)
          simp only [Act.put, List.setIfInBounds_toArray, List.set_cons_zero, List.set_cons_succ]
          refine wpAnyG_pure (i := 3) (oi := { dst := some 48, op := Go.Op.fieldAddr 42 (Go.Operand.tmp 47) 3, type := 0, pos := "law.go:162", after := #[{ on := 2, ground := Go.Ground.data }], guard := none }) (v := ?_) rfl (by kernel_rfl) (by kernel_rfl) (by kernel_rfl) (by kernel_rfl) (fun _ _ _ h => h) (Or.inl ⟨by rfl, ?_⟩) (by assumption) ?_
          rotate_left
          · (intro w; go_simp; try with_reducible rfl)
          simp only [Act.put, List.setIfInBounds_toArray, List.set_cons_zero, List.set_cons_succ]
          refine wpAnyG_take (i := 4) (oi := { dst := some 49, op := Go.Op.load 9 (Go.Operand.tmp 48), type := 9, pos := "law.go:162", after := #[{ on := 3, ground := Go.Ground.data }], guard := none }) (v := ?_) rfl (by kernel_rfl) (by kernel_rfl) (by kernel_rfl) (by kernel_rfl) (fun _ _ _ h => h) (Or.inl ⟨by rfl, ?_⟩) (by assumption) ?_
          rotate_left
          · (intro w hSw; (obtain ⟨c0, c1, c2, c3, c4, c5⟩ := hSw); go_simp; try with_reducible rfl)
          simp only [Act.put, List.setIfInBounds_toArray, List.set_cons_zero, List.set_cons_succ]
          refine wpAnyG_pure (i := 5) (oi := { dst := some 50, op := Go.Op.move (Go.Operand.tmp 0), type := 30, pos := "law.go:162", after := #[], guard := none }) (v := ?_) rfl (by kernel_rfl) (by kernel_rfl) (by kernel_rfl) (by kernel_rfl) (fun _ _ _ h => h) (Or.inl ⟨by rfl, ?_⟩) (by assumption) ?_
          rotate_left
          · (intro w; go_simp; try with_reducible rfl)
          simp only [Act.put, List.setIfInBounds_toArray, List.set_cons_zero, List.set_cons_succ]
          refine wpAnyG_pure (i := 6) (oi := { dst := some 51, op := Go.Op.move (Go.Operand.tmp 11), type := 3, pos := "law.go:162", after := #[], guard := none }) (v := ?_) rfl (by kernel_rfl) (by kernel_rfl) (by kernel_rfl) (by kernel_rfl) (fun _ _ _ h => h) (Or.inl ⟨by rfl, ?_⟩) (by assumption) ?_
          rotate_left
          · (intro w; go_simp; try with_reducible rfl)
          simp only [Act.put, List.setIfInBounds_toArray, List.set_cons_zero, List.set_cons_succ]
          refine wpAnyG_pure (i := 7) (oi := { dst := some 52, op := Go.Op.indexAddr 30 (Go.Operand.tmp 50) (Go.Operand.tmp 51), type := 0, pos := "law.go:162", after := #[{ on := 5, ground := Go.Ground.data }, { on := 6, ground := Go.Ground.data }], guard := none }) (v := ?_) rfl (by kernel_rfl) (by kernel_rfl) (by kernel_rfl) (by kernel_rfl) (fun _ _ _ h => h) (Or.inl ⟨by rfl, ?_⟩) (by assumption) ?_
          rotate_left
          · (intro w; go_simp; try with_reducible rfl)
          simp only [Act.put, List.setIfInBounds_toArray, List.set_cons_zero, List.set_cons_succ]
          refine wpAnyG_pure (i := 8) (oi := { dst := some 53, op := Go.Op.fieldAddr 42 (Go.Operand.tmp 52) 4, type := 0, pos := "law.go:162", after := #[{ on := 7, ground := Go.Ground.data }], guard := none }) (v := ?_) rfl (by kernel_rfl) (by kernel_rfl) (by kernel_rfl) (by kernel_rfl) (fun _ _ _ h => h) (Or.inl ⟨by rfl, ?_⟩) (by assumption) ?_
          rotate_left
          · (intro w; go_simp; try with_reducible rfl)
          simp only [Act.put, List.setIfInBounds_toArray, List.set_cons_zero, List.set_cons_succ]
          refine wpAnyG_take (i := 9) (oi := { dst := some 54, op := Go.Op.load 9 (Go.Operand.tmp 53), type := 9, pos := "law.go:162", after := #[{ on := 8, ground := Go.Ground.data }], guard := none }) (v := ?_) rfl (by kernel_rfl) (by kernel_rfl) (by kernel_rfl) (by kernel_rfl) (fun _ _ _ h => h) (Or.inl ⟨by rfl, ?_⟩) (by assumption) ?_
          rotate_left
          · (intro w hSw; (obtain ⟨c0, c1, c2, c3, c4, c5⟩ := hSw); go_simp; try with_reducible rfl)
          simp only [Act.put, List.setIfInBounds_toArray, List.set_cons_zero, List.set_cons_succ]
          refine wpAnyG_pure (i := 12) (oi := { dst := some 57, op := Go.Op.move (Go.Operand.const (Go.Value.int Go.IntKind.i64 0)), type := 3, pos := "law.go:162", after := #[], guard := none }) (v := ?_) rfl (by kernel_rfl) (by kernel_rfl) (by kernel_rfl) (by kernel_rfl) (fun _ _ _ h => h) (Or.inl ⟨by rfl, ?_⟩) (by assumption) ?_
          rotate_left
          · (intro w; go_simp; try with_reducible rfl)
          simp only [Act.put, List.setIfInBounds_toArray, List.set_cons_zero, List.set_cons_succ]
          refine wpAnyG_ready (rs := [10]) (by kernel_rfl) (by simp) ?_
          refine AllReadyG.cons (o := { dst := some 55, op := Go.Op.buildSlice 43 2 #[(0, Go.Operand.tmp 49), (1, Go.Operand.tmp 54)], type := 43, pos := "law.go:162", after := #[{ on := 4, ground := Go.Ground.data }, { on := 9, ground := Go.Ground.data }], guard := none }) rfl (fun K hK => ?_) AllReadyG.nil
          go_simp
          obtain ⟨U1, hU⟩ : ∃ V, V = World.alloc U0 (.cells #[.string nd.name, .string nd.text] 9) := ⟨_, rfl⟩
          rw [← hU]
          have u1 : Kp [] U0 U1 := by rw [hU]; exact (Kp.refl _ _).alloc _
          have k1 : Kp [] wr2 U1 := k0.trans u1 (fun z hz => by simp at hz)
          have T2 : At U1 U0.heap.size #[.string nd.name, .string nd.text] 9 := by rw [hU]; exact At.new _ _ _
          obtain ⟨g2, hg2⟩ : ∃ g, U0.heap.size = g := ⟨_, rfl⟩
          rw [hg2] at T2 ⊢
          clear hU hg2 u1
          refine hK.out _ _ (CNW.out _ k1) (fun hHeld1 => ?_)
          clear hK K hHeld
          try simp only [Act.put, List.setIfInBounds_toArray, List.set_cons_zero, List.set_cons_succ]
          refine wpAnyG_pure (i := 11) (oi := { dst := some 56, op := Go.Op.call { callee := Go.Callee.builtin Go.Builtin.len, args := #[Go.Operand.tmp 55], argTypes := #[43] }, type := 3, pos := "law.go:162", after := #[{ on := 10, ground := Go.Ground.data }], guard := none }) (v := ?_) rfl (by kernel_rfl) (by kernel_rfl) (by kernel_rfl) (by kernel_rfl) (fun _ _ _ h => h) (Or.inl ⟨by rfl, ?_⟩) (by assumption) ?_
          rotate_left
          · (intro w; go_simp; try with_reducible rfl)
          simp only [Act.put, List.setIfInBounds_toArray, List.set_cons_zero, List.set_cons_succ]
          refine wpAnyG_free (by kernel_rfl) ?_
          refine wpAny_done (by kernel_rfl) ?_ _
          clear hHeld1 k0
          obtain ⟨e0, e1⟩ := And.intro (T2.cell 0) (T2.cell 1)
          simp only [List.getElem?_toArray, List.getElem?_cons_succ, List.getElem?_cons_zero] at e0 e1
          go_wp2_with fail
          go_loopw [9, 57] (fun x9 x57 wr3 => ∃ j : Nat, x9 = .int .i64 (Ei + part nd j : Nat) ∧ x57 = .int .i64 j ∧ j ≤ 2 ∧ wr3 = U1) (fun x9 x57 wr3 => 2 - (intOf x57).toNat)
          case atStart => exact ⟨0, rfl, rfl, Nat.zero_le _, rfl⟩
          case round =>
            obtain ⟨j, rfl, rfl, hj, hw3⟩ := hrel
            have hw3' := hw3.symm
            clear hw3
            subst hw3'
            have hj3 : j = 0 ∨ j = 1 ∨ j = 2 := by omega
            rcases hj3 with rfl | rfl | rfl
            · rw [show Ei + part nd 0 = Ei from rfl]
              go_wp2_with fail
              go_loopw [9, 14] (fun x9 x14 wr4 => ∃ k : Nat, x9 = .int .i64 (Ei + lfTo nd.name k : Nat) ∧ x14 = .int .i64 k ∧ k ≤ nd.name.size ∧ wr4 = U1) (fun x9 x14 wr4 => nd.name.size - (intOf x14).toNat)
              case atStart => exact ⟨0, rfl, rfl, Nat.zero_le _, rfl⟩
              case round =>
                obtain ⟨k, rfl, rfl, hk, hw4⟩ := hrel
                have hw5 := hw4.symm
                clear hw4
                subst hw5
                have hlk := lfTo_le nd.name k
                by_cases hlt3 : k < nd.name.size
                · obtain ⟨Bt, hidx, hst⟩ := idx_at nd.name k hlt3
                  have HST : Hid (lfTo nd.name (k + 1) = lfTo nd.name k + (if Bt = 10 then 1 else 0)) := hst
                  clear hst
                  by_cases h10 : Bt = 10
                  · have q1 : ((Bt : Int) == 10) = true := int_eq_yes h10
                    have HS1 : Hid (lfTo nd.name (k + 1) = lfTo nd.name k + 1) := by show lfTo nd.name (k + 1) = lfTo nd.name k + 1; rw [HST.out, if_pos h10]
                    clear h10 HST
                    generalize lfTo nd.name k = ct at hlk HS1
                    go_wp2
                    go_roundw
                    case measure => simp [intOf]; omega
                    case rel => exact ⟨k + 1, by rw [HS1.out]; go_num, by go_num, by omega, trivial⟩
                  · have q1 : ((Bt : Int) == 10) = false := int_eq_no h10
                    have HS1 : Hid (lfTo nd.name (k + 1) = lfTo nd.name k) := by show lfTo nd.name (k + 1) = lfTo nd.name k; rw [HST.out, if_neg h10]; rfl
                    clear h10 HST
                    generalize lfTo nd.name k = ct at hlk HS1
                    go_wp2
                    go_roundw
                    case measure => simp [intOf]; omega
                    case rel => exact ⟨k + 1, by rw [HS1.out], by go_num, by omega, trivial⟩
                · obtain rfl : k = nd.name.size := by omega
                  rw [lfTo_all]
                  have HP : Hid (Ei + Fo.lfs nd.name = Ei + part nd (0 + 1)) := by
                    show Ei + Fo.lfs nd.name = Ei + part nd (0 + 1)
                    rfl
                  clear hlk hlt3 hk
                  generalize Fo.lfs nd.name = lq at HP hl1
                  go_wp2
                  go_roundw
                  case measure => simp [intOf]
                  case rel => exact ⟨0 + 1, by rw [HP.out], by rfl, by omega, trivial⟩
            · rw [show Ei + part nd 1 = Ei + Fo.lfs nd.name from rfl]
              obtain ⟨Ej, hEj⟩ : ∃ Ej, Ej = Ei + Fo.lfs nd.name := ⟨_, rfl⟩
              have HEj : Hid (Ej = Ei + Fo.lfs nd.name) := hEj
              have hej : Ej ≤ 130000000 := by omega
              rw [← hEj]
              clear hEj
              go_wp2_with fail
              go_loopw [9, 14] (fun x9 x14 wr4 => ∃ k : Nat, x9 = .int .i64 (Ej + lfTo nd.text k : Nat) ∧ x14 = .int .i64 k ∧ k ≤ nd.text.size ∧ wr4 = U1) (fun x9 x14 wr4 => nd.text.size - (intOf x14).toNat)
              case atStart => exact ⟨0, rfl, rfl, Nat.zero_le _, rfl⟩
              case round =>
                obtain ⟨k, rfl, rfl, hk, hw4⟩ := hrel
                have hw5 := hw4.symm
                clear hw4
                subst hw5
                have hlk := lfTo_le nd.text k
                by_cases hlt3 : k < nd.text.size
                · obtain ⟨Bt, hidx, hst⟩ := idx_at nd.text k hlt3
                  have HST : Hid (lfTo nd.text (k + 1) = lfTo nd.text k + (if Bt = 10 then 1 else 0)) := hst
                  clear hst
                  by_cases h10 : Bt = 10
                  · have q1 : ((Bt : Int) == 10) = true := int_eq_yes h10
                    have HS1 : Hid (lfTo nd.text (k + 1) = lfTo nd.text k + 1) := by show lfTo nd.text (k + 1) = lfTo nd.text k + 1; rw [HST.out, if_pos h10]
                    clear h10 HST
                    generalize lfTo nd.text k = ct at hlk HS1
                    go_wp2
                    go_roundw
                    case measure => simp [intOf]; omega
                    case rel => exact ⟨k + 1, by rw [HS1.out]; go_num, by go_num, by omega, trivial⟩
                  · have q1 : ((Bt : Int) == 10) = false := int_eq_no h10
                    have HS1 : Hid (lfTo nd.text (k + 1) = lfTo nd.text k) := by show lfTo nd.text (k + 1) = lfTo nd.text k; rw [HST.out, if_neg h10]; rfl
                    clear h10 HST
                    generalize lfTo nd.text k = ct at hlk HS1
                    go_wp2
                    go_roundw
                    case measure => simp [intOf]; omega
                    case rel => exact ⟨k + 1, by rw [HS1.out], by go_num, by omega, trivial⟩
                · obtain rfl : k = nd.text.size := by omega
                  rw [lfTo_all]
                  have HP : Hid (Ej + Fo.lfs nd.text = Ei + part nd (1 + 1)) := by
                    show Ej + Fo.lfs nd.text = Ei + part nd (1 + 1)
                    rw [HEj.out]; show _ = Ei + (Fo.lfs nd.name + Fo.lfs nd.text); omega
                  clear hlk hlt3 hk
                  generalize Fo.lfs nd.text = lq at HP hl2
                  go_wp2
                  go_roundw
                  case measure => simp [intOf]
                  case rel => exact ⟨1 + 1, by rw [HP.out], by rfl, by omega, trivial⟩
            · rw [show Ei + part nd 2 = Ei + (Fo.lfs nd.name + Fo.lfs nd.text) from rfl]
              obtain ⟨Ej, hEj⟩ : ∃ Ej, Ej = Ei + (Fo.lfs nd.name + Fo.lfs nd.text) := ⟨_, rfl⟩
              have HEj : Hid (Ej = Ei + (Fo.lfs nd.name + Fo.lfs nd.text)) := hEj
              have hej : Ej ≤ 140000000 := by omega
              rw [← hEj]
              clear hEj e0 e1 T2 hj
              obtain ⟨c0, c1, c2, c3, c4, c5⟩ := CNW.out _ k1
              clear c0 c1 c2 c3 c4
              have RP1 := RPW.out _ k1
              go_wp2_with fail
              go_loopw [9, 80] (fun x9 x80 wr5 => ∃ j : Nat, x9 = .int .i64 (Ej + asum (nd.attrs.take j) : Nat) ∧ x80 = .int .i64 j ∧ j ≤ nd.attrs.length ∧ Kp [] U1 wr5) (fun x9 x80 wr5 => nd.attrs.length - (intOf x80).toNat)
              case atStart => exact ⟨0, rfl, rfl, Nat.zero_le _, Kp.refl _ _⟩
              case round =>
                obtain ⟨wr5, rfl⟩ : ∃ x, x = wr := ⟨_, rfl⟩
                obtain ⟨j, rfl, rfl, hj, k5⟩ := hrel
                have has := asum_take_le nd.attrs j
                by_cases hlj : j < nd.attrs.length
                · obtain ⟨b2, o2, rfl, g1, g2⟩ := (RP1.kept k5).get j hlj
                  have hst : Hid (asum (nd.attrs.take (j + 1)) = asum (nd.attrs.take j) + nd.attrs[j].1.size + nd.attrs[j].2.size) := asum_take hlj
                  have has2 := asum_take_le nd.attrs (j + 1)
                  rw [hst.out] at has2
                  have K6 : Hid (∀ o : Obj, Kp [] U1 (wr5.alloc o)) := fun o => k5.alloc o
                  generalize nd.attrs[j] = at1 at g1 g2 hst has2
                  generalize asum (nd.attrs.take j) = as1 at hst has has2
                  clear k5 RP1 RPW CNW
                  go_wp2
                  go_roundw
                  case measure => simp [intOf]; omega
                  case rel => exact ⟨j + 1, by rw [hst.out]; go_num, by go_num, by omega, K6.out _⟩
                · obtain rfl : j = nd.attrs.length := by omega
                  rw [List.take_length] at has ⊢
                  have HFI : Hid (endsT L (i + 1) = Ej + asum nd.attrs) := by
                    show endsT L (i + 1) = Ej + asum nd.attrs
                    rw [hEs.out, HEj.out]; unfold ends1; omega
                  have KFI : Hid (Kp [] wr1 wr5) := (KR.out.trans k1 (fun z hz => by simp at hz)).trans k5 (fun z hz => by simp at hz)
                  generalize asum nd.attrs = as1 at HFI has hf3
                  clear hEs HEj RP1 RPW CNW k5
                  go_wp2
                  go_roundw
                  case measure => simp [intOf]; omega
                  case rel => exact ⟨i + 1, by rw [HFI.out], by go_num, by omega, by omega, KFI.out⟩
        · have hmin : i = min 30 L.length := by omega
          have hend : ¬ i < L.length ∨ ¬ i < 30 := by omega
          rw [← hmin] at HE
          have KF : Hid (Kp [] V wr2) := K1.out.trans kr (fun z hz => by simp at hz)
          have KW : Hid (Kp [] w wr2) := GV.out.trans KF.out (fun z hz => by simp at hz)
          generalize endsT L i = Ei at HE hel
          have hle : Ei ≤ 120000000 := by omega
          have hlf := HLF.out
          clear hel hmin hf hV1 GV K1 kr
          obtain ⟨c50, c51, c52, c53, c54, c55⟩ := (T5k.out _ KF.out).six
          have hgo : i < L.length ∧ ¬ i < 30 ∨ ¬ i < L.length := by omega
          clear hend hlt
          rcases hgo with ⟨q1, q2⟩ | q1
          · by_cases hE0 : Ei = 0
            · have HX : Hid (lf = ac) := HE.out hE0
              subst hE0
              have hx := HX.out
              subst hx
              go_upto_region 28 with (go_at_call 15; refine (HC.out _ KF.out).mono ?_; rintro e W0 ⟨rfl, k9⟩)
              have KG : Hid (Kp [] V W0) := KF.out.trans k9 (fun z hz => by simp at hz)
              have KV : Hid (Kp [] w W0) := KW.out.trans k9 (fun z hz => by simp at hz)
              clear k9
              clear c50 c51 c52 c53 c54 c55 KF KW HC HE
              cases E
              · obtain ⟨Y0, hY0⟩ : ∃ V, V = W0.drew := ⟨_, rfl⟩
                have y0 : Kp [] V Y0 := by rw [hY0]; exact KG.out.drew
                have v0 : Kp [] W0 Y0 := by rw [hY0]; exact (Kp.refl _ _).drew
                refine wp_region_g (S := fun V => At V g5 (doc6 p1) 25 ∧ At V (g5 + 1) (doc6 p2) 25) (T := []) (by kernel_rfl) ⟨T5k.out _ KG.out.drew, T6k.out _ KG.out.drew⟩ (fun hHeld => ?_)
                rw [← hY0] at hHeld ⊢
                clear hY0
                refine wpAnyG_take (i := 0) (oi := { dst := some 103, op := Go.Op.load 25 (Go.Operand.tmp 5), type := 25, pos := "law.go:176", after := #[], guard := none }) (v := ?_) rfl (by kernel_rfl) (by kernel_rfl) (by kernel_rfl) (by kernel_rfl) (fun _ _ _ h => h) (Or.inl ⟨by rfl, ?_⟩) (by assumption) ?_
                rotate_left
                · (intro w hSw; (obtain ⟨⟨c0, c1, c2, c3, c4, c5⟩, e0, e1, e2, e3, e4, e5⟩ := And.intro hSw.1.six hSw.2.six); go_simp; try with_reducible rfl)
                simp only [Act.put, List.setIfInBounds_toArray, List.set_cons_zero, List.set_cons_succ]
                refine wpAnyG_take (i := 1) (oi := { dst := some 104, op := Go.Op.load 25 (Go.Operand.tmp 6), type := 25, pos := "law.go:176", after := #[], guard := none }) (v := ?_) rfl (by kernel_rfl) (by kernel_rfl) (by kernel_rfl) (by kernel_rfl) (fun _ _ _ h => h) (Or.inl ⟨by rfl, ?_⟩) (by assumption) ?_
                rotate_left
                · (intro w hSw; (obtain ⟨⟨c0, c1, c2, c3, c4, c5⟩, e0, e1, e2, e3, e4, e5⟩ := And.intro hSw.1.six hSw.2.six); go_simp; try with_reducible rfl)
                simp only [Act.put, List.setIfInBounds_toArray, List.set_cons_zero, List.set_cons_succ]
                refine wpAnyG_ready (rs := [2]) (by kernel_rfl) (by simp) ?_
                refine AllReadyG.cons (o := { dst := some 105, op := Go.Op.call { callee := Go.Callee.value (Go.Operand.func 14), args := #[Go.Operand.tmp 103, Go.Operand.tmp 104], argTypes := #[25, 25] }, type := 4, pos := "law.go:176", after := #[{ on := 0, ground := Go.Ground.data }, { on := 1, ground := Go.Ground.data }], guard := none }) rfl (fun K hK => ?_) AllReadyG.nil
                go_simp
                go_at_call 14
                refine (H12.out _ y0).mono ?_
                rintro e Y1 ⟨rfl, u1⟩
                go_wp2_with fail
                have y1 : Kp [] V Y1 := y0.trans u1 (fun z hz => by simp at hz)
                have v1 : Kp [] W0 Y1 := v0.trans u1 (fun z hz => by simp at hz)
                refine hK.out _ _ ⟨T5k.out _ y1, T6k.out _ y1⟩ (fun hHeld1 => ?_)
                clear hK K hHeld
                try simp only [Act.put, List.setIfInBounds_toArray, List.set_cons_zero, List.set_cons_succ]
                refine wpAnyG_pure (i := 3) (oi := { dst := some 106, op := Go.Op.unOp Go.UnOp.not 4 (Go.Operand.tmp 105), type := 4, pos := "law.go:176", after := #[{ on := 2, ground := Go.Ground.data }], guard := none }) (v := ?_) rfl (by kernel_rfl) (by kernel_rfl) (by kernel_rfl) (by kernel_rfl) (fun _ _ _ h => h) (Or.inl ⟨by rfl, ?_⟩) (by assumption) ?_
                rotate_left
                · (intro w; go_simp; try with_reducible rfl)
                simp only [Act.put, List.setIfInBounds_toArray, List.set_cons_zero, List.set_cons_succ]
                refine wpAnyG_pure (i := 4) (oi := { dst := some 107, op := Go.Op.move (Go.Operand.tmp 106), type := 4, pos := "law.go:176", after := #[{ on := 3, ground := Go.Ground.data }, { on := 2, ground := Go.Ground.chain }], guard := none }) (v := ?_) rfl (by kernel_rfl) (by kernel_rfl) (by kernel_rfl) (by kernel_rfl) (fun _ _ _ h => h) (Or.inl ⟨by rfl, ?_⟩) (by assumption) ?_
                rotate_left
                · (intro w; go_simp; try with_reducible rfl)
                simp only [Act.put, List.setIfInBounds_toArray, List.set_cons_zero, List.set_cons_succ]
                refine wpAnyG_pure (i := 5) (oi := { dst := some 108, op := Go.Op.move (Go.Operand.tmp 7), type := 9, pos := "law.go:176", after := #[{ on := 4, ground := Go.Ground.guard }], guard := some (4, false) }) (v := undef) rfl (by kernel_rfl) (by kernel_rfl) (by kernel_rfl) (by kernel_rfl) (fun _ _ _ h => h) (Or.inr ⟨by rfl, rfl⟩) (by assumption) ?_
                simp only [Act.put, List.setIfInBounds_toArray, List.set_cons_zero, List.set_cons_succ]
                refine wpAnyG_take (i := 6) (oi := { dst := some 109, op := Go.Op.load 25 (Go.Operand.tmp 6), type := 25, pos := "law.go:176", after := #[{ on := 4, ground := Go.Ground.guard }], guard := some (4, false) }) (v := undef) rfl (by kernel_rfl) (by kernel_rfl) (by kernel_rfl) (by kernel_rfl) (fun _ _ _ h => h) (Or.inr ⟨by rfl, rfl⟩) (by assumption) ?_
                simp only [Act.put, List.setIfInBounds_toArray, List.set_cons_zero, List.set_cons_succ]
                refine wpAnyG_pure (i := 7) (oi := { dst := some 110, op := Go.Op.call { callee := Go.Callee.value (Go.Operand.func 16), args := #[Go.Operand.tmp 109], argTypes := #[25] }, type := 9, pos := "law.go:176", after := #[{ on := 6, ground := Go.Ground.data }, { on := 4, ground := Go.Ground.chain }, { on := 4, ground := Go.Ground.guard }], guard := some (4, false) }) (v := undef) rfl (by kernel_rfl) (by kernel_rfl) (by kernel_rfl) (by kernel_rfl) (fun _ _ _ h => h) (Or.inr ⟨by rfl, rfl⟩) (by assumption) ?_
                simp only [Act.put, List.setIfInBounds_toArray, List.set_cons_zero, List.set_cons_succ]
                refine wpAnyG_pure (i := 8) (oi := { dst := some 111, op := Go.Op.binOp Go.BinOp.eql 9 (Go.Operand.tmp 108) (Go.Operand.tmp 110) 9, type := 4, pos := "law.go:176", after := #[{ on := 5, ground := Go.Ground.data }, { on := 7, ground := Go.Ground.data }, { on := 4, ground := Go.Ground.guard }], guard := some (4, false) }) (v := undef) rfl (by kernel_rfl) (by kernel_rfl) (by kernel_rfl) (by kernel_rfl) (fun _ _ _ h => h) (Or.inr ⟨by rfl, rfl⟩) (by assumption) ?_
                simp only [Act.put, List.setIfInBounds_toArray, List.set_cons_zero, List.set_cons_succ]
                refine wpAnyG_pure (i := 9) (oi := { dst := some 112, op := Go.Op.pick (Go.Operand.tmp 107) (Go.Operand.const (Go.Value.bool true)) (Go.Operand.tmp 111), type := 4, pos := "law.go:176", after := #[{ on := 4, ground := Go.Ground.data }, { on := 8, ground := Go.Ground.data }], guard := none }) (v := ?_) rfl (by kernel_rfl) (by kernel_rfl) (by kernel_rfl) (by kernel_rfl) (fun _ _ _ h => h) (Or.inl ⟨by rfl, ?_⟩) (by assumption) ?_
                rotate_left
                · (intro w; go_simp; try with_reducible rfl)
                simp only [Act.put, List.setIfInBounds_toArray, List.set_cons_zero, List.set_cons_succ]
                refine wpAnyG_pure (i := 10) (oi := { dst := some 113, op := Go.Op.move (Go.Operand.tmp 112), type := 4, pos := "law.go:176", after := #[{ on := 9, ground := Go.Ground.data }, { on := 7, ground := Go.Ground.chain }], guard := none }) (v := ?_) rfl (by kernel_rfl) (by kernel_rfl) (by kernel_rfl) (by kernel_rfl) (fun _ _ _ h => h) (Or.inl ⟨by rfl, ?_⟩) (by assumption) ?_
                rotate_left
                · (intro w; go_simp; try with_reducible rfl)
                simp only [Act.put, List.setIfInBounds_toArray, List.set_cons_zero, List.set_cons_succ]
                refine wpAnyG_take (i := 11) (oi := { dst := some 114, op := Go.Op.load 25 (Go.Operand.tmp 5), type := 25, pos := "law.go:176", after := #[{ on := 10, ground := Go.Ground.guard }], guard := some (10, true) }) (v := ?_) rfl (by kernel_rfl) (by kernel_rfl) (by kernel_rfl) (by kernel_rfl) (fun _ _ _ h => h) (Or.inl ⟨by rfl, ?_⟩) (by assumption) ?_
                rotate_left
                · (intro w hSw; (obtain ⟨⟨c0, c1, c2, c3, c4, c5⟩, e0, e1, e2, e3, e4, e5⟩ := And.intro hSw.1.six hSw.2.six); go_simp; try with_reducible rfl)
                simp only [Act.put, List.setIfInBounds_toArray, List.set_cons_zero, List.set_cons_succ]
                refine wpAnyG_take (i := 12) (oi := { dst := some 115, op := Go.Op.load 25 (Go.Operand.tmp 6), type := 25, pos := "law.go:176", after := #[{ on := 10, ground := Go.Ground.guard }], guard := some (10, true) }) (v := ?_) rfl (by kernel_rfl) (by kernel_rfl) (by kernel_rfl) (by kernel_rfl) (fun _ _ _ h => h) (Or.inl ⟨by rfl, ?_⟩) (by assumption) ?_
                rotate_left
                · (intro w hSw; (obtain ⟨⟨c0, c1, c2, c3, c4, c5⟩, e0, e1, e2, e3, e4, e5⟩ := And.intro hSw.1.six hSw.2.six); go_simp; try with_reducible rfl)
                simp only [Act.put, List.setIfInBounds_toArray, List.set_cons_zero, List.set_cons_succ]
                refine wpAnyG_take (i := 14) (oi := { dst := some 117, op := Go.Op.load 25 (Go.Operand.tmp 6), type := 25, pos := "law.go:176", after := #[{ on := 10, ground := Go.Ground.guard }], guard := some (10, true) }) (v := ?_) rfl (by kernel_rfl) (by kernel_rfl) (by kernel_rfl) (by kernel_rfl) (fun _ _ _ h => h) (Or.inl ⟨by rfl, ?_⟩) (by assumption) ?_
                rotate_left
                · (intro w hSw; (obtain ⟨⟨c0, c1, c2, c3, c4, c5⟩, e0, e1, e2, e3, e4, e5⟩ := And.intro hSw.1.six hSw.2.six); go_simp; try with_reducible rfl)
                simp only [Act.put, List.setIfInBounds_toArray, List.set_cons_zero, List.set_cons_succ]
                refine wpAnyG_take (i := 15) (oi := { dst := some 118, op := Go.Op.load 25 (Go.Operand.tmp 5), type := 25, pos := "law.go:176", after := #[{ on := 10, ground := Go.Ground.guard }], guard := some (10, true) }) (v := ?_) rfl (by kernel_rfl) (by kernel_rfl) (by kernel_rfl) (by kernel_rfl) (fun _ _ _ h => h) (Or.inl ⟨by rfl, ?_⟩) (by assumption) ?_
                rotate_left
                · (intro w hSw; (obtain ⟨⟨c0, c1, c2, c3, c4, c5⟩, e0, e1, e2, e3, e4, e5⟩ := And.intro hSw.1.six hSw.2.six); go_simp; try with_reducible rfl)
                simp only [Act.put, List.setIfInBounds_toArray, List.set_cons_zero, List.set_cons_succ]
                refine wpAnyG_ready (rs := [13]) (by kernel_rfl) (by simp) ?_
                refine AllReadyG.cons (o := { dst := some 116, op := Go.Op.call { callee := Go.Callee.value (Go.Operand.func 14), args := #[Go.Operand.tmp 114, Go.Operand.tmp 115], argTypes := #[25, 25] }, type := 4, pos := "law.go:176", after := #[{ on := 11, ground := Go.Ground.data }, { on := 12, ground := Go.Ground.data }, { on := 10, ground := Go.Ground.chain }, { on := 10, ground := Go.Ground.guard }], guard := some (10, true) }) rfl (fun K hK => ?_) AllReadyG.nil
                go_simp
                go_at_call 14
                refine (H12.out _ y1).mono ?_
                rintro e Y2 ⟨rfl, u2⟩
                go_wp2_with fail
                have y2 : Kp [] V Y2 := y1.trans u2 (fun z hz => by simp at hz)
                have v2 : Kp [] W0 Y2 := v1.trans u2 (fun z hz => by simp at hz)
                refine hK.out _ _ ⟨T5k.out _ y2, T6k.out _ y2⟩ (fun hHeld2 => ?_)
                clear hK K hHeld1
                try simp only [Act.put, List.setIfInBounds_toArray, List.set_cons_zero, List.set_cons_succ]
                refine wpAnyG_ready (rs := [16]) (by kernel_rfl) (by simp) ?_
                refine AllReadyG.cons (o := { dst := some 119, op := Go.Op.call { callee := Go.Callee.value (Go.Operand.func 14), args := #[Go.Operand.tmp 117, Go.Operand.tmp 118], argTypes := #[25, 25] }, type := 4, pos := "law.go:176", after := #[{ on := 14, ground := Go.Ground.data }, { on := 15, ground := Go.Ground.data }, { on := 13, ground := Go.Ground.chain }, { on := 10, ground := Go.Ground.guard }], guard := some (10, true) }) rfl (fun K hK => ?_) AllReadyG.nil
                go_simp
                go_at_call 14
                refine (H21.out _ y2).mono ?_
                rintro e Y3 ⟨rfl, u3⟩
                go_wp2_with fail
                have y3 : Kp [] V Y3 := y2.trans u3 (fun z hz => by simp at hz)
                have v3 : Kp [] W0 Y3 := v2.trans u3 (fun z hz => by simp at hz)
                refine hK.out _ _ ⟨T5k.out _ y3, T6k.out _ y3⟩ (fun hHeld3 => ?_)
                clear hK K hHeld2
                try simp only [Act.put, List.setIfInBounds_toArray, List.set_cons_zero, List.set_cons_succ]
                refine wpAnyG_pure (i := 17) (oi := { dst := some 120, op := Go.Op.binOp Go.BinOp.eql 4 (Go.Operand.tmp 116) (Go.Operand.tmp 119) 4, type := 4, pos := "law.go:176", after := #[{ on := 13, ground := Go.Ground.data }, { on := 16, ground := Go.Ground.data }, { on := 10, ground := Go.Ground.guard }], guard := some (10, true) }) (v := ?_) rfl (by kernel_rfl) (by kernel_rfl) (by kernel_rfl) (by kernel_rfl) (fun _ _ _ h => h) (Or.inl ⟨by rfl, ?_⟩) (by assumption) ?_
                rotate_left
                · (intro w; go_simp; try with_reducible rfl)
                simp only [Act.put, List.setIfInBounds_toArray, List.set_cons_zero, List.set_cons_succ]
                refine wpAnyG_pure (i := 18) (oi := { dst := some 121, op := Go.Op.pick (Go.Operand.tmp 113) (Go.Operand.tmp 120) (Go.Operand.const (Go.Value.bool false)), type := 4, pos := "law.go:176", after := #[{ on := 10, ground := Go.Ground.data }, { on := 17, ground := Go.Ground.data }], guard := none }) (v := ?_) rfl (by kernel_rfl) (by kernel_rfl) (by kernel_rfl) (by kernel_rfl) (fun _ _ _ h => h) (Or.inl ⟨by rfl, ?_⟩) (by assumption) ?_
                rotate_left
                · (intro w; go_simp; try with_reducible rfl)
                simp only [Act.put, List.setIfInBounds_toArray, List.set_cons_zero, List.set_cons_succ]
                refine wpAnyG_pure (i := 19) (oi := { dst := some 122, op := Go.Op.move (Go.Operand.tmp 121), type := 4, pos := "law.go:176", after := #[{ on := 18, ground := Go.Ground.data }, { on := 16, ground := Go.Ground.chain }], guard := none }) (v := ?_) rfl (by kernel_rfl) (by kernel_rfl) (by kernel_rfl) (by kernel_rfl) (fun _ _ _ h => h) (Or.inl ⟨by rfl, ?_⟩) (by assumption) ?_
                rotate_left
                · (intro w; go_simp; try with_reducible rfl)
                simp only [Act.put, List.setIfInBounds_toArray, List.set_cons_zero, List.set_cons_succ]
                refine wpAnyG_ready (rs := [20]) (by kernel_rfl) (by simp) ?_
                refine AllReadyG.cons (o := { dst := some 123, op := Go.Op.call { callee := Go.Callee.value (Go.Operand.func 10), args := #[], argTypes := #[] }, type := 4, pos := "law.go:176", after := #[{ on := 19, ground := Go.Ground.chain }, { on := 19, ground := Go.Ground.guard }], guard := some (19, true) }) rfl (fun K hK => ?_) AllReadyG.nil
                go_simp
                go_at_call 10
                refine (known_any _).mono ?_
                rintro e Y4 ⟨rfl, u4⟩
                go_wp2_with fail
                have y4 : Kp [] V Y4 := y3.trans u4 (fun z hz => by simp at hz)
                have v4 : Kp [] W0 Y4 := v3.trans u4 (fun z hz => by simp at hz)
                refine hK.out _ _ ⟨T5k.out _ y4, T6k.out _ y4⟩ (fun hHeld4 => ?_)
                clear hK K hHeld3
                try simp only [Act.put, List.setIfInBounds_toArray, List.set_cons_zero, List.set_cons_succ]
                refine wpAnyG_pure (i := 21) (oi := { dst := some 124, op := Go.Op.pick (Go.Operand.tmp 122) (Go.Operand.tmp 123) (Go.Operand.const (Go.Value.bool false)), type := 4, pos := "law.go:176", after := #[{ on := 19, ground := Go.Ground.data }, { on := 20, ground := Go.Ground.data }], guard := none }) (v := ?_) rfl (by kernel_rfl) (by kernel_rfl) (by kernel_rfl) (by kernel_rfl) (fun _ _ _ h => h) (Or.inl ⟨by rfl, ?_⟩) (by assumption) ?_
                rotate_left
                · (intro w; go_simp; try with_reducible rfl)
                simp only [Act.put, List.setIfInBounds_toArray, List.set_cons_zero, List.set_cons_succ]
                refine wpAnyG_pure (i := 22) (oi := { dst := some 4, op := Go.Op.assign (Go.Operand.tmp 124), type := 4, pos := "law.go:176", after := #[{ on := 21, ground := Go.Ground.data }, { on := 20, ground := Go.Ground.chain }, { on := 0, ground := Go.Ground.phase }, { on := 1, ground := Go.Ground.phase }, { on := 2, ground := Go.Ground.phase }, { on := 3, ground := Go.Ground.phase }, { on := 4, ground := Go.Ground.phase }, { on := 5, ground := Go.Ground.phase }, { on := 6, ground := Go.Ground.phase }, { on := 7, ground := Go.Ground.phase }, { on := 8, ground := Go.Ground.phase }, { on := 9, ground := Go.Ground.phase }, { on := 10, ground := Go.Ground.phase }, { on := 11, ground := Go.Ground.phase }, { on := 12, ground := Go.Ground.phase }, { on := 13, ground := Go.Ground.phase }, { on := 14, ground := Go.Ground.phase }, { on := 15, ground := Go.Ground.phase }, { on := 16, ground := Go.Ground.phase }, { on := 17, ground := Go.Ground.phase }, { on := 18, ground := Go.Ground.phase }, { on := 19, ground := Go.Ground.phase }, { on := 20, ground := Go.Ground.phase }, { on := 21, ground := Go.Ground.phase }], guard := none }) (v := ?_) rfl (by kernel_rfl) (by kernel_rfl) (by kernel_rfl) (by kernel_rfl) (fun _ _ _ h => h) (Or.inl ⟨by rfl, ?_⟩) (by assumption) ?_
                rotate_left
                · (intro w; go_simp; try with_reducible rfl)
                simp only [Act.put, List.setIfInBounds_toArray, List.set_cons_zero, List.set_cons_succ]
                refine wpAnyG_free (by kernel_rfl) ?_
                refine wpAny_done (by kernel_rfl) ?_ _
                go_wp2
                go_ret
                exact ⟨rfl, KV.out.trans v4 (fun z hz => by simp at hz)⟩
              · have hs2 := HQ.out rfl
                subst hs2
                obtain ⟨Y0, hY0⟩ : ∃ V, V = W0.drew := ⟨_, rfl⟩
                have y0 : Kp [] V Y0 := by rw [hY0]; exact KG.out.drew
                have v0 : Kp [] W0 Y0 := by rw [hY0]; exact (Kp.refl _ _).drew
                refine wp_region_g (S := fun V => At V g5 (doc6 p1) 25 ∧ At V (g5 + 1) (doc6 p2) 25) (T := []) (by kernel_rfl) ⟨T5k.out _ KG.out.drew, T6k.out _ KG.out.drew⟩ (fun hHeld => ?_)
                rw [← hY0] at hHeld ⊢
                clear hY0
                refine wpAnyG_take (i := 0) (oi := { dst := some 103, op := Go.Op.load 25 (Go.Operand.tmp 5), type := 25, pos := "law.go:176", after := #[], guard := none }) (v := ?_) rfl (by kernel_rfl) (by kernel_rfl) (by kernel_rfl) (by kernel_rfl) (fun _ _ _ h => h) (Or.inl ⟨by rfl, ?_⟩) (by assumption) ?_
                rotate_left
                · (intro w hSw; (obtain ⟨⟨c0, c1, c2, c3, c4, c5⟩, e0, e1, e2, e3, e4, e5⟩ := And.intro hSw.1.six hSw.2.six); go_simp; try with_reducible rfl)
                simp only [Act.put, List.setIfInBounds_toArray, List.set_cons_zero, List.set_cons_succ]
                refine wpAnyG_take (i := 1) (oi := { dst := some 104, op := Go.Op.load 25 (Go.Operand.tmp 6), type := 25, pos := "law.go:176", after := #[], guard := none }) (v := ?_) rfl (by kernel_rfl) (by kernel_rfl) (by kernel_rfl) (by kernel_rfl) (fun _ _ _ h => h) (Or.inl ⟨by rfl, ?_⟩) (by assumption) ?_
                rotate_left
                · (intro w hSw; (obtain ⟨⟨c0, c1, c2, c3, c4, c5⟩, e0, e1, e2, e3, e4, e5⟩ := And.intro hSw.1.six hSw.2.six); go_simp; try with_reducible rfl)
                simp only [Act.put, List.setIfInBounds_toArray, List.set_cons_zero, List.set_cons_succ]
                refine wpAnyG_ready (rs := [2]) (by kernel_rfl) (by simp) ?_
                refine AllReadyG.cons (o := { dst := some 105, op := Go.Op.call { callee := Go.Callee.value (Go.Operand.func 14), args := #[Go.Operand.tmp 103, Go.Operand.tmp 104], argTypes := #[25, 25] }, type := 4, pos := "law.go:176", after := #[{ on := 0, ground := Go.Ground.data }, { on := 1, ground := Go.Ground.data }], guard := none }) rfl (fun K hK => ?_) AllReadyG.nil
                go_simp
                go_at_call 14
                refine (H12.out _ y0).mono ?_
                rintro e Y1 ⟨rfl, u1⟩
                go_wp2_with fail
                have y1 : Kp [] V Y1 := y0.trans u1 (fun z hz => by simp at hz)
                have v1 : Kp [] W0 Y1 := v0.trans u1 (fun z hz => by simp at hz)
                refine hK.out _ _ ⟨T5k.out _ y1, T6k.out _ y1⟩ (fun hHeld1 => ?_)
                clear hK K hHeld
                try simp only [Act.put, List.setIfInBounds_toArray, List.set_cons_zero, List.set_cons_succ]
                refine wpAnyG_pure (i := 3) (oi := { dst := some 106, op := Go.Op.unOp Go.UnOp.not 4 (Go.Operand.tmp 105), type := 4, pos := "law.go:176", after := #[{ on := 2, ground := Go.Ground.data }], guard := none }) (v := ?_) rfl (by kernel_rfl) (by kernel_rfl) (by kernel_rfl) (by kernel_rfl) (fun _ _ _ h => h) (Or.inl ⟨by rfl, ?_⟩) (by assumption) ?_
                rotate_left
                · (intro w; go_simp; try with_reducible rfl)
                simp only [Act.put, List.setIfInBounds_toArray, List.set_cons_zero, List.set_cons_succ]
                refine wpAnyG_pure (i := 4) (oi := { dst := some 107, op := Go.Op.move (Go.Operand.tmp 106), type := 4, pos := "law.go:176", after := #[{ on := 3, ground := Go.Ground.data }, { on := 2, ground := Go.Ground.chain }], guard := none }) (v := ?_) rfl (by kernel_rfl) (by kernel_rfl) (by kernel_rfl) (by kernel_rfl) (fun _ _ _ h => h) (Or.inl ⟨by rfl, ?_⟩) (by assumption) ?_
                rotate_left
                · (intro w; go_simp; try with_reducible rfl)
                simp only [Act.put, List.setIfInBounds_toArray, List.set_cons_zero, List.set_cons_succ]
                refine wpAnyG_pure (i := 5) (oi := { dst := some 108, op := Go.Op.move (Go.Operand.tmp 7), type := 9, pos := "law.go:176", after := #[{ on := 4, ground := Go.Ground.guard }], guard := some (4, false) }) (v := ?_) rfl (by kernel_rfl) (by kernel_rfl) (by kernel_rfl) (by kernel_rfl) (fun _ _ _ h => h) (Or.inl ⟨by rfl, ?_⟩) (by assumption) ?_
                rotate_left
                · (intro w; go_simp; try with_reducible rfl)
                simp only [Act.put, List.setIfInBounds_toArray, List.set_cons_zero, List.set_cons_succ]
                refine wpAnyG_take (i := 6) (oi := { dst := some 109, op := Go.Op.load 25 (Go.Operand.tmp 6), type := 25, pos := "law.go:176", after := #[{ on := 4, ground := Go.Ground.guard }], guard := some (4, false) }) (v := ?_) rfl (by kernel_rfl) (by kernel_rfl) (by kernel_rfl) (by kernel_rfl) (fun _ _ _ h => h) (Or.inl ⟨by rfl, ?_⟩) (by assumption) ?_
                rotate_left
                · (intro w hSw; (obtain ⟨⟨c0, c1, c2, c3, c4, c5⟩, e0, e1, e2, e3, e4, e5⟩ := And.intro hSw.1.six hSw.2.six); go_simp; try with_reducible rfl)
                simp only [Act.put, List.setIfInBounds_toArray, List.set_cons_zero, List.set_cons_succ]
                refine wpAnyG_ready (rs := [7]) (by kernel_rfl) (by simp) ?_
                refine AllReadyG.cons (o := { dst := some 110, op := Go.Op.call { callee := Go.Callee.value (Go.Operand.func 16), args := #[Go.Operand.tmp 109], argTypes := #[25] }, type := 9, pos := "law.go:176", after := #[{ on := 6, ground := Go.Ground.data }, { on := 4, ground := Go.Ground.chain }, { on := 4, ground := Go.Ground.guard }], guard := some (4, false) }) rfl (fun K hK => ?_) AllReadyG.nil
                go_simp
                go_at_call 16
                refine (HS2.out _ y1).mono ?_
                rintro e Y2 ⟨rfl, u2⟩
                go_wp2_with fail
                have y2 : Kp [] V Y2 := y1.trans u2 (fun z hz => by simp at hz)
                have v2 : Kp [] W0 Y2 := v1.trans u2 (fun z hz => by simp at hz)
                refine hK.out _ _ ⟨T5k.out _ y2, T6k.out _ y2⟩ (fun hHeld2 => ?_)
                clear hK K hHeld1
                try simp only [Act.put, List.setIfInBounds_toArray, List.set_cons_zero, List.set_cons_succ]
                refine wpAnyG_pure (i := 8) (oi := { dst := some 111, op := Go.Op.binOp Go.BinOp.eql 9 (Go.Operand.tmp 108) (Go.Operand.tmp 110) 9, type := 4, pos := "law.go:176", after := #[{ on := 5, ground := Go.Ground.data }, { on := 7, ground := Go.Ground.data }, { on := 4, ground := Go.Ground.guard }], guard := some (4, false) }) (v := ?_) rfl (by kernel_rfl) (by kernel_rfl) (by kernel_rfl) (by kernel_rfl) (fun _ _ _ h => h) (Or.inl ⟨by rfl, ?_⟩) (by assumption) ?_
                rotate_left
                · (intro w; go_simp; try with_reducible rfl)
                simp only [Act.put, List.setIfInBounds_toArray, List.set_cons_zero, List.set_cons_succ]
                refine wpAnyG_pure (i := 9) (oi := { dst := some 112, op := Go.Op.pick (Go.Operand.tmp 107) (Go.Operand.const (Go.Value.bool true)) (Go.Operand.tmp 111), type := 4, pos := "law.go:176", after := #[{ on := 4, ground := Go.Ground.data }, { on := 8, ground := Go.Ground.data }], guard := none }) (v := ?_) rfl (by kernel_rfl) (by kernel_rfl) (by kernel_rfl) (by kernel_rfl) (fun _ _ _ h => h) (Or.inl ⟨by rfl, ?_⟩) (by assumption) ?_
                rotate_left
                · (intro w; go_simp; try with_reducible rfl)
                simp only [Act.put, List.setIfInBounds_toArray, List.set_cons_zero, List.set_cons_succ]
                refine wpAnyG_pure (i := 10) (oi := { dst := some 113, op := Go.Op.move (Go.Operand.tmp 112), type := 4, pos := "law.go:176", after := #[{ on := 9, ground := Go.Ground.data }, { on := 7, ground := Go.Ground.chain }], guard := none }) (v := ?_) rfl (by kernel_rfl) (by kernel_rfl) (by kernel_rfl) (by kernel_rfl) (fun _ _ _ h => h) (Or.inl ⟨by rfl, ?_⟩) (by assumption) ?_
                rotate_left
                · (intro w; go_simp; try with_reducible rfl)
                simp only [Act.put, List.setIfInBounds_toArray, List.set_cons_zero, List.set_cons_succ]
                refine wpAnyG_take (i := 11) (oi := { dst := some 114, op := Go.Op.load 25 (Go.Operand.tmp 5), type := 25, pos := "law.go:176", after := #[{ on := 10, ground := Go.Ground.guard }], guard := some (10, true) }) (v := ?_) rfl (by kernel_rfl) (by kernel_rfl) (by kernel_rfl) (by kernel_rfl) (fun _ _ _ h => h) (Or.inl ⟨by rfl, ?_⟩) (by assumption) ?_
                rotate_left
                · (intro w hSw; (obtain ⟨⟨c0, c1, c2, c3, c4, c5⟩, e0, e1, e2, e3, e4, e5⟩ := And.intro hSw.1.six hSw.2.six); go_simp; try with_reducible rfl)
                simp only [Act.put, List.setIfInBounds_toArray, List.set_cons_zero, List.set_cons_succ]
                refine wpAnyG_take (i := 12) (oi := { dst := some 115, op := Go.Op.load 25 (Go.Operand.tmp 6), type := 25, pos := "law.go:176", after := #[{ on := 10, ground := Go.Ground.guard }], guard := some (10, true) }) (v := ?_) rfl (by kernel_rfl) (by kernel_rfl) (by kernel_rfl) (by kernel_rfl) (fun _ _ _ h => h) (Or.inl ⟨by rfl, ?_⟩) (by assumption) ?_
                rotate_left
                · (intro w hSw; (obtain ⟨⟨c0, c1, c2, c3, c4, c5⟩, e0, e1, e2, e3, e4, e5⟩ := And.intro hSw.1.six hSw.2.six); go_simp; try with_reducible rfl)
                simp only [Act.put, List.setIfInBounds_toArray, List.set_cons_zero, List.set_cons_succ]
                refine wpAnyG_take (i := 14) (oi := { dst := some 117, op := Go.Op.load 25 (Go.Operand.tmp 6), type := 25, pos := "law.go:176", after := #[{ on := 10, ground := Go.Ground.guard }], guard := some (10, true) }) (v := ?_) rfl (by kernel_rfl) (by kernel_rfl) (by kernel_rfl) (by kernel_rfl) (fun _ _ _ h => h) (Or.inl ⟨by rfl, ?_⟩) (by assumption) ?_
                rotate_left
                · (intro w hSw; (obtain ⟨⟨c0, c1, c2, c3, c4, c5⟩, e0, e1, e2, e3, e4, e5⟩ := And.intro hSw.1.six hSw.2.six); go_simp; try with_reducible rfl)
                simp only [Act.put, List.setIfInBounds_toArray, List.set_cons_zero, List.set_cons_succ]
                refine wpAnyG_take (i := 15) (oi := { dst := some 118, op := Go.Op.load 25 (Go.Operand.tmp 5), type := 25, pos := "law.go:176", after := #[{ on := 10, ground := Go.Ground.guard }], guard := some (10, true) }) (v := ?_) rfl (by kernel_rfl) (by kernel_rfl) (by kernel_rfl) (by kernel_rfl) (fun _ _ _ h => h) (Or.inl ⟨by rfl, ?_⟩) (by assumption) ?_
                rotate_left
                · (intro w hSw; (obtain ⟨⟨c0, c1, c2, c3, c4, c5⟩, e0, e1, e2, e3, e4, e5⟩ := And.intro hSw.1.six hSw.2.six); go_simp; try with_reducible rfl)
                simp only [Act.put, List.setIfInBounds_toArray, List.set_cons_zero, List.set_cons_succ]
                refine wpAnyG_ready (rs := [13]) (by kernel_rfl) (by simp) ?_
                refine AllReadyG.cons (o := { dst := some 116, op := Go.Op.call { callee := Go.Callee.value (Go.Operand.func 14), args := #[Go.Operand.tmp 114, Go.Operand.tmp 115], argTypes := #[25, 25] }, type := 4, pos := "law.go:176", after := #[{ on := 11, ground := Go.Ground.data }, { on := 12, ground := Go.Ground.data }, { on := 10, ground := Go.Ground.chain }, { on := 10, ground := Go.Ground.guard }], guard := some (10, true) }) rfl (fun K hK => ?_) AllReadyG.nil
                go_simp
                go_at_call 14
                refine (H12.out _ y2).mono ?_
                rintro e Y3 ⟨rfl, u3⟩
                go_wp2_with fail
                have y3 : Kp [] V Y3 := y2.trans u3 (fun z hz => by simp at hz)
                have v3 : Kp [] W0 Y3 := v2.trans u3 (fun z hz => by simp at hz)
                refine hK.out _ _ ⟨T5k.out _ y3, T6k.out _ y3⟩ (fun hHeld3 => ?_)
                clear hK K hHeld2
                try simp only [Act.put, List.setIfInBounds_toArray, List.set_cons_zero, List.set_cons_succ]
                refine wpAnyG_ready (rs := [16]) (by kernel_rfl) (by simp) ?_
                refine AllReadyG.cons (o := { dst := some 119, op := Go.Op.call { callee := Go.Callee.value (Go.Operand.func 14), args := #[Go.Operand.tmp 117, Go.Operand.tmp 118], argTypes := #[25, 25] }, type := 4, pos := "law.go:176", after := #[{ on := 14, ground := Go.Ground.data }, { on := 15, ground := Go.Ground.data }, { on := 13, ground := Go.Ground.chain }, { on := 10, ground := Go.Ground.guard }], guard := some (10, true) }) rfl (fun K hK => ?_) AllReadyG.nil
                go_simp
                go_at_call 14
                refine (H21.out _ y3).mono ?_
                rintro e Y4 ⟨rfl, u4⟩
                go_wp2_with fail
                have y4 : Kp [] V Y4 := y3.trans u4 (fun z hz => by simp at hz)
                have v4 : Kp [] W0 Y4 := v3.trans u4 (fun z hz => by simp at hz)
                refine hK.out _ _ ⟨T5k.out _ y4, T6k.out _ y4⟩ (fun hHeld4 => ?_)
                clear hK K hHeld3
                try simp only [Act.put, List.setIfInBounds_toArray, List.set_cons_zero, List.set_cons_succ]
                refine wpAnyG_pure (i := 17) (oi := { dst := some 120, op := Go.Op.binOp Go.BinOp.eql 4 (Go.Operand.tmp 116) (Go.Operand.tmp 119) 4, type := 4, pos := "law.go:176", after := #[{ on := 13, ground := Go.Ground.data }, { on := 16, ground := Go.Ground.data }, { on := 10, ground := Go.Ground.guard }], guard := some (10, true) }) (v := ?_) rfl (by kernel_rfl) (by kernel_rfl) (by kernel_rfl) (by kernel_rfl) (fun _ _ _ h => h) (Or.inl ⟨by rfl, ?_⟩) (by assumption) ?_
                rotate_left
                · (intro w; go_simp; try with_reducible rfl)
                simp only [Act.put, List.setIfInBounds_toArray, List.set_cons_zero, List.set_cons_succ]
                refine wpAnyG_pure (i := 18) (oi := { dst := some 121, op := Go.Op.pick (Go.Operand.tmp 113) (Go.Operand.tmp 120) (Go.Operand.const (Go.Value.bool false)), type := 4, pos := "law.go:176", after := #[{ on := 10, ground := Go.Ground.data }, { on := 17, ground := Go.Ground.data }], guard := none }) (v := ?_) rfl (by kernel_rfl) (by kernel_rfl) (by kernel_rfl) (by kernel_rfl) (fun _ _ _ h => h) (Or.inl ⟨by rfl, ?_⟩) (by assumption) ?_
                rotate_left
                · (intro w; go_simp; try with_reducible rfl)
                simp only [Act.put, List.setIfInBounds_toArray, List.set_cons_zero, List.set_cons_succ]
                refine wpAnyG_pure (i := 19) (oi := { dst := some 122, op := Go.Op.move (Go.Operand.tmp 121), type := 4, pos := "law.go:176", after := #[{ on := 18, ground := Go.Ground.data }, { on := 16, ground := Go.Ground.chain }], guard := none }) (v := ?_) rfl (by kernel_rfl) (by kernel_rfl) (by kernel_rfl) (by kernel_rfl) (fun _ _ _ h => h) (Or.inl ⟨by rfl, ?_⟩) (by assumption) ?_
                rotate_left
                · (intro w; go_simp; try with_reducible rfl)
                simp only [Act.put, List.setIfInBounds_toArray, List.set_cons_zero, List.set_cons_succ]
                refine wpAnyG_ready (rs := [20]) (by kernel_rfl) (by simp) ?_
                refine AllReadyG.cons (o := { dst := some 123, op := Go.Op.call { callee := Go.Callee.value (Go.Operand.func 10), args := #[], argTypes := #[] }, type := 4, pos := "law.go:176", after := #[{ on := 19, ground := Go.Ground.chain }, { on := 19, ground := Go.Ground.guard }], guard := some (19, true) }) rfl (fun K hK => ?_) AllReadyG.nil
                go_simp
                go_at_call 10
                refine (known_any _).mono ?_
                rintro e Y5 ⟨rfl, u5⟩
                go_wp2_with fail
                have y5 : Kp [] V Y5 := y4.trans u5 (fun z hz => by simp at hz)
                have v5 : Kp [] W0 Y5 := v4.trans u5 (fun z hz => by simp at hz)
                refine hK.out _ _ ⟨T5k.out _ y5, T6k.out _ y5⟩ (fun hHeld5 => ?_)
                clear hK K hHeld4
                try simp only [Act.put, List.setIfInBounds_toArray, List.set_cons_zero, List.set_cons_succ]
                refine wpAnyG_pure (i := 21) (oi := { dst := some 124, op := Go.Op.pick (Go.Operand.tmp 122) (Go.Operand.tmp 123) (Go.Operand.const (Go.Value.bool false)), type := 4, pos := "law.go:176", after := #[{ on := 19, ground := Go.Ground.data }, { on := 20, ground := Go.Ground.data }], guard := none }) (v := ?_) rfl (by kernel_rfl) (by kernel_rfl) (by kernel_rfl) (by kernel_rfl) (fun _ _ _ h => h) (Or.inl ⟨by rfl, ?_⟩) (by assumption) ?_
                rotate_left
                · (intro w; go_simp; try with_reducible rfl)
                simp only [Act.put, List.setIfInBounds_toArray, List.set_cons_zero, List.set_cons_succ]
                refine wpAnyG_pure (i := 22) (oi := { dst := some 4, op := Go.Op.assign (Go.Operand.tmp 124), type := 4, pos := "law.go:176", after := #[{ on := 21, ground := Go.Ground.data }, { on := 20, ground := Go.Ground.chain }, { on := 0, ground := Go.Ground.phase }, { on := 1, ground := Go.Ground.phase }, { on := 2, ground := Go.Ground.phase }, { on := 3, ground := Go.Ground.phase }, { on := 4, ground := Go.Ground.phase }, { on := 5, ground := Go.Ground.phase }, { on := 6, ground := Go.Ground.phase }, { on := 7, ground := Go.Ground.phase }, { on := 8, ground := Go.Ground.phase }, { on := 9, ground := Go.Ground.phase }, { on := 10, ground := Go.Ground.phase }, { on := 11, ground := Go.Ground.phase }, { on := 12, ground := Go.Ground.phase }, { on := 13, ground := Go.Ground.phase }, { on := 14, ground := Go.Ground.phase }, { on := 15, ground := Go.Ground.phase }, { on := 16, ground := Go.Ground.phase }, { on := 17, ground := Go.Ground.phase }, { on := 18, ground := Go.Ground.phase }, { on := 19, ground := Go.Ground.phase }, { on := 20, ground := Go.Ground.phase }, { on := 21, ground := Go.Ground.phase }], guard := none }) (v := ?_) rfl (by kernel_rfl) (by kernel_rfl) (by kernel_rfl) (by kernel_rfl) (fun _ _ _ h => h) (Or.inl ⟨by rfl, ?_⟩) (by assumption) ?_
                rotate_left
                · (intro w; go_simp; try with_reducible rfl)
                simp only [Act.put, List.setIfInBounds_toArray, List.set_cons_zero, List.set_cons_succ]
                refine wpAnyG_free (by kernel_rfl) ?_
                refine wpAny_done (by kernel_rfl) ?_ _
                go_wp2
                go_ret
                exact ⟨rfl, KV.out.trans v5 (fun z hz => by simp at hz)⟩
            · have e0 : ((Ei : Int) == 0) = false := int_eq_no (by omega)
              go_upto_region 28 with fail
              obtain ⟨W0, hW0⟩ : ∃ W0, W0 = wr2 := ⟨_, rfl⟩
              have KG : Hid (Kp [] V W0) := by show Kp [] V W0; rw [hW0]; exact KF.out
              have KV : Hid (Kp [] w W0) := by show Kp [] w W0; rw [hW0]; exact KW.out
              rw [← hW0]
              clear hW0
              clear c50 c51 c52 c53 c54 c55 KF KW HC HE
              cases E
              · obtain ⟨Y0, hY0⟩ : ∃ V, V = W0.drew := ⟨_, rfl⟩
                have y0 : Kp [] V Y0 := by rw [hY0]; exact KG.out.drew
                have v0 : Kp [] W0 Y0 := by rw [hY0]; exact (Kp.refl _ _).drew
                refine wp_region_g (S := fun V => At V g5 (doc6 p1) 25 ∧ At V (g5 + 1) (doc6 p2) 25) (T := []) (by kernel_rfl) ⟨T5k.out _ KG.out.drew, T6k.out _ KG.out.drew⟩ (fun hHeld => ?_)
                rw [← hY0] at hHeld ⊢
                clear hY0
                refine wpAnyG_take (i := 0) (oi := { dst := some 103, op := Go.Op.load 25 (Go.Operand.tmp 5), type := 25, pos := "law.go:176", after := #[], guard := none }) (v := ?_) rfl (by kernel_rfl) (by kernel_rfl) (by kernel_rfl) (by kernel_rfl) (fun _ _ _ h => h) (Or.inl ⟨by rfl, ?_⟩) (by assumption) ?_
                rotate_left
                · (intro w hSw; (obtain ⟨⟨c0, c1, c2, c3, c4, c5⟩, e0, e1, e2, e3, e4, e5⟩ := And.intro hSw.1.six hSw.2.six); go_simp; try with_reducible rfl)
                simp only [Act.put, List.setIfInBounds_toArray, List.set_cons_zero, List.set_cons_succ]
                refine wpAnyG_take (i := 1) (oi := { dst := some 104, op := Go.Op.load 25 (Go.Operand.tmp 6), type := 25, pos := "law.go:176", after := #[], guard := none }) (v := ?_) rfl (by kernel_rfl) (by kernel_rfl) (by kernel_rfl) (by kernel_rfl) (fun _ _ _ h => h) (Or.inl ⟨by rfl, ?_⟩) (by assumption) ?_
                rotate_left
                · (intro w hSw; (obtain ⟨⟨c0, c1, c2, c3, c4, c5⟩, e0, e1, e2, e3, e4, e5⟩ := And.intro hSw.1.six hSw.2.six); go_simp; try with_reducible rfl)
                simp only [Act.put, List.setIfInBounds_toArray, List.set_cons_zero, List.set_cons_succ]
                refine wpAnyG_ready (rs := [2]) (by kernel_rfl) (by simp) ?_
                refine AllReadyG.cons (o := { dst := some 105, op := Go.Op.call { callee := Go.Callee.value (Go.Operand.func 14), args := #[Go.Operand.tmp 103, Go.Operand.tmp 104], argTypes := #[25, 25] }, type := 4, pos := "law.go:176", after := #[{ on := 0, ground := Go.Ground.data }, { on := 1, ground := Go.Ground.data }], guard := none }) rfl (fun K hK => ?_) AllReadyG.nil
                go_simp
                go_at_call 14
                refine (H12.out _ y0).mono ?_
                rintro e Y1 ⟨rfl, u1⟩
                go_wp2_with fail
                have y1 : Kp [] V Y1 := y0.trans u1 (fun z hz => by simp at hz)
                have v1 : Kp [] W0 Y1 := v0.trans u1 (fun z hz => by simp at hz)
                refine hK.out _ _ ⟨T5k.out _ y1, T6k.out _ y1⟩ (fun hHeld1 => ?_)
                clear hK K hHeld
                try simp only [Act.put, List.setIfInBounds_toArray, List.set_cons_zero, List.set_cons_succ]
                refine wpAnyG_pure (i := 3) (oi := { dst := some 106, op := Go.Op.unOp Go.UnOp.not 4 (Go.Operand.tmp 105), type := 4, pos := "law.go:176", after := #[{ on := 2, ground := Go.Ground.data }], guard := none }) (v := ?_) rfl (by kernel_rfl) (by kernel_rfl) (by kernel_rfl) (by kernel_rfl) (fun _ _ _ h => h) (Or.inl ⟨by rfl, ?_⟩) (by assumption) ?_
                rotate_left
                · (intro w; go_simp; try with_reducible rfl)
                simp only [Act.put, List.setIfInBounds_toArray, List.set_cons_zero, List.set_cons_succ]
                refine wpAnyG_pure (i := 4) (oi := { dst := some 107, op := Go.Op.move (Go.Operand.tmp 106), type := 4, pos := "law.go:176", after := #[{ on := 3, ground := Go.Ground.data }, { on := 2, ground := Go.Ground.chain }], guard := none }) (v := ?_) rfl (by kernel_rfl) (by kernel_rfl) (by kernel_rfl) (by kernel_rfl) (fun _ _ _ h => h) (Or.inl ⟨by rfl, ?_⟩) (by assumption) ?_
                rotate_left
                · (intro w; go_simp; try with_reducible rfl)
                simp only [Act.put, List.setIfInBounds_toArray, List.set_cons_zero, List.set_cons_succ]
                refine wpAnyG_pure (i := 5) (oi := { dst := some 108, op := Go.Op.move (Go.Operand.tmp 7), type := 9, pos := "law.go:176", after := #[{ on := 4, ground := Go.Ground.guard }], guard := some (4, false) }) (v := undef) rfl (by kernel_rfl) (by kernel_rfl) (by kernel_rfl) (by kernel_rfl) (fun _ _ _ h => h) (Or.inr ⟨by rfl, rfl⟩) (by assumption) ?_
                simp only [Act.put, List.setIfInBounds_toArray, List.set_cons_zero, List.set_cons_succ]
                refine wpAnyG_take (i := 6) (oi := { dst := some 109, op := Go.Op.load 25 (Go.Operand.tmp 6), type := 25, pos := "law.go:176", after := #[{ on := 4, ground := Go.Ground.guard }], guard := some (4, false) }) (v := undef) rfl (by kernel_rfl) (by kernel_rfl) (by kernel_rfl) (by kernel_rfl) (fun _ _ _ h => h) (Or.inr ⟨by rfl, rfl⟩) (by assumption) ?_
                simp only [Act.put, List.setIfInBounds_toArray, List.set_cons_zero, List.set_cons_succ]
                refine wpAnyG_pure (i := 7) (oi := { dst := some 110, op := Go.Op.call { callee := Go.Callee.value (Go.Operand.func 16), args := #[Go.Operand.tmp 109], argTypes := #[25] }, type := 9, pos := "law.go:176", after := #[{ on := 6, ground := Go.Ground.data }, { on := 4, ground := Go.Ground.chain }, { on := 4, ground := Go.Ground.guard }], guard := some (4, false) }) (v := undef) rfl (by kernel_rfl) (by kernel_rfl) (by kernel_rfl) (by kernel_rfl) (fun _ _ _ h => h) (Or.inr ⟨by rfl, rfl⟩) (by assumption) ?_
                simp only [Act.put, List.setIfInBounds_toArray, List.set_cons_zero, List.set_cons_succ]
                refine wpAnyG_pure (i := 8) (oi := { dst := some 111, op := Go.Op.binOp Go.BinOp.eql 9 (Go.Operand.tmp 108) (Go.Operand.tmp 110) 9, type := 4, pos := "law.go:176", after := #[{ on := 5, ground := Go.Ground.data }, { on := 7, ground := Go.Ground.data }, { on := 4, ground := Go.Ground.guard }], guard := some (4, false) }) (v := undef) rfl (by kernel_rfl) (by kernel_rfl) (by kernel_rfl) (by kernel_rfl) (fun _ _ _ h => h) (Or.inr ⟨by rfl, rfl⟩) (by assumption) ?_
                simp only [Act.put, List.setIfInBounds_toArray, List.set_cons_zero, List.set_cons_succ]
                refine wpAnyG_pure (i := 9) (oi := { dst := some 112, op := Go.Op.pick (Go.Operand.tmp 107) (Go.Operand.const (Go.Value.bool true)) (Go.Operand.tmp 111), type := 4, pos := "law.go:176", after := #[{ on := 4, ground := Go.Ground.data }, { on := 8, ground := Go.Ground.data }], guard := none }) (v := ?_) rfl (by kernel_rfl) (by kernel_rfl) (by kernel_rfl) (by kernel_rfl) (fun _ _ _ h => h) (Or.inl ⟨by rfl, ?_⟩) (by assumption) ?_
                rotate_left
                · (intro w; go_simp; try with_reducible rfl)
                simp only [Act.put, List.setIfInBounds_toArray, List.set_cons_zero, List.set_cons_succ]
                refine wpAnyG_pure (i := 10) (oi := { dst := some 113, op := Go.Op.move (Go.Operand.tmp 112), type := 4, pos := "law.go:176", after := #[{ on := 9, ground := Go.Ground.data }, { on := 7, ground := Go.Ground.chain }], guard := none }) (v := ?_) rfl (by kernel_rfl) (by kernel_rfl) (by kernel_rfl) (by kernel_rfl) (fun _ _ _ h => h) (Or.inl ⟨by rfl, ?_⟩) (by assumption) ?_
                rotate_left
                · (intro w; go_simp; try with_reducible rfl)
                simp only [Act.put, List.setIfInBounds_toArray, List.set_cons_zero, List.set_cons_succ]
                refine wpAnyG_take (i := 11) (oi := { dst := some 114, op := Go.Op.load 25 (Go.Operand.tmp 5), type := 25, pos := "law.go:176", after := #[{ on := 10, ground := Go.Ground.guard }], guard := some (10, true) }) (v := ?_) rfl (by kernel_rfl) (by kernel_rfl) (by kernel_rfl) (by kernel_rfl) (fun _ _ _ h => h) (Or.inl ⟨by rfl, ?_⟩) (by assumption) ?_
                rotate_left
                · (intro w hSw; (obtain ⟨⟨c0, c1, c2, c3, c4, c5⟩, e0, e1, e2, e3, e4, e5⟩ := And.intro hSw.1.six hSw.2.six); go_simp; try with_reducible rfl)
                simp only [Act.put, List.setIfInBounds_toArray, List.set_cons_zero, List.set_cons_succ]
                refine wpAnyG_take (i := 12) (oi := { dst := some 115, op := Go.Op.load 25 (Go.Operand.tmp 6), type := 25, pos := "law.go:176", after := #[{ on := 10, ground := Go.Ground.guard }], guard := some (10, true) }) (v := ?_) rfl (by kernel_rfl) (by kernel_rfl) (by kernel_rfl) (by kernel_rfl) (fun _ _ _ h => h) (Or.inl ⟨by rfl, ?_⟩) (by assumption) ?_
                rotate_left
                · (intro w hSw; (obtain ⟨⟨c0, c1, c2, c3, c4, c5⟩, e0, e1, e2, e3, e4, e5⟩ := And.intro hSw.1.six hSw.2.six); go_simp; try with_reducible rfl)
                simp only [Act.put, List.setIfInBounds_toArray, List.set_cons_zero, List.set_cons_succ]
                refine wpAnyG_take (i := 14) (oi := { dst := some 117, op := Go.Op.load 25 (Go.Operand.tmp 6), type := 25, pos := "law.go:176", after := #[{ on := 10, ground := Go.Ground.guard }], guard := some (10, true) }) (v := ?_) rfl (by kernel_rfl) (by kernel_rfl) (by kernel_rfl) (by kernel_rfl) (fun _ _ _ h => h) (Or.inl ⟨by rfl, ?_⟩) (by assumption) ?_
                rotate_left
                · (intro w hSw; (obtain ⟨⟨c0, c1, c2, c3, c4, c5⟩, e0, e1, e2, e3, e4, e5⟩ := And.intro hSw.1.six hSw.2.six); go_simp; try with_reducible rfl)
                simp only [Act.put, List.setIfInBounds_toArray, List.set_cons_zero, List.set_cons_succ]
                refine wpAnyG_take (i := 15) (oi := { dst := some 118, op := Go.Op.load 25 (Go.Operand.tmp 5), type := 25, pos := "law.go:176", after := #[{ on := 10, ground := Go.Ground.guard }], guard := some (10, true) }) (v := ?_) rfl (by kernel_rfl) (by kernel_rfl) (by kernel_rfl) (by kernel_rfl) (fun _ _ _ h => h) (Or.inl ⟨by rfl, ?_⟩) (by assumption) ?_
                rotate_left
                · (intro w hSw; (obtain ⟨⟨c0, c1, c2, c3, c4, c5⟩, e0, e1, e2, e3, e4, e5⟩ := And.intro hSw.1.six hSw.2.six); go_simp; try with_reducible rfl)
                simp only [Act.put, List.setIfInBounds_toArray, List.set_cons_zero, List.set_cons_succ]
                refine wpAnyG_ready (rs := [13]) (by kernel_rfl) (by simp) ?_
                refine AllReadyG.cons (o := { dst := some 116, op := Go.Op.call { callee := Go.Callee.value (Go.Operand.func 14), args := #[Go.Operand.tmp 114, Go.Operand.tmp 115], argTypes := #[25, 25] }, type := 4, pos := "law.go:176", after := #[{ on := 11, ground := Go.Ground.data }, { on := 12, ground := Go.Ground.data }, { on := 10, ground := Go.Ground.chain }, { on := 10, ground := Go.Ground.guard }], guard := some (10, true) }) rfl (fun K hK => ?_) AllReadyG.nil
                go_simp
                go_at_call 14
                refine (H12.out _ y1).mono ?_
                rintro e Y2 ⟨rfl, u2⟩
                go_wp2_with fail
                have y2 : Kp [] V Y2 := y1.trans u2 (fun z hz => by simp at hz)
                have v2 : Kp [] W0 Y2 := v1.trans u2 (fun z hz => by simp at hz)
                refine hK.out _ _ ⟨T5k.out _ y2, T6k.out _ y2⟩ (fun hHeld2 => ?_)
                clear hK K hHeld1
                try simp only [Act.put, List.setIfInBounds_toArray, List.set_cons_zero, List.set_cons_succ]
                refine wpAnyG_ready (rs := [16]) (by kernel_rfl) (by simp) ?_
                refine AllReadyG.cons (o := { dst := some 119, op := Go.Op.call { callee := Go.Callee.value (Go.Operand.func 14), args := #[Go.Operand.tmp 117, Go.Operand.tmp 118], argTypes := #[25, 25] }, type := 4, pos := "law.go:176", after := #[{ on := 14, ground := Go.Ground.data }, { on := 15, ground := Go.Ground.data }, { on := 13, ground := Go.Ground.chain }, { on := 10, ground := Go.Ground.guard }], guard := some (10, true) }) rfl (fun K hK => ?_) AllReadyG.nil
                go_simp
                go_at_call 14
                refine (H21.out _ y2).mono ?_
                rintro e Y3 ⟨rfl, u3⟩
                go_wp2_with fail
                have y3 : Kp [] V Y3 := y2.trans u3 (fun z hz => by simp at hz)
                have v3 : Kp [] W0 Y3 := v2.trans u3 (fun z hz => by simp at hz)
                refine hK.out _ _ ⟨T5k.out _ y3, T6k.out _ y3⟩ (fun hHeld3 => ?_)
                clear hK K hHeld2
                try simp only [Act.put, List.setIfInBounds_toArray, List.set_cons_zero, List.set_cons_succ]
                refine wpAnyG_pure (i := 17) (oi := { dst := some 120, op := Go.Op.binOp Go.BinOp.eql 4 (Go.Operand.tmp 116) (Go.Operand.tmp 119) 4, type := 4, pos := "law.go:176", after := #[{ on := 13, ground := Go.Ground.data }, { on := 16, ground := Go.Ground.data }, { on := 10, ground := Go.Ground.guard }], guard := some (10, true) }) (v := ?_) rfl (by kernel_rfl) (by kernel_rfl) (by kernel_rfl) (by kernel_rfl) (fun _ _ _ h => h) (Or.inl ⟨by rfl, ?_⟩) (by assumption) ?_
                rotate_left
                · (intro w; go_simp; try with_reducible rfl)
                simp only [Act.put, List.setIfInBounds_toArray, List.set_cons_zero, List.set_cons_succ]
                refine wpAnyG_pure (i := 18) (oi := { dst := some 121, op := Go.Op.pick (Go.Operand.tmp 113) (Go.Operand.tmp 120) (Go.Operand.const (Go.Value.bool false)), type := 4, pos := "law.go:176", after := #[{ on := 10, ground := Go.Ground.data }, { on := 17, ground := Go.Ground.data }], guard := none }) (v := ?_) rfl (by kernel_rfl) (by kernel_rfl) (by kernel_rfl) (by kernel_rfl) (fun _ _ _ h => h) (Or.inl ⟨by rfl, ?_⟩) (by assumption) ?_
                rotate_left
                · (intro w; go_simp; try with_reducible rfl)
                simp only [Act.put, List.setIfInBounds_toArray, List.set_cons_zero, List.set_cons_succ]
                refine wpAnyG_pure (i := 19) (oi := { dst := some 122, op := Go.Op.move (Go.Operand.tmp 121), type := 4, pos := "law.go:176", after := #[{ on := 18, ground := Go.Ground.data }, { on := 16, ground := Go.Ground.chain }], guard := none }) (v := ?_) rfl (by kernel_rfl) (by kernel_rfl) (by kernel_rfl) (by kernel_rfl) (fun _ _ _ h => h) (Or.inl ⟨by rfl, ?_⟩) (by assumption) ?_
                rotate_left
                · (intro w; go_simp; try with_reducible rfl)
                simp only [Act.put, List.setIfInBounds_toArray, List.set_cons_zero, List.set_cons_succ]
                refine wpAnyG_ready (rs := [20]) (by kernel_rfl) (by simp) ?_
                refine AllReadyG.cons (o := { dst := some 123, op := Go.Op.call { callee := Go.Callee.value (Go.Operand.func 10), args := #[], argTypes := #[] }, type := 4, pos := "law.go:176", after := #[{ on := 19, ground := Go.Ground.chain }, { on := 19, ground := Go.Ground.guard }], guard := some (19, true) }) rfl (fun K hK => ?_) AllReadyG.nil
                go_simp
                go_at_call 10
                refine (known_any _).mono ?_
                rintro e Y4 ⟨rfl, u4⟩
                go_wp2_with fail
                have y4 : Kp [] V Y4 := y3.trans u4 (fun z hz => by simp at hz)
                have v4 : Kp [] W0 Y4 := v3.trans u4 (fun z hz => by simp at hz)
                refine hK.out _ _ ⟨T5k.out _ y4, T6k.out _ y4⟩ (fun hHeld4 => ?_)
                clear hK K hHeld3
                try simp only [Act.put, List.setIfInBounds_toArray, List.set_cons_zero, List.set_cons_succ]
                refine wpAnyG_pure (i := 21) (oi := { dst := some 124, op := Go.Op.pick (Go.Operand.tmp 122) (Go.Operand.tmp 123) (Go.Operand.const (Go.Value.bool false)), type := 4, pos := "law.go:176", after := #[{ on := 19, ground := Go.Ground.data }, { on := 20, ground := Go.Ground.data }], guard := none }) (v := ?_) rfl (by kernel_rfl) (by kernel_rfl) (by kernel_rfl) (by kernel_rfl) (fun _ _ _ h => h) (Or.inl ⟨by rfl, ?_⟩) (by assumption) ?_
                rotate_left
                · (intro w; go_simp; try with_reducible rfl)
                simp only [Act.put, List.setIfInBounds_toArray, List.set_cons_zero, List.set_cons_succ]
                refine wpAnyG_pure (i := 22) (oi := { dst := some 4, op := Go.Op.assign (Go.Operand.tmp 124), type := 4, pos := "law.go:176", after := #[{ on := 21, ground := Go.Ground.data }, { on := 20, ground := Go.Ground.chain }, { on := 0, ground := Go.Ground.phase }, { on := 1, ground := Go.Ground.phase }, { on := 2, ground := Go.Ground.phase }, { on := 3, ground := Go.Ground.phase }, { on := 4, ground := Go.Ground.phase }, { on := 5, ground := Go.Ground.phase }, { on := 6, ground := Go.Ground.phase }, { on := 7, ground := Go.Ground.phase }, { on := 8, ground := Go.Ground.phase }, { on := 9, ground := Go.Ground.phase }, { on := 10, ground := Go.Ground.phase }, { on := 11, ground := Go.Ground.phase }, { on := 12, ground := Go.Ground.phase }, { on := 13, ground := Go.Ground.phase }, { on := 14, ground := Go.Ground.phase }, { on := 15, ground := Go.Ground.phase }, { on := 16, ground := Go.Ground.phase }, { on := 17, ground := Go.Ground.phase }, { on := 18, ground := Go.Ground.phase }, { on := 19, ground := Go.Ground.phase }, { on := 20, ground := Go.Ground.phase }, { on := 21, ground := Go.Ground.phase }], guard := none }) (v := ?_) rfl (by kernel_rfl) (by kernel_rfl) (by kernel_rfl) (by kernel_rfl) (fun _ _ _ h => h) (Or.inl ⟨by rfl, ?_⟩) (by assumption) ?_
                rotate_left
                · (intro w; go_simp; try with_reducible rfl)
                simp only [Act.put, List.setIfInBounds_toArray, List.set_cons_zero, List.set_cons_succ]
                refine wpAnyG_free (by kernel_rfl) ?_
                refine wpAny_done (by kernel_rfl) ?_ _
                go_wp2
                go_ret
                exact ⟨rfl, KV.out.trans v4 (fun z hz => by simp at hz)⟩
              · have hs2 := HQ.out rfl
                subst hs2
                obtain ⟨Y0, hY0⟩ : ∃ V, V = W0.drew := ⟨_, rfl⟩
                have y0 : Kp [] V Y0 := by rw [hY0]; exact KG.out.drew
                have v0 : Kp [] W0 Y0 := by rw [hY0]; exact (Kp.refl _ _).drew
                refine wp_region_g (S := fun V => At V g5 (doc6 p1) 25 ∧ At V (g5 + 1) (doc6 p2) 25) (T := []) (by kernel_rfl) ⟨T5k.out _ KG.out.drew, T6k.out _ KG.out.drew⟩ (fun hHeld => ?_)
                rw [← hY0] at hHeld ⊢
                clear hY0
                refine wpAnyG_take (i := 0) (oi := { dst := some 103, op := Go.Op.load 25 (Go.Operand.tmp 5), type := 25, pos := "law.go:176", after := #[], guard := none }) (v := ?_) rfl (by kernel_rfl) (by kernel_rfl) (by kernel_rfl) (by kernel_rfl) (fun _ _ _ h => h) (Or.inl ⟨by rfl, ?_⟩) (by assumption) ?_
                rotate_left
                · (intro w hSw; (obtain ⟨⟨c0, c1, c2, c3, c4, c5⟩, e0, e1, e2, e3, e4, e5⟩ := And.intro hSw.1.six hSw.2.six); go_simp; try with_reducible rfl)
                simp only [Act.put, List.setIfInBounds_toArray, List.set_cons_zero, List.set_cons_succ]
                refine wpAnyG_take (i := 1) (oi := { dst := some 104, op := Go.Op.load 25 (Go.Operand.tmp 6), type := 25, pos := "law.go:176", after := #[], guard := none }) (v := ?_) rfl (by kernel_rfl) (by kernel_rfl) (by kernel_rfl) (by kernel_rfl) (fun _ _ _ h => h) (Or.inl ⟨by rfl, ?_⟩) (by assumption) ?_
                rotate_left
                · (intro w hSw; (obtain ⟨⟨c0, c1, c2, c3, c4, c5⟩, e0, e1, e2, e3, e4, e5⟩ := And.intro hSw.1.six hSw.2.six); go_simp; try with_reducible rfl)
                simp only [Act.put, List.setIfInBounds_toArray, List.set_cons_zero, List.set_cons_succ]
                refine wpAnyG_ready (rs := [2]) (by kernel_rfl) (by simp) ?_
                refine AllReadyG.cons (o := { dst := some 105, op := Go.Op.call { callee := Go.Callee.value (Go.Operand.func 14), args := #[Go.Operand.tmp 103, Go.Operand.tmp 104], argTypes := #[25, 25] }, type := 4, pos := "law.go:176", after := #[{ on := 0, ground := Go.Ground.data }, { on := 1, ground := Go.Ground.data }], guard := none }) rfl (fun K hK => ?_) AllReadyG.nil
                go_simp
                go_at_call 14
                refine (H12.out _ y0).mono ?_
                rintro e Y1 ⟨rfl, u1⟩
                go_wp2_with fail
                have y1 : Kp [] V Y1 := y0.trans u1 (fun z hz => by simp at hz)
                have v1 : Kp [] W0 Y1 := v0.trans u1 (fun z hz => by simp at hz)
                refine hK.out _ _ ⟨T5k.out _ y1, T6k.out _ y1⟩ (fun hHeld1 => ?_)
                clear hK K hHeld
                try simp only [Act.put, List.setIfInBounds_toArray, List.set_cons_zero, List.set_cons_succ]
                refine wpAnyG_pure (i := 3) (oi := { dst := some 106, op := Go.Op.unOp Go.UnOp.not 4 (Go.Operand.tmp 105), type := 4, pos := "law.go:176", after := #[{ on := 2, ground := Go.Ground.data }], guard := none }) (v := ?_) rfl (by kernel_rfl) (by kernel_rfl) (by kernel_rfl) (by kernel_rfl) (fun _ _ _ h => h) (Or.inl ⟨by rfl, ?_⟩) (by assumption) ?_
                rotate_left
                · (intro w; go_simp; try with_reducible rfl)
                simp only [Act.put, List.setIfInBounds_toArray, List.set_cons_zero, List.set_cons_succ]
                refine wpAnyG_pure (i := 4) (oi := { dst := some 107, op := Go.Op.move (Go.Operand.tmp 106), type := 4, pos := "law.go:176", after := #[{ on := 3, ground := Go.Ground.data }, { on := 2, ground := Go.Ground.chain }], guard := none }) (v := ?_) rfl (by kernel_rfl) (by kernel_rfl) (by kernel_rfl) (by kernel_rfl) (fun _ _ _ h => h) (Or.inl ⟨by rfl, ?_⟩) (by assumption) ?_
                rotate_left
                · (intro w; go_simp; try with_reducible rfl)
                simp only [Act.put, List.setIfInBounds_toArray, List.set_cons_zero, List.set_cons_succ]
                refine wpAnyG_pure (i := 5) (oi := { dst := some 108, op := Go.Op.move (Go.Operand.tmp 7), type := 9, pos := "law.go:176", after := #[{ on := 4, ground := Go.Ground.guard }], guard := some (4, false) }) (v := ?_) rfl (by kernel_rfl) (by kernel_rfl) (by kernel_rfl) (by kernel_rfl) (fun _ _ _ h => h) (Or.inl ⟨by rfl, ?_⟩) (by assumption) ?_
                rotate_left
                · (intro w; go_simp; try with_reducible rfl)
                simp only [Act.put, List.setIfInBounds_toArray, List.set_cons_zero, List.set_cons_succ]
                refine wpAnyG_take (i := 6) (oi := { dst := some 109, op := Go.Op.load 25 (Go.Operand.tmp 6), type := 25, pos := "law.go:176", after := #[{ on := 4, ground := Go.Ground.guard }], guard := some (4, false) }) (v := ?_) rfl (by kernel_rfl) (by kernel_rfl) (by kernel_rfl) (by kernel_rfl) (fun _ _ _ h => h) (Or.inl ⟨by rfl, ?_⟩) (by assumption) ?_
                rotate_left
                · (intro w hSw; (obtain ⟨⟨c0, c1, c2, c3, c4, c5⟩, e0, e1, e2, e3, e4, e5⟩ := And.intro hSw.1.six hSw.2.six); go_simp; try with_reducible rfl)
                simp only [Act.put, List.setIfInBounds_toArray, List.set_cons_zero, List.set_cons_succ]
                refine wpAnyG_ready (rs := [7]) (by kernel_rfl) (by simp) ?_
                refine AllReadyG.cons (o := { dst := some 110, op := Go.Op.call { callee := Go.Callee.value (Go.Operand.func 16), args := #[Go.Operand.tmp 109], argTypes := #[25] }, type := 9, pos := "law.go:176", after := #[{ on := 6, ground := Go.Ground.data }, { on := 4, ground := Go.Ground.chain }, { on := 4, ground := Go.Ground.guard }], guard := some (4, false) }) rfl (fun K hK => ?_) AllReadyG.nil
                go_simp
                go_at_call 16
                refine (HS2.out _ y1).mono ?_
                rintro e Y2 ⟨rfl, u2⟩
                go_wp2_with fail
                have y2 : Kp [] V Y2 := y1.trans u2 (fun z hz => by simp at hz)
                have v2 : Kp [] W0 Y2 := v1.trans u2 (fun z hz => by simp at hz)
                refine hK.out _ _ ⟨T5k.out _ y2, T6k.out _ y2⟩ (fun hHeld2 => ?_)
                clear hK K hHeld1
                try simp only [Act.put, List.setIfInBounds_toArray, List.set_cons_zero, List.set_cons_succ]
                refine wpAnyG_pure (i := 8) (oi := { dst := some 111, op := Go.Op.binOp Go.BinOp.eql 9 (Go.Operand.tmp 108) (Go.Operand.tmp 110) 9, type := 4, pos := "law.go:176", after := #[{ on := 5, ground := Go.Ground.data }, { on := 7, ground := Go.Ground.data }, { on := 4, ground := Go.Ground.guard }], guard := some (4, false) }) (v := ?_) rfl (by kernel_rfl) (by kernel_rfl) (by kernel_rfl) (by kernel_rfl) (fun _ _ _ h => h) (Or.inl ⟨by rfl, ?_⟩) (by assumption) ?_
                rotate_left
                · (intro w; go_simp; try with_reducible rfl)
                simp only [Act.put, List.setIfInBounds_toArray, List.set_cons_zero, List.set_cons_succ]
                refine wpAnyG_pure (i := 9) (oi := { dst := some 112, op := Go.Op.pick (Go.Operand.tmp 107) (Go.Operand.const (Go.Value.bool true)) (Go.Operand.tmp 111), type := 4, pos := "law.go:176", after := #[{ on := 4, ground := Go.Ground.data }, { on := 8, ground := Go.Ground.data }], guard := none }) (v := ?_) rfl (by kernel_rfl) (by kernel_rfl) (by kernel_rfl) (by kernel_rfl) (fun _ _ _ h => h) (Or.inl ⟨by rfl, ?_⟩) (by assumption) ?_
                rotate_left
                · (intro w; go_simp; try with_reducible rfl)
                simp only [Act.put, List.setIfInBounds_toArray, List.set_cons_zero, List.set_cons_succ]
                refine wpAnyG_pure (i := 10) (oi := { dst := some 113, op := Go.Op.move (Go.Operand.tmp 112), type := 4, pos := "law.go:176", after := #[{ on := 9, ground := Go.Ground.data }, { on := 7, ground := Go.Ground.chain }], guard := none }) (v := ?_) rfl (by kernel_rfl) (by kernel_rfl) (by kernel_rfl) (by kernel_rfl) (fun _ _ _ h => h) (Or.inl ⟨by rfl, ?_⟩) (by assumption) ?_
                rotate_left
                · (intro w; go_simp; try with_reducible rfl)
                simp only [Act.put, List.setIfInBounds_toArray, List.set_cons_zero, List.set_cons_succ]
                refine wpAnyG_take (i := 11) (oi := { dst := some 114, op := Go.Op.load 25 (Go.Operand.tmp 5), type := 25, pos := "law.go:176", after := #[{ on := 10, ground := Go.Ground.guard }], guard := some (10, true) }) (v := ?_) rfl (by kernel_rfl) (by kernel_rfl) (by kernel_rfl) (by kernel_rfl) (fun _ _ _ h => h) (Or.inl ⟨by rfl, ?_⟩) (by assumption) ?_
                rotate_left
                · (intro w hSw; (obtain ⟨⟨c0, c1, c2, c3, c4, c5⟩, e0, e1, e2, e3, e4, e5⟩ := And.intro hSw.1.six hSw.2.six); go_simp; try with_reducible rfl)
                simp only [Act.put, List.setIfInBounds_toArray, List.set_cons_zero, List.set_cons_succ]
                refine wpAnyG_take (i := 12) (oi := { dst := some 115, op := Go.Op.load 25 (Go.Operand.tmp 6), type := 25, pos := "law.go:176", after := #[{ on := 10, ground := Go.Ground.guard }], guard := some (10, true) }) (v := ?_) rfl (by kernel_rfl) (by kernel_rfl) (by kernel_rfl) (by kernel_rfl) (fun _ _ _ h => h) (Or.inl ⟨by rfl, ?_⟩) (by assumption) ?_
                rotate_left
                · (intro w hSw; (obtain ⟨⟨c0, c1, c2, c3, c4, c5⟩, e0, e1, e2, e3, e4, e5⟩ := And.intro hSw.1.six hSw.2.six); go_simp; try with_reducible rfl)
                simp only [Act.put, List.setIfInBounds_toArray, List.set_cons_zero, List.set_cons_succ]
                refine wpAnyG_take (i := 14) (oi := { dst := some 117, op := Go.Op.load 25 (Go.Operand.tmp 6), type := 25, pos := "law.go:176", after := #[{ on := 10, ground := Go.Ground.guard }], guard := some (10, true) }) (v := ?_) rfl (by kernel_rfl) (by kernel_rfl) (by kernel_rfl) (by kernel_rfl) (fun _ _ _ h => h) (Or.inl ⟨by rfl, ?_⟩) (by assumption) ?_
                rotate_left
                · (intro w hSw; (obtain ⟨⟨c0, c1, c2, c3, c4, c5⟩, e0, e1, e2, e3, e4, e5⟩ := And.intro hSw.1.six hSw.2.six); go_simp; try with_reducible rfl)
                simp only [Act.put, List.setIfInBounds_toArray, List.set_cons_zero, List.set_cons_succ]
                refine wpAnyG_take (i := 15) (oi := { dst := some 118, op := Go.Op.load 25 (Go.Operand.tmp 5), type := 25, pos := "law.go:176", after := #[{ on := 10, ground := Go.Ground.guard }], guard := some (10, true) }) (v := ?_) rfl (by kernel_rfl) (by kernel_rfl) (by kernel_rfl) (by kernel_rfl) (fun _ _ _ h => h) (Or.inl ⟨by rfl, ?_⟩) (by assumption) ?_
                rotate_left
                · (intro w hSw; (obtain ⟨⟨c0, c1, c2, c3, c4, c5⟩, e0, e1, e2, e3, e4, e5⟩ := And.intro hSw.1.six hSw.2.six); go_simp; try with_reducible rfl)
                simp only [Act.put, List.setIfInBounds_toArray, List.set_cons_zero, List.set_cons_succ]
                refine wpAnyG_ready (rs := [13]) (by kernel_rfl) (by simp) ?_
                refine AllReadyG.cons (o := { dst := some 116, op := Go.Op.call { callee := Go.Callee.value (Go.Operand.func 14), args := #[Go.Operand.tmp 114, Go.Operand.tmp 115], argTypes := #[25, 25] }, type := 4, pos := "law.go:176", after := #[{ on := 11, ground := Go.Ground.data }, { on := 12, ground := Go.Ground.data }, { on := 10, ground := Go.Ground.chain }, { on := 10, ground := Go.Ground.guard }], guard := some (10, true) }) rfl (fun K hK => ?_) AllReadyG.nil
                go_simp
                go_at_call 14
                refine (H12.out _ y2).mono ?_
                rintro e Y3 ⟨rfl, u3⟩
                go_wp2_with fail
                have y3 : Kp [] V Y3 := y2.trans u3 (fun z hz => by simp at hz)
                have v3 : Kp [] W0 Y3 := v2.trans u3 (fun z hz => by simp at hz)
                refine hK.out _ _ ⟨T5k.out _ y3, T6k.out _ y3⟩ (fun hHeld3 => ?_)
                clear hK K hHeld2
                try simp only [Act.put, List.setIfInBounds_toArray, List.set_cons_zero, List.set_cons_succ]
                refine wpAnyG_ready (rs := [16]) (by kernel_rfl) (by simp) ?_
                refine AllReadyG.cons (o := { dst := some 119, op := Go.Op.call { callee := Go.Callee.value (Go.Operand.func 14), args := #[Go.Operand.tmp 117, Go.Operand.tmp 118], argTypes := #[25, 25] }, type := 4, pos := "law.go:176", after := #[{ on := 14, ground := Go.Ground.data }, { on := 15, ground := Go.Ground.data }, { on := 13, ground := Go.Ground.chain }, { on := 10, ground := Go.Ground.guard }], guard := some (10, true) }) rfl (fun K hK => ?_) AllReadyG.nil
                go_simp
                go_at_call 14
                refine (H21.out _ y3).mono ?_
                rintro e Y4 ⟨rfl, u4⟩
                go_wp2_with fail
                have y4 : Kp [] V Y4 := y3.trans u4 (fun z hz => by simp at hz)
                have v4 : Kp [] W0 Y4 := v3.trans u4 (fun z hz => by simp at hz)
                refine hK.out _ _ ⟨T5k.out _ y4, T6k.out _ y4⟩ (fun hHeld4 => ?_)
                clear hK K hHeld3
                try simp only [Act.put, List.setIfInBounds_toArray, List.set_cons_zero, List.set_cons_succ]
                refine wpAnyG_pure (i := 17) (oi := { dst := some 120, op := Go.Op.binOp Go.BinOp.eql 4 (Go.Operand.tmp 116) (Go.Operand.tmp 119) 4, type := 4, pos := "law.go:176", after := #[{ on := 13, ground := Go.Ground.data }, { on := 16, ground := Go.Ground.data }, { on := 10, ground := Go.Ground.guard }], guard := some (10, true) }) (v := ?_) rfl (by kernel_rfl) (by kernel_rfl) (by kernel_rfl) (by kernel_rfl) (fun _ _ _ h => h) (Or.inl ⟨by rfl, ?_⟩) (by assumption) ?_
                rotate_left
                · (intro w; go_simp; try with_reducible rfl)
                simp only [Act.put, List.setIfInBounds_toArray, List.set_cons_zero, List.set_cons_succ]
                refine wpAnyG_pure (i := 18) (oi := { dst := some 121, op := Go.Op.pick (Go.Operand.tmp 113) (Go.Operand.tmp 120) (Go.Operand.const (Go.Value.bool false)), type := 4, pos := "law.go:176", after := #[{ on := 10, ground := Go.Ground.data }, { on := 17, ground := Go.Ground.data }], guard := none }) (v := ?_) rfl (by kernel_rfl) (by kernel_rfl) (by kernel_rfl) (by kernel_rfl) (fun _ _ _ h => h) (Or.inl ⟨by rfl, ?_⟩) (by assumption) ?_
                rotate_left
                · (intro w; go_simp; try with_reducible rfl)
                simp only [Act.put, List.setIfInBounds_toArray, List.set_cons_zero, List.set_cons_succ]
                refine wpAnyG_pure (i := 19) (oi := { dst := some 122, op := Go.Op.move (Go.Operand.tmp 121), type := 4, pos := "law.go:176", after := #[{ on := 18, ground := Go.Ground.data }, { on := 16, ground := Go.Ground.chain }], guard := none }) (v := ?_) rfl (by kernel_rfl) (by kernel_rfl) (by kernel_rfl) (by kernel_rfl) (fun _ _ _ h => h) (Or.inl ⟨by rfl, ?_⟩) (by assumption) ?_
                rotate_left
                · (intro w; go_simp; try with_reducible rfl)
                simp only [Act.put, List.setIfInBounds_toArray, List.set_cons_zero, List.set_cons_succ]
                refine wpAnyG_ready (rs := [20]) (by kernel_rfl) (by simp) ?_
                refine AllReadyG.cons (o := { dst := some 123, op := Go.Op.call { callee := Go.Callee.value (Go.Operand.func 10), args := #[], argTypes := #[] }, type := 4, pos := "law.go:176", after := #[{ on := 19, ground := Go.Ground.chain }, { on := 19, ground := Go.Ground.guard }], guard := some (19, true) }) rfl (fun K hK => ?_) AllReadyG.nil
                go_simp
                go_at_call 10
                refine (known_any _).mono ?_
                rintro e Y5 ⟨rfl, u5⟩
                go_wp2_with fail
                have y5 : Kp [] V Y5 := y4.trans u5 (fun z hz => by simp at hz)
                have v5 : Kp [] W0 Y5 := v4.trans u5 (fun z hz => by simp at hz)
                refine hK.out _ _ ⟨T5k.out _ y5, T6k.out _ y5⟩ (fun hHeld5 => ?_)
                clear hK K hHeld4
                try simp only [Act.put, List.setIfInBounds_toArray, List.set_cons_zero, List.set_cons_succ]
                refine wpAnyG_pure (i := 21) (oi := { dst := some 124, op := Go.Op.pick (Go.Operand.tmp 122) (Go.Operand.tmp 123) (Go.Operand.const (Go.Value.bool false)), type := 4, pos := "law.go:176", after := #[{ on := 19, ground := Go.Ground.data }, { on := 20, ground := Go.Ground.data }], guard := none }) (v := ?_) rfl (by kernel_rfl) (by kernel_rfl) (by kernel_rfl) (by kernel_rfl) (fun _ _ _ h => h) (Or.inl ⟨by rfl, ?_⟩) (by assumption) ?_
                rotate_left
                · (intro w; go_simp; try with_reducible rfl)
                simp only [Act.put, List.setIfInBounds_toArray, List.set_cons_zero, List.set_cons_succ]
                refine wpAnyG_pure (i := 22) (oi := { dst := some 4, op := Go.Op.assign (Go.Operand.tmp 124), type := 4, pos := "law.go:176", after := #[{ on := 21, ground := Go.Ground.data }, { on := 20, ground := Go.Ground.chain }, { on := 0, ground := Go.Ground.phase }, { on := 1, ground := Go.Ground.phase }, { on := 2, ground := Go.Ground.phase }, { on := 3, ground := Go.Ground.phase }, { on := 4, ground := Go.Ground.phase }, { on := 5, ground := Go.Ground.phase }, { on := 6, ground := Go.Ground.phase }, { on := 7, ground := Go.Ground.phase }, { on := 8, ground := Go.Ground.phase }, { on := 9, ground := Go.Ground.phase }, { on := 10, ground := Go.Ground.phase }, { on := 11, ground := Go.Ground.phase }, { on := 12, ground := Go.Ground.phase }, { on := 13, ground := Go.Ground.phase }, { on := 14, ground := Go.Ground.phase }, { on := 15, ground := Go.Ground.phase }, { on := 16, ground := Go.Ground.phase }, { on := 17, ground := Go.Ground.phase }, { on := 18, ground := Go.Ground.phase }, { on := 19, ground := Go.Ground.phase }, { on := 20, ground := Go.Ground.phase }, { on := 21, ground := Go.Ground.phase }], guard := none }) (v := ?_) rfl (by kernel_rfl) (by kernel_rfl) (by kernel_rfl) (by kernel_rfl) (fun _ _ _ h => h) (Or.inl ⟨by rfl, ?_⟩) (by assumption) ?_
                rotate_left
                · (intro w; go_simp; try with_reducible rfl)
                simp only [Act.put, List.setIfInBounds_toArray, List.set_cons_zero, List.set_cons_succ]
                refine wpAnyG_free (by kernel_rfl) ?_
                refine wpAny_done (by kernel_rfl) ?_ _
                go_wp2
                go_ret
                exact ⟨rfl, KV.out.trans v5 (fun z hz => by simp at hz)⟩
          · by_cases hE0 : Ei = 0
            · have HX : Hid (lf = ac) := HE.out hE0
              subst hE0
              have hx := HX.out
              subst hx
              go_upto_region 28 with (go_at_call 15; refine (HC.out _ KF.out).mono ?_; rintro e W0 ⟨rfl, k9⟩)
              have KG : Hid (Kp [] V W0) := KF.out.trans k9 (fun z hz => by simp at hz)
              have KV : Hid (Kp [] w W0) := KW.out.trans k9 (fun z hz => by simp at hz)
              clear k9
              clear c50 c51 c52 c53 c54 c55 KF KW HC HE
              cases E
              · obtain ⟨Y0, hY0⟩ : ∃ V, V = W0.drew := ⟨_, rfl⟩
                have y0 : Kp [] V Y0 := by rw [hY0]; exact KG.out.drew
                have v0 : Kp [] W0 Y0 := by rw [hY0]; exact (Kp.refl _ _).drew
                refine wp_region_g (S := fun V => At V g5 (doc6 p1) 25 ∧ At V (g5 + 1) (doc6 p2) 25) (T := []) (by kernel_rfl) ⟨T5k.out _ KG.out.drew, T6k.out _ KG.out.drew⟩ (fun hHeld => ?_)
                rw [← hY0] at hHeld ⊢
                clear hY0
                refine wpAnyG_take (i := 0) (oi := { dst := some 103, op := Go.Op.load 25 (Go.Operand.tmp 5), type := 25, pos := "law.go:176", after := #[], guard := none }) (v := ?_) rfl (by kernel_rfl) (by kernel_rfl) (by kernel_rfl) (by kernel_rfl) (fun _ _ _ h => h) (Or.inl ⟨by rfl, ?_⟩) (by assumption) ?_
                rotate_left
                · (intro w hSw; (obtain ⟨⟨c0, c1, c2, c3, c4, c5⟩, e0, e1, e2, e3, e4, e5⟩ := And.intro hSw.1.six hSw.2.six); go_simp; try with_reducible rfl)
                simp only [Act.put, List.setIfInBounds_toArray, List.set_cons_zero, List.set_cons_succ]
                refine wpAnyG_take (i := 1) (oi := { dst := some 104, op := Go.Op.load 25 (Go.Operand.tmp 6), type := 25, pos := "law.go:176", after := #[], guard := none }) (v := ?_) rfl (by kernel_rfl) (by kernel_rfl) (by kernel_rfl) (by kernel_rfl) (fun _ _ _ h => h) (Or.inl ⟨by rfl, ?_⟩) (by assumption) ?_
                rotate_left
                · (intro w hSw; (obtain ⟨⟨c0, c1, c2, c3, c4, c5⟩, e0, e1, e2, e3, e4, e5⟩ := And.intro hSw.1.six hSw.2.six); go_simp; try with_reducible rfl)
                simp only [Act.put, List.setIfInBounds_toArray, List.set_cons_zero, List.set_cons_succ]
                refine wpAnyG_ready (rs := [2]) (by kernel_rfl) (by simp) ?_
                refine AllReadyG.cons (o := { dst := some 105, op := Go.Op.call { callee := Go.Callee.value (Go.Operand.func 14), args := #[Go.Operand.tmp 103, Go.Operand.tmp 104], argTypes := #[25, 25] }, type := 4, pos := "law.go:176", after := #[{ on := 0, ground := Go.Ground.data }, { on := 1, ground := Go.Ground.data }], guard := none }) rfl (fun K hK => ?_) AllReadyG.nil
                go_simp
                go_at_call 14
                refine (H12.out _ y0).mono ?_
                rintro e Y1 ⟨rfl, u1⟩
                go_wp2_with fail
                have y1 : Kp [] V Y1 := y0.trans u1 (fun z hz => by simp at hz)
                have v1 : Kp [] W0 Y1 := v0.trans u1 (fun z hz => by simp at hz)
                refine hK.out _ _ ⟨T5k.out _ y1, T6k.out _ y1⟩ (fun hHeld1 => ?_)
                clear hK K hHeld
                try simp only [Act.put, List.setIfInBounds_toArray, List.set_cons_zero, List.set_cons_succ]
                refine wpAnyG_pure (i := 3) (oi := { dst := some 106, op := Go.Op.unOp Go.UnOp.not 4 (Go.Operand.tmp 105), type := 4, pos := "law.go:176", after := #[{ on := 2, ground := Go.Ground.data }], guard := none }) (v := ?_) rfl (by kernel_rfl) (by kernel_rfl) (by kernel_rfl) (by kernel_rfl) (fun _ _ _ h => h) (Or.inl ⟨by rfl, ?_⟩) (by assumption) ?_
                rotate_left
                · (intro w; go_simp; try with_reducible rfl)
                simp only [Act.put, List.setIfInBounds_toArray, List.set_cons_zero, List.set_cons_succ]
                refine wpAnyG_pure (i := 4) (oi := { dst := some 107, op := Go.Op.move (Go.Operand.tmp 106), type := 4, pos := "law.go:176", after := #[{ on := 3, ground := Go.Ground.data }, { on := 2, ground := Go.Ground.chain }], guard := none }) (v := ?_) rfl (by kernel_rfl) (by kernel_rfl) (by kernel_rfl) (by kernel_rfl) (fun _ _ _ h => h) (Or.inl ⟨by rfl, ?_⟩) (by assumption) ?_
                rotate_left
                · (intro w; go_simp; try with_reducible rfl)
                simp only [Act.put, List.setIfInBounds_toArray, List.set_cons_zero, List.set_cons_succ]
                refine wpAnyG_pure (i := 5) (oi := { dst := some 108, op := Go.Op.move (Go.Operand.tmp 7), type := 9, pos := "law.go:176", after := #[{ on := 4, ground := Go.Ground.guard }], guard := some (4, false) }) (v := undef) rfl (by kernel_rfl) (by kernel_rfl) (by kernel_rfl) (by kernel_rfl) (fun _ _ _ h => h) (Or.inr ⟨by rfl, rfl⟩) (by assumption) ?_
                simp only [Act.put, List.setIfInBounds_toArray, List.set_cons_zero, List.set_cons_succ]
                refine wpAnyG_take (i := 6) (oi := { dst := some 109, op := Go.Op.load 25 (Go.Operand.tmp 6), type := 25, pos := "law.go:176", after := #[{ on := 4, ground := Go.Ground.guard }], guard := some (4, false) }) (v := undef) rfl (by kernel_rfl) (by kernel_rfl) (by kernel_rfl) (by kernel_rfl) (fun _ _ _ h => h) (Or.inr ⟨by rfl, rfl⟩) (by assumption) ?_
                simp only [Act.put, List.setIfInBounds_toArray, List.set_cons_zero, List.set_cons_succ]
                refine wpAnyG_pure (i := 7) (oi := { dst := some 110, op := Go.Op.call { callee := Go.Callee.value (Go.Operand.func 16), args := #[Go.Operand.tmp 109], argTypes := #[25] }, type := 9, pos := "law.go:176", after := #[{ on := 6, ground := Go.Ground.data }, { on := 4, ground := Go.Ground.chain }, { on := 4, ground := Go.Ground.guard }], guard := some (4, false) }) (v := undef) rfl (by kernel_rfl) (by kernel_rfl) (by kernel_rfl) (by kernel_rfl) (fun _ _ _ h => h) (Or.inr ⟨by rfl, rfl⟩) (by assumption) ?_
                simp only [Act.put, List.setIfInBounds_toArray, List.set_cons_zero, List.set_cons_succ]
                refine wpAnyG_pure (i := 8) (oi := { dst := some 111, op := Go.Op.binOp Go.BinOp.eql 9 (Go.Operand.tmp 108) (Go.Operand.tmp 110) 9, type := 4, pos := "law.go:176", after := #[{ on := 5, ground := Go.Ground.data }, { on := 7, ground := Go.Ground.data }, { on := 4, ground := Go.Ground.guard }], guard := some (4, false) }) (v := undef) rfl (by kernel_rfl) (by kernel_rfl) (by kernel_rfl) (by kernel_rfl) (fun _ _ _ h => h) (Or.inr ⟨by rfl, rfl⟩) (by assumption) ?_
                simp only [Act.put, List.setIfInBounds_toArray, List.set_cons_zero, List.set_cons_succ]
                refine wpAnyG_pure (i := 9) (oi := { dst := some 112, op := Go.Op.pick (Go.Operand.tmp 107) (Go.Operand.const (Go.Value.bool true)) (Go.Operand.tmp 111), type := 4, pos := "law.go:176", after := #[{ on := 4, ground := Go.Ground.data }, { on := 8, ground := Go.Ground.data }], guard := none }) (v := ?_) rfl (by kernel_rfl) (by kernel_rfl) (by kernel_rfl) (by kernel_rfl) (fun _ _ _ h => h) (Or.inl ⟨by rfl, ?_⟩) (by assumption) ?_
                rotate_left
                · (intro w; go_simp; try with_reducible rfl)
                simp only [Act.put, List.setIfInBounds_toArray, List.set_cons_zero, List.set_cons_succ]
                refine wpAnyG_pure (i := 10) (oi := { dst := some 113, op := Go.Op.move (Go.Operand.tmp 112), type := 4, pos := "law.go:176", after := #[{ on := 9, ground := Go.Ground.data }, { on := 7, ground := Go.Ground.chain }], guard := none }) (v := ?_) rfl (by kernel_rfl) (by kernel_rfl) (by kernel_rfl) (by kernel_rfl) (fun _ _ _ h => h) (Or.inl ⟨by rfl, ?_⟩) (by assumption) ?_
                rotate_left
                · (intro w; go_simp; try with_reducible rfl)
                simp only [Act.put, List.setIfInBounds_toArray, List.set_cons_zero, List.set_cons_succ]
                refine wpAnyG_take (i := 11) (oi := { dst := some 114, op := Go.Op.load 25 (Go.Operand.tmp 5), type := 25, pos := "law.go:176", after := #[{ on := 10, ground := Go.Ground.guard }], guard := some (10, true) }) (v := ?_) rfl (by kernel_rfl) (by kernel_rfl) (by kernel_rfl) (by kernel_rfl) (fun _ _ _ h => h) (Or.inl ⟨by rfl, ?_⟩) (by assumption) ?_
                rotate_left
                · (intro w hSw; (obtain ⟨⟨c0, c1, c2, c3, c4, c5⟩, e0, e1, e2, e3, e4, e5⟩ := And.intro hSw.1.six hSw.2.six); go_simp; try with_reducible rfl)
                simp only [Act.put, List.setIfInBounds_toArray, List.set_cons_zero, List.set_cons_succ]
                refine wpAnyG_take (i := 12) (oi := { dst := some 115, op := Go.Op.load 25 (Go.Operand.tmp 6), type := 25, pos := "law.go:176", after := #[{ on := 10, ground := Go.Ground.guard }], guard := some (10, true) }) (v := ?_) rfl (by kernel_rfl) (by kernel_rfl) (by kernel_rfl) (by kernel_rfl) (fun _ _ _ h => h) (Or.inl ⟨by rfl, ?_⟩) (by assumption) ?_
                rotate_left
                · (intro w hSw; (obtain ⟨⟨c0, c1, c2, c3, c4, c5⟩, e0, e1, e2, e3, e4, e5⟩ := And.intro hSw.1.six hSw.2.six); go_simp; try with_reducible rfl)
                simp only [Act.put, List.setIfInBounds_toArray, List.set_cons_zero, List.set_cons_succ]
                refine wpAnyG_take (i := 14) (oi := { dst := some 117, op := Go.Op.load 25 (Go.Operand.tmp 6), type := 25, pos := "law.go:176", after := #[{ on := 10, ground := Go.Ground.guard }], guard := some (10, true) }) (v := ?_) rfl (by kernel_rfl) (by kernel_rfl) (by kernel_rfl) (by kernel_rfl) (fun _ _ _ h => h) (Or.inl ⟨by rfl, ?_⟩) (by assumption) ?_
                rotate_left
                · (intro w hSw; (obtain ⟨⟨c0, c1, c2, c3, c4, c5⟩, e0, e1, e2, e3, e4, e5⟩ := And.intro hSw.1.six hSw.2.six); go_simp; try with_reducible rfl)
                simp only [Act.put, List.setIfInBounds_toArray, List.set_cons_zero, List.set_cons_succ]
                refine wpAnyG_take (i := 15) (oi := { dst := some 118, op := Go.Op.load 25 (Go.Operand.tmp 5), type := 25, pos := "law.go:176", after := #[{ on := 10, ground := Go.Ground.guard }], guard := some (10, true) }) (v := ?_) rfl (by kernel_rfl) (by kernel_rfl) (by kernel_rfl) (by kernel_rfl) (fun _ _ _ h => h) (Or.inl ⟨by rfl, ?_⟩) (by assumption) ?_
                rotate_left
                · (intro w hSw; (obtain ⟨⟨c0, c1, c2, c3, c4, c5⟩, e0, e1, e2, e3, e4, e5⟩ := And.intro hSw.1.six hSw.2.six); go_simp; try with_reducible rfl)
                simp only [Act.put, List.setIfInBounds_toArray, List.set_cons_zero, List.set_cons_succ]
                refine wpAnyG_ready (rs := [13]) (by kernel_rfl) (by simp) ?_
                refine AllReadyG.cons (o := { dst := some 116, op := Go.Op.call { callee := Go.Callee.value (Go.Operand.func 14), args := #[Go.Operand.tmp 114, Go.Operand.tmp 115], argTypes := #[25, 25] }, type := 4, pos := "law.go:176", after := #[{ on := 11, ground := Go.Ground.data }, { on := 12, ground := Go.Ground.data }, { on := 10, ground := Go.Ground.chain }, { on := 10, ground := Go.Ground.guard }], guard := some (10, true) }) rfl (fun K hK => ?_) AllReadyG.nil
                go_simp
                go_at_call 14
                refine (H12.out _ y1).mono ?_
                rintro e Y2 ⟨rfl, u2⟩
                go_wp2_with fail
                have y2 : Kp [] V Y2 := y1.trans u2 (fun z hz => by simp at hz)
                have v2 : Kp [] W0 Y2 := v1.trans u2 (fun z hz => by simp at hz)
                refine hK.out _ _ ⟨T5k.out _ y2, T6k.out _ y2⟩ (fun hHeld2 => ?_)
                clear hK K hHeld1
                try simp only [Act.put, List.setIfInBounds_toArray, List.set_cons_zero, List.set_cons_succ]
                refine wpAnyG_ready (rs := [16]) (by kernel_rfl) (by simp) ?_
                refine AllReadyG.cons (o := { dst := some 119, op := Go.Op.call { callee := Go.Callee.value (Go.Operand.func 14), args := #[Go.Operand.tmp 117, Go.Operand.tmp 118], argTypes := #[25, 25] }, type := 4, pos := "law.go:176", after := #[{ on := 14, ground := Go.Ground.data }, { on := 15, ground := Go.Ground.data }, { on := 13, ground := Go.Ground.chain }, { on := 10, ground := Go.Ground.guard }], guard := some (10, true) }) rfl (fun K hK => ?_) AllReadyG.nil
                go_simp
                go_at_call 14
                refine (H21.out _ y2).mono ?_
                rintro e Y3 ⟨rfl, u3⟩
                go_wp2_with fail
                have y3 : Kp [] V Y3 := y2.trans u3 (fun z hz => by simp at hz)
                have v3 : Kp [] W0 Y3 := v2.trans u3 (fun z hz => by simp at hz)
                refine hK.out _ _ ⟨T5k.out _ y3, T6k.out _ y3⟩ (fun hHeld3 => ?_)
                clear hK K hHeld2
                try simp only [Act.put, List.setIfInBounds_toArray, List.set_cons_zero, List.set_cons_succ]
                refine wpAnyG_pure (i := 17) (oi := { dst := some 120, op := Go.Op.binOp Go.BinOp.eql 4 (Go.Operand.tmp 116) (Go.Operand.tmp 119) 4, type := 4, pos := "law.go:176", after := #[{ on := 13, ground := Go.Ground.data }, { on := 16, ground := Go.Ground.data }, { on := 10, ground := Go.Ground.guard }], guard := some (10, true) }) (v := ?_) rfl (by kernel_rfl) (by kernel_rfl) (by kernel_rfl) (by kernel_rfl) (fun _ _ _ h => h) (Or.inl ⟨by rfl, ?_⟩) (by assumption) ?_
                rotate_left
                · (intro w; go_simp; try with_reducible rfl)
                simp only [Act.put, List.setIfInBounds_toArray, List.set_cons_zero, List.set_cons_succ]
                refine wpAnyG_pure (i := 18) (oi := { dst := some 121, op := Go.Op.pick (Go.Operand.tmp 113) (Go.Operand.tmp 120) (Go.Operand.const (Go.Value.bool false)), type := 4, pos := "law.go:176", after := #[{ on := 10, ground := Go.Ground.data }, { on := 17, ground := Go.Ground.data }], guard := none }) (v := ?_) rfl (by kernel_rfl) (by kernel_rfl) (by kernel_rfl) (by kernel_rfl) (fun _ _ _ h => h) (Or.inl ⟨by rfl, ?_⟩) (by assumption) ?_
                rotate_left
                · (intro w; go_simp; try with_reducible rfl)
                simp only [Act.put, List.setIfInBounds_toArray, List.set_cons_zero, List.set_cons_succ]
                refine wpAnyG_pure (i := 19) (oi := { dst := some 122, op := Go.Op.move (Go.Operand.tmp 121), type := 4, pos := "law.go:176", after := #[{ on := 18, ground := Go.Ground.data }, { on := 16, ground := Go.Ground.chain }], guard := none }) (v := ?_) rfl (by kernel_rfl) (by kernel_rfl) (by kernel_rfl) (by kernel_rfl) (fun _ _ _ h => h) (Or.inl ⟨by rfl, ?_⟩) (by assumption) ?_
                rotate_left
                · (intro w; go_simp; try with_reducible rfl)
                simp only [Act.put, List.setIfInBounds_toArray, List.set_cons_zero, List.set_cons_succ]
                refine wpAnyG_ready (rs := [20]) (by kernel_rfl) (by simp) ?_
                refine AllReadyG.cons (o := { dst := some 123, op := Go.Op.call { callee := Go.Callee.value (Go.Operand.func 10), args := #[], argTypes := #[] }, type := 4, pos := "law.go:176", after := #[{ on := 19, ground := Go.Ground.chain }, { on := 19, ground := Go.Ground.guard }], guard := some (19, true) }) rfl (fun K hK => ?_) AllReadyG.nil
                go_simp
                go_at_call 10
                refine (known_any _).mono ?_
                rintro e Y4 ⟨rfl, u4⟩
                go_wp2_with fail
                have y4 : Kp [] V Y4 := y3.trans u4 (fun z hz => by simp at hz)
                have v4 : Kp [] W0 Y4 := v3.trans u4 (fun z hz => by simp at hz)
                refine hK.out _ _ ⟨T5k.out _ y4, T6k.out _ y4⟩ (fun hHeld4 => ?_)
                clear hK K hHeld3
                try simp only [Act.put, List.setIfInBounds_toArray, List.set_cons_zero, List.set_cons_succ]
                refine wpAnyG_pure (i := 21) (oi := { dst := some 124, op := Go.Op.pick (Go.Operand.tmp 122) (Go.Operand.tmp 123) (Go.Operand.const (Go.Value.bool false)), type := 4, pos := "law.go:176", after := #[{ on := 19, ground := Go.Ground.data }, { on := 20, ground := Go.Ground.data }], guard := none }) (v := ?_) rfl (by kernel_rfl) (by kernel_rfl) (by kernel_rfl) (by kernel_rfl) (fun _ _ _ h => h) (Or.inl ⟨by rfl, ?_⟩) (by assumption) ?_
                rotate_left
                · (intro w; go_simp; try with_reducible rfl)
                simp only [Act.put, List.setIfInBounds_toArray, List.set_cons_zero, List.set_cons_succ]
                refine wpAnyG_pure (i := 22) (oi := { dst := some 4, op := Go.Op.assign (Go.Operand.tmp 124), type := 4, pos := "law.go:176", after := #[{ on := 21, ground := Go.Ground.data }, { on := 20, ground := Go.Ground.chain }, { on := 0, ground := Go.Ground.phase }, { on := 1, ground := Go.Ground.phase }, { on := 2, ground := Go.Ground.phase }, { on := 3, ground := Go.Ground.phase }, { on := 4, ground := Go.Ground.phase }, { on := 5, ground := Go.Ground.phase }, { on := 6, ground := Go.Ground.phase }, { on := 7, ground := Go.Ground.phase }, { on := 8, ground := Go.Ground.phase }, { on := 9, ground := Go.Ground.phase }, { on := 10, ground := Go.Ground.phase }, { on := 11, ground := Go.Ground.phase }, { on := 12, ground := Go.Ground.phase }, { on := 13, ground := Go.Ground.phase }, { on := 14, ground := Go.Ground.phase }, { on := 15, ground := Go.Ground.phase }, { on := 16, ground := Go.Ground.phase }, { on := 17, ground := Go.Ground.phase }, { on := 18, ground := Go.Ground.phase }, { on := 19, ground := Go.Ground.phase }, { on := 20, ground := Go.Ground.phase }, { on := 21, ground := Go.Ground.phase }], guard := none }) (v := ?_) rfl (by kernel_rfl) (by kernel_rfl) (by kernel_rfl) (by kernel_rfl) (fun _ _ _ h => h) (Or.inl ⟨by rfl, ?_⟩) (by assumption) ?_
                rotate_left
                · (intro w; go_simp; try with_reducible rfl)
                simp only [Act.put, List.setIfInBounds_toArray, List.set_cons_zero, List.set_cons_succ]
                refine wpAnyG_free (by kernel_rfl) ?_
                refine wpAny_done (by kernel_rfl) ?_ _
                go_wp2
                go_ret
                exact ⟨rfl, KV.out.trans v4 (fun z hz => by simp at hz)⟩
              · have hs2 := HQ.out rfl
                subst hs2
                obtain ⟨Y0, hY0⟩ : ∃ V, V = W0.drew := ⟨_, rfl⟩
                have y0 : Kp [] V Y0 := by rw [hY0]; exact KG.out.drew
                have v0 : Kp [] W0 Y0 := by rw [hY0]; exact (Kp.refl _ _).drew
                refine wp_region_g (S := fun V => At V g5 (doc6 p1) 25 ∧ At V (g5 + 1) (doc6 p2) 25) (T := []) (by kernel_rfl) ⟨T5k.out _ KG.out.drew, T6k.out _ KG.out.drew⟩ (fun hHeld => ?_)
                rw [← hY0] at hHeld ⊢
                clear hY0
                refine wpAnyG_take (i := 0) (oi := { dst := some 103, op := Go.Op.load 25 (Go.Operand.tmp 5), type := 25, pos := "law.go:176", after := #[], guard := none }) (v := ?_) rfl (by kernel_rfl) (by kernel_rfl) (by kernel_rfl) (by kernel_rfl) (fun _ _ _ h => h) (Or.inl ⟨by rfl, ?_⟩) (by assumption) ?_
                rotate_left
                · (intro w hSw; (obtain ⟨⟨c0, c1, c2, c3, c4, c5⟩, e0, e1, e2, e3, e4, e5⟩ := And.intro hSw.1.six hSw.2.six); go_simp; try with_reducible rfl)
                simp only [Act.put, List.setIfInBounds_toArray, List.set_cons_zero, List.set_cons_succ]
                refine wpAnyG_take (i := 1) (oi := { dst := some 104, op := Go.Op.load 25 (Go.Operand.tmp 6), type := 25, pos := "law.go:176", after := #[], guard := none }) (v := ?_) rfl (by kernel_rfl) (by kernel_rfl) (by kernel_rfl) (by kernel_rfl) (fun _ _ _ h => h) (Or.inl ⟨by rfl, ?_⟩) (by assumption) ?_
                rotate_left
                · (intro w hSw; (obtain ⟨⟨c0, c1, c2, c3, c4, c5⟩, e0, e1, e2, e3, e4, e5⟩ := And.intro hSw.1.six hSw.2.six); go_simp; try with_reducible rfl)
                simp only [Act.put, List.setIfInBounds_toArray, List.set_cons_zero, List.set_cons_succ]
                refine wpAnyG_ready (rs := [2]) (by kernel_rfl) (by simp) ?_
                refine AllReadyG.cons (o := { dst := some 105, op := Go.Op.call { callee := Go.Callee.value (Go.Operand.func 14), args := #[Go.Operand.tmp 103, Go.Operand.tmp 104], argTypes := #[25, 25] }, type := 4, pos := "law.go:176", after := #[{ on := 0, ground := Go.Ground.data }, { on := 1, ground := Go.Ground.data }], guard := none }) rfl (fun K hK => ?_) AllReadyG.nil
                go_simp
                go_at_call 14
                refine (H12.out _ y0).mono ?_
                rintro e Y1 ⟨rfl, u1⟩
                go_wp2_with fail
                have y1 : Kp [] V Y1 := y0.trans u1 (fun z hz => by simp at hz)
                have v1 : Kp [] W0 Y1 := v0.trans u1 (fun z hz => by simp at hz)
                refine hK.out _ _ ⟨T5k.out _ y1, T6k.out _ y1⟩ (fun hHeld1 => ?_)
                clear hK K hHeld
                try simp only [Act.put, List.setIfInBounds_toArray, List.set_cons_zero, List.set_cons_succ]
                refine wpAnyG_pure (i := 3) (oi := { dst := some 106, op := Go.Op.unOp Go.UnOp.not 4 (Go.Operand.tmp 105), type := 4, pos := "law.go:176", after := #[{ on := 2, ground := Go.Ground.data }], guard := none }) (v := ?_) rfl (by kernel_rfl) (by kernel_rfl) (by kernel_rfl) (by kernel_rfl) (fun _ _ _ h => h) (Or.inl ⟨by rfl, ?_⟩) (by assumption) ?_
                rotate_left
                · (intro w; go_simp; try with_reducible rfl)
                simp only [Act.put, List.setIfInBounds_toArray, List.set_cons_zero, List.set_cons_succ]
                refine wpAnyG_pure (i := 4) (oi := { dst := some 107, op := Go.Op.move (Go.Operand.tmp 106), type := 4, pos := "law.go:176", after := #[{ on := 3, ground := Go.Ground.data }, { on := 2, ground := Go.Ground.chain }], guard := none }) (v := ?_) rfl (by kernel_rfl) (by kernel_rfl) (by kernel_rfl) (by kernel_rfl) (fun _ _ _ h => h) (Or.inl ⟨by rfl, ?_⟩) (by assumption) ?_
                rotate_left
                · (intro w; go_simp; try with_reducible rfl)
                simp only [Act.put, List.setIfInBounds_toArray, List.set_cons_zero, List.set_cons_succ]
                refine wpAnyG_pure (i := 5) (oi := { dst := some 108, op := Go.Op.move (Go.Operand.tmp 7), type := 9, pos := "law.go:176", after := #[{ on := 4, ground := Go.Ground.guard }], guard := some (4, false) }) (v := ?_) rfl (by kernel_rfl) (by kernel_rfl) (by kernel_rfl) (by kernel_rfl) (fun _ _ _ h => h) (Or.inl ⟨by rfl, ?_⟩) (by assumption) ?_
                rotate_left
                · (intro w; go_simp; try with_reducible rfl)
                simp only [Act.put, List.setIfInBounds_toArray, List.set_cons_zero, List.set_cons_succ]
                refine wpAnyG_take (i := 6) (oi := { dst := some 109, op := Go.Op.load 25 (Go.Operand.tmp 6), type := 25, pos := "law.go:176", after := #[{ on := 4, ground := Go.Ground.guard }], guard := some (4, false) }) (v := ?_) rfl (by kernel_rfl) (by kernel_rfl) (by kernel_rfl) (by kernel_rfl) (fun _ _ _ h => h) (Or.inl ⟨by rfl, ?_⟩) (by assumption) ?_
                rotate_left
                · (intro w hSw; (obtain ⟨⟨c0, c1, c2, c3, c4, c5⟩, e0, e1, e2, e3, e4, e5⟩ := And.intro hSw.1.six hSw.2.six); go_simp; try with_reducible rfl)
                simp only [Act.put, List.setIfInBounds_toArray, List.set_cons_zero, List.set_cons_succ]
                refine wpAnyG_ready (rs := [7]) (by kernel_rfl) (by simp) ?_
                refine AllReadyG.cons (o := { dst := some 110, op := Go.Op.call { callee := Go.Callee.value (Go.Operand.func 16), args := #[Go.Operand.tmp 109], argTypes := #[25] }, type := 9, pos := "law.go:176", after := #[{ on := 6, ground := Go.Ground.data }, { on := 4, ground := Go.Ground.chain }, { on := 4, ground := Go.Ground.guard }], guard := some (4, false) }) rfl (fun K hK => ?_) AllReadyG.nil
                go_simp
                go_at_call 16
                refine (HS2.out _ y1).mono ?_
                rintro e Y2 ⟨rfl, u2⟩
                go_wp2_with fail
                have y2 : Kp [] V Y2 := y1.trans u2 (fun z hz => by simp at hz)
                have v2 : Kp [] W0 Y2 := v1.trans u2 (fun z hz => by simp at hz)
                refine hK.out _ _ ⟨T5k.out _ y2, T6k.out _ y2⟩ (fun hHeld2 => ?_)
                clear hK K hHeld1
                try simp only [Act.put, List.setIfInBounds_toArray, List.set_cons_zero, List.set_cons_succ]
                refine wpAnyG_pure (i := 8) (oi := { dst := some 111, op := Go.Op.binOp Go.BinOp.eql 9 (Go.Operand.tmp 108) (Go.Operand.tmp 110) 9, type := 4, pos := "law.go:176", after := #[{ on := 5, ground := Go.Ground.data }, { on := 7, ground := Go.Ground.data }, { on := 4, ground := Go.Ground.guard }], guard := some (4, false) }) (v := ?_) rfl (by kernel_rfl) (by kernel_rfl) (by kernel_rfl) (by kernel_rfl) (fun _ _ _ h => h) (Or.inl ⟨by rfl, ?_⟩) (by assumption) ?_
                rotate_left
                · (intro w; go_simp; try with_reducible rfl)
                simp only [Act.put, List.setIfInBounds_toArray, List.set_cons_zero, List.set_cons_succ]
                refine wpAnyG_pure (i := 9) (oi := { dst := some 112, op := Go.Op.pick (Go.Operand.tmp 107) (Go.Operand.const (Go.Value.bool true)) (Go.Operand.tmp 111), type := 4, pos := "law.go:176", after := #[{ on := 4, ground := Go.Ground.data }, { on := 8, ground := Go.Ground.data }], guard := none }) (v := ?_) rfl (by kernel_rfl) (by kernel_rfl) (by kernel_rfl) (by kernel_rfl) (fun _ _ _ h => h) (Or.inl ⟨by rfl, ?_⟩) (by assumption) ?_
                rotate_left
                · (intro w; go_simp; try with_reducible rfl)
                simp only [Act.put, List.setIfInBounds_toArray, List.set_cons_zero, List.set_cons_succ]
                refine wpAnyG_pure (i := 10) (oi := { dst := some 113, op := Go.Op.move (Go.Operand.tmp 112), type := 4, pos := "law.go:176", after := #[{ on := 9, ground := Go.Ground.data }, { on := 7, ground := Go.Ground.chain }], guard := none }) (v := ?_) rfl (by kernel_rfl) (by kernel_rfl) (by kernel_rfl) (by kernel_rfl) (fun _ _ _ h => h) (Or.inl ⟨by rfl, ?_⟩) (by assumption) ?_
                rotate_left
                · (intro w; go_simp; try with_reducible rfl)
                simp only [Act.put, List.setIfInBounds_toArray, List.set_cons_zero, List.set_cons_succ]
                refine wpAnyG_take (i := 11) (oi := { dst := some 114, op := Go.Op.load 25 (Go.Operand.tmp 5), type := 25, pos := "law.go:176", after := #[{ on := 10, ground := Go.Ground.guard }], guard := some (10, true) }) (v := ?_) rfl (by kernel_rfl) (by kernel_rfl) (by kernel_rfl) (by kernel_rfl) (fun _ _ _ h => h) (Or.inl ⟨by rfl, ?_⟩) (by assumption) ?_
                rotate_left
                · (intro w hSw; (obtain ⟨⟨c0, c1, c2, c3, c4, c5⟩, e0, e1, e2, e3, e4, e5⟩ := And.intro hSw.1.six hSw.2.six); go_simp; try with_reducible rfl)
                simp only [Act.put, List.setIfInBounds_toArray, List.set_cons_zero, List.set_cons_succ]
                refine wpAnyG_take (i := 12) (oi := { dst := some 115, op := Go.Op.load 25 (Go.Operand.tmp 6), type := 25, pos := "law.go:176", after := #[{ on := 10, ground := Go.Ground.guard }], guard := some (10, true) }) (v := ?_) rfl (by kernel_rfl) (by kernel_rfl) (by kernel_rfl) (by kernel_rfl) (fun _ _ _ h => h) (Or.inl ⟨by rfl, ?_⟩) (by assumption) ?_
                rotate_left
                · (intro w hSw; (obtain ⟨⟨c0, c1, c2, c3, c4, c5⟩, e0, e1, e2, e3, e4, e5⟩ := And.intro hSw.1.six hSw.2.six); go_simp; try with_reducible rfl)
                simp only [Act.put, List.setIfInBounds_toArray, List.set_cons_zero, List.set_cons_succ]
                refine wpAnyG_take (i := 14) (oi := { dst := some 117, op := Go.Op.load 25 (Go.Operand.tmp 6), type := 25, pos := "law.go:176", after := #[{ on := 10, ground := Go.Ground.guard }], guard := some (10, true) }) (v := ?_) rfl (by kernel_rfl) (by kernel_rfl) (by kernel_rfl) (by kernel_rfl) (fun _ _ _ h => h) (Or.inl ⟨by rfl, ?_⟩) (by assumption) ?_
                rotate_left
                · (intro w hSw; (obtain ⟨⟨c0, c1, c2, c3, c4, c5⟩, e0, e1, e2, e3, e4, e5⟩ := And.intro hSw.1.six hSw.2.six); go_simp; try with_reducible rfl)
                simp only [Act.put, List.setIfInBounds_toArray, List.set_cons_zero, List.set_cons_succ]
                refine wpAnyG_take (i := 15) (oi := { dst := some 118, op := Go.Op.load 25 (Go.Operand.tmp 5), type := 25, pos := "law.go:176", after := #[{ on := 10, ground := Go.Ground.guard }], guard := some (10, true) }) (v := ?_) rfl (by kernel_rfl) (by kernel_rfl) (by kernel_rfl) (by kernel_rfl) (fun _ _ _ h => h) (Or.inl ⟨by rfl, ?_⟩) (by assumption) ?_
                rotate_left
                · (intro w hSw; (obtain ⟨⟨c0, c1, c2, c3, c4, c5⟩, e0, e1, e2, e3, e4, e5⟩ := And.intro hSw.1.six hSw.2.six); go_simp; try with_reducible rfl)
                simp only [Act.put, List.setIfInBounds_toArray, List.set_cons_zero, List.set_cons_succ]
                refine wpAnyG_ready (rs := [13]) (by kernel_rfl) (by simp) ?_
                refine AllReadyG.cons (o := { dst := some 116, op := Go.Op.call { callee := Go.Callee.value (Go.Operand.func 14), args := #[Go.Operand.tmp 114, Go.Operand.tmp 115], argTypes := #[25, 25] }, type := 4, pos := "law.go:176", after := #[{ on := 11, ground := Go.Ground.data }, { on := 12, ground := Go.Ground.data }, { on := 10, ground := Go.Ground.chain }, { on := 10, ground := Go.Ground.guard }], guard := some (10, true) }) rfl (fun K hK => ?_) AllReadyG.nil
                go_simp
                go_at_call 14
                refine (H12.out _ y2).mono ?_
                rintro e Y3 ⟨rfl, u3⟩
                go_wp2_with fail
                have y3 : Kp [] V Y3 := y2.trans u3 (fun z hz => by simp at hz)
                have v3 : Kp [] W0 Y3 := v2.trans u3 (fun z hz => by simp at hz)
                refine hK.out _ _ ⟨T5k.out _ y3, T6k.out _ y3⟩ (fun hHeld3 => ?_)
                clear hK K hHeld2
                try simp only [Act.put, List.setIfInBounds_toArray, List.set_cons_zero, List.set_cons_succ]
                refine wpAnyG_ready (rs := [16]) (by kernel_rfl) (by simp) ?_
                refine AllReadyG.cons (o := { dst := some 119, op := Go.Op.call { callee := Go.Callee.value (Go.Operand.func 14), args := #[Go.Operand.tmp 117, Go.Operand.tmp 118], argTypes := #[25, 25] }, type := 4, pos := "law.go:176", after := #[{ on := 14, ground := Go.Ground.data }, { on := 15, ground := Go.Ground.data }, { on := 13, ground := Go.Ground.chain }, { on := 10, ground := Go.Ground.guard }], guard := some (10, true) }) rfl (fun K hK => ?_) AllReadyG.nil
                go_simp
                go_at_call 14
                refine (H21.out _ y3).mono ?_
                rintro e Y4 ⟨rfl, u4⟩
                go_wp2_with fail
                have y4 : Kp [] V Y4 := y3.trans u4 (fun z hz => by simp at hz)
                have v4 : Kp [] W0 Y4 := v3.trans u4 (fun z hz => by simp at hz)
                refine hK.out _ _ ⟨T5k.out _ y4, T6k.out _ y4⟩ (fun hHeld4 => ?_)
                clear hK K hHeld3
                try simp only [Act.put, List.setIfInBounds_toArray, List.set_cons_zero, List.set_cons_succ]
                refine wpAnyG_pure (i := 17) (oi := { dst := some 120, op := Go.Op.binOp Go.BinOp.eql 4 (Go.Operand.tmp 116) (Go.Operand.tmp 119) 4, type := 4, pos := "law.go:176", after := #[{ on := 13, ground := Go.Ground.data }, { on := 16, ground := Go.Ground.data }, { on := 10, ground := Go.Ground.guard }], guard := some (10, true) }) (v := ?_) rfl (by kernel_rfl) (by kernel_rfl) (by kernel_rfl) (by kernel_rfl) (fun _ _ _ h => h) (Or.inl ⟨by rfl, ?_⟩) (by assumption) ?_
                rotate_left
                · (intro w; go_simp; try with_reducible rfl)
                simp only [Act.put, List.setIfInBounds_toArray, List.set_cons_zero, List.set_cons_succ]
                refine wpAnyG_pure (i := 18) (oi := { dst := some 121, op := Go.Op.pick (Go.Operand.tmp 113) (Go.Operand.tmp 120) (Go.Operand.const (Go.Value.bool false)), type := 4, pos := "law.go:176", after := #[{ on := 10, ground := Go.Ground.data }, { on := 17, ground := Go.Ground.data }], guard := none }) (v := ?_) rfl (by kernel_rfl) (by kernel_rfl) (by kernel_rfl) (by kernel_rfl) (fun _ _ _ h => h) (Or.inl ⟨by rfl, ?_⟩) (by assumption) ?_
                rotate_left
                · (intro w; go_simp; try with_reducible rfl)
                simp only [Act.put, List.setIfInBounds_toArray, List.set_cons_zero, List.set_cons_succ]
                refine wpAnyG_pure (i := 19) (oi := { dst := some 122, op := Go.Op.move (Go.Operand.tmp 121), type := 4, pos := "law.go:176", after := #[{ on := 18, ground := Go.Ground.data }, { on := 16, ground := Go.Ground.chain }], guard := none }) (v := ?_) rfl (by kernel_rfl) (by kernel_rfl) (by kernel_rfl) (by kernel_rfl) (fun _ _ _ h => h) (Or.inl ⟨by rfl, ?_⟩) (by assumption) ?_
                rotate_left
                · (intro w; go_simp; try with_reducible rfl)
                simp only [Act.put, List.setIfInBounds_toArray, List.set_cons_zero, List.set_cons_succ]
                refine wpAnyG_ready (rs := [20]) (by kernel_rfl) (by simp) ?_
                refine AllReadyG.cons (o := { dst := some 123, op := Go.Op.call { callee := Go.Callee.value (Go.Operand.func 10), args := #[], argTypes := #[] }, type := 4, pos := "law.go:176", after := #[{ on := 19, ground := Go.Ground.chain }, { on := 19, ground := Go.Ground.guard }], guard := some (19, true) }) rfl (fun K hK => ?_) AllReadyG.nil
                go_simp
                go_at_call 10
                refine (known_any _).mono ?_
                rintro e Y5 ⟨rfl, u5⟩
                go_wp2_with fail
                have y5 : Kp [] V Y5 := y4.trans u5 (fun z hz => by simp at hz)
                have v5 : Kp [] W0 Y5 := v4.trans u5 (fun z hz => by simp at hz)
                refine hK.out _ _ ⟨T5k.out _ y5, T6k.out _ y5⟩ (fun hHeld5 => ?_)
                clear hK K hHeld4
                try simp only [Act.put, List.setIfInBounds_toArray, List.set_cons_zero, List.set_cons_succ]
                refine wpAnyG_pure (i := 21) (oi := { dst := some 124, op := Go.Op.pick (Go.Operand.tmp 122) (Go.Operand.tmp 123) (Go.Operand.const (Go.Value.bool false)), type := 4, pos := "law.go:176", after := #[{ on := 19, ground := Go.Ground.data }, { on := 20, ground := Go.Ground.data }], guard := none }) (v := ?_) rfl (by kernel_rfl) (by kernel_rfl) (by kernel_rfl) (by kernel_rfl) (fun _ _ _ h => h) (Or.inl ⟨by rfl, ?_⟩) (by assumption) ?_
                rotate_left
                · (intro w; go_simp; try with_reducible rfl)
                simp only [Act.put, List.setIfInBounds_toArray, List.set_cons_zero, List.set_cons_succ]
                refine wpAnyG_pure (i := 22) (oi := { dst := some 4, op := Go.Op.assign (Go.Operand.tmp 124), type := 4, pos := "law.go:176", after := #[{ on := 21, ground := Go.Ground.data }, { on := 20, ground := Go.Ground.chain }, { on := 0, ground := Go.Ground.phase }, { on := 1, ground := Go.Ground.phase }, { on := 2, ground := Go.Ground.phase }, { on := 3, ground := Go.Ground.phase }, { on := 4, ground := Go.Ground.phase }, { on := 5, ground := Go.Ground.phase }, { on := 6, ground := Go.Ground.phase }, { on := 7, ground := Go.Ground.phase }, { on := 8, ground := Go.Ground.phase }, { on := 9, ground := Go.Ground.phase }, { on := 10, ground := Go.Ground.phase }, { on := 11, ground := Go.Ground.phase }, { on := 12, ground := Go.Ground.phase }, { on := 13, ground := Go.Ground.phase }, { on := 14, ground := Go.Ground.phase }, { on := 15, ground := Go.Ground.phase }, { on := 16, ground := Go.Ground.phase }, { on := 17, ground := Go.Ground.phase }, { on := 18, ground := Go.Ground.phase }, { on := 19, ground := Go.Ground.phase }, { on := 20, ground := Go.Ground.phase }, { on := 21, ground := Go.Ground.phase }], guard := none }) (v := ?_) rfl (by kernel_rfl) (by kernel_rfl) (by kernel_rfl) (by kernel_rfl) (fun _ _ _ h => h) (Or.inl ⟨by rfl, ?_⟩) (by assumption) ?_
                rotate_left
                · (intro w; go_simp; try with_reducible rfl)
                simp only [Act.put, List.setIfInBounds_toArray, List.set_cons_zero, List.set_cons_succ]
                refine wpAnyG_free (by kernel_rfl) ?_
                refine wpAny_done (by kernel_rfl) ?_ _
                go_wp2
                go_ret
                exact ⟨rfl, KV.out.trans v5 (fun z hz => by simp at hz)⟩
            · have e0 : ((Ei : Int) == 0) = false := int_eq_no (by omega)
              go_upto_region 28 with fail
              obtain ⟨W0, hW0⟩ : ∃ W0, W0 = wr2 := ⟨_, rfl⟩
              have KG : Hid (Kp [] V W0) := by show Kp [] V W0; rw [hW0]; exact KF.out
              have KV : Hid (Kp [] w W0) := by show Kp [] w W0; rw [hW0]; exact KW.out
              rw [← hW0]
              clear hW0
              clear c50 c51 c52 c53 c54 c55 KF KW HC HE
              cases E
              · obtain ⟨Y0, hY0⟩ : ∃ V, V = W0.drew := ⟨_, rfl⟩
                have y0 : Kp [] V Y0 := by rw [hY0]; exact KG.out.drew
                have v0 : Kp [] W0 Y0 := by rw [hY0]; exact (Kp.refl _ _).drew
                refine wp_region_g (S := fun V => At V g5 (doc6 p1) 25 ∧ At V (g5 + 1) (doc6 p2) 25) (T := []) (by kernel_rfl) ⟨T5k.out _ KG.out.drew, T6k.out _ KG.out.drew⟩ (fun hHeld => ?_)
                rw [← hY0] at hHeld ⊢
                clear hY0
                refine wpAnyG_take (i := 0) (oi := { dst := some 103, op := Go.Op.load 25 (Go.Operand.tmp 5), type := 25, pos := "law.go:176", after := #[], guard := none }) (v := ?_) rfl (by kernel_rfl) (by kernel_rfl) (by kernel_rfl) (by kernel_rfl) (fun _ _ _ h => h) (Or.inl ⟨by rfl, ?_⟩) (by assumption) ?_
                rotate_left
                · (intro w hSw; (obtain ⟨⟨c0, c1, c2, c3, c4, c5⟩, e0, e1, e2, e3, e4, e5⟩ := And.intro hSw.1.six hSw.2.six); go_simp; try with_reducible rfl)
                simp only [Act.put, List.setIfInBounds_toArray, List.set_cons_zero, List.set_cons_succ]
                refine wpAnyG_take (i := 1) (oi := { dst := some 104, op := Go.Op.load 25 (Go.Operand.tmp 6), type := 25, pos := "law.go:176", after := #[], guard := none }) (v := ?_) rfl (by kernel_rfl) (by kernel_rfl) (by kernel_rfl) (by kernel_rfl) (fun _ _ _ h => h) (Or.inl ⟨by rfl, ?_⟩) (by assumption) ?_
                rotate_left
                · (intro w hSw; (obtain ⟨⟨c0, c1, c2, c3, c4, c5⟩, e0, e1, e2, e3, e4, e5⟩ := And.intro hSw.1.six hSw.2.six); go_simp; try with_reducible rfl)
                simp only [Act.put, List.setIfInBounds_toArray, List.set_cons_zero, List.set_cons_succ]
                refine wpAnyG_ready (rs := [2]) (by kernel_rfl) (by simp) ?_
                refine AllReadyG.cons (o := { dst := some 105, op := Go.Op.call { callee := Go.Callee.value (Go.Operand.func 14), args := #[Go.Operand.tmp 103, Go.Operand.tmp 104], argTypes := #[25, 25] }, type := 4, pos := "law.go:176", after := #[{ on := 0, ground := Go.Ground.data }, { on := 1, ground := Go.Ground.data }], guard := none }) rfl (fun K hK => ?_) AllReadyG.nil
                go_simp
                go_at_call 14
                refine (H12.out _ y0).mono ?_
                rintro e Y1 ⟨rfl, u1⟩
                go_wp2_with fail
                have y1 : Kp [] V Y1 := y0.trans u1 (fun z hz => by simp at hz)
                have v1 : Kp [] W0 Y1 := v0.trans u1 (fun z hz => by simp at hz)
                refine hK.out _ _ ⟨T5k.out _ y1, T6k.out _ y1⟩ (fun hHeld1 => ?_)
                clear hK K hHeld
                try simp only [Act.put, List.setIfInBounds_toArray, List.set_cons_zero, List.set_cons_succ]
                refine wpAnyG_pure (i := 3) (oi := { dst := some 106, op := Go.Op.unOp Go.UnOp.not 4 (Go.Operand.tmp 105), type := 4, pos := "law.go:176", after := #[{ on := 2, ground := Go.Ground.data }], guard := none }) (v := ?_) rfl (by kernel_rfl) (by kernel_rfl) (by kernel_rfl) (by kernel_rfl) (fun _ _ _ h => h) (Or.inl ⟨by rfl, ?_⟩) (by assumption) ?_
                rotate_left
                · (intro w; go_simp; try with_reducible rfl)
                simp only [Act.put, List.setIfInBounds_toArray, List.set_cons_zero, List.set_cons_succ]
                refine wpAnyG_pure (i := 4) (oi := { dst := some 107, op := Go.Op.move (Go.Operand.tmp 106), type := 4, pos := "law.go:176", after := #[{ on := 3, ground := Go.Ground.data }, { on := 2, ground := Go.Ground.chain }], guard := none }) (v := ?_) rfl (by kernel_rfl) (by kernel_rfl) (by kernel_rfl) (by kernel_rfl) (fun _ _ _ h => h) (Or.inl ⟨by rfl, ?_⟩) (by assumption) ?_
                rotate_left
                · (intro w; go_simp; try with_reducible rfl)
                simp only [Act.put, List.setIfInBounds_toArray, List.set_cons_zero, List.set_cons_succ]
                refine wpAnyG_pure (i := 5) (oi := { dst := some 108, op := Go.Op.move (Go.Operand.tmp 7), type := 9, pos := "law.go:176", after := #[{ on := 4, ground := Go.Ground.guard }], guard := some (4, false) }) (v := undef) rfl (by kernel_rfl) (by kernel_rfl) (by kernel_rfl) (by kernel_rfl) (fun _ _ _ h => h) (Or.inr ⟨by rfl, rfl⟩) (by assumption) ?_
                simp only [Act.put, List.setIfInBounds_toArray, List.set_cons_zero, List.set_cons_succ]
                refine wpAnyG_take (i := 6) (oi := { dst := some 109, op := Go.Op.load 25 (Go.Operand.tmp 6), type := 25, pos := "law.go:176", after := #[{ on := 4, ground := Go.Ground.guard }], guard := some (4, false) }) (v := undef) rfl (by kernel_rfl) (by kernel_rfl) (by kernel_rfl) (by kernel_rfl) (fun _ _ _ h => h) (Or.inr ⟨by rfl, rfl⟩) (by assumption) ?_
                simp only [Act.put, List.setIfInBounds_toArray, List.set_cons_zero, List.set_cons_succ]
                refine wpAnyG_pure (i := 7) (oi := { dst := some 110, op := Go.Op.call { callee := Go.Callee.value (Go.Operand.func 16), args := #[Go.Operand.tmp 109], argTypes := #[25] }, type := 9, pos := "law.go:176", after := #[{ on := 6, ground := Go.Ground.data }, { on := 4, ground := Go.Ground.chain }, { on := 4, ground := Go.Ground.guard }], guard := some (4, false) }) (v := undef) rfl (by kernel_rfl) (by kernel_rfl) (by kernel_rfl) (by kernel_rfl) (fun _ _ _ h => h) (Or.inr ⟨by rfl, rfl⟩) (by assumption) ?_
                simp only [Act.put, List.setIfInBounds_toArray, List.set_cons_zero, List.set_cons_succ]
                refine wpAnyG_pure (i := 8) (oi := { dst := some 111, op := Go.Op.binOp Go.BinOp.eql 9 (Go.Operand.tmp 108) (Go.Operand.tmp 110) 9, type := 4, pos := "law.go:176", after := #[{ on := 5, ground := Go.Ground.data }, { on := 7, ground := Go.Ground.data }, { on := 4, ground := Go.Ground.guard }], guard := some (4, false) }) (v := undef) rfl (by kernel_rfl) (by kernel_rfl) (by kernel_rfl) (by kernel_rfl) (fun _ _ _ h => h) (Or.inr ⟨by rfl, rfl⟩) (by assumption) ?_
                simp only [Act.put, List.setIfInBounds_toArray, List.set_cons_zero, List.set_cons_succ]
                refine wpAnyG_pure (i := 9) (oi := { dst := some 112, op := Go.Op.pick (Go.Operand.tmp 107) (Go.Operand.const (Go.Value.bool true)) (Go.Operand.tmp 111), type := 4, pos := "law.go:176", after := #[{ on := 4, ground := Go.Ground.data }, { on := 8, ground := Go.Ground.data }], guard := none }) (v := ?_) rfl (by kernel_rfl) (by kernel_rfl) (by kernel_rfl) (by kernel_rfl) (fun _ _ _ h => h) (Or.inl ⟨by rfl, ?_⟩) (by assumption) ?_
                rotate_left
                · (intro w; go_simp; try with_reducible rfl)
                simp only [Act.put, List.setIfInBounds_toArray, List.set_cons_zero, List.set_cons_succ]
                refine wpAnyG_pure (i := 10) (oi := { dst := some 113, op := Go.Op.move (Go.Operand.tmp 112), type := 4, pos := "law.go:176", after := #[{ on := 9, ground := Go.Ground.data }, { on := 7, ground := Go.Ground.chain }], guard := none }) (v := ?_) rfl (by kernel_rfl) (by kernel_rfl) (by kernel_rfl) (by kernel_rfl) (fun _ _ _ h => h) (Or.inl ⟨by rfl, ?_⟩) (by assumption) ?_
                rotate_left
                · (intro w; go_simp; try with_reducible rfl)
                simp only [Act.put, List.setIfInBounds_toArray, List.set_cons_zero, List.set_cons_succ]
                refine wpAnyG_take (i := 11) (oi := { dst := some 114, op := Go.Op.load 25 (Go.Operand.tmp 5), type := 25, pos := "law.go:176", after := #[{ on := 10, ground := Go.Ground.guard }], guard := some (10, true) }) (v := ?_) rfl (by kernel_rfl) (by kernel_rfl) (by kernel_rfl) (by kernel_rfl) (fun _ _ _ h => h) (Or.inl ⟨by rfl, ?_⟩) (by assumption) ?_
                rotate_left
                · (intro w hSw; (obtain ⟨⟨c0, c1, c2, c3, c4, c5⟩, e0, e1, e2, e3, e4, e5⟩ := And.intro hSw.1.six hSw.2.six); go_simp; try with_reducible rfl)
                simp only [Act.put, List.setIfInBounds_toArray, List.set_cons_zero, List.set_cons_succ]
                refine wpAnyG_take (i := 12) (oi := { dst := some 115, op := Go.Op.load 25 (Go.Operand.tmp 6), type := 25, pos := "law.go:176", after := #[{ on := 10, ground := Go.Ground.guard }], guard := some (10, true) }) (v := ?_) rfl (by kernel_rfl) (by kernel_rfl) (by kernel_rfl) (by kernel_rfl) (fun _ _ _ h => h) (Or.inl ⟨by rfl, ?_⟩) (by assumption) ?_
                rotate_left
                · (intro w hSw; (obtain ⟨⟨c0, c1, c2, c3, c4, c5⟩, e0, e1, e2, e3, e4, e5⟩ := And.intro hSw.1.six hSw.2.six); go_simp; try with_reducible rfl)
                simp only [Act.put, List.setIfInBounds_toArray, List.set_cons_zero, List.set_cons_succ]
                refine wpAnyG_take (i := 14) (oi := { dst := some 117, op := Go.Op.load 25 (Go.Operand.tmp 6), type := 25, pos := "law.go:176", after := #[{ on := 10, ground := Go.Ground.guard }], guard := some (10, true) }) (v := ?_) rfl (by kernel_rfl) (by kernel_rfl) (by kernel_rfl) (by kernel_rfl) (fun _ _ _ h => h) (Or.inl ⟨by rfl, ?_⟩) (by assumption) ?_
                rotate_left
                · (intro w hSw; (obtain ⟨⟨c0, c1, c2, c3, c4, c5⟩, e0, e1, e2, e3, e4, e5⟩ := And.intro hSw.1.six hSw.2.six); go_simp; try with_reducible rfl)
                simp only [Act.put, List.setIfInBounds_toArray, List.set_cons_zero, List.set_cons_succ]
                refine wpAnyG_take (i := 15) (oi := { dst := some 118, op := Go.Op.load 25 (Go.Operand.tmp 5), type := 25, pos := "law.go:176", after := #[{ on := 10, ground := Go.Ground.guard }], guard := some (10, true) }) (v := ?_) rfl (by kernel_rfl) (by kernel_rfl) (by kernel_rfl) (by kernel_rfl) (fun _ _ _ h => h) (Or.inl ⟨by rfl, ?_⟩) (by assumption) ?_
                rotate_left
                · (intro w hSw; (obtain ⟨⟨c0, c1, c2, c3, c4, c5⟩, e0, e1, e2, e3, e4, e5⟩ := And.intro hSw.1.six hSw.2.six); go_simp; try with_reducible rfl)
                simp only [Act.put, List.setIfInBounds_toArray, List.set_cons_zero, List.set_cons_succ]
                refine wpAnyG_ready (rs := [13]) (by kernel_rfl) (by simp) ?_
                refine AllReadyG.cons (o := { dst := some 116, op := Go.Op.call { callee := Go.Callee.value (Go.Operand.func 14), args := #[Go.Operand.tmp 114, Go.Operand.tmp 115], argTypes := #[25, 25] }, type := 4, pos := "law.go:176", after := #[{ on := 11, ground := Go.Ground.data }, { on := 12, ground := Go.Ground.data }, { on := 10, ground := Go.Ground.chain }, { on := 10, ground := Go.Ground.guard }], guard := some (10, true) }) rfl (fun K hK => ?_) AllReadyG.nil
                go_simp
                go_at_call 14
                refine (H12.out _ y1).mono ?_
                rintro e Y2 ⟨rfl, u2⟩
                go_wp2_with fail
                have y2 : Kp [] V Y2 := y1.trans u2 (fun z hz => by simp at hz)
                have v2 : Kp [] W0 Y2 := v1.trans u2 (fun z hz => by simp at hz)
                refine hK.out _ _ ⟨T5k.out _ y2, T6k.out _ y2⟩ (fun hHeld2 => ?_)
                clear hK K hHeld1
                try simp only [Act.put, List.setIfInBounds_toArray, List.set_cons_zero, List.set_cons_succ]
                refine wpAnyG_ready (rs := [16]) (by kernel_rfl) (by simp) ?_
                refine AllReadyG.cons (o := { dst := some 119, op := Go.Op.call { callee := Go.Callee.value (Go.Operand.func 14), args := #[Go.Operand.tmp 117, Go.Operand.tmp 118], argTypes := #[25, 25] }, type := 4, pos := "law.go:176", after := #[{ on := 14, ground := Go.Ground.data }, { on := 15, ground := Go.Ground.data }, { on := 13, ground := Go.Ground.chain }, { on := 10, ground := Go.Ground.guard }], guard := some (10, true) }) rfl (fun K hK => ?_) AllReadyG.nil
                go_simp
                go_at_call 14
                refine (H21.out _ y2).mono ?_
                rintro e Y3 ⟨rfl, u3⟩
                go_wp2_with fail
                have y3 : Kp [] V Y3 := y2.trans u3 (fun z hz => by simp at hz)
                have v3 : Kp [] W0 Y3 := v2.trans u3 (fun z hz => by simp at hz)
                refine hK.out _ _ ⟨T5k.out _ y3, T6k.out _ y3⟩ (fun hHeld3 => ?_)
                clear hK K hHeld2
                try simp only [Act.put, List.setIfInBounds_toArray, List.set_cons_zero, List.set_cons_succ]
                refine wpAnyG_pure (i := 17) (oi := { dst := some 120, op := Go.Op.binOp Go.BinOp.eql 4 (Go.Operand.tmp 116) (Go.Operand.tmp 119) 4, type := 4, pos := "law.go:176", after := #[{ on := 13, ground := Go.Ground.data }, { on := 16, ground := Go.Ground.data }, { on := 10, ground := Go.Ground.guard }], guard := some (10, true) }) (v := ?_) rfl (by kernel_rfl) (by kernel_rfl) (by kernel_rfl) (by kernel_rfl) (fun _ _ _ h => h) (Or.inl ⟨by rfl, ?_⟩) (by assumption) ?_
                rotate_left
                · (intro w; go_simp; try with_reducible rfl)
                simp only [Act.put, List.setIfInBounds_toArray, List.set_cons_zero, List.set_cons_succ]
                refine wpAnyG_pure (i := 18) (oi := { dst := some 121, op := Go.Op.pick (Go.Operand.tmp 113) (Go.Operand.tmp 120) (Go.Operand.const (Go.Value.bool false)), type := 4, pos := "law.go:176", after := #[{ on := 10, ground := Go.Ground.data }, { on := 17, ground := Go.Ground.data }], guard := none }) (v := ?_) rfl (by kernel_rfl) (by kernel_rfl) (by kernel_rfl) (by kernel_rfl) (fun _ _ _ h => h) (Or.inl ⟨by rfl, ?_⟩) (by assumption) ?_
                rotate_left
                · (intro w; go_simp; try with_reducible rfl)
                simp only [Act.put, List.setIfInBounds_toArray, List.set_cons_zero, List.set_cons_succ]
                refine wpAnyG_pure (i := 19) (oi := { dst := some 122, op := Go.Op.move (Go.Operand.tmp 121), type := 4, pos := "law.go:176", after := #[{ on := 18, ground := Go.Ground.data }, { on := 16, ground := Go.Ground.chain }], guard := none }) (v := ?_) rfl (by kernel_rfl) (by kernel_rfl) (by kernel_rfl) (by kernel_rfl) (fun _ _ _ h => h) (Or.inl ⟨by rfl, ?_⟩) (by assumption) ?_
                rotate_left
                · (intro w; go_simp; try with_reducible rfl)
                simp only [Act.put, List.setIfInBounds_toArray, List.set_cons_zero, List.set_cons_succ]
                refine wpAnyG_ready (rs := [20]) (by kernel_rfl) (by simp) ?_
                refine AllReadyG.cons (o := { dst := some 123, op := Go.Op.call { callee := Go.Callee.value (Go.Operand.func 10), args := #[], argTypes := #[] }, type := 4, pos := "law.go:176", after := #[{ on := 19, ground := Go.Ground.chain }, { on := 19, ground := Go.Ground.guard }], guard := some (19, true) }) rfl (fun K hK => ?_) AllReadyG.nil
                go_simp
                go_at_call 10
                refine (known_any _).mono ?_
                rintro e Y4 ⟨rfl, u4⟩
                go_wp2_with fail
                have y4 : Kp [] V Y4 := y3.trans u4 (fun z hz => by simp at hz)
                have v4 : Kp [] W0 Y4 := v3.trans u4 (fun z hz => by simp at hz)
                refine hK.out _ _ ⟨T5k.out _ y4, T6k.out _ y4⟩ (fun hHeld4 => ?_)
                clear hK K hHeld3
                try simp only [Act.put, List.setIfInBounds_toArray, List.set_cons_zero, List.set_cons_succ]
                refine wpAnyG_pure (i := 21) (oi := { dst := some 124, op := Go.Op.pick (Go.Operand.tmp 122) (Go.Operand.tmp 123) (Go.Operand.const (Go.Value.bool false)), type := 4, pos := "law.go:176", after := #[{ on := 19, ground := Go.Ground.data }, { on := 20, ground := Go.Ground.data }], guard := none }) (v := ?_) rfl (by kernel_rfl) (by kernel_rfl) (by kernel_rfl) (by kernel_rfl) (fun _ _ _ h => h) (Or.inl ⟨by rfl, ?_⟩) (by assumption) ?_
                rotate_left
                · (intro w; go_simp; try with_reducible rfl)
                simp only [Act.put, List.setIfInBounds_toArray, List.set_cons_zero, List.set_cons_succ]
                refine wpAnyG_pure (i := 22) (oi := { dst := some 4, op := Go.Op.assign (Go.Operand.tmp 124), type := 4, pos := "law.go:176", after := #[{ on := 21, ground := Go.Ground.data }, { on := 20, ground := Go.Ground.chain }, { on := 0, ground := Go.Ground.phase }, { on := 1, ground := Go.Ground.phase }, { on := 2, ground := Go.Ground.phase }, { on := 3, ground := Go.Ground.phase }, { on := 4, ground := Go.Ground.phase }, { on := 5, ground := Go.Ground.phase }, { on := 6, ground := Go.Ground.phase }, { on := 7, ground := Go.Ground.phase }, { on := 8, ground := Go.Ground.phase }, { on := 9, ground := Go.Ground.phase }, { on := 10, ground := Go.Ground.phase }, { on := 11, ground := Go.Ground.phase }, { on := 12, ground := Go.Ground.phase }, { on := 13, ground := Go.Ground.phase }, { on := 14, ground := Go.Ground.phase }, { on := 15, ground := Go.Ground.phase }, { on := 16, ground := Go.Ground.phase }, { on := 17, ground := Go.Ground.phase }, { on := 18, ground := Go.Ground.phase }, { on := 19, ground := Go.Ground.phase }, { on := 20, ground := Go.Ground.phase }, { on := 21, ground := Go.Ground.phase }], guard := none }) (v := ?_) rfl (by kernel_rfl) (by kernel_rfl) (by kernel_rfl) (by kernel_rfl) (fun _ _ _ h => h) (Or.inl ⟨by rfl, ?_⟩) (by assumption) ?_
                rotate_left
                · (intro w; go_simp; try with_reducible rfl)
                simp only [Act.put, List.setIfInBounds_toArray, List.set_cons_zero, List.set_cons_succ]
                refine wpAnyG_free (by kernel_rfl) ?_
                refine wpAny_done (by kernel_rfl) ?_ _
                go_wp2
                go_ret
                exact ⟨rfl, KV.out.trans v4 (fun z hz => by simp at hz)⟩
              · have hs2 := HQ.out rfl
                subst hs2
                obtain ⟨Y0, hY0⟩ : ∃ V, V = W0.drew := ⟨_, rfl⟩
                have y0 : Kp [] V Y0 := by rw [hY0]; exact KG.out.drew
                have v0 : Kp [] W0 Y0 := by rw [hY0]; exact (Kp.refl _ _).drew
                refine wp_region_g (S := fun V => At V g5 (doc6 p1) 25 ∧ At V (g5 + 1) (doc6 p2) 25) (T := []) (by kernel_rfl) ⟨T5k.out _ KG.out.drew, T6k.out _ KG.out.drew⟩ (fun hHeld => ?_)
                rw [← hY0] at hHeld ⊢
                clear hY0
                refine wpAnyG_take (i := 0) (oi := { dst := some 103, op := Go.Op.load 25 (Go.Operand.tmp 5), type := 25, pos := "law.go:176", after := #[], guard := none }) (v := ?_) rfl (by kernel_rfl) (by kernel_rfl) (by kernel_rfl) (by kernel_rfl) (fun _ _ _ h => h) (Or.inl ⟨by rfl, ?_⟩) (by assumption) ?_
                rotate_left
                · (intro w hSw; (obtain ⟨⟨c0, c1, c2, c3, c4, c5⟩, e0, e1, e2, e3, e4, e5⟩ := And.intro hSw.1.six hSw.2.six); go_simp; try with_reducible rfl)
                simp only [Act.put, List.setIfInBounds_toArray, List.set_cons_zero, List.set_cons_succ]
                refine wpAnyG_take (i := 1) (oi := { dst := some 104, op := Go.Op.load 25 (Go.Operand.tmp 6), type := 25, pos := "law.go:176", after := #[], guard := none }) (v := ?_) rfl (by kernel_rfl) (by kernel_rfl) (by kernel_rfl) (by kernel_rfl) (fun _ _ _ h => h) (Or.inl ⟨by rfl, ?_⟩) (by assumption) ?_
                rotate_left
                · (intro w hSw; (obtain ⟨⟨c0, c1, c2, c3, c4, c5⟩, e0, e1, e2, e3, e4, e5⟩ := And.intro hSw.1.six hSw.2.six); go_simp; try with_reducible rfl)
                simp only [Act.put, List.setIfInBounds_toArray, List.set_cons_zero, List.set_cons_succ]
                refine wpAnyG_ready (rs := [2]) (by kernel_rfl) (by simp) ?_
                refine AllReadyG.cons (o := { dst := some 105, op := Go.Op.call { callee := Go.Callee.value (Go.Operand.func 14), args := #[Go.Operand.tmp 103, Go.Operand.tmp 104], argTypes := #[25, 25] }, type := 4, pos := "law.go:176", after := #[{ on := 0, ground := Go.Ground.data }, { on := 1, ground := Go.Ground.data }], guard := none }) rfl (fun K hK => ?_) AllReadyG.nil
                go_simp
                go_at_call 14
                refine (H12.out _ y0).mono ?_
                rintro e Y1 ⟨rfl, u1⟩
                go_wp2_with fail
                have y1 : Kp [] V Y1 := y0.trans u1 (fun z hz => by simp at hz)
                have v1 : Kp [] W0 Y1 := v0.trans u1 (fun z hz => by simp at hz)
                refine hK.out _ _ ⟨T5k.out _ y1, T6k.out _ y1⟩ (fun hHeld1 => ?_)
                clear hK K hHeld
                try simp only [Act.put, List.setIfInBounds_toArray, List.set_cons_zero, List.set_cons_succ]
                refine wpAnyG_pure (i := 3) (oi := { dst := some 106, op := Go.Op.unOp Go.UnOp.not 4 (Go.Operand.tmp 105), type := 4, pos := "law.go:176", after := #[{ on := 2, ground := Go.Ground.data }], guard := none }) (v := ?_) rfl (by kernel_rfl) (by kernel_rfl) (by kernel_rfl) (by kernel_rfl) (fun _ _ _ h => h) (Or.inl ⟨by rfl, ?_⟩) (by assumption) ?_
                rotate_left
                · (intro w; go_simp; try with_reducible rfl)
                simp only [Act.put, List.setIfInBounds_toArray, List.set_cons_zero, List.set_cons_succ]
                refine wpAnyG_pure (i := 4) (oi := { dst := some 107, op := Go.Op.move (Go.Operand.tmp 106), type := 4, pos := "law.go:176", after := #[{ on := 3, ground := Go.Ground.data }, { on := 2, ground := Go.Ground.chain }], guard := none }) (v := ?_) rfl (by kernel_rfl) (by kernel_rfl) (by kernel_rfl) (by kernel_rfl) (fun _ _ _ h => h) (Or.inl ⟨by rfl, ?_⟩) (by assumption) ?_
                rotate_left
                · (intro w; go_simp; try with_reducible rfl)
                simp only [Act.put, List.setIfInBounds_toArray, List.set_cons_zero, List.set_cons_succ]
                refine wpAnyG_pure (i := 5) (oi := { dst := some 108, op := Go.Op.move (Go.Operand.tmp 7), type := 9, pos := "law.go:176", after := #[{ on := 4, ground := Go.Ground.guard }], guard := some (4, false) }) (v := ?_) rfl (by kernel_rfl) (by kernel_rfl) (by kernel_rfl) (by kernel_rfl) (fun _ _ _ h => h) (Or.inl ⟨by rfl, ?_⟩) (by assumption) ?_
                rotate_left
                · (intro w; go_simp; try with_reducible rfl)
                simp only [Act.put, List.setIfInBounds_toArray, List.set_cons_zero, List.set_cons_succ]
                refine wpAnyG_take (i := 6) (oi := { dst := some 109, op := Go.Op.load 25 (Go.Operand.tmp 6), type := 25, pos := "law.go:176", after := #[{ on := 4, ground := Go.Ground.guard }], guard := some (4, false) }) (v := ?_) rfl (by kernel_rfl) (by kernel_rfl) (by kernel_rfl) (by kernel_rfl) (fun _ _ _ h => h) (Or.inl ⟨by rfl, ?_⟩) (by assumption) ?_
                rotate_left
                · (intro w hSw; (obtain ⟨⟨c0, c1, c2, c3, c4, c5⟩, e0, e1, e2, e3, e4, e5⟩ := And.intro hSw.1.six hSw.2.six); go_simp; try with_reducible rfl)
                simp only [Act.put, List.setIfInBounds_toArray, List.set_cons_zero, List.set_cons_succ]
                refine wpAnyG_ready (rs := [7]) (by kernel_rfl) (by simp) ?_
                refine AllReadyG.cons (o := { dst := some 110, op := Go.Op.call { callee := Go.Callee.value (Go.Operand.func 16), args := #[Go.Operand.tmp 109], argTypes := #[25] }, type := 9, pos := "law.go:176", after := #[{ on := 6, ground := Go.Ground.data }, { on := 4, ground := Go.Ground.chain }, { on := 4, ground := Go.Ground.guard }], guard := some (4, false) }) rfl (fun K hK => ?_) AllReadyG.nil
                go_simp
                go_at_call 16
                refine (HS2.out _ y1).mono ?_
                rintro e Y2 ⟨rfl, u2⟩
                go_wp2_with fail
                have y2 : Kp [] V Y2 := y1.trans u2 (fun z hz => by simp at hz)
                have v2 : Kp [] W0 Y2 := v1.trans u2 (fun z hz => by simp at hz)
                refine hK.out _ _ ⟨T5k.out _ y2, T6k.out _ y2⟩ (fun hHeld2 => ?_)
                clear hK K hHeld1
                try simp only [Act.put, List.setIfInBounds_toArray, List.set_cons_zero, List.set_cons_succ]
                refine wpAnyG_pure (i := 8) (oi := { dst := some 111, op := Go.Op.binOp Go.BinOp.eql 9 (Go.Operand.tmp 108) (Go.Operand.tmp 110) 9, type := 4, pos := "law.go:176", after := #[{ on := 5, ground := Go.Ground.data }, { on := 7, ground := Go.Ground.data }, { on := 4, ground := Go.Ground.guard }], guard := some (4, false) }) (v := ?_) rfl (by kernel_rfl) (by kernel_rfl) (by kernel_rfl) (by kernel_rfl) (fun _ _ _ h => h) (Or.inl ⟨by rfl, ?_⟩) (by assumption) ?_
                rotate_left
                · (intro w; go_simp; try with_reducible rfl)
                simp only [Act.put, List.setIfInBounds_toArray, List.set_cons_zero, List.set_cons_succ]
                refine wpAnyG_pure (i := 9) (oi := { dst := some 112, op := Go.Op.pick (Go.Operand.tmp 107) (Go.Operand.const (Go.Value.bool true)) (Go.Operand.tmp 111), type := 4, pos := "law.go:176", after := #[{ on := 4, ground := Go.Ground.data }, { on := 8, ground := Go.Ground.data }], guard := none }) (v := ?_) rfl (by kernel_rfl) (by kernel_rfl) (by kernel_rfl) (by kernel_rfl) (fun _ _ _ h => h) (Or.inl ⟨by rfl, ?_⟩) (by assumption) ?_
                rotate_left
                · (intro w; go_simp; try with_reducible rfl)
                simp only [Act.put, List.setIfInBounds_toArray, List.set_cons_zero, List.set_cons_succ]
                refine wpAnyG_pure (i := 10) (oi := { dst := some 113, op := Go.Op.move (Go.Operand.tmp 112), type := 4, pos := "law.go:176", after := #[{ on := 9, ground := Go.Ground.data }, { on := 7, ground := Go.Ground.chain }], guard := none }) (v := ?_) rfl (by kernel_rfl) (by kernel_rfl) (by kernel_rfl) (by kernel_rfl) (fun _ _ _ h => h) (Or.inl ⟨by rfl, ?_⟩) (by assumption) ?_
                rotate_left
                · (intro w; go_simp; try with_reducible rfl)
                simp only [Act.put, List.setIfInBounds_toArray, List.set_cons_zero, List.set_cons_succ]
                refine wpAnyG_take (i := 11) (oi := { dst := some 114, op := Go.Op.load 25 (Go.Operand.tmp 5), type := 25, pos := "law.go:176", after := #[{ on := 10, ground := Go.Ground.guard }], guard := some (10, true) }) (v := ?_) rfl (by kernel_rfl) (by kernel_rfl) (by kernel_rfl) (by kernel_rfl) (fun _ _ _ h => h) (Or.inl ⟨by rfl, ?_⟩) (by assumption) ?_
                rotate_left
                · (intro w hSw; (obtain ⟨⟨c0, c1, c2, c3, c4, c5⟩, e0, e1, e2, e3, e4, e5⟩ := And.intro hSw.1.six hSw.2.six); go_simp; try with_reducible rfl)
                simp only [Act.put, List.setIfInBounds_toArray, List.set_cons_zero, List.set_cons_succ]
                refine wpAnyG_take (i := 12) (oi := { dst := some 115, op := Go.Op.load 25 (Go.Operand.tmp 6), type := 25, pos := "law.go:176", after := #[{ on := 10, ground := Go.Ground.guard }], guard := some (10, true) }) (v := ?_) rfl (by kernel_rfl) (by kernel_rfl) (by kernel_rfl) (by kernel_rfl) (fun _ _ _ h => h) (Or.inl ⟨by rfl, ?_⟩) (by assumption) ?_
                rotate_left
                · (intro w hSw; (obtain ⟨⟨c0, c1, c2, c3, c4, c5⟩, e0, e1, e2, e3, e4, e5⟩ := And.intro hSw.1.six hSw.2.six); go_simp; try with_reducible rfl)
                simp only [Act.put, List.setIfInBounds_toArray, List.set_cons_zero, List.set_cons_succ]
                refine wpAnyG_take (i := 14) (oi := { dst := some 117, op := Go.Op.load 25 (Go.Operand.tmp 6), type := 25, pos := "law.go:176", after := #[{ on := 10, ground := Go.Ground.guard }], guard := some (10, true) }) (v := ?_) rfl (by kernel_rfl) (by kernel_rfl) (by kernel_rfl) (by kernel_rfl) (fun _ _ _ h => h) (Or.inl ⟨by rfl, ?_⟩) (by assumption) ?_
                rotate_left
                · (intro w hSw; (obtain ⟨⟨c0, c1, c2, c3, c4, c5⟩, e0, e1, e2, e3, e4, e5⟩ := And.intro hSw.1.six hSw.2.six); go_simp; try with_reducible rfl)
                simp only [Act.put, List.setIfInBounds_toArray, List.set_cons_zero, List.set_cons_succ]
                refine wpAnyG_take (i := 15) (oi := { dst := some 118, op := Go.Op.load 25 (Go.Operand.tmp 5), type := 25, pos := "law.go:176", after := #[{ on := 10, ground := Go.Ground.guard }], guard := some (10, true) }) (v := ?_) rfl (by kernel_rfl) (by kernel_rfl) (by kernel_rfl) (by kernel_rfl) (fun _ _ _ h => h) (Or.inl ⟨by rfl, ?_⟩) (by assumption) ?_
                rotate_left
                · (intro w hSw; (obtain ⟨⟨c0, c1, c2, c3, c4, c5⟩, e0, e1, e2, e3, e4, e5⟩ := And.intro hSw.1.six hSw.2.six); go_simp; try with_reducible rfl)
                simp only [Act.put, List.setIfInBounds_toArray, List.set_cons_zero, List.set_cons_succ]
                refine wpAnyG_ready (rs := [13]) (by kernel_rfl) (by simp) ?_
                refine AllReadyG.cons (o := { dst := some 116, op := Go.Op.call { callee := Go.Callee.value (Go.Operand.func 14), args := #[Go.Operand.tmp 114, Go.Operand.tmp 115], argTypes := #[25, 25] }, type := 4, pos := "law.go:176", after := #[{ on := 11, ground := Go.Ground.data }, { on := 12, ground := Go.Ground.data }, { on := 10, ground := Go.Ground.chain }, { on := 10, ground := Go.Ground.guard }], guard := some (10, true) }) rfl (fun K hK => ?_) AllReadyG.nil
                go_simp
                go_at_call 14
                refine (H12.out _ y2).mono ?_
                rintro e Y3 ⟨rfl, u3⟩
                go_wp2_with fail
                have y3 : Kp [] V Y3 := y2.trans u3 (fun z hz => by simp at hz)
                have v3 : Kp [] W0 Y3 := v2.trans u3 (fun z hz => by simp at hz)
                refine hK.out _ _ ⟨T5k.out _ y3, T6k.out _ y3⟩ (fun hHeld3 => ?_)
                clear hK K hHeld2
                try simp only [Act.put, List.setIfInBounds_toArray, List.set_cons_zero, List.set_cons_succ]
                refine wpAnyG_ready (rs := [16]) (by kernel_rfl) (by simp) ?_
                refine AllReadyG.cons (o := { dst := some 119, op := Go.Op.call { callee := Go.Callee.value (Go.Operand.func 14), args := #[Go.Operand.tmp 117, Go.Operand.tmp 118], argTypes := #[25, 25] }, type := 4, pos := "law.go:176", after := #[{ on := 14, ground := Go.Ground.data }, { on := 15, ground := Go.Ground.data }, { on := 13, ground := Go.Ground.chain }, { on := 10, ground := Go.Ground.guard }], guard := some (10, true) }) rfl (fun K hK => ?_) AllReadyG.nil
                go_simp
                go_at_call 14
                refine (H21.out _ y3).mono ?_
                rintro e Y4 ⟨rfl, u4⟩
                go_wp2_with fail
                have y4 : Kp [] V Y4 := y3.trans u4 (fun z hz => by simp at hz)
                have v4 : Kp [] W0 Y4 := v3.trans u4 (fun z hz => by simp at hz)
                refine hK.out _ _ ⟨T5k.out _ y4, T6k.out _ y4⟩ (fun hHeld4 => ?_)
                clear hK K hHeld3
                try simp only [Act.put, List.setIfInBounds_toArray, List.set_cons_zero, List.set_cons_succ]
                refine wpAnyG_pure (i := 17) (oi := { dst := some 120, op := Go.Op.binOp Go.BinOp.eql 4 (Go.Operand.tmp 116) (Go.Operand.tmp 119) 4, type := 4, pos := "law.go:176", after := #[{ on := 13, ground := Go.Ground.data }, { on := 16, ground := Go.Ground.data }, { on := 10, ground := Go.Ground.guard }], guard := some (10, true) }) (v := ?_) rfl (by kernel_rfl) (by kernel_rfl) (by kernel_rfl) (by kernel_rfl) (fun _ _ _ h => h) (Or.inl ⟨by rfl, ?_⟩) (by assumption) ?_
                rotate_left
                · (intro w; go_simp; try with_reducible rfl)
                simp only [Act.put, List.setIfInBounds_toArray, List.set_cons_zero, List.set_cons_succ]
                refine wpAnyG_pure (i := 18) (oi := { dst := some 121, op := Go.Op.pick (Go.Operand.tmp 113) (Go.Operand.tmp 120) (Go.Operand.const (Go.Value.bool false)), type := 4, pos := "law.go:176", after := #[{ on := 10, ground := Go.Ground.data }, { on := 17, ground := Go.Ground.data }], guard := none }) (v := ?_) rfl (by kernel_rfl) (by kernel_rfl) (by kernel_rfl) (by kernel_rfl) (fun _ _ _ h => h) (Or.inl ⟨by rfl, ?_⟩) (by assumption) ?_
                rotate_left
                · (intro w; go_simp; try with_reducible rfl)
                simp only [Act.put, List.setIfInBounds_toArray, List.set_cons_zero, List.set_cons_succ]
                refine wpAnyG_pure (i := 19) (oi := { dst := some 122, op := Go.Op.move (Go.Operand.tmp 121), type := 4, pos := "law.go:176", after := #[{ on := 18, ground := Go.Ground.data }, { on := 16, ground := Go.Ground.chain }], guard := none }) (v := ?_) rfl (by kernel_rfl) (by kernel_rfl) (by kernel_rfl) (by kernel_rfl) (fun _ _ _ h => h) (Or.inl ⟨by rfl, ?_⟩) (by assumption) ?_
                rotate_left
                · (intro w; go_simp; try with_reducible rfl)
                simp only [Act.put, List.setIfInBounds_toArray, List.set_cons_zero, List.set_cons_succ]
                refine wpAnyG_ready (rs := [20]) (by kernel_rfl) (by simp) ?_
                refine AllReadyG.cons (o := { dst := some 123, op := Go.Op.call { callee := Go.Callee.value (Go.Operand.func 10), args := #[], argTypes := #[] }, type := 4, pos := "law.go:176", after := #[{ on := 19, ground := Go.Ground.chain }, { on := 19, ground := Go.Ground.guard }], guard := some (19, true) }) rfl (fun K hK => ?_) AllReadyG.nil
                go_simp
                go_at_call 10
                refine (known_any _).mono ?_
                rintro e Y5 ⟨rfl, u5⟩
                go_wp2_with fail
                have y5 : Kp [] V Y5 := y4.trans u5 (fun z hz => by simp at hz)
                have v5 : Kp [] W0 Y5 := v4.trans u5 (fun z hz => by simp at hz)
                refine hK.out _ _ ⟨T5k.out _ y5, T6k.out _ y5⟩ (fun hHeld5 => ?_)
                clear hK K hHeld4
                try simp only [Act.put, List.setIfInBounds_toArray, List.set_cons_zero, List.set_cons_succ]
                refine wpAnyG_pure (i := 21) (oi := { dst := some 124, op := Go.Op.pick (Go.Operand.tmp 122) (Go.Operand.tmp 123) (Go.Operand.const (Go.Value.bool false)), type := 4, pos := "law.go:176", after := #[{ on := 19, ground := Go.Ground.data }, { on := 20, ground := Go.Ground.data }], guard := none }) (v := ?_) rfl (by kernel_rfl) (by kernel_rfl) (by kernel_rfl) (by kernel_rfl) (fun _ _ _ h => h) (Or.inl ⟨by rfl, ?_⟩) (by assumption) ?_
                rotate_left
                · (intro w; go_simp; try with_reducible rfl)
                simp only [Act.put, List.setIfInBounds_toArray, List.set_cons_zero, List.set_cons_succ]
                refine wpAnyG_pure (i := 22) (oi := { dst := some 4, op := Go.Op.assign (Go.Operand.tmp 124), type := 4, pos := "law.go:176", after := #[{ on := 21, ground := Go.Ground.data }, { on := 20, ground := Go.Ground.chain }, { on := 0, ground := Go.Ground.phase }, { on := 1, ground := Go.Ground.phase }, { on := 2, ground := Go.Ground.phase }, { on := 3, ground := Go.Ground.phase }, { on := 4, ground := Go.Ground.phase }, { on := 5, ground := Go.Ground.phase }, { on := 6, ground := Go.Ground.phase }, { on := 7, ground := Go.Ground.phase }, { on := 8, ground := Go.Ground.phase }, { on := 9, ground := Go.Ground.phase }, { on := 10, ground := Go.Ground.phase }, { on := 11, ground := Go.Ground.phase }, { on := 12, ground := Go.Ground.phase }, { on := 13, ground := Go.Ground.phase }, { on := 14, ground := Go.Ground.phase }, { on := 15, ground := Go.Ground.phase }, { on := 16, ground := Go.Ground.phase }, { on := 17, ground := Go.Ground.phase }, { on := 18, ground := Go.Ground.phase }, { on := 19, ground := Go.Ground.phase }, { on := 20, ground := Go.Ground.phase }, { on := 21, ground := Go.Ground.phase }], guard := none }) (v := ?_) rfl (by kernel_rfl) (by kernel_rfl) (by kernel_rfl) (by kernel_rfl) (fun _ _ _ h => h) (Or.inl ⟨by rfl, ?_⟩) (by assumption) ?_
                rotate_left
                · (intro w; go_simp; try with_reducible rfl)
                simp only [Act.put, List.setIfInBounds_toArray, List.set_cons_zero, List.set_cons_succ]
                refine wpAnyG_free (by kernel_rfl) ?_
                refine wpAny_done (by kernel_rfl) ?_ _
                go_wp2
                go_ret
                exact ⟨rfl, KV.out.trans v5 (fun z hz => by simp at hz)⟩

end Go.Proofs.Ytgnbafgglkncmaa
