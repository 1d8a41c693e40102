/-
  ArenaTexts: the walk.
-/
import Derived.Test.YtngbpbgohpblmaaTxP
import Derived.Test.YtngbpbgohpblmaaShort
namespace Go.Proofs.Ytngbpbgohpblmaa
open Go.RowKit Go.Maps Utf
set_option linter.unusedVariables false
set_option linter.unusedSimpArgs false

theorem infoS1 : (Try.prog.info? 9).map (fun i => (i.zero, i.size, i.bytes)) = some (some (.string ⟨#[]⟩), 1, 16) := by kernel_rfl

/-- A slice of texts that came in. -/
structure Tin (w : World) (ao : Option Addr) (n c : Nat) (F : Nat → ByteArray) : Prop where
  cap : n ≤ c
  at' : ∀ i, i < n → ∃ b off, ao = some ⟨b, off, none⟩ ∧ w.cell? ⟨b, off + i, none⟩ = some (.string (F i))

theorem Tin.kept {w W : World} {ao : Option Addr} {n c : Nat} {F : Nat → ByteArray} (h : Tin w ao n c F) (k : Kp [] w W) : Tin W ao n c F := by
  refine ⟨h.cap, fun i hi => ?_⟩
  obtain ⟨b, off, h1, h2⟩ := h.at' i hi
  exact ⟨b, off, h1, by rw [k.cell (a := ⟨b, off + i, none⟩) (block_lt_of_cell h2) (by simp)]; exact h2⟩

theorem cutB9 (s : ByteArray) : (cutB s 9).size ≤ 9 := by
  unfold cutB
  split
  · simp; omega
  · omega

/-- The pieces so far. -/
def RTx (w wr : World) (b k i : Nat) (f l : ByteArray) : Prop := ∃ (A : Ar) (tag : Nat → Nat), Ar.Tx A (decide (k < i)) f l ∧ Ps tag wr b false A (2 + 2 * i) ∧ Mv (fun _ => 0) w tag wr ∧ f.size ≤ 9 * i ∧ l.size ≤ 9 * i

def tv (M : List Lb) : List Value := M.map (fun x => Value.string x.text)

/-- What Pure tells of it. -/
theorem tx_tree {Q : Nat → Prop} {w : World} {L : Lb} {l1 : Lb} {M : List Lb} {p : Pl} (h : Nd Q w L (.cons l1 (Ar.flat M) .nil) p) :
    p.2.2.1 = 1 ∧ ∃ (kb ko : Nat) (p1 : Option Addr × Nat × Nat), p.2.1 = some ⟨kb, ko, none⟩ ∧ w.cell? ⟨kb, ko + 5, none⟩ = some (.slice p1.1 p1.2.1 p1.2.2) ∧ p1.2.1 = M.length ∧ ∀ j (hj : j < M.length), ∃ kb2 ko2, p1.1 = some ⟨kb2, ko2, none⟩ ∧ w.cell? ⟨kb2, ko2 + j * 6 + 4, none⟩ = some (.string (M[j]).text) := by
  refine ⟨by rw [h.klen]; rfl, ?_⟩
  obtain ⟨p0, kb, ko, _, h1, h2, h3⟩ := h.kids.at (n := 0) (Fo.drop_zero _)
  obtain ⟨_, _, _, _, _, e5⟩ := h3.cells
  refine ⟨kb, ko, p0.2, h1, by simpa using e5, by rw [h2.klen, Ar.flat_len], fun j hj => ?_⟩
  obtain ⟨r, hr⟩ := Ar.flat_at M hj
  obtain ⟨pj, kb2, ko2, _, g1, g2, g3⟩ := h2.kids.at hr
  obtain ⟨_, _, _, _, e4, _⟩ := g3.cells
  exact ⟨kb2, ko2, g1, e4⟩

theorem Rb.tv_at {w : World} {ao : Option Addr} {n c : Nat} {l : List Lb} (h : Rb w ao n c (tv l)) (k : Nat) (hk : k < l.length) : ∃ b off, ao = some ⟨b, off, none⟩ ∧ w.cell? ⟨b, off + k, none⟩ = some (.string (l[k]).text) := by
  have hl := h.len
  rw [show (tv l).length = l.length by simp [tv]] at hl
  obtain ⟨b, off, h1, h2⟩ := h.at' k (by omega)
  exact ⟨b, off, h1, by rw [h2]; simp [tv, hk]⟩

set_option maxRecDepth 100000 in
set_option maxHeartbeats 8000000 in
theorem texts_any (w : World) (ao : Option Addr) (n c : Nat) (F : Nat → ByteArray) (hin : Tin w ao n c F) (z : Int) :
    Calls Try.prog 6 #[.slice ao n c, .int .i64 z] w fun e w' => e = .returned (.bool true) ∧ Kp [] w w' := by
  have HN := Ps.new w (fun _ => 0)
  have HM : Hid (∀ V b tag, Ps tag V b false Ar.first 0 → Calls Try.prog 24 #[.pointer (some ⟨b, 0, none⟩), .int .i64 3, .int .i64 1, .string ⟨#[112]⟩, .slice none 0 0, .string ⟨#[]⟩] V fun e w' => e = .returned (.tuple #[.int .i64 1, .int .i64 0]) ∧ ∃ tag', Ps tag' w' b false Ar.K1 1 ∧ Mv tag V tag' w') := fun V b tag h => by
    have := h.mk' (by omega) 3 1 ⟨#[112]⟩ ⟨#[]⟩ [] none 0 0 (Rp.nil V) (by simp) (fun a ha => by cases ha) (by decide) (by decide)
    rw [Ar.k1a] at this
    exact this
  have HC : Hid (∀ V b tag, Ps tag V b false Ar.K1 1 → Calls Try.prog 24 #[.pointer (some ⟨b, 0, none⟩), .int .i64 5, .int .i64 0, .string ⟨#[]⟩, .slice none 0 0, .string ⟨#[99]⟩] V fun e w' => e = .returned (.tuple #[.int .i64 2, .int .i64 0]) ∧ ∃ tag', Ps tag' w' b false Ar.X2 2 ∧ Mv tag V tag' w') := fun V b tag h => by
    have := h.mk' (by omega) 5 0 ⟨#[]⟩ ⟨#[99]⟩ [] none 0 0 (Rp.nil V) (by simp) (fun a ha => by cases ha) (by decide) (by decide)
    rw [Ar.x2a] at this
    exact this
  have HA : Hid (∀ V b tag, Ps tag V b false Ar.X2 2 → Calls Try.prog 23 #[.pointer (some ⟨b, 0, none⟩), .int .i64 0, .int .i64 1] V fun e w' => e = .returned (.int .i64 0) ∧ Ps tag w' b false Ar.X3 2 ∧ Mv tag V tag w') := fun V b tag h => by
    have := h.app 0 1
    rw [Ar.x3a] at this
    exact this
  obtain ⟨k, hk⟩ : ∃ k, wi z 10 = k := ⟨_, rfl⟩
  have hk10 : k ≤ 10 := by rw [← hk]; exact wi_le z 10
  have HI : Hid (∀ V, Calls Try.prog 19 #[.int .i64 z, .int .i64 0, .int .i64 10] V fun e w' => e = .returned (.int .i64 (k : Int)) ∧ w' = V) := fun V => by
    have := within_any V z 0 10 (by omega) (by omega)
    rw [show 0 + wi z (10 - 0) = k by rw [Nat.zero_add]; exact hk] at this
    exact this
  have HIN : Hid (Tin w ao n c F) := hin
  clear hin hk
  go_enter Try.func6, Try.ntmps6
  go_wp2_with (first | (go_at_call 9; refine HN.mono ?_; rintro e w1 ⟨b, tag1, rfl, p1, m1, hb⟩) | (go_at_call 24; refine (HC.out _ _ _ p2).mono ?_; rintro e w3 ⟨rfl, tag3, p3, m3⟩) | (go_at_call 24; refine (HM.out _ _ _ p1).mono ?_; rintro e w2 ⟨rfl, tag2, p2, m2⟩) | (go_at_call 23; refine (HA.out _ _ _ p3).mono ?_; rintro e w4 ⟨rfl, p4, m4⟩) | (go_at_call 19; refine (HI.out _).mono ?_; rintro e w9 ⟨rfl, hw⟩; have hw2 := hw.symm; clear hw; subst hw2))
  have R0 : Hid (RTx w w4 b k 0 ⟨#[]⟩ ⟨#[]⟩) := ⟨Ar.X3, tag3, by rw [show decide (k < 0) = false from by simp]; exact Ar.X3_tx, p4, ((m1.trans m2).trans m3).trans m4, Nat.le_refl _, Nat.le_refl _⟩
  clear p1 p2 p3 p4 m1 m2 m3 m4 HN HM HC HA HI
  go_loopw [11, 12, 13, 14] (fun x11 x12 x13 _ wr => ∃ (i : Nat) (f l : ByteArray), x11 = .string f ∧ x12 = .string l ∧ x13 = .int .i64 (i : Int) ∧ i ≤ 10 ∧ i ≤ n ∧ RTx w wr b k i f l) (fun _ _ x13 _ _ => 10 - (intOf x13).toNat)
  case atStart => exact ⟨0, _, _, rfl, rfl, rfl, Nat.zero_le _, Nat.zero_le _, R0.out⟩
  case round =>
    obtain ⟨i, f, l, rfl, rfl, rfl, hi, hiL, A, tag, tx, ps, mv, hf, hl⟩ := hrel
    clear R0
    by_cases hlt : i < n ∧ i < 10
    · obtain ⟨lt1, lt2⟩ := hlt
      have b1 : decide ((i : Int) < (n : Int)) = true := decide_eq_true (by omega)
      have b2 : decide ((i : Int) < 10) = true := decide_eq_true (by omega)
      have j1 : (0 : Int) ≤ (i : Int) := by omega
      have j2 : (i : Int) < (n : Int) := by omega
      obtain ⟨s, hs⟩ : ∃ s, cutB (F i) 9 = s := ⟨_, rfl⟩
      have hs9 : s.size ≤ 9 := by rw [← hs]; exact cutB9 _
      have HH : Hid (∀ V, Calls Try.prog 25 #[.string (F i), .int .i64 9] V fun e w' => e = .returned (.string s) ∧ w' = V) := fun V => by
        have := cut_any V (F i) 9 (by decide)
        rw [show (if 9 < (F i).size then (F i).extract 0 9 else F i) = s from hs] at this
        exact this
      have HW : Hid (∀ (B : Ar) (c : Bool) (f l : ByteArray) V tag', Ar.Tx B c f l → Ps tag' V b false B (2 + 2 * i) → Calls Try.prog 26 #[.pointer (some ⟨b, 0, none⟩), .int .i64 1, .string s] V fun e w' => e = .returned (.int .i64 0) ∧ ∃ B1 tag'', Ar.Tx B1 c (if c then f else f ++ s) (if c then l ++ s else l) ∧ Ps tag'' w' b false B1 (3 + 2 * i) ∧ Mv tag' V tag'' w') := fun B c f l V tag' tx ps => by
        have := ps.wr (by omega) 1 s hs9
        obtain ⟨e1, t1⟩ := tx.write s
        rw [e1, show 2 + 2 * i + 1 = 3 + 2 * i by omega] at this
        exact this.mono (fun e w' ⟨g1, tag'', g2, g3⟩ => ⟨g1, _, tag'', t1, g2, g3⟩)
      have HZ : Hid (∀ (B : Ar) (c : Bool) (f l : ByteArray) V tag', Ar.Tx B c f l → Ps tag' V b false B (3 + 2 * i) → Calls Try.prog 26 #[.pointer (some ⟨b, 0, none⟩), .int .i64 0, .string s] V fun e w' => e = .returned (.int .i64 0) ∧ ∃ tag'', Ps tag'' w' b false B (2 + 2 * (i + 1)) ∧ Mv tag' V tag'' w') := fun B c f l V tag' tx ps => by
        have := ps.wr (by omega) 0 s hs9
        rw [tx.wr0 s, show 3 + 2 * i + 1 = 2 + 2 * (i + 1) by omega] at this
        exact this
      have hfs : f.size + s.size ≤ 9223372036854775807 := by omega
      have hls : l.size + s.size ≤ 9223372036854775807 := by omega
      have hfz : Hid ((f ++ s).size ≤ 9 * (i + 1) ∧ (l ++ s).size ≤ 9 * (i + 1)) := ⟨by rw [Ar.size_cat]; omega, by rw [Ar.size_cat]; omega⟩
      have hkp : Kp [] w wr := mv.kp (fun _ _ => rfl)
      have HT : Hid (∀ V, Kp [] w V → ∃ b2 off, ao = some ⟨b2, off, none⟩ ∧ V.cell? ⟨b2, off + i, none⟩ = some (.string (F i))) := fun V kV => (HIN.out.kept kV).at' i lt1
      clear hs
      rcases Nat.lt_trichotomy i k with h3 | h3 | h3
      · -- ahead of the comment
        have b3 : ((i : Int) == (k : Int)) = false := beq_false_of_ne (by omega)
        have b4 : decide ((i : Int) < (k : Int)) = true := decide_eq_true (by omega)
        have hc0 : decide (k < i) = false := decide_eq_false (by omega)
        have hc1 : Hid (decide (k < i + 1) = false) := decide_eq_false (by omega)
        rw [hc0] at tx
        clear hc0
        obtain ⟨b2, off, rfl, hcl⟩ := HT.out wr hkp
        have HW1 := HW.out A _ _ _ wr tag tx ps
        clear HW
        go_wp2_with (first | (go_at_call 25; refine (HH.out _).mono ?_; rintro e w9 ⟨rfl, hw⟩; have hw2 := hw.symm; clear hw; subst hw2) | (go_at_call 26; refine (HZ.out _ _ _ _ _ _ tx1 p1).mono ?_; rintro e w2 ⟨rfl, tag2, p2, m2⟩) | (go_at_call 26; refine HW1.mono ?_; rintro e w1 ⟨rfl, B1, tag1, tx1, p1, m1⟩))
        go_roundw
        case rel => exact ⟨i + 1, _, _, rfl, rfl, by go_num, by omega, by omega, B1, tag2, by rw [hc1.out]; exact tx1, p2, (mv.trans m1).trans m2, hfz.out.1, by omega⟩
        case measure => simp [intOf]; omega
      · -- the comment is placed
        subst h3
        have b3 : ((i : Int) == (i : Int)) = true := beq_iff_eq.2 rfl
        have b4 : decide ((i : Int) < (i : Int)) = false := decide_eq_false (by omega)
        have hc0 : decide (i < i) = false := decide_eq_false (by omega)
        have hc1 : Hid (decide (i < i + 1) = true) := decide_eq_true (by omega)
        rw [hc0] at tx
        clear hc0
        obtain ⟨e1, t1⟩ := tx.place
        have HP := ps.app 1 2
        rw [e1] at HP
        clear e1
        generalize (A.appF 1 2).1 = B at t1 HP
        have HL : Hid (∀ V tag', Ps tag' V b false B (2 + 2 * i) → Kp [] wr V → ∃ b2 off, ao = some ⟨b2, off, none⟩ ∧ V.cell? ⟨b2, off + i, none⟩ = some (.string (F i))) := fun V tag' _ kV => HT.out V (hkp.trans kV (fun x hx => Or.inl hx))
        obtain ⟨b2, off, rfl, hcl0⟩ := HT.out wr hkp
        clear hcl0
        have HCL : Hid (∀ V, Mv tag wr tag V → V.cell? ⟨b2, off + i, none⟩ = some (.string (F i))) := fun V mV => by
          obtain ⟨b2', off', e, hh⟩ := HT.out V ((mv.trans mV).kp (fun _ _ => rfl))
          simp only [Option.some.injEq, Addr.mk.injEq] at e
          obtain ⟨rfl, rfl, _⟩ := e
          exact hh
        have HW1 := fun V p => HW.out B _ _ _ V tag t1 p
        have HW2 : Hid _ := HW1
        clear HW HW1
        go_wp2_with (first | (go_at_call 23; refine HP.mono ?_; rintro e w0 ⟨rfl, p0, m0⟩; have hcl := HCL.out _ m0) | (go_at_call 25; refine (HH.out _).mono ?_; rintro e w9 ⟨rfl, hw⟩; have hw2 := hw.symm; clear hw; subst hw2) | (go_at_call 26; refine (HZ.out _ _ _ _ _ _ tx1 p1).mono ?_; rintro e w2 ⟨rfl, tag2, p2, m2⟩) | (go_at_call 26; refine (HW2.out _ p0).mono ?_; rintro e w1 ⟨rfl, B1, tag1, tx1, p1, m1⟩))
        go_roundw
        case rel => exact ⟨i + 1, _, _, rfl, rfl, by go_num, by omega, by omega, B1, tag2, by rw [hc1.out]; exact tx1, p2, ((mv.trans m0).trans m1).trans m2, by omega, hfz.out.2⟩
        case measure => simp [intOf]; omega
      · -- behind it
        have b3 : ((i : Int) == (k : Int)) = false := beq_false_of_ne (by omega)
        have b4 : decide ((i : Int) < (k : Int)) = false := decide_eq_false (by omega)
        have hc0 : decide (k < i) = true := decide_eq_true (by omega)
        have hc1 : Hid (decide (k < i + 1) = true) := decide_eq_true (by omega)
        rw [hc0] at tx
        clear hc0
        obtain ⟨b2, off, rfl, hcl⟩ := HT.out wr hkp
        have HW1 := HW.out A _ _ _ wr tag tx ps
        clear HW
        go_wp2_with (first | (go_at_call 25; refine (HH.out _).mono ?_; rintro e w9 ⟨rfl, hw⟩; have hw2 := hw.symm; clear hw; subst hw2) | (go_at_call 26; refine (HZ.out _ _ _ _ _ _ tx1 p1).mono ?_; rintro e w2 ⟨rfl, tag2, p2, m2⟩) | (go_at_call 26; refine HW1.mono ?_; rintro e w1 ⟨rfl, B1, tag1, tx1, p1, m1⟩))
        go_roundw
        case rel => exact ⟨i + 1, _, _, rfl, rfl, by go_num, by omega, by omega, B1, tag2, by rw [hc1.out]; exact tx1, p2, (mv.trans m1).trans m2, by omega, hfz.out.2⟩
        case measure => simp [intOf]; omega
    · have hA0 : 0 < A.n := by have := tx.n3; omega
      have HP := ps.pure 0 hA0
      rw [tx.below] at HP
      have kw : Kp [] w wr := mv.kp (fun _ _ => rfl)
      generalize A.lb 0 = L0 at HP
      generalize A.lb 1 = L1 at HP
      unfold wv at HP
      clear tx ps mv HIN
      obtain ⟨wr0, rfl⟩ : ∃ x, x = wr := ⟨_, rfl⟩
      by_cases hin : i < n
      · have h10 : ¬ i < 10 := fun hx => hlt ⟨hin, hx⟩
        have b1 : decide ((i : Int) < (n : Int)) = true := decide_eq_true (by omega)
        have b2 : decide ((i : Int) < 10) = false := decide_eq_false (by omega)
        have hkn : k < n := by omega
        have b5 : decide ((k : Int) < (n : Int)) = true := decide_eq_true (by omega)
        by_cases hk9 : k < 10
        · skip
          have b6 : decide ((k : Int) < 10) = true := decide_eq_true (by omega)
          have hC : decide (k < i) = true := decide_eq_true (by omega)
          by_cases z1 : f.size = 0
          · by_cases z2 : l.size = 0
            · have hf0 : f.toList.isEmpty = true := emp_yes z1
              have hl0 : l.toList.isEmpty = true := emp_yes z2
              have hM : Ar.wantT f true l = [Ar.cL] := by unfold Ar.wantT Ar.tO; rw [if_pos z1, if_pos z2]; rfl
              rw [hC, hM] at HP
              clear hM hC
              go_upto_region 23 with (go_at_call 20; refine HP.mono ?_; rintro e w1 ⟨⟨⟨a1, a2, a3⟩, ⟨k1, k2, kc⟩⟩, rfl, kp1, nd⟩; refine Hid.out ?_)
              unfold Hid
              obtain ⟨hp1, kb, ko, ⟨po, pn, pc⟩, hp2, c5, hlen, hcs⟩ := tx_tree nd
              simp only at hp1 hp2 c5 hlen hcs
              subst hp1 hp2
              replace hlen : pn = 1 := hlen
              subst hlen
              obtain ⟨g9, hg9⟩ : ∃ g, w1.heap.size = g := ⟨_, rfl⟩
              obtain ⟨V0, hV0⟩ : ∃ V, V = w1.alloc (.cells #[.int .i64 L0.kind, .int .i64 L0.ns, .string L0.name, .slice a1 a2 a3, .string L0.text, .slice (some ⟨kb, ko, none⟩) 1 kc] 42) := ⟨_, rfl⟩
              have kV : Kp [] w1 V0 := by rw [hV0]; exact (Kp.refl _ _).alloc _
              have T9 : At V0 g9 #[.int .i64 L0.kind, .int .i64 L0.ns, .string L0.name, .slice a1 a2 a3, .string L0.text, .slice (some ⟨kb, ko, none⟩) 1 kc] 42 := by rw [hV0, ← hg9]; exact At.new _ _ _
              have HV0 : Hid (w1.alloc (.cells #[.int .i64 L0.kind, .int .i64 L0.ns, .string L0.name, .slice a1 a2 a3, .string L0.text, .slice (some ⟨kb, ko, none⟩) 1 kc] 42) = V0) := hV0.symm
              clear hV0
              have M0 := Made.nil V0 9
              obtain ⟨o1, n1, c1, V1, run1, M1⟩ := M0.one Try.underlying53 infoS1 rfl (by decide) (.string (⟨#[99]⟩ : ByteArray)) rfl (by simp)
              obtain rfl : n1 = 1 := by have := M1.rb.len; simpa using this
              have kM := M1.2.1
              have kE : Kp [] w V1 := ((kw.trans kp1 (fun x hx => Or.inl hx)).trans kV (fun x hx => Or.inl hx)).trans kM (fun x hx => Or.inl hx)
              have hkb := block_lt_of_cell c5
              have hcm : V1.cell? ⟨kb, ko + 5, none⟩ = some (.slice po 1 pc) := by rw [kM.cell (a := ⟨kb, ko + 5, none⟩) (Nat.lt_of_lt_of_le hkb kV.size) (by simp), kV.cell (a := ⟨kb, ko + 5, none⟩) hkb (by simp)]; exact c5
              have T9m := T9.kept kM (by simp)
              have t5 : V1.cell? ⟨g9, 5, none⟩ = some (.slice (some ⟨kb, ko, none⟩) 1 kc) := T9m.cell 5
              have HZ5 : Hid (∀ V, Kp [] V1 V → V.cell? ⟨g9, 5, none⟩ = some (.slice (some ⟨kb, ko, none⟩) 1 kc) ∧ V.cell? ⟨kb, ko + 5, none⟩ = some (.slice po 1 pc)) := fun V k => ⟨(k.cell (a := ⟨g9, 5, none⟩) T9m.lt (by simp)).trans t5, (k.cell (a := ⟨kb, ko + 5, none⟩) (block_lt_of_cell hcm) (by simp)).trans hcm⟩
              have HKn : Hid (∀ V, Calls Try.prog 13 #[] V fun e w9 => e = .returned (.bool true) ∧ Kp [] V w9) := known_any
              have RW : Hid (Rb V1 o1 1 c1 (tv [Ar.cL])) := M1.rb
              have HJ : Hid (∀ j (hj : j < 1) V, Kp [] V1 V → ∃ kb2 ko2 b7 o7 tj, po = some ⟨kb2, ko2, none⟩ ∧ o1 = some ⟨b7, o7, none⟩ ∧ V.cell? ⟨kb2, ko2 + j * 6 + 4, none⟩ = some (.string tj) ∧ V.cell? ⟨b7, o7 + j, none⟩ = some (.string tj)) := fun j hj V k => by
                obtain ⟨kb2, ko2, g1, g2⟩ := hcs j hj
                obtain ⟨b7, o7, g3, g4⟩ := RW.out.tv_at j hj
                have hq := block_lt_of_cell g2
                refine ⟨kb2, ko2, b7, o7, ([Ar.cL] : List Lb)[j].text, g1, g3, ?_, ?_⟩
                · exact ((k.cell (a := ⟨kb2, ko2 + j * 6 + 4, none⟩) (Nat.lt_of_lt_of_le hq (Nat.le_trans kV.size kM.size)) (by simp)).trans ((kM.cell (a := ⟨kb2, ko2 + j * 6 + 4, none⟩) (Nat.lt_of_lt_of_le hq kV.size) (by simp)).trans (kV.cell (a := ⟨kb2, ko2 + j * 6 + 4, none⟩) hq (by simp)))).trans g2
                · exact (k.cell (a := ⟨b7, o7 + j, none⟩) (block_lt_of_cell g4) (by simp)).trans g4
              clear nd hcs c5 kV kp1 M0 kM T9 kw HP M1
              go_upto_region 24 with fail
              rw [HV0.out]
              clear HV0
              clear hf hl hlt hA0 z1 z2 hi hiL
              go_upto_region 26 with fail
              go_upto_region 28 with (at_builtin; refine Lib.wpList_append_run _ rfl _ _ _ _ rfl _ _ rfl rfl _ _ (run1 _) ?_)
              clear run1
              go_upto_region 30 with fail
              go_wp2_with fail
              clear t5 hcm hkb T9m
              go_loopw [18] (fun x18 wr => ∃ j : Nat, x18 = .int .i64 (j : Int) ∧ j ≤ 1 ∧ Kp [] V1 wr) (fun x18 _ => 1 - (intOf x18).toNat)
              case atStart => exact ⟨0, rfl, Nat.zero_le _, Kp.refl _ _⟩
              case round =>
                obtain ⟨j, rfl, hj, kj⟩ := hrel
                by_cases hjm : j < 1
                · obtain ⟨kb2, ko2, b7, o7, tj, rfl, rfl, g2, g4⟩ := HJ.out j hjm wr kj
                  obtain ⟨y1, y2⟩ := HZ5.out wr kj
                  have bj : decide ((j : Int) < 1) = true := decide_eq_true (by omega)
                  have j1 : (0 : Int) ≤ (j : Int) := by omega
                  have j2 : (j : Int) < 1 := by omega
                  have hS35 : (World.drew wr).cell? ⟨g9, 5, none⟩ = some (.slice (some ⟨kb, ko, none⟩) 1 kc) ∧ (World.drew wr).cell? ⟨kb, ko + 5, none⟩ = some (.slice (some ⟨kb2, ko2, none⟩) 1 pc) ∧ (World.drew wr).cell? ⟨kb2, ko2 + j * 6 + 4, none⟩ = some (.string tj) ∧ (World.drew wr).cell? ⟨b7, o7 + j, none⟩ = some (.string tj) := ⟨y1, y2, g2, g4⟩
                  go_wp2_with fail
                  refine wp_region_g (S := fun V => V.cell? ⟨g9, 5, none⟩ = some (.slice (some ⟨kb, ko, none⟩) 1 kc) ∧ V.cell? ⟨kb, ko + 5, none⟩ = some (.slice (some ⟨kb2, ko2, none⟩) 1 pc) ∧ V.cell? ⟨kb2, ko2 + j * 6 + 4, none⟩ = some (.string tj) ∧ V.cell? ⟨b7, o7 + j, none⟩ = some (.string tj)) (T := []) (by kernel_rfl) hS35 (fun hHeld => ?_)
                  refine wpAnyG_pure (i := 0) (oi := { dst := some 142, op := Go.Op.fieldAddr 42 (Go.Operand.tmp 15) 5, type := 0, pos := "law.go:279", after := #[], guard := none }) (v := ?_) rfl (by kernel_rfl) (by kernel_rfl) (by kernel_rfl) (by kernel_rfl) (fun _ _ _ h => h) (Or.inl ⟨by rfl, ?_⟩) (by assumption) ?_
                  rotate_left
                  · (intro w; go_simp; try with_reducible rfl)
                  simp only [Act.put, List.setIfInBounds_toArray, List.set_cons_zero, List.set_cons_succ]
                  refine wpAnyG_take (i := 1) (oi := { dst := some 143, op := Go.Op.load 40 (Go.Operand.tmp 142), type := 40, pos := "law.go:279", after := #[{ on := 0, ground := Go.Ground.data }], guard := none }) (v := ?_) rfl (by kernel_rfl) (by kernel_rfl) (by kernel_rfl) (by kernel_rfl) (fun _ _ _ h => h) (Or.inl ⟨by rfl, ?_⟩) (by assumption) ?_
                  rotate_left
                  · (intro w hSw; (obtain ⟨q1, q2, q3, q4⟩ := hSw); go_simp; try with_reducible rfl)
                  simp only [Act.put, List.setIfInBounds_toArray, List.set_cons_zero, List.set_cons_succ]
                  refine wpAnyG_pure (i := 2) (oi := { dst := some 144, op := Go.Op.indexAddr 40 (Go.Operand.tmp 143) (Go.Operand.const (Go.Value.int Go.IntKind.i64 0)), type := 0, pos := "law.go:279", after := #[{ on := 1, ground := Go.Ground.data }], guard := none }) (v := ?_) rfl (by kernel_rfl) (by kernel_rfl) (by kernel_rfl) (by kernel_rfl) (fun _ _ _ h => h) (Or.inl ⟨by rfl, ?_⟩) (by assumption) ?_
                  rotate_left
                  · (intro w; go_simp; try with_reducible rfl)
                  simp only [Act.put, List.setIfInBounds_toArray, List.set_cons_zero, List.set_cons_succ]
                  refine wpAnyG_pure (i := 3) (oi := { dst := some 145, op := Go.Op.fieldAddr 42 (Go.Operand.tmp 144) 5, type := 0, pos := "law.go:279", after := #[{ on := 2, ground := Go.Ground.data }], guard := none }) (v := ?_) rfl (by kernel_rfl) (by kernel_rfl) (by kernel_rfl) (by kernel_rfl) (fun _ _ _ h => h) (Or.inl ⟨by rfl, ?_⟩) (by assumption) ?_
                  rotate_left
                  · (intro w; go_simp; try with_reducible rfl)
                  simp only [Act.put, List.setIfInBounds_toArray, List.set_cons_zero, List.set_cons_succ]
                  refine wpAnyG_take (i := 4) (oi := { dst := some 146, op := Go.Op.load 40 (Go.Operand.tmp 145), type := 40, pos := "law.go:279", after := #[{ on := 3, ground := Go.Ground.data }], guard := none }) (v := ?_) rfl (by kernel_rfl) (by kernel_rfl) (by kernel_rfl) (by kernel_rfl) (fun _ _ _ h => h) (Or.inl ⟨by rfl, ?_⟩) (by assumption) ?_
                  rotate_left
                  · (intro w hSw; (obtain ⟨q1, q2, q3, q4⟩ := hSw); go_simp; try with_reducible rfl)
                  simp only [Act.put, List.setIfInBounds_toArray, List.set_cons_zero, List.set_cons_succ]
                  refine wpAnyG_pure (i := 5) (oi := { dst := some 147, op := Go.Op.move (Go.Operand.tmp 18), type := 3, pos := "law.go:279", after := #[], guard := none }) (v := ?_) rfl (by kernel_rfl) (by kernel_rfl) (by kernel_rfl) (by kernel_rfl) (fun _ _ _ h => h) (Or.inl ⟨by rfl, ?_⟩) (by assumption) ?_
                  rotate_left
                  · (intro w; go_simp; try with_reducible rfl)
                  simp only [Act.put, List.setIfInBounds_toArray, List.set_cons_zero, List.set_cons_succ]
                  refine wpAnyG_pure (i := 6) (oi := { dst := some 148, op := Go.Op.indexAddr 40 (Go.Operand.tmp 146) (Go.Operand.tmp 147), type := 0, pos := "law.go:279", after := #[{ on := 4, ground := Go.Ground.data }, { on := 5, ground := Go.Ground.data }], guard := none }) (v := ?_) rfl (by kernel_rfl) (by kernel_rfl) (by kernel_rfl) (by kernel_rfl) (fun _ _ _ h => h) (Or.inl ⟨by rfl, ?_⟩) (by assumption) ?_
                  rotate_left
                  · (intro w; go_simp; try with_reducible rfl)
                  simp only [Act.put, List.setIfInBounds_toArray, List.set_cons_zero, List.set_cons_succ]
                  refine wpAnyG_pure (i := 7) (oi := { dst := some 149, op := Go.Op.fieldAddr 42 (Go.Operand.tmp 148) 4, type := 0, pos := "law.go:279", after := #[{ on := 6, ground := Go.Ground.data }], guard := none }) (v := ?_) rfl (by kernel_rfl) (by kernel_rfl) (by kernel_rfl) (by kernel_rfl) (fun _ _ _ h => h) (Or.inl ⟨by rfl, ?_⟩) (by assumption) ?_
                  rotate_left
                  · (intro w; go_simp; try with_reducible rfl)
                  simp only [Act.put, List.setIfInBounds_toArray, List.set_cons_zero, List.set_cons_succ]
                  refine wpAnyG_take (i := 8) (oi := { dst := some 150, op := Go.Op.load 9 (Go.Operand.tmp 149), type := 9, pos := "law.go:279", after := #[{ on := 7, ground := Go.Ground.data }], guard := none }) (v := ?_) rfl (by kernel_rfl) (by kernel_rfl) (by kernel_rfl) (by kernel_rfl) (fun _ _ _ h => h) (Or.inl ⟨by rfl, ?_⟩) (by assumption) ?_
                  rotate_left
                  · (intro w hSw; (obtain ⟨q1, q2, q3, q4⟩ := hSw); go_simp; try with_reducible rfl)
                  simp only [Act.put, List.setIfInBounds_toArray, List.set_cons_zero, List.set_cons_succ]
                  refine wpAnyG_pure (i := 9) (oi := { dst := some 151, op := Go.Op.move (Go.Operand.tmp 17), type := 53, pos := "law.go:279", after := #[], guard := none }) (v := ?_) rfl (by kernel_rfl) (by kernel_rfl) (by kernel_rfl) (by kernel_rfl) (fun _ _ _ h => h) (Or.inl ⟨by rfl, ?_⟩) (by assumption) ?_
                  rotate_left
                  · (intro w; go_simp; try with_reducible rfl)
                  simp only [Act.put, List.setIfInBounds_toArray, List.set_cons_zero, List.set_cons_succ]
                  refine wpAnyG_pure (i := 10) (oi := { dst := some 152, op := Go.Op.move (Go.Operand.tmp 18), type := 3, pos := "law.go:279", after := #[], guard := none }) (v := ?_) rfl (by kernel_rfl) (by kernel_rfl) (by kernel_rfl) (by kernel_rfl) (fun _ _ _ h => h) (Or.inl ⟨by rfl, ?_⟩) (by assumption) ?_
                  rotate_left
                  · (intro w; go_simp; try with_reducible rfl)
                  simp only [Act.put, List.setIfInBounds_toArray, List.set_cons_zero, List.set_cons_succ]
                  refine wpAnyG_pure (i := 11) (oi := { dst := some 153, op := Go.Op.indexAddr 53 (Go.Operand.tmp 151) (Go.Operand.tmp 152), type := 0, pos := "law.go:279", after := #[{ on := 9, ground := Go.Ground.data }, { on := 10, ground := Go.Ground.data }], guard := none }) (v := ?_) rfl (by kernel_rfl) (by kernel_rfl) (by kernel_rfl) (by kernel_rfl) (fun _ _ _ h => h) (Or.inl ⟨by rfl, ?_⟩) (by assumption) ?_
                  rotate_left
                  · (intro w; go_simp; try with_reducible rfl)
                  simp only [Act.put, List.setIfInBounds_toArray, List.set_cons_zero, List.set_cons_succ]
                  refine wpAnyG_take (i := 12) (oi := { dst := some 154, op := Go.Op.load 9 (Go.Operand.tmp 153), type := 9, pos := "law.go:279", after := #[{ on := 11, ground := Go.Ground.data }], guard := none }) (v := ?_) rfl (by kernel_rfl) (by kernel_rfl) (by kernel_rfl) (by kernel_rfl) (fun _ _ _ h => h) (Or.inl ⟨by rfl, ?_⟩) (by assumption) ?_
                  rotate_left
                  · (intro w hSw; (obtain ⟨q1, q2, q3, q4⟩ := hSw); go_simp; try with_reducible rfl)
                  simp only [Act.put, List.setIfInBounds_toArray, List.set_cons_zero, List.set_cons_succ]
                  refine wpAnyG_pure (i := 13) (oi := { dst := some 155, op := Go.Op.binOp Go.BinOp.neq 9 (Go.Operand.tmp 150) (Go.Operand.tmp 154) 9, type := 4, pos := "law.go:279", after := #[{ on := 8, ground := Go.Ground.data }, { on := 12, ground := Go.Ground.data }], guard := none }) (v := ?_) rfl (by kernel_rfl) (by kernel_rfl) (by kernel_rfl) (by kernel_rfl) (fun _ _ _ h => h) (Or.inl ⟨by rfl, ?_⟩) (by assumption) ?_
                  rotate_left
                  · (intro w; go_simp; try with_reducible rfl)
                  simp only [Act.put, List.setIfInBounds_toArray, List.set_cons_zero, List.set_cons_succ]
                  refine wpAnyG_free (by kernel_rfl) ?_
                  refine wpAny_done (by kernel_rfl) ?_ _
                  go_wp2_with fail
                  go_roundw
                  case rel => exact ⟨j + 1, by go_num, by omega, kj.drew⟩
                  case measure => simp [intOf]; omega
                · have b7 : decide ((j : Int) < 1) = false := decide_eq_false (by omega)
                  go_wp2_with (go_at_call 13; refine (HKn.out _).mono ?_; rintro e w8 ⟨rfl, k8⟩)
                  go_ret
                  exact ⟨rfl, (kE.trans kj (fun x hx => Or.inl hx)).trans k8 (fun x hx => Or.inl hx)⟩
            · have hf0 : f.toList.isEmpty = true := emp_yes z1
              have hl0 : l.toList.isEmpty = false := ne_empty z2
              have hM : Ar.wantT f true l = [Ar.cL, (Ar.tL l)] := by unfold Ar.wantT Ar.tO; rw [if_pos z1, if_neg z2]; rfl
              rw [hC, hM] at HP
              clear hM hC
              go_upto_region 23 with (go_at_call 20; refine HP.mono ?_; rintro e w1 ⟨⟨⟨a1, a2, a3⟩, ⟨k1, k2, kc⟩⟩, rfl, kp1, nd⟩; refine Hid.out ?_)
              unfold Hid
              obtain ⟨hp1, kb, ko, ⟨po, pn, pc⟩, hp2, c5, hlen, hcs⟩ := tx_tree nd
              simp only at hp1 hp2 c5 hlen hcs
              subst hp1 hp2
              replace hlen : pn = 2 := hlen
              subst hlen
              obtain ⟨g9, hg9⟩ : ∃ g, w1.heap.size = g := ⟨_, rfl⟩
              obtain ⟨V0, hV0⟩ : ∃ V, V = w1.alloc (.cells #[.int .i64 L0.kind, .int .i64 L0.ns, .string L0.name, .slice a1 a2 a3, .string L0.text, .slice (some ⟨kb, ko, none⟩) 1 kc] 42) := ⟨_, rfl⟩
              have kV : Kp [] w1 V0 := by rw [hV0]; exact (Kp.refl _ _).alloc _
              have T9 : At V0 g9 #[.int .i64 L0.kind, .int .i64 L0.ns, .string L0.name, .slice a1 a2 a3, .string L0.text, .slice (some ⟨kb, ko, none⟩) 1 kc] 42 := by rw [hV0, ← hg9]; exact At.new _ _ _
              have HV0 : Hid (w1.alloc (.cells #[.int .i64 L0.kind, .int .i64 L0.ns, .string L0.name, .slice a1 a2 a3, .string L0.text, .slice (some ⟨kb, ko, none⟩) 1 kc] 42) = V0) := hV0.symm
              clear hV0
              have M0 := Made.nil V0 9
              obtain ⟨o1, n1, c1, V1, run1, M1⟩ := M0.one Try.underlying53 infoS1 rfl (by decide) (.string (⟨#[99]⟩ : ByteArray)) rfl (by simp)
              obtain rfl : n1 = 1 := by have := M1.rb.len; simpa using this
              obtain ⟨o2, n2, c2, V2, run2, M2⟩ := M1.one Try.underlying53 infoS1 rfl (by decide) (.string l) rfl (by simp)
              obtain rfl : n2 = 2 := by have := M2.rb.len; simpa using this
              have kM := M2.2.1
              have kE : Kp [] w V2 := ((kw.trans kp1 (fun x hx => Or.inl hx)).trans kV (fun x hx => Or.inl hx)).trans kM (fun x hx => Or.inl hx)
              have hkb := block_lt_of_cell c5
              have hcm : V2.cell? ⟨kb, ko + 5, none⟩ = some (.slice po 2 pc) := by rw [kM.cell (a := ⟨kb, ko + 5, none⟩) (Nat.lt_of_lt_of_le hkb kV.size) (by simp), kV.cell (a := ⟨kb, ko + 5, none⟩) hkb (by simp)]; exact c5
              have T9m := T9.kept kM (by simp)
              have t5 : V2.cell? ⟨g9, 5, none⟩ = some (.slice (some ⟨kb, ko, none⟩) 1 kc) := T9m.cell 5
              have HZ5 : Hid (∀ V, Kp [] V2 V → V.cell? ⟨g9, 5, none⟩ = some (.slice (some ⟨kb, ko, none⟩) 1 kc) ∧ V.cell? ⟨kb, ko + 5, none⟩ = some (.slice po 2 pc)) := fun V k => ⟨(k.cell (a := ⟨g9, 5, none⟩) T9m.lt (by simp)).trans t5, (k.cell (a := ⟨kb, ko + 5, none⟩) (block_lt_of_cell hcm) (by simp)).trans hcm⟩
              have HKn : Hid (∀ V, Calls Try.prog 13 #[] V fun e w9 => e = .returned (.bool true) ∧ Kp [] V w9) := known_any
              have RW : Hid (Rb V2 o2 2 c2 (tv [Ar.cL, (Ar.tL l)])) := M2.rb
              have HJ : Hid (∀ j (hj : j < 2) V, Kp [] V2 V → ∃ kb2 ko2 b7 o7 tj, po = some ⟨kb2, ko2, none⟩ ∧ o2 = some ⟨b7, o7, none⟩ ∧ V.cell? ⟨kb2, ko2 + j * 6 + 4, none⟩ = some (.string tj) ∧ V.cell? ⟨b7, o7 + j, none⟩ = some (.string tj)) := fun j hj V k => by
                obtain ⟨kb2, ko2, g1, g2⟩ := hcs j hj
                obtain ⟨b7, o7, g3, g4⟩ := RW.out.tv_at j hj
                have hq := block_lt_of_cell g2
                refine ⟨kb2, ko2, b7, o7, ([Ar.cL, (Ar.tL l)] : List Lb)[j].text, g1, g3, ?_, ?_⟩
                · exact ((k.cell (a := ⟨kb2, ko2 + j * 6 + 4, none⟩) (Nat.lt_of_lt_of_le hq (Nat.le_trans kV.size kM.size)) (by simp)).trans ((kM.cell (a := ⟨kb2, ko2 + j * 6 + 4, none⟩) (Nat.lt_of_lt_of_le hq kV.size) (by simp)).trans (kV.cell (a := ⟨kb2, ko2 + j * 6 + 4, none⟩) hq (by simp)))).trans g2
                · exact (k.cell (a := ⟨b7, o7 + j, none⟩) (block_lt_of_cell g4) (by simp)).trans g4
              clear nd hcs c5 kV kp1 M0 kM T9 kw HP M1 M2
              go_upto_region 24 with fail
              rw [HV0.out]
              clear HV0
              clear hf hl hlt hA0 z1 z2 hi hiL
              go_upto_region 26 with fail
              go_upto_region 28 with (at_builtin; refine Lib.wpList_append_run _ rfl _ _ _ _ rfl _ _ rfl rfl _ _ (run1 _) ?_)
              clear run1
              go_upto_region 30 with (at_builtin; refine Lib.wpList_append_run _ rfl _ _ _ _ rfl _ _ rfl rfl _ _ (run2 _) ?_)
              clear run2
              go_wp2_with fail
              clear t5 hcm hkb T9m
              go_loopw [18] (fun x18 wr => ∃ j : Nat, x18 = .int .i64 (j : Int) ∧ j ≤ 2 ∧ Kp [] V2 wr) (fun x18 _ => 2 - (intOf x18).toNat)
              case atStart => exact ⟨0, rfl, Nat.zero_le _, Kp.refl _ _⟩
              case round =>
                obtain ⟨j, rfl, hj, kj⟩ := hrel
                by_cases hjm : j < 2
                · obtain ⟨kb2, ko2, b7, o7, tj, rfl, rfl, g2, g4⟩ := HJ.out j hjm wr kj
                  obtain ⟨y1, y2⟩ := HZ5.out wr kj
                  have bj : decide ((j : Int) < 2) = true := decide_eq_true (by omega)
                  have j1 : (0 : Int) ≤ (j : Int) := by omega
                  have j2 : (j : Int) < 2 := by omega
                  have hS35 : (World.drew wr).cell? ⟨g9, 5, none⟩ = some (.slice (some ⟨kb, ko, none⟩) 1 kc) ∧ (World.drew wr).cell? ⟨kb, ko + 5, none⟩ = some (.slice (some ⟨kb2, ko2, none⟩) 2 pc) ∧ (World.drew wr).cell? ⟨kb2, ko2 + j * 6 + 4, none⟩ = some (.string tj) ∧ (World.drew wr).cell? ⟨b7, o7 + j, none⟩ = some (.string tj) := ⟨y1, y2, g2, g4⟩
                  go_wp2_with fail
                  refine wp_region_g (S := fun V => V.cell? ⟨g9, 5, none⟩ = some (.slice (some ⟨kb, ko, none⟩) 1 kc) ∧ V.cell? ⟨kb, ko + 5, none⟩ = some (.slice (some ⟨kb2, ko2, none⟩) 2 pc) ∧ V.cell? ⟨kb2, ko2 + j * 6 + 4, none⟩ = some (.string tj) ∧ V.cell? ⟨b7, o7 + j, none⟩ = some (.string tj)) (T := []) (by kernel_rfl) hS35 (fun hHeld => ?_)
                  refine wpAnyG_pure (i := 0) (oi := { dst := some 142, op := Go.Op.fieldAddr 42 (Go.Operand.tmp 15) 5, type := 0, pos := "law.go:279", after := #[], guard := none }) (v := ?_) rfl (by kernel_rfl) (by kernel_rfl) (by kernel_rfl) (by kernel_rfl) (fun _ _ _ h => h) (Or.inl ⟨by rfl, ?_⟩) (by assumption) ?_
                  rotate_left
                  · (intro w; go_simp; try with_reducible rfl)
                  simp only [Act.put, List.setIfInBounds_toArray, List.set_cons_zero, List.set_cons_succ]
                  refine wpAnyG_take (i := 1) (oi := { dst := some 143, op := Go.Op.load 40 (Go.Operand.tmp 142), type := 40, pos := "law.go:279", after := #[{ on := 0, ground := Go.Ground.data }], guard := none }) (v := ?_) rfl (by kernel_rfl) (by kernel_rfl) (by kernel_rfl) (by kernel_rfl) (fun _ _ _ h => h) (Or.inl ⟨by rfl, ?_⟩) (by assumption) ?_
                  rotate_left
                  · (intro w hSw; (obtain ⟨q1, q2, q3, q4⟩ := hSw); go_simp; try with_reducible rfl)
                  simp only [Act.put, List.setIfInBounds_toArray, List.set_cons_zero, List.set_cons_succ]
                  refine wpAnyG_pure (i := 2) (oi := { dst := some 144, op := Go.Op.indexAddr 40 (Go.Operand.tmp 143) (Go.Operand.const (Go.Value.int Go.IntKind.i64 0)), type := 0, pos := "law.go:279", after := #[{ on := 1, ground := Go.Ground.data }], guard := none }) (v := ?_) rfl (by kernel_rfl) (by kernel_rfl) (by kernel_rfl) (by kernel_rfl) (fun _ _ _ h => h) (Or.inl ⟨by rfl, ?_⟩) (by assumption) ?_
                  rotate_left
                  · (intro w; go_simp; try with_reducible rfl)
                  simp only [Act.put, List.setIfInBounds_toArray, List.set_cons_zero, List.set_cons_succ]
                  refine wpAnyG_pure (i := 3) (oi := { dst := some 145, op := Go.Op.fieldAddr 42 (Go.Operand.tmp 144) 5, type := 0, pos := "law.go:279", after := #[{ on := 2, ground := Go.Ground.data }], guard := none }) (v := ?_) rfl (by kernel_rfl) (by kernel_rfl) (by kernel_rfl) (by kernel_rfl) (fun _ _ _ h => h) (Or.inl ⟨by rfl, ?_⟩) (by assumption) ?_
                  rotate_left
                  · (intro w; go_simp; try with_reducible rfl)
                  simp only [Act.put, List.setIfInBounds_toArray, List.set_cons_zero, List.set_cons_succ]
                  refine wpAnyG_take (i := 4) (oi := { dst := some 146, op := Go.Op.load 40 (Go.Operand.tmp 145), type := 40, pos := "law.go:279", after := #[{ on := 3, ground := Go.Ground.data }], guard := none }) (v := ?_) rfl (by kernel_rfl) (by kernel_rfl) (by kernel_rfl) (by kernel_rfl) (fun _ _ _ h => h) (Or.inl ⟨by rfl, ?_⟩) (by assumption) ?_
                  rotate_left
                  · (intro w hSw; (obtain ⟨q1, q2, q3, q4⟩ := hSw); go_simp; try with_reducible rfl)
                  simp only [Act.put, List.setIfInBounds_toArray, List.set_cons_zero, List.set_cons_succ]
                  refine wpAnyG_pure (i := 5) (oi := { dst := some 147, op := Go.Op.move (Go.Operand.tmp 18), type := 3, pos := "law.go:279", after := #[], guard := none }) (v := ?_) rfl (by kernel_rfl) (by kernel_rfl) (by kernel_rfl) (by kernel_rfl) (fun _ _ _ h => h) (Or.inl ⟨by rfl, ?_⟩) (by assumption) ?_
                  rotate_left
                  · (intro w; go_simp; try with_reducible rfl)
                  simp only [Act.put, List.setIfInBounds_toArray, List.set_cons_zero, List.set_cons_succ]
                  refine wpAnyG_pure (i := 6) (oi := { dst := some 148, op := Go.Op.indexAddr 40 (Go.Operand.tmp 146) (Go.Operand.tmp 147), type := 0, pos := "law.go:279", after := #[{ on := 4, ground := Go.Ground.data }, { on := 5, ground := Go.Ground.data }], guard := none }) (v := ?_) rfl (by kernel_rfl) (by kernel_rfl) (by kernel_rfl) (by kernel_rfl) (fun _ _ _ h => h) (Or.inl ⟨by rfl, ?_⟩) (by assumption) ?_
                  rotate_left
                  · (intro w; go_simp; try with_reducible rfl)
                  simp only [Act.put, List.setIfInBounds_toArray, List.set_cons_zero, List.set_cons_succ]
                  refine wpAnyG_pure (i := 7) (oi := { dst := some 149, op := Go.Op.fieldAddr 42 (Go.Operand.tmp 148) 4, type := 0, pos := "law.go:279", after := #[{ on := 6, ground := Go.Ground.data }], guard := none }) (v := ?_) rfl (by kernel_rfl) (by kernel_rfl) (by kernel_rfl) (by kernel_rfl) (fun _ _ _ h => h) (Or.inl ⟨by rfl, ?_⟩) (by assumption) ?_
                  rotate_left
                  · (intro w; go_simp; try with_reducible rfl)
                  simp only [Act.put, List.setIfInBounds_toArray, List.set_cons_zero, List.set_cons_succ]
                  refine wpAnyG_take (i := 8) (oi := { dst := some 150, op := Go.Op.load 9 (Go.Operand.tmp 149), type := 9, pos := "law.go:279", after := #[{ on := 7, ground := Go.Ground.data }], guard := none }) (v := ?_) rfl (by kernel_rfl) (by kernel_rfl) (by kernel_rfl) (by kernel_rfl) (fun _ _ _ h => h) (Or.inl ⟨by rfl, ?_⟩) (by assumption) ?_
                  rotate_left
                  · (intro w hSw; (obtain ⟨q1, q2, q3, q4⟩ := hSw); go_simp; try with_reducible rfl)
                  simp only [Act.put, List.setIfInBounds_toArray, List.set_cons_zero, List.set_cons_succ]
                  refine wpAnyG_pure (i := 9) (oi := { dst := some 151, op := Go.Op.move (Go.Operand.tmp 17), type := 53, pos := "law.go:279", after := #[], guard := none }) (v := ?_) rfl (by kernel_rfl) (by kernel_rfl) (by kernel_rfl) (by kernel_rfl) (fun _ _ _ h => h) (Or.inl ⟨by rfl, ?_⟩) (by assumption) ?_
                  rotate_left
                  · (intro w; go_simp; try with_reducible rfl)
                  simp only [Act.put, List.setIfInBounds_toArray, List.set_cons_zero, List.set_cons_succ]
                  refine wpAnyG_pure (i := 10) (oi := { dst := some 152, op := Go.Op.move (Go.Operand.tmp 18), type := 3, pos := "law.go:279", after := #[], guard := none }) (v := ?_) rfl (by kernel_rfl) (by kernel_rfl) (by kernel_rfl) (by kernel_rfl) (fun _ _ _ h => h) (Or.inl ⟨by rfl, ?_⟩) (by assumption) ?_
                  rotate_left
                  · (intro w; go_simp; try with_reducible rfl)
                  simp only [Act.put, List.setIfInBounds_toArray, List.set_cons_zero, List.set_cons_succ]
                  refine wpAnyG_pure (i := 11) (oi := { dst := some 153, op := Go.Op.indexAddr 53 (Go.Operand.tmp 151) (Go.Operand.tmp 152), type := 0, pos := "law.go:279", after := #[{ on := 9, ground := Go.Ground.data }, { on := 10, ground := Go.Ground.data }], guard := none }) (v := ?_) rfl (by kernel_rfl) (by kernel_rfl) (by kernel_rfl) (by kernel_rfl) (fun _ _ _ h => h) (Or.inl ⟨by rfl, ?_⟩) (by assumption) ?_
                  rotate_left
                  · (intro w; go_simp; try with_reducible rfl)
                  simp only [Act.put, List.setIfInBounds_toArray, List.set_cons_zero, List.set_cons_succ]
                  refine wpAnyG_take (i := 12) (oi := { dst := some 154, op := Go.Op.load 9 (Go.Operand.tmp 153), type := 9, pos := "law.go:279", after := #[{ on := 11, ground := Go.Ground.data }], guard := none }) (v := ?_) rfl (by kernel_rfl) (by kernel_rfl) (by kernel_rfl) (by kernel_rfl) (fun _ _ _ h => h) (Or.inl ⟨by rfl, ?_⟩) (by assumption) ?_
                  rotate_left
                  · (intro w hSw; (obtain ⟨q1, q2, q3, q4⟩ := hSw); go_simp; try with_reducible rfl)
                  simp only [Act.put, List.setIfInBounds_toArray, List.set_cons_zero, List.set_cons_succ]
                  refine wpAnyG_pure (i := 13) (oi := { dst := some 155, op := Go.Op.binOp Go.BinOp.neq 9 (Go.Operand.tmp 150) (Go.Operand.tmp 154) 9, type := 4, pos := "law.go:279", after := #[{ on := 8, ground := Go.Ground.data }, { on := 12, ground := Go.Ground.data }], guard := none }) (v := ?_) rfl (by kernel_rfl) (by kernel_rfl) (by kernel_rfl) (by kernel_rfl) (fun _ _ _ h => h) (Or.inl ⟨by rfl, ?_⟩) (by assumption) ?_
                  rotate_left
                  · (intro w; go_simp; try with_reducible rfl)
                  simp only [Act.put, List.setIfInBounds_toArray, List.set_cons_zero, List.set_cons_succ]
                  refine wpAnyG_free (by kernel_rfl) ?_
                  refine wpAny_done (by kernel_rfl) ?_ _
                  go_wp2_with fail
                  go_roundw
                  case rel => exact ⟨j + 1, by go_num, by omega, kj.drew⟩
                  case measure => simp [intOf]; omega
                · have b7 : decide ((j : Int) < 2) = false := decide_eq_false (by omega)
                  go_wp2_with (go_at_call 13; refine (HKn.out _).mono ?_; rintro e w8 ⟨rfl, k8⟩)
                  go_ret
                  exact ⟨rfl, (kE.trans kj (fun x hx => Or.inl hx)).trans k8 (fun x hx => Or.inl hx)⟩
          · by_cases z2 : l.size = 0
            · have hf0 : f.toList.isEmpty = false := ne_empty z1
              have hl0 : l.toList.isEmpty = true := emp_yes z2
              have hM : Ar.wantT f true l = [(Ar.tL f), Ar.cL] := by unfold Ar.wantT Ar.tO; rw [if_neg z1, if_pos z2]; rfl
              rw [hC, hM] at HP
              clear hM hC
              go_upto_region 23 with (go_at_call 20; refine HP.mono ?_; rintro e w1 ⟨⟨⟨a1, a2, a3⟩, ⟨k1, k2, kc⟩⟩, rfl, kp1, nd⟩; refine Hid.out ?_)
              unfold Hid
              obtain ⟨hp1, kb, ko, ⟨po, pn, pc⟩, hp2, c5, hlen, hcs⟩ := tx_tree nd
              simp only at hp1 hp2 c5 hlen hcs
              subst hp1 hp2
              replace hlen : pn = 2 := hlen
              subst hlen
              obtain ⟨g9, hg9⟩ : ∃ g, w1.heap.size = g := ⟨_, rfl⟩
              obtain ⟨V0, hV0⟩ : ∃ V, V = w1.alloc (.cells #[.int .i64 L0.kind, .int .i64 L0.ns, .string L0.name, .slice a1 a2 a3, .string L0.text, .slice (some ⟨kb, ko, none⟩) 1 kc] 42) := ⟨_, rfl⟩
              have kV : Kp [] w1 V0 := by rw [hV0]; exact (Kp.refl _ _).alloc _
              have T9 : At V0 g9 #[.int .i64 L0.kind, .int .i64 L0.ns, .string L0.name, .slice a1 a2 a3, .string L0.text, .slice (some ⟨kb, ko, none⟩) 1 kc] 42 := by rw [hV0, ← hg9]; exact At.new _ _ _
              have HV0 : Hid (w1.alloc (.cells #[.int .i64 L0.kind, .int .i64 L0.ns, .string L0.name, .slice a1 a2 a3, .string L0.text, .slice (some ⟨kb, ko, none⟩) 1 kc] 42) = V0) := hV0.symm
              clear hV0
              have M0 := Made.nil V0 9
              obtain ⟨o1, n1, c1, V1, run1, M1⟩ := M0.one Try.underlying53 infoS1 rfl (by decide) (.string f) rfl (by simp)
              obtain rfl : n1 = 1 := by have := M1.rb.len; simpa using this
              obtain ⟨o2, n2, c2, V2, run2, M2⟩ := M1.one Try.underlying53 infoS1 rfl (by decide) (.string (⟨#[99]⟩ : ByteArray)) rfl (by simp)
              obtain rfl : n2 = 2 := by have := M2.rb.len; simpa using this
              have kM := M2.2.1
              have kE : Kp [] w V2 := ((kw.trans kp1 (fun x hx => Or.inl hx)).trans kV (fun x hx => Or.inl hx)).trans kM (fun x hx => Or.inl hx)
              have hkb := block_lt_of_cell c5
              have hcm : V2.cell? ⟨kb, ko + 5, none⟩ = some (.slice po 2 pc) := by rw [kM.cell (a := ⟨kb, ko + 5, none⟩) (Nat.lt_of_lt_of_le hkb kV.size) (by simp), kV.cell (a := ⟨kb, ko + 5, none⟩) hkb (by simp)]; exact c5
              have T9m := T9.kept kM (by simp)
              have t5 : V2.cell? ⟨g9, 5, none⟩ = some (.slice (some ⟨kb, ko, none⟩) 1 kc) := T9m.cell 5
              have HZ5 : Hid (∀ V, Kp [] V2 V → V.cell? ⟨g9, 5, none⟩ = some (.slice (some ⟨kb, ko, none⟩) 1 kc) ∧ V.cell? ⟨kb, ko + 5, none⟩ = some (.slice po 2 pc)) := fun V k => ⟨(k.cell (a := ⟨g9, 5, none⟩) T9m.lt (by simp)).trans t5, (k.cell (a := ⟨kb, ko + 5, none⟩) (block_lt_of_cell hcm) (by simp)).trans hcm⟩
              have HKn : Hid (∀ V, Calls Try.prog 13 #[] V fun e w9 => e = .returned (.bool true) ∧ Kp [] V w9) := known_any
              have RW : Hid (Rb V2 o2 2 c2 (tv [(Ar.tL f), Ar.cL])) := M2.rb
              have HJ : Hid (∀ j (hj : j < 2) V, Kp [] V2 V → ∃ kb2 ko2 b7 o7 tj, po = some ⟨kb2, ko2, none⟩ ∧ o2 = some ⟨b7, o7, none⟩ ∧ V.cell? ⟨kb2, ko2 + j * 6 + 4, none⟩ = some (.string tj) ∧ V.cell? ⟨b7, o7 + j, none⟩ = some (.string tj)) := fun j hj V k => by
                obtain ⟨kb2, ko2, g1, g2⟩ := hcs j hj
                obtain ⟨b7, o7, g3, g4⟩ := RW.out.tv_at j hj
                have hq := block_lt_of_cell g2
                refine ⟨kb2, ko2, b7, o7, ([(Ar.tL f), Ar.cL] : List Lb)[j].text, g1, g3, ?_, ?_⟩
                · exact ((k.cell (a := ⟨kb2, ko2 + j * 6 + 4, none⟩) (Nat.lt_of_lt_of_le hq (Nat.le_trans kV.size kM.size)) (by simp)).trans ((kM.cell (a := ⟨kb2, ko2 + j * 6 + 4, none⟩) (Nat.lt_of_lt_of_le hq kV.size) (by simp)).trans (kV.cell (a := ⟨kb2, ko2 + j * 6 + 4, none⟩) hq (by simp)))).trans g2
                · exact (k.cell (a := ⟨b7, o7 + j, none⟩) (block_lt_of_cell g4) (by simp)).trans g4
              clear nd hcs c5 kV kp1 M0 kM T9 kw HP M1 M2
              go_upto_region 24 with fail
              rw [HV0.out]
              clear HV0
              clear hf hl hlt hA0 z1 z2 hi hiL
              go_upto_region 26 with (at_builtin; refine Lib.wpList_append_run _ rfl _ _ _ _ rfl _ _ rfl rfl _ _ (run1 _) ?_)
              clear run1
              go_upto_region 28 with (at_builtin; refine Lib.wpList_append_run _ rfl _ _ _ _ rfl _ _ rfl rfl _ _ (run2 _) ?_)
              clear run2
              go_upto_region 30 with fail
              go_wp2_with fail
              clear t5 hcm hkb T9m
              go_loopw [18] (fun x18 wr => ∃ j : Nat, x18 = .int .i64 (j : Int) ∧ j ≤ 2 ∧ Kp [] V2 wr) (fun x18 _ => 2 - (intOf x18).toNat)
              case atStart => exact ⟨0, rfl, Nat.zero_le _, Kp.refl _ _⟩
              case round =>
                obtain ⟨j, rfl, hj, kj⟩ := hrel
                by_cases hjm : j < 2
                · obtain ⟨kb2, ko2, b7, o7, tj, rfl, rfl, g2, g4⟩ := HJ.out j hjm wr kj
                  obtain ⟨y1, y2⟩ := HZ5.out wr kj
                  have bj : decide ((j : Int) < 2) = true := decide_eq_true (by omega)
                  have j1 : (0 : Int) ≤ (j : Int) := by omega
                  have j2 : (j : Int) < 2 := by omega
                  have hS35 : (World.drew wr).cell? ⟨g9, 5, none⟩ = some (.slice (some ⟨kb, ko, none⟩) 1 kc) ∧ (World.drew wr).cell? ⟨kb, ko + 5, none⟩ = some (.slice (some ⟨kb2, ko2, none⟩) 2 pc) ∧ (World.drew wr).cell? ⟨kb2, ko2 + j * 6 + 4, none⟩ = some (.string tj) ∧ (World.drew wr).cell? ⟨b7, o7 + j, none⟩ = some (.string tj) := ⟨y1, y2, g2, g4⟩
                  go_wp2_with fail
                  refine wp_region_g (S := fun V => V.cell? ⟨g9, 5, none⟩ = some (.slice (some ⟨kb, ko, none⟩) 1 kc) ∧ V.cell? ⟨kb, ko + 5, none⟩ = some (.slice (some ⟨kb2, ko2, none⟩) 2 pc) ∧ V.cell? ⟨kb2, ko2 + j * 6 + 4, none⟩ = some (.string tj) ∧ V.cell? ⟨b7, o7 + j, none⟩ = some (.string tj)) (T := []) (by kernel_rfl) hS35 (fun hHeld => ?_)
                  refine wpAnyG_pure (i := 0) (oi := { dst := some 142, op := Go.Op.fieldAddr 42 (Go.Operand.tmp 15) 5, type := 0, pos := "law.go:279", after := #[], guard := none }) (v := ?_) rfl (by kernel_rfl) (by kernel_rfl) (by kernel_rfl) (by kernel_rfl) (fun _ _ _ h => h) (Or.inl ⟨by rfl, ?_⟩) (by assumption) ?_
                  rotate_left
                  · (intro w; go_simp; try with_reducible rfl)
                  simp only [Act.put, List.setIfInBounds_toArray, List.set_cons_zero, List.set_cons_succ]
                  refine wpAnyG_take (i := 1) (oi := { dst := some 143, op := Go.Op.load 40 (Go.Operand.tmp 142), type := 40, pos := "law.go:279", after := #[{ on := 0, ground := Go.Ground.data }], guard := none }) (v := ?_) rfl (by kernel_rfl) (by kernel_rfl) (by kernel_rfl) (by kernel_rfl) (fun _ _ _ h => h) (Or.inl ⟨by rfl, ?_⟩) (by assumption) ?_
                  rotate_left
                  · (intro w hSw; (obtain ⟨q1, q2, q3, q4⟩ := hSw); go_simp; try with_reducible rfl)
                  simp only [Act.put, List.setIfInBounds_toArray, List.set_cons_zero, List.set_cons_succ]
                  refine wpAnyG_pure (i := 2) (oi := { dst := some 144, op := Go.Op.indexAddr 40 (Go.Operand.tmp 143) (Go.Operand.const (Go.Value.int Go.IntKind.i64 0)), type := 0, pos := "law.go:279", after := #[{ on := 1, ground := Go.Ground.data }], guard := none }) (v := ?_) rfl (by kernel_rfl) (by kernel_rfl) (by kernel_rfl) (by kernel_rfl) (fun _ _ _ h => h) (Or.inl ⟨by rfl, ?_⟩) (by assumption) ?_
                  rotate_left
                  · (intro w; go_simp; try with_reducible rfl)
                  simp only [Act.put, List.setIfInBounds_toArray, List.set_cons_zero, List.set_cons_succ]
                  refine wpAnyG_pure (i := 3) (oi := { dst := some 145, op := Go.Op.fieldAddr 42 (Go.Operand.tmp 144) 5, type := 0, pos := "law.go:279", after := #[{ on := 2, ground := Go.Ground.data }], guard := none }) (v := ?_) rfl (by kernel_rfl) (by kernel_rfl) (by kernel_rfl) (by kernel_rfl) (fun _ _ _ h => h) (Or.inl ⟨by rfl, ?_⟩) (by assumption) ?_
                  rotate_left
                  · (intro w; go_simp; try with_reducible rfl)
                  simp only [Act.put, List.setIfInBounds_toArray, List.set_cons_zero, List.set_cons_succ]
                  refine wpAnyG_take (i := 4) (oi := { dst := some 146, op := Go.Op.load 40 (Go.Operand.tmp 145), type := 40, pos := "law.go:279", after := #[{ on := 3, ground := Go.Ground.data }], guard := none }) (v := ?_) rfl (by kernel_rfl) (by kernel_rfl) (by kernel_rfl) (by kernel_rfl) (fun _ _ _ h => h) (Or.inl ⟨by rfl, ?_⟩) (by assumption) ?_
                  rotate_left
                  · (intro w hSw; (obtain ⟨q1, q2, q3, q4⟩ := hSw); go_simp; try with_reducible rfl)
                  simp only [Act.put, List.setIfInBounds_toArray, List.set_cons_zero, List.set_cons_succ]
                  refine wpAnyG_pure (i := 5) (oi := { dst := some 147, op := Go.Op.move (Go.Operand.tmp 18), type := 3, pos := "law.go:279", after := #[], guard := none }) (v := ?_) rfl (by kernel_rfl) (by kernel_rfl) (by kernel_rfl) (by kernel_rfl) (fun _ _ _ h => h) (Or.inl ⟨by rfl, ?_⟩) (by assumption) ?_
                  rotate_left
                  · (intro w; go_simp; try with_reducible rfl)
                  simp only [Act.put, List.setIfInBounds_toArray, List.set_cons_zero, List.set_cons_succ]
                  refine wpAnyG_pure (i := 6) (oi := { dst := some 148, op := Go.Op.indexAddr 40 (Go.Operand.tmp 146) (Go.Operand.tmp 147), type := 0, pos := "law.go:279", after := #[{ on := 4, ground := Go.Ground.data }, { on := 5, ground := Go.Ground.data }], guard := none }) (v := ?_) rfl (by kernel_rfl) (by kernel_rfl) (by kernel_rfl) (by kernel_rfl) (fun _ _ _ h => h) (Or.inl ⟨by rfl, ?_⟩) (by assumption) ?_
                  rotate_left
                  · (intro w; go_simp; try with_reducible rfl)
                  simp only [Act.put, List.setIfInBounds_toArray, List.set_cons_zero, List.set_cons_succ]
                  refine wpAnyG_pure (i := 7) (oi := { dst := some 149, op := Go.Op.fieldAddr 42 (Go.Operand.tmp 148) 4, type := 0, pos := "law.go:279", after := #[{ on := 6, ground := Go.Ground.data }], guard := none }) (v := ?_) rfl (by kernel_rfl) (by kernel_rfl) (by kernel_rfl) (by kernel_rfl) (fun _ _ _ h => h) (Or.inl ⟨by rfl, ?_⟩) (by assumption) ?_
                  rotate_left
                  · (intro w; go_simp; try with_reducible rfl)
                  simp only [Act.put, List.setIfInBounds_toArray, List.set_cons_zero, List.set_cons_succ]
                  refine wpAnyG_take (i := 8) (oi := { dst := some 150, op := Go.Op.load 9 (Go.Operand.tmp 149), type := 9, pos := "law.go:279", after := #[{ on := 7, ground := Go.Ground.data }], guard := none }) (v := ?_) rfl (by kernel_rfl) (by kernel_rfl) (by kernel_rfl) (by kernel_rfl) (fun _ _ _ h => h) (Or.inl ⟨by rfl, ?_⟩) (by assumption) ?_
                  rotate_left
                  · (intro w hSw; (obtain ⟨q1, q2, q3, q4⟩ := hSw); go_simp; try with_reducible rfl)
                  simp only [Act.put, List.setIfInBounds_toArray, List.set_cons_zero, List.set_cons_succ]
                  refine wpAnyG_pure (i := 9) (oi := { dst := some 151, op := Go.Op.move (Go.Operand.tmp 17), type := 53, pos := "law.go:279", after := #[], guard := none }) (v := ?_) rfl (by kernel_rfl) (by kernel_rfl) (by kernel_rfl) (by kernel_rfl) (fun _ _ _ h => h) (Or.inl ⟨by rfl, ?_⟩) (by assumption) ?_
                  rotate_left
                  · (intro w; go_simp; try with_reducible rfl)
                  simp only [Act.put, List.setIfInBounds_toArray, List.set_cons_zero, List.set_cons_succ]
                  refine wpAnyG_pure (i := 10) (oi := { dst := some 152, op := Go.Op.move (Go.Operand.tmp 18), type := 3, pos := "law.go:279", after := #[], guard := none }) (v := ?_) rfl (by kernel_rfl) (by kernel_rfl) (by kernel_rfl) (by kernel_rfl) (fun _ _ _ h => h) (Or.inl ⟨by rfl, ?_⟩) (by assumption) ?_
                  rotate_left
                  · (intro w; go_simp; try with_reducible rfl)
                  simp only [Act.put, List.setIfInBounds_toArray, List.set_cons_zero, List.set_cons_succ]
                  refine wpAnyG_pure (i := 11) (oi := { dst := some 153, op := Go.Op.indexAddr 53 (Go.Operand.tmp 151) (Go.Operand.tmp 152), type := 0, pos := "law.go:279", after := #[{ on := 9, ground := Go.Ground.data }, { on := 10, ground := Go.Ground.data }], guard := none }) (v := ?_) rfl (by kernel_rfl) (by kernel_rfl) (by kernel_rfl) (by kernel_rfl) (fun _ _ _ h => h) (Or.inl ⟨by rfl, ?_⟩) (by assumption) ?_
                  rotate_left
                  · (intro w; go_simp; try with_reducible rfl)
                  simp only [Act.put, List.setIfInBounds_toArray, List.set_cons_zero, List.set_cons_succ]
                  refine wpAnyG_take (i := 12) (oi := { dst := some 154, op := Go.Op.load 9 (Go.Operand.tmp 153), type := 9, pos := "law.go:279", after := #[{ on := 11, ground := Go.Ground.data }], guard := none }) (v := ?_) rfl (by kernel_rfl) (by kernel_rfl) (by kernel_rfl) (by kernel_rfl) (fun _ _ _ h => h) (Or.inl ⟨by rfl, ?_⟩) (by assumption) ?_
                  rotate_left
                  · (intro w hSw; (obtain ⟨q1, q2, q3, q4⟩ := hSw); go_simp; try with_reducible rfl)
                  simp only [Act.put, List.setIfInBounds_toArray, List.set_cons_zero, List.set_cons_succ]
                  refine wpAnyG_pure (i := 13) (oi := { dst := some 155, op := Go.Op.binOp Go.BinOp.neq 9 (Go.Operand.tmp 150) (Go.Operand.tmp 154) 9, type := 4, pos := "law.go:279", after := #[{ on := 8, ground := Go.Ground.data }, { on := 12, ground := Go.Ground.data }], guard := none }) (v := ?_) rfl (by kernel_rfl) (by kernel_rfl) (by kernel_rfl) (by kernel_rfl) (fun _ _ _ h => h) (Or.inl ⟨by rfl, ?_⟩) (by assumption) ?_
                  rotate_left
                  · (intro w; go_simp; try with_reducible rfl)
                  simp only [Act.put, List.setIfInBounds_toArray, List.set_cons_zero, List.set_cons_succ]
                  refine wpAnyG_free (by kernel_rfl) ?_
                  refine wpAny_done (by kernel_rfl) ?_ _
                  go_wp2_with fail
                  go_roundw
                  case rel => exact ⟨j + 1, by go_num, by omega, kj.drew⟩
                  case measure => simp [intOf]; omega
                · have b7 : decide ((j : Int) < 2) = false := decide_eq_false (by omega)
                  go_wp2_with (go_at_call 13; refine (HKn.out _).mono ?_; rintro e w8 ⟨rfl, k8⟩)
                  go_ret
                  exact ⟨rfl, (kE.trans kj (fun x hx => Or.inl hx)).trans k8 (fun x hx => Or.inl hx)⟩
            · have hf0 : f.toList.isEmpty = false := ne_empty z1
              have hl0 : l.toList.isEmpty = false := ne_empty z2
              have hM : Ar.wantT f true l = [(Ar.tL f), Ar.cL, (Ar.tL l)] := by unfold Ar.wantT Ar.tO; rw [if_neg z1, if_neg z2]; rfl
              rw [hC, hM] at HP
              clear hM hC
              go_upto_region 23 with (go_at_call 20; refine HP.mono ?_; rintro e w1 ⟨⟨⟨a1, a2, a3⟩, ⟨k1, k2, kc⟩⟩, rfl, kp1, nd⟩; refine Hid.out ?_)
              unfold Hid
              obtain ⟨hp1, kb, ko, ⟨po, pn, pc⟩, hp2, c5, hlen, hcs⟩ := tx_tree nd
              simp only at hp1 hp2 c5 hlen hcs
              subst hp1 hp2
              replace hlen : pn = 3 := hlen
              subst hlen
              obtain ⟨g9, hg9⟩ : ∃ g, w1.heap.size = g := ⟨_, rfl⟩
              obtain ⟨V0, hV0⟩ : ∃ V, V = w1.alloc (.cells #[.int .i64 L0.kind, .int .i64 L0.ns, .string L0.name, .slice a1 a2 a3, .string L0.text, .slice (some ⟨kb, ko, none⟩) 1 kc] 42) := ⟨_, rfl⟩
              have kV : Kp [] w1 V0 := by rw [hV0]; exact (Kp.refl _ _).alloc _
              have T9 : At V0 g9 #[.int .i64 L0.kind, .int .i64 L0.ns, .string L0.name, .slice a1 a2 a3, .string L0.text, .slice (some ⟨kb, ko, none⟩) 1 kc] 42 := by rw [hV0, ← hg9]; exact At.new _ _ _
              have HV0 : Hid (w1.alloc (.cells #[.int .i64 L0.kind, .int .i64 L0.ns, .string L0.name, .slice a1 a2 a3, .string L0.text, .slice (some ⟨kb, ko, none⟩) 1 kc] 42) = V0) := hV0.symm
              clear hV0
              have M0 := Made.nil V0 9
              obtain ⟨o1, n1, c1, V1, run1, M1⟩ := M0.one Try.underlying53 infoS1 rfl (by decide) (.string f) rfl (by simp)
              obtain rfl : n1 = 1 := by have := M1.rb.len; simpa using this
              obtain ⟨o2, n2, c2, V2, run2, M2⟩ := M1.one Try.underlying53 infoS1 rfl (by decide) (.string (⟨#[99]⟩ : ByteArray)) rfl (by simp)
              obtain rfl : n2 = 2 := by have := M2.rb.len; simpa using this
              obtain ⟨o3, n3, c3, V3, run3, M3⟩ := M2.one Try.underlying53 infoS1 rfl (by decide) (.string l) rfl (by simp)
              obtain rfl : n3 = 3 := by have := M3.rb.len; simpa using this
              have kM := M3.2.1
              have kE : Kp [] w V3 := ((kw.trans kp1 (fun x hx => Or.inl hx)).trans kV (fun x hx => Or.inl hx)).trans kM (fun x hx => Or.inl hx)
              have hkb := block_lt_of_cell c5
              have hcm : V3.cell? ⟨kb, ko + 5, none⟩ = some (.slice po 3 pc) := by rw [kM.cell (a := ⟨kb, ko + 5, none⟩) (Nat.lt_of_lt_of_le hkb kV.size) (by simp), kV.cell (a := ⟨kb, ko + 5, none⟩) hkb (by simp)]; exact c5
              have T9m := T9.kept kM (by simp)
              have t5 : V3.cell? ⟨g9, 5, none⟩ = some (.slice (some ⟨kb, ko, none⟩) 1 kc) := T9m.cell 5
              have HZ5 : Hid (∀ V, Kp [] V3 V → V.cell? ⟨g9, 5, none⟩ = some (.slice (some ⟨kb, ko, none⟩) 1 kc) ∧ V.cell? ⟨kb, ko + 5, none⟩ = some (.slice po 3 pc)) := fun V k => ⟨(k.cell (a := ⟨g9, 5, none⟩) T9m.lt (by simp)).trans t5, (k.cell (a := ⟨kb, ko + 5, none⟩) (block_lt_of_cell hcm) (by simp)).trans hcm⟩
              have HKn : Hid (∀ V, Calls Try.prog 13 #[] V fun e w9 => e = .returned (.bool true) ∧ Kp [] V w9) := known_any
              have RW : Hid (Rb V3 o3 3 c3 (tv [(Ar.tL f), Ar.cL, (Ar.tL l)])) := M3.rb
              have HJ : Hid (∀ j (hj : j < 3) V, Kp [] V3 V → ∃ kb2 ko2 b7 o7 tj, po = some ⟨kb2, ko2, none⟩ ∧ o3 = some ⟨b7, o7, none⟩ ∧ V.cell? ⟨kb2, ko2 + j * 6 + 4, none⟩ = some (.string tj) ∧ V.cell? ⟨b7, o7 + j, none⟩ = some (.string tj)) := fun j hj V k => by
                obtain ⟨kb2, ko2, g1, g2⟩ := hcs j hj
                obtain ⟨b7, o7, g3, g4⟩ := RW.out.tv_at j hj
                have hq := block_lt_of_cell g2
                refine ⟨kb2, ko2, b7, o7, ([(Ar.tL f), Ar.cL, (Ar.tL l)] : List Lb)[j].text, g1, g3, ?_, ?_⟩
                · exact ((k.cell (a := ⟨kb2, ko2 + j * 6 + 4, none⟩) (Nat.lt_of_lt_of_le hq (Nat.le_trans kV.size kM.size)) (by simp)).trans ((kM.cell (a := ⟨kb2, ko2 + j * 6 + 4, none⟩) (Nat.lt_of_lt_of_le hq kV.size) (by simp)).trans (kV.cell (a := ⟨kb2, ko2 + j * 6 + 4, none⟩) hq (by simp)))).trans g2
                · exact (k.cell (a := ⟨b7, o7 + j, none⟩) (block_lt_of_cell g4) (by simp)).trans g4
              clear nd hcs c5 kV kp1 M0 kM T9 kw HP M1 M2 M3
              go_upto_region 24 with fail
              rw [HV0.out]
              clear HV0
              clear hf hl hlt hA0 z1 z2 hi hiL
              go_upto_region 26 with (at_builtin; refine Lib.wpList_append_run _ rfl _ _ _ _ rfl _ _ rfl rfl _ _ (run1 _) ?_)
              clear run1
              go_upto_region 28 with (at_builtin; refine Lib.wpList_append_run _ rfl _ _ _ _ rfl _ _ rfl rfl _ _ (run2 _) ?_)
              clear run2
              go_upto_region 30 with (at_builtin; refine Lib.wpList_append_run _ rfl _ _ _ _ rfl _ _ rfl rfl _ _ (run3 _) ?_)
              clear run3
              go_wp2_with fail
              clear t5 hcm hkb T9m
              go_loopw [18] (fun x18 wr => ∃ j : Nat, x18 = .int .i64 (j : Int) ∧ j ≤ 3 ∧ Kp [] V3 wr) (fun x18 _ => 3 - (intOf x18).toNat)
              case atStart => exact ⟨0, rfl, Nat.zero_le _, Kp.refl _ _⟩
              case round =>
                obtain ⟨j, rfl, hj, kj⟩ := hrel
                by_cases hjm : j < 3
                · obtain ⟨kb2, ko2, b7, o7, tj, rfl, rfl, g2, g4⟩ := HJ.out j hjm wr kj
                  obtain ⟨y1, y2⟩ := HZ5.out wr kj
                  have bj : decide ((j : Int) < 3) = true := decide_eq_true (by omega)
                  have j1 : (0 : Int) ≤ (j : Int) := by omega
                  have j2 : (j : Int) < 3 := by omega
                  have hS35 : (World.drew wr).cell? ⟨g9, 5, none⟩ = some (.slice (some ⟨kb, ko, none⟩) 1 kc) ∧ (World.drew wr).cell? ⟨kb, ko + 5, none⟩ = some (.slice (some ⟨kb2, ko2, none⟩) 3 pc) ∧ (World.drew wr).cell? ⟨kb2, ko2 + j * 6 + 4, none⟩ = some (.string tj) ∧ (World.drew wr).cell? ⟨b7, o7 + j, none⟩ = some (.string tj) := ⟨y1, y2, g2, g4⟩
                  go_wp2_with fail
                  refine wp_region_g (S := fun V => V.cell? ⟨g9, 5, none⟩ = some (.slice (some ⟨kb, ko, none⟩) 1 kc) ∧ V.cell? ⟨kb, ko + 5, none⟩ = some (.slice (some ⟨kb2, ko2, none⟩) 3 pc) ∧ V.cell? ⟨kb2, ko2 + j * 6 + 4, none⟩ = some (.string tj) ∧ V.cell? ⟨b7, o7 + j, none⟩ = some (.string tj)) (T := []) (by kernel_rfl) hS35 (fun hHeld => ?_)
                  refine wpAnyG_pure (i := 0) (oi := { dst := some 142, op := Go.Op.fieldAddr 42 (Go.Operand.tmp 15) 5, type := 0, pos := "law.go:279", after := #[], guard := none }) (v := ?_) rfl (by kernel_rfl) (by kernel_rfl) (by kernel_rfl) (by kernel_rfl) (fun _ _ _ h => h) (Or.inl ⟨by rfl, ?_⟩) (by assumption) ?_
                  rotate_left
                  · (intro w; go_simp; try with_reducible rfl)
                  simp only [Act.put, List.setIfInBounds_toArray, List.set_cons_zero, List.set_cons_succ]
                  refine wpAnyG_take (i := 1) (oi := { dst := some 143, op := Go.Op.load 40 (Go.Operand.tmp 142), type := 40, pos := "law.go:279", after := #[{ on := 0, ground := Go.Ground.data }], guard := none }) (v := ?_) rfl (by kernel_rfl) (by kernel_rfl) (by kernel_rfl) (by kernel_rfl) (fun _ _ _ h => h) (Or.inl ⟨by rfl, ?_⟩) (by assumption) ?_
                  rotate_left
                  · (intro w hSw; (obtain ⟨q1, q2, q3, q4⟩ := hSw); go_simp; try with_reducible rfl)
                  simp only [Act.put, List.setIfInBounds_toArray, List.set_cons_zero, List.set_cons_succ]
                  refine wpAnyG_pure (i := 2) (oi := { dst := some 144, op := Go.Op.indexAddr 40 (Go.Operand.tmp 143) (Go.Operand.const (Go.Value.int Go.IntKind.i64 0)), type := 0, pos := "law.go:279", after := #[{ on := 1, ground := Go.Ground.data }], guard := none }) (v := ?_) rfl (by kernel_rfl) (by kernel_rfl) (by kernel_rfl) (by kernel_rfl) (fun _ _ _ h => h) (Or.inl ⟨by rfl, ?_⟩) (by assumption) ?_
                  rotate_left
                  · (intro w; go_simp; try with_reducible rfl)
                  simp only [Act.put, List.setIfInBounds_toArray, List.set_cons_zero, List.set_cons_succ]
                  refine wpAnyG_pure (i := 3) (oi := { dst := some 145, op := Go.Op.fieldAddr 42 (Go.Operand.tmp 144) 5, type := 0, pos := "law.go:279", after := #[{ on := 2, ground := Go.Ground.data }], guard := none }) (v := ?_) rfl (by kernel_rfl) (by kernel_rfl) (by kernel_rfl) (by kernel_rfl) (fun _ _ _ h => h) (Or.inl ⟨by rfl, ?_⟩) (by assumption) ?_
                  rotate_left
                  · (intro w; go_simp; try with_reducible rfl)
                  simp only [Act.put, List.setIfInBounds_toArray, List.set_cons_zero, List.set_cons_succ]
                  refine wpAnyG_take (i := 4) (oi := { dst := some 146, op := Go.Op.load 40 (Go.Operand.tmp 145), type := 40, pos := "law.go:279", after := #[{ on := 3, ground := Go.Ground.data }], guard := none }) (v := ?_) rfl (by kernel_rfl) (by kernel_rfl) (by kernel_rfl) (by kernel_rfl) (fun _ _ _ h => h) (Or.inl ⟨by rfl, ?_⟩) (by assumption) ?_
                  rotate_left
                  · (intro w hSw; (obtain ⟨q1, q2, q3, q4⟩ := hSw); go_simp; try with_reducible rfl)
                  simp only [Act.put, List.setIfInBounds_toArray, List.set_cons_zero, List.set_cons_succ]
                  refine wpAnyG_pure (i := 5) (oi := { dst := some 147, op := Go.Op.move (Go.Operand.tmp 18), type := 3, pos := "law.go:279", after := #[], guard := none }) (v := ?_) rfl (by kernel_rfl) (by kernel_rfl) (by kernel_rfl) (by kernel_rfl) (fun _ _ _ h => h) (Or.inl ⟨by rfl, ?_⟩) (by assumption) ?_
                  rotate_left
                  · (intro w; go_simp; try with_reducible rfl)
                  simp only [Act.put, List.setIfInBounds_toArray, List.set_cons_zero, List.set_cons_succ]
                  refine wpAnyG_pure (i := 6) (oi := { dst := some 148, op := Go.Op.indexAddr 40 (Go.Operand.tmp 146) (Go.Operand.tmp 147), type := 0, pos := "law.go:279", after := #[{ on := 4, ground := Go.Ground.data }, { on := 5, ground := Go.Ground.data }], guard := none }) (v := ?_) rfl (by kernel_rfl) (by kernel_rfl) (by kernel_rfl) (by kernel_rfl) (fun _ _ _ h => h) (Or.inl ⟨by rfl, ?_⟩) (by assumption) ?_
                  rotate_left
                  · (intro w; go_simp; try with_reducible rfl)
                  simp only [Act.put, List.setIfInBounds_toArray, List.set_cons_zero, List.set_cons_succ]
                  refine wpAnyG_pure (i := 7) (oi := { dst := some 149, op := Go.Op.fieldAddr 42 (Go.Operand.tmp 148) 4, type := 0, pos := "law.go:279", after := #[{ on := 6, ground := Go.Ground.data }], guard := none }) (v := ?_) rfl (by kernel_rfl) (by kernel_rfl) (by kernel_rfl) (by kernel_rfl) (fun _ _ _ h => h) (Or.inl ⟨by rfl, ?_⟩) (by assumption) ?_
                  rotate_left
                  · (intro w; go_simp; try with_reducible rfl)
                  simp only [Act.put, List.setIfInBounds_toArray, List.set_cons_zero, List.set_cons_succ]
                  refine wpAnyG_take (i := 8) (oi := { dst := some 150, op := Go.Op.load 9 (Go.Operand.tmp 149), type := 9, pos := "law.go:279", after := #[{ on := 7, ground := Go.Ground.data }], guard := none }) (v := ?_) rfl (by kernel_rfl) (by kernel_rfl) (by kernel_rfl) (by kernel_rfl) (fun _ _ _ h => h) (Or.inl ⟨by rfl, ?_⟩) (by assumption) ?_
                  rotate_left
                  · (intro w hSw; (obtain ⟨q1, q2, q3, q4⟩ := hSw); go_simp; try with_reducible rfl)
                  simp only [Act.put, List.setIfInBounds_toArray, List.set_cons_zero, List.set_cons_succ]
                  refine wpAnyG_pure (i := 9) (oi := { dst := some 151, op := Go.Op.move (Go.Operand.tmp 17), type := 53, pos := "law.go:279", after := #[], guard := none }) (v := ?_) rfl (by kernel_rfl) (by kernel_rfl) (by kernel_rfl) (by kernel_rfl) (fun _ _ _ h => h) (Or.inl ⟨by rfl, ?_⟩) (by assumption) ?_
                  rotate_left
                  · (intro w; go_simp; try with_reducible rfl)
                  simp only [Act.put, List.setIfInBounds_toArray, List.set_cons_zero, List.set_cons_succ]
                  refine wpAnyG_pure (i := 10) (oi := { dst := some 152, op := Go.Op.move (Go.Operand.tmp 18), type := 3, pos := "law.go:279", after := #[], guard := none }) (v := ?_) rfl (by kernel_rfl) (by kernel_rfl) (by kernel_rfl) (by kernel_rfl) (fun _ _ _ h => h) (Or.inl ⟨by rfl, ?_⟩) (by assumption) ?_
                  rotate_left
                  · (intro w; go_simp; try with_reducible rfl)
                  simp only [Act.put, List.setIfInBounds_toArray, List.set_cons_zero, List.set_cons_succ]
                  refine wpAnyG_pure (i := 11) (oi := { dst := some 153, op := Go.Op.indexAddr 53 (Go.Operand.tmp 151) (Go.Operand.tmp 152), type := 0, pos := "law.go:279", after := #[{ on := 9, ground := Go.Ground.data }, { on := 10, ground := Go.Ground.data }], guard := none }) (v := ?_) rfl (by kernel_rfl) (by kernel_rfl) (by kernel_rfl) (by kernel_rfl) (fun _ _ _ h => h) (Or.inl ⟨by rfl, ?_⟩) (by assumption) ?_
                  rotate_left
                  · (intro w; go_simp; try with_reducible rfl)
                  simp only [Act.put, List.setIfInBounds_toArray, List.set_cons_zero, List.set_cons_succ]
                  refine wpAnyG_take (i := 12) (oi := { dst := some 154, op := Go.Op.load 9 (Go.Operand.tmp 153), type := 9, pos := "law.go:279", after := #[{ on := 11, ground := Go.Ground.data }], guard := none }) (v := ?_) rfl (by kernel_rfl) (by kernel_rfl) (by kernel_rfl) (by kernel_rfl) (fun _ _ _ h => h) (Or.inl ⟨by rfl, ?_⟩) (by assumption) ?_
                  rotate_left
                  · (intro w hSw; (obtain ⟨q1, q2, q3, q4⟩ := hSw); go_simp; try with_reducible rfl)
                  simp only [Act.put, List.setIfInBounds_toArray, List.set_cons_zero, List.set_cons_succ]
                  refine wpAnyG_pure (i := 13) (oi := { dst := some 155, op := Go.Op.binOp Go.BinOp.neq 9 (Go.Operand.tmp 150) (Go.Operand.tmp 154) 9, type := 4, pos := "law.go:279", after := #[{ on := 8, ground := Go.Ground.data }, { on := 12, ground := Go.Ground.data }], guard := none }) (v := ?_) rfl (by kernel_rfl) (by kernel_rfl) (by kernel_rfl) (by kernel_rfl) (fun _ _ _ h => h) (Or.inl ⟨by rfl, ?_⟩) (by assumption) ?_
                  rotate_left
                  · (intro w; go_simp; try with_reducible rfl)
                  simp only [Act.put, List.setIfInBounds_toArray, List.set_cons_zero, List.set_cons_succ]
                  refine wpAnyG_free (by kernel_rfl) ?_
                  refine wpAny_done (by kernel_rfl) ?_ _
                  go_wp2_with fail
                  go_roundw
                  case rel => exact ⟨j + 1, by go_num, by omega, kj.drew⟩
                  case measure => simp [intOf]; omega
                · have b7 : decide ((j : Int) < 3) = false := decide_eq_false (by omega)
                  go_wp2_with (go_at_call 13; refine (HKn.out _).mono ?_; rintro e w8 ⟨rfl, k8⟩)
                  go_ret
                  exact ⟨rfl, (kE.trans kj (fun x hx => Or.inl hx)).trans k8 (fun x hx => Or.inl hx)⟩
        · skip
          have b6 : decide ((k : Int) < 10) = false := decide_eq_false (by omega)
          have hC : decide (k < i) = false := decide_eq_false (by omega)
          by_cases z1 : f.size = 0
          · by_cases z2 : l.size = 0
            · have hf0 : f.toList.isEmpty = true := emp_yes z1
              have hl0 : l.toList.isEmpty = true := emp_yes z2
              have hM : Ar.wantT f false l = [] := by unfold Ar.wantT Ar.tO; rw [if_pos z1, if_pos z2]; rfl
              rw [hC, hM] at HP
              clear hM hC
              go_upto_region 23 with (go_at_call 20; refine HP.mono ?_; rintro e w1 ⟨⟨⟨a1, a2, a3⟩, ⟨k1, k2, kc⟩⟩, rfl, kp1, nd⟩; refine Hid.out ?_)
              unfold Hid
              obtain ⟨hp1, kb, ko, ⟨po, pn, pc⟩, hp2, c5, hlen, hcs⟩ := tx_tree nd
              simp only at hp1 hp2 c5 hlen hcs
              subst hp1 hp2
              replace hlen : pn = 0 := hlen
              subst hlen
              obtain ⟨g9, hg9⟩ : ∃ g, w1.heap.size = g := ⟨_, rfl⟩
              obtain ⟨V0, hV0⟩ : ∃ V, V = w1.alloc (.cells #[.int .i64 L0.kind, .int .i64 L0.ns, .string L0.name, .slice a1 a2 a3, .string L0.text, .slice (some ⟨kb, ko, none⟩) 1 kc] 42) := ⟨_, rfl⟩
              have kV : Kp [] w1 V0 := by rw [hV0]; exact (Kp.refl _ _).alloc _
              have T9 : At V0 g9 #[.int .i64 L0.kind, .int .i64 L0.ns, .string L0.name, .slice a1 a2 a3, .string L0.text, .slice (some ⟨kb, ko, none⟩) 1 kc] 42 := by rw [hV0, ← hg9]; exact At.new _ _ _
              have HV0 : Hid (w1.alloc (.cells #[.int .i64 L0.kind, .int .i64 L0.ns, .string L0.name, .slice a1 a2 a3, .string L0.text, .slice (some ⟨kb, ko, none⟩) 1 kc] 42) = V0) := hV0.symm
              clear hV0
              have M0 := Made.nil V0 9
              have kM := M0.2.1
              have kE : Kp [] w V0 := ((kw.trans kp1 (fun x hx => Or.inl hx)).trans kV (fun x hx => Or.inl hx)).trans kM (fun x hx => Or.inl hx)
              have hkb := block_lt_of_cell c5
              have hcm : V0.cell? ⟨kb, ko + 5, none⟩ = some (.slice po 0 pc) := by rw [kM.cell (a := ⟨kb, ko + 5, none⟩) (Nat.lt_of_lt_of_le hkb kV.size) (by simp), kV.cell (a := ⟨kb, ko + 5, none⟩) hkb (by simp)]; exact c5
              have T9m := T9.kept kM (by simp)
              have t5 : V0.cell? ⟨g9, 5, none⟩ = some (.slice (some ⟨kb, ko, none⟩) 1 kc) := T9m.cell 5
              have HZ5 : Hid (∀ V, Kp [] V0 V → V.cell? ⟨g9, 5, none⟩ = some (.slice (some ⟨kb, ko, none⟩) 1 kc) ∧ V.cell? ⟨kb, ko + 5, none⟩ = some (.slice po 0 pc)) := fun V k => ⟨(k.cell (a := ⟨g9, 5, none⟩) T9m.lt (by simp)).trans t5, (k.cell (a := ⟨kb, ko + 5, none⟩) (block_lt_of_cell hcm) (by simp)).trans hcm⟩
              have HKn : Hid (∀ V, Calls Try.prog 13 #[] V fun e w9 => e = .returned (.bool true) ∧ Kp [] V w9) := known_any
              clear nd hcs c5 kV kp1 M0 kM T9 kw HP
              go_upto_region 24 with fail
              rw [HV0.out]
              clear HV0
              clear hf hl hlt hA0 z1 z2 hi hiL
              go_upto_region 26 with fail
              go_upto_region 28 with fail
              go_upto_region 30 with fail
              go_wp2_with fail
              clear t5 hcm hkb T9m
              go_loopw [18] (fun x18 wr => ∃ j : Nat, x18 = .int .i64 (j : Int) ∧ j ≤ 0 ∧ Kp [] V0 wr) (fun x18 _ => 0 - (intOf x18).toNat)
              case atStart => exact ⟨0, rfl, Nat.zero_le _, Kp.refl _ _⟩
              case round =>
                obtain ⟨j, rfl, hj, kj⟩ := hrel
                have b7 : decide ((j : Int) < 0) = false := decide_eq_false (by omega)
                go_wp2_with (go_at_call 13; refine (HKn.out _).mono ?_; rintro e w8 ⟨rfl, k8⟩)
                go_ret
                exact ⟨rfl, (kE.trans kj (fun x hx => Or.inl hx)).trans k8 (fun x hx => Or.inl hx)⟩
            · have hf0 : f.toList.isEmpty = true := emp_yes z1
              have hl0 : l.toList.isEmpty = false := ne_empty z2
              have hM : Ar.wantT f false l = [(Ar.tL l)] := by unfold Ar.wantT Ar.tO; rw [if_pos z1, if_neg z2]; rfl
              rw [hC, hM] at HP
              clear hM hC
              go_upto_region 23 with (go_at_call 20; refine HP.mono ?_; rintro e w1 ⟨⟨⟨a1, a2, a3⟩, ⟨k1, k2, kc⟩⟩, rfl, kp1, nd⟩; refine Hid.out ?_)
              unfold Hid
              obtain ⟨hp1, kb, ko, ⟨po, pn, pc⟩, hp2, c5, hlen, hcs⟩ := tx_tree nd
              simp only at hp1 hp2 c5 hlen hcs
              subst hp1 hp2
              replace hlen : pn = 1 := hlen
              subst hlen
              obtain ⟨g9, hg9⟩ : ∃ g, w1.heap.size = g := ⟨_, rfl⟩
              obtain ⟨V0, hV0⟩ : ∃ V, V = w1.alloc (.cells #[.int .i64 L0.kind, .int .i64 L0.ns, .string L0.name, .slice a1 a2 a3, .string L0.text, .slice (some ⟨kb, ko, none⟩) 1 kc] 42) := ⟨_, rfl⟩
              have kV : Kp [] w1 V0 := by rw [hV0]; exact (Kp.refl _ _).alloc _
              have T9 : At V0 g9 #[.int .i64 L0.kind, .int .i64 L0.ns, .string L0.name, .slice a1 a2 a3, .string L0.text, .slice (some ⟨kb, ko, none⟩) 1 kc] 42 := by rw [hV0, ← hg9]; exact At.new _ _ _
              have HV0 : Hid (w1.alloc (.cells #[.int .i64 L0.kind, .int .i64 L0.ns, .string L0.name, .slice a1 a2 a3, .string L0.text, .slice (some ⟨kb, ko, none⟩) 1 kc] 42) = V0) := hV0.symm
              clear hV0
              have M0 := Made.nil V0 9
              obtain ⟨o1, n1, c1, V1, run1, M1⟩ := M0.one Try.underlying53 infoS1 rfl (by decide) (.string l) rfl (by simp)
              obtain rfl : n1 = 1 := by have := M1.rb.len; simpa using this
              have kM := M1.2.1
              have kE : Kp [] w V1 := ((kw.trans kp1 (fun x hx => Or.inl hx)).trans kV (fun x hx => Or.inl hx)).trans kM (fun x hx => Or.inl hx)
              have hkb := block_lt_of_cell c5
              have hcm : V1.cell? ⟨kb, ko + 5, none⟩ = some (.slice po 1 pc) := by rw [kM.cell (a := ⟨kb, ko + 5, none⟩) (Nat.lt_of_lt_of_le hkb kV.size) (by simp), kV.cell (a := ⟨kb, ko + 5, none⟩) hkb (by simp)]; exact c5
              have T9m := T9.kept kM (by simp)
              have t5 : V1.cell? ⟨g9, 5, none⟩ = some (.slice (some ⟨kb, ko, none⟩) 1 kc) := T9m.cell 5
              have HZ5 : Hid (∀ V, Kp [] V1 V → V.cell? ⟨g9, 5, none⟩ = some (.slice (some ⟨kb, ko, none⟩) 1 kc) ∧ V.cell? ⟨kb, ko + 5, none⟩ = some (.slice po 1 pc)) := fun V k => ⟨(k.cell (a := ⟨g9, 5, none⟩) T9m.lt (by simp)).trans t5, (k.cell (a := ⟨kb, ko + 5, none⟩) (block_lt_of_cell hcm) (by simp)).trans hcm⟩
              have HKn : Hid (∀ V, Calls Try.prog 13 #[] V fun e w9 => e = .returned (.bool true) ∧ Kp [] V w9) := known_any
              have RW : Hid (Rb V1 o1 1 c1 (tv [(Ar.tL l)])) := M1.rb
              have HJ : Hid (∀ j (hj : j < 1) V, Kp [] V1 V → ∃ kb2 ko2 b7 o7 tj, po = some ⟨kb2, ko2, none⟩ ∧ o1 = some ⟨b7, o7, none⟩ ∧ V.cell? ⟨kb2, ko2 + j * 6 + 4, none⟩ = some (.string tj) ∧ V.cell? ⟨b7, o7 + j, none⟩ = some (.string tj)) := fun j hj V k => by
                obtain ⟨kb2, ko2, g1, g2⟩ := hcs j hj
                obtain ⟨b7, o7, g3, g4⟩ := RW.out.tv_at j hj
                have hq := block_lt_of_cell g2
                refine ⟨kb2, ko2, b7, o7, ([(Ar.tL l)] : List Lb)[j].text, g1, g3, ?_, ?_⟩
                · exact ((k.cell (a := ⟨kb2, ko2 + j * 6 + 4, none⟩) (Nat.lt_of_lt_of_le hq (Nat.le_trans kV.size kM.size)) (by simp)).trans ((kM.cell (a := ⟨kb2, ko2 + j * 6 + 4, none⟩) (Nat.lt_of_lt_of_le hq kV.size) (by simp)).trans (kV.cell (a := ⟨kb2, ko2 + j * 6 + 4, none⟩) hq (by simp)))).trans g2
                · exact (k.cell (a := ⟨b7, o7 + j, none⟩) (block_lt_of_cell g4) (by simp)).trans g4
              clear nd hcs c5 kV kp1 M0 kM T9 kw HP M1
              go_upto_region 24 with fail
              rw [HV0.out]
              clear HV0
              clear hf hl hlt hA0 z1 z2 hi hiL
              go_upto_region 26 with fail
              go_upto_region 28 with fail
              go_upto_region 30 with (at_builtin; refine Lib.wpList_append_run _ rfl _ _ _ _ rfl _ _ rfl rfl _ _ (run1 _) ?_)
              clear run1
              go_wp2_with fail
              clear t5 hcm hkb T9m
              go_loopw [18] (fun x18 wr => ∃ j : Nat, x18 = .int .i64 (j : Int) ∧ j ≤ 1 ∧ Kp [] V1 wr) (fun x18 _ => 1 - (intOf x18).toNat)
              case atStart => exact ⟨0, rfl, Nat.zero_le _, Kp.refl _ _⟩
              case round =>
                obtain ⟨j, rfl, hj, kj⟩ := hrel
                by_cases hjm : j < 1
                · obtain ⟨kb2, ko2, b7, o7, tj, rfl, rfl, g2, g4⟩ := HJ.out j hjm wr kj
                  obtain ⟨y1, y2⟩ := HZ5.out wr kj
                  have bj : decide ((j : Int) < 1) = true := decide_eq_true (by omega)
                  have j1 : (0 : Int) ≤ (j : Int) := by omega
                  have j2 : (j : Int) < 1 := by omega
                  have hS35 : (World.drew wr).cell? ⟨g9, 5, none⟩ = some (.slice (some ⟨kb, ko, none⟩) 1 kc) ∧ (World.drew wr).cell? ⟨kb, ko + 5, none⟩ = some (.slice (some ⟨kb2, ko2, none⟩) 1 pc) ∧ (World.drew wr).cell? ⟨kb2, ko2 + j * 6 + 4, none⟩ = some (.string tj) ∧ (World.drew wr).cell? ⟨b7, o7 + j, none⟩ = some (.string tj) := ⟨y1, y2, g2, g4⟩
                  go_wp2_with fail
                  refine wp_region_g (S := fun V => V.cell? ⟨g9, 5, none⟩ = some (.slice (some ⟨kb, ko, none⟩) 1 kc) ∧ V.cell? ⟨kb, ko + 5, none⟩ = some (.slice (some ⟨kb2, ko2, none⟩) 1 pc) ∧ V.cell? ⟨kb2, ko2 + j * 6 + 4, none⟩ = some (.string tj) ∧ V.cell? ⟨b7, o7 + j, none⟩ = some (.string tj)) (T := []) (by kernel_rfl) hS35 (fun hHeld => ?_)
                  refine wpAnyG_pure (i := 0) (oi := { dst := some 142, op := Go.Op.fieldAddr 42 (Go.Operand.tmp 15) 5, type := 0, pos := "law.go:279", after := #[], guard := none }) (v := ?_) rfl (by kernel_rfl) (by kernel_rfl) (by kernel_rfl) (by kernel_rfl) (fun _ _ _ h => h) (Or.inl ⟨by rfl, ?_⟩) (by assumption) ?_
                  rotate_left
                  · (intro w; go_simp; try with_reducible rfl)
                  simp only [Act.put, List.setIfInBounds_toArray, List.set_cons_zero, List.set_cons_succ]
                  refine wpAnyG_take (i := 1) (oi := { dst := some 143, op := Go.Op.load 40 (Go.Operand.tmp 142), type := 40, pos := "law.go:279", after := #[{ on := 0, ground := Go.Ground.data }], guard := none }) (v := ?_) rfl (by kernel_rfl) (by kernel_rfl) (by kernel_rfl) (by kernel_rfl) (fun _ _ _ h => h) (Or.inl ⟨by rfl, ?_⟩) (by assumption) ?_
                  rotate_left
                  · (intro w hSw; (obtain ⟨q1, q2, q3, q4⟩ := hSw); go_simp; try with_reducible rfl)
                  simp only [Act.put, List.setIfInBounds_toArray, List.set_cons_zero, List.set_cons_succ]
                  refine wpAnyG_pure (i := 2) (oi := { dst := some 144, op := Go.Op.indexAddr 40 (Go.Operand.tmp 143) (Go.Operand.const (Go.Value.int Go.IntKind.i64 0)), type := 0, pos := "law.go:279", after := #[{ on := 1, ground := Go.Ground.data }], guard := none }) (v := ?_) rfl (by kernel_rfl) (by kernel_rfl) (by kernel_rfl) (by kernel_rfl) (fun _ _ _ h => h) (Or.inl ⟨by rfl, ?_⟩) (by assumption) ?_
                  rotate_left
                  · (intro w; go_simp; try with_reducible rfl)
                  simp only [Act.put, List.setIfInBounds_toArray, List.set_cons_zero, List.set_cons_succ]
                  refine wpAnyG_pure (i := 3) (oi := { dst := some 145, op := Go.Op.fieldAddr 42 (Go.Operand.tmp 144) 5, type := 0, pos := "law.go:279", after := #[{ on := 2, ground := Go.Ground.data }], guard := none }) (v := ?_) rfl (by kernel_rfl) (by kernel_rfl) (by kernel_rfl) (by kernel_rfl) (fun _ _ _ h => h) (Or.inl ⟨by rfl, ?_⟩) (by assumption) ?_
                  rotate_left
                  · (intro w; go_simp; try with_reducible rfl)
                  simp only [Act.put, List.setIfInBounds_toArray, List.set_cons_zero, List.set_cons_succ]
                  refine wpAnyG_take (i := 4) (oi := { dst := some 146, op := Go.Op.load 40 (Go.Operand.tmp 145), type := 40, pos := "law.go:279", after := #[{ on := 3, ground := Go.Ground.data }], guard := none }) (v := ?_) rfl (by kernel_rfl) (by kernel_rfl) (by kernel_rfl) (by kernel_rfl) (fun _ _ _ h => h) (Or.inl ⟨by rfl, ?_⟩) (by assumption) ?_
                  rotate_left
                  · (intro w hSw; (obtain ⟨q1, q2, q3, q4⟩ := hSw); go_simp; try with_reducible rfl)
                  simp only [Act.put, List.setIfInBounds_toArray, List.set_cons_zero, List.set_cons_succ]
                  refine wpAnyG_pure (i := 5) (oi := { dst := some 147, op := Go.Op.move (Go.Operand.tmp 18), type := 3, pos := "law.go:279", after := #[], guard := none }) (v := ?_) rfl (by kernel_rfl) (by kernel_rfl) (by kernel_rfl) (by kernel_rfl) (fun _ _ _ h => h) (Or.inl ⟨by rfl, ?_⟩) (by assumption) ?_
                  rotate_left
                  · (intro w; go_simp; try with_reducible rfl)
                  simp only [Act.put, List.setIfInBounds_toArray, List.set_cons_zero, List.set_cons_succ]
                  refine wpAnyG_pure (i := 6) (oi := { dst := some 148, op := Go.Op.indexAddr 40 (Go.Operand.tmp 146) (Go.Operand.tmp 147), type := 0, pos := "law.go:279", after := #[{ on := 4, ground := Go.Ground.data }, { on := 5, ground := Go.Ground.data }], guard := none }) (v := ?_) rfl (by kernel_rfl) (by kernel_rfl) (by kernel_rfl) (by kernel_rfl) (fun _ _ _ h => h) (Or.inl ⟨by rfl, ?_⟩) (by assumption) ?_
                  rotate_left
                  · (intro w; go_simp; try with_reducible rfl)
                  simp only [Act.put, List.setIfInBounds_toArray, List.set_cons_zero, List.set_cons_succ]
                  refine wpAnyG_pure (i := 7) (oi := { dst := some 149, op := Go.Op.fieldAddr 42 (Go.Operand.tmp 148) 4, type := 0, pos := "law.go:279", after := #[{ on := 6, ground := Go.Ground.data }], guard := none }) (v := ?_) rfl (by kernel_rfl) (by kernel_rfl) (by kernel_rfl) (by kernel_rfl) (fun _ _ _ h => h) (Or.inl ⟨by rfl, ?_⟩) (by assumption) ?_
                  rotate_left
                  · (intro w; go_simp; try with_reducible rfl)
                  simp only [Act.put, List.setIfInBounds_toArray, List.set_cons_zero, List.set_cons_succ]
                  refine wpAnyG_take (i := 8) (oi := { dst := some 150, op := Go.Op.load 9 (Go.Operand.tmp 149), type := 9, pos := "law.go:279", after := #[{ on := 7, ground := Go.Ground.data }], guard := none }) (v := ?_) rfl (by kernel_rfl) (by kernel_rfl) (by kernel_rfl) (by kernel_rfl) (fun _ _ _ h => h) (Or.inl ⟨by rfl, ?_⟩) (by assumption) ?_
                  rotate_left
                  · (intro w hSw; (obtain ⟨q1, q2, q3, q4⟩ := hSw); go_simp; try with_reducible rfl)
                  simp only [Act.put, List.setIfInBounds_toArray, List.set_cons_zero, List.set_cons_succ]
                  refine wpAnyG_pure (i := 9) (oi := { dst := some 151, op := Go.Op.move (Go.Operand.tmp 17), type := 53, pos := "law.go:279", after := #[], guard := none }) (v := ?_) rfl (by kernel_rfl) (by kernel_rfl) (by kernel_rfl) (by kernel_rfl) (fun _ _ _ h => h) (Or.inl ⟨by rfl, ?_⟩) (by assumption) ?_
                  rotate_left
                  · (intro w; go_simp; try with_reducible rfl)
                  simp only [Act.put, List.setIfInBounds_toArray, List.set_cons_zero, List.set_cons_succ]
                  refine wpAnyG_pure (i := 10) (oi := { dst := some 152, op := Go.Op.move (Go.Operand.tmp 18), type := 3, pos := "law.go:279", after := #[], guard := none }) (v := ?_) rfl (by kernel_rfl) (by kernel_rfl) (by kernel_rfl) (by kernel_rfl) (fun _ _ _ h => h) (Or.inl ⟨by rfl, ?_⟩) (by assumption) ?_
                  rotate_left
                  · (intro w; go_simp; try with_reducible rfl)
                  simp only [Act.put, List.setIfInBounds_toArray, List.set_cons_zero, List.set_cons_succ]
                  refine wpAnyG_pure (i := 11) (oi := { dst := some 153, op := Go.Op.indexAddr 53 (Go.Operand.tmp 151) (Go.Operand.tmp 152), type := 0, pos := "law.go:279", after := #[{ on := 9, ground := Go.Ground.data }, { on := 10, ground := Go.Ground.data }], guard := none }) (v := ?_) rfl (by kernel_rfl) (by kernel_rfl) (by kernel_rfl) (by kernel_rfl) (fun _ _ _ h => h) (Or.inl ⟨by rfl, ?_⟩) (by assumption) ?_
                  rotate_left
                  · (intro w; go_simp; try with_reducible rfl)
                  simp only [Act.put, List.setIfInBounds_toArray, List.set_cons_zero, List.set_cons_succ]
                  refine wpAnyG_take (i := 12) (oi := { dst := some 154, op := Go.Op.load 9 (Go.Operand.tmp 153), type := 9, pos := "law.go:279", after := #[{ on := 11, ground := Go.Ground.data }], guard := none }) (v := ?_) rfl (by kernel_rfl) (by kernel_rfl) (by kernel_rfl) (by kernel_rfl) (fun _ _ _ h => h) (Or.inl ⟨by rfl, ?_⟩) (by assumption) ?_
                  rotate_left
                  · (intro w hSw; (obtain ⟨q1, q2, q3, q4⟩ := hSw); go_simp; try with_reducible rfl)
                  simp only [Act.put, List.setIfInBounds_toArray, List.set_cons_zero, List.set_cons_succ]
                  refine wpAnyG_pure (i := 13) (oi := { dst := some 155, op := Go.Op.binOp Go.BinOp.neq 9 (Go.Operand.tmp 150) (Go.Operand.tmp 154) 9, type := 4, pos := "law.go:279", after := #[{ on := 8, ground := Go.Ground.data }, { on := 12, ground := Go.Ground.data }], guard := none }) (v := ?_) rfl (by kernel_rfl) (by kernel_rfl) (by kernel_rfl) (by kernel_rfl) (fun _ _ _ h => h) (Or.inl ⟨by rfl, ?_⟩) (by assumption) ?_
                  rotate_left
                  · (intro w; go_simp; try with_reducible rfl)
                  simp only [Act.put, List.setIfInBounds_toArray, List.set_cons_zero, List.set_cons_succ]
                  refine wpAnyG_free (by kernel_rfl) ?_
                  refine wpAny_done (by kernel_rfl) ?_ _
                  go_wp2_with fail
                  go_roundw
                  case rel => exact ⟨j + 1, by go_num, by omega, kj.drew⟩
                  case measure => simp [intOf]; omega
                · have b7 : decide ((j : Int) < 1) = false := decide_eq_false (by omega)
                  go_wp2_with (go_at_call 13; refine (HKn.out _).mono ?_; rintro e w8 ⟨rfl, k8⟩)
                  go_ret
                  exact ⟨rfl, (kE.trans kj (fun x hx => Or.inl hx)).trans k8 (fun x hx => Or.inl hx)⟩
          · by_cases z2 : l.size = 0
            · have hf0 : f.toList.isEmpty = false := ne_empty z1
              have hl0 : l.toList.isEmpty = true := emp_yes z2
              have hM : Ar.wantT f false l = [(Ar.tL f)] := by unfold Ar.wantT Ar.tO; rw [if_neg z1, if_pos z2]; rfl
              rw [hC, hM] at HP
              clear hM hC
              go_upto_region 23 with (go_at_call 20; refine HP.mono ?_; rintro e w1 ⟨⟨⟨a1, a2, a3⟩, ⟨k1, k2, kc⟩⟩, rfl, kp1, nd⟩; refine Hid.out ?_)
              unfold Hid
              obtain ⟨hp1, kb, ko, ⟨po, pn, pc⟩, hp2, c5, hlen, hcs⟩ := tx_tree nd
              simp only at hp1 hp2 c5 hlen hcs
              subst hp1 hp2
              replace hlen : pn = 1 := hlen
              subst hlen
              obtain ⟨g9, hg9⟩ : ∃ g, w1.heap.size = g := ⟨_, rfl⟩
              obtain ⟨V0, hV0⟩ : ∃ V, V = w1.alloc (.cells #[.int .i64 L0.kind, .int .i64 L0.ns, .string L0.name, .slice a1 a2 a3, .string L0.text, .slice (some ⟨kb, ko, none⟩) 1 kc] 42) := ⟨_, rfl⟩
              have kV : Kp [] w1 V0 := by rw [hV0]; exact (Kp.refl _ _).alloc _
              have T9 : At V0 g9 #[.int .i64 L0.kind, .int .i64 L0.ns, .string L0.name, .slice a1 a2 a3, .string L0.text, .slice (some ⟨kb, ko, none⟩) 1 kc] 42 := by rw [hV0, ← hg9]; exact At.new _ _ _
              have HV0 : Hid (w1.alloc (.cells #[.int .i64 L0.kind, .int .i64 L0.ns, .string L0.name, .slice a1 a2 a3, .string L0.text, .slice (some ⟨kb, ko, none⟩) 1 kc] 42) = V0) := hV0.symm
              clear hV0
              have M0 := Made.nil V0 9
              obtain ⟨o1, n1, c1, V1, run1, M1⟩ := M0.one Try.underlying53 infoS1 rfl (by decide) (.string f) rfl (by simp)
              obtain rfl : n1 = 1 := by have := M1.rb.len; simpa using this
              have kM := M1.2.1
              have kE : Kp [] w V1 := ((kw.trans kp1 (fun x hx => Or.inl hx)).trans kV (fun x hx => Or.inl hx)).trans kM (fun x hx => Or.inl hx)
              have hkb := block_lt_of_cell c5
              have hcm : V1.cell? ⟨kb, ko + 5, none⟩ = some (.slice po 1 pc) := by rw [kM.cell (a := ⟨kb, ko + 5, none⟩) (Nat.lt_of_lt_of_le hkb kV.size) (by simp), kV.cell (a := ⟨kb, ko + 5, none⟩) hkb (by simp)]; exact c5
              have T9m := T9.kept kM (by simp)
              have t5 : V1.cell? ⟨g9, 5, none⟩ = some (.slice (some ⟨kb, ko, none⟩) 1 kc) := T9m.cell 5
              have HZ5 : Hid (∀ V, Kp [] V1 V → V.cell? ⟨g9, 5, none⟩ = some (.slice (some ⟨kb, ko, none⟩) 1 kc) ∧ V.cell? ⟨kb, ko + 5, none⟩ = some (.slice po 1 pc)) := fun V k => ⟨(k.cell (a := ⟨g9, 5, none⟩) T9m.lt (by simp)).trans t5, (k.cell (a := ⟨kb, ko + 5, none⟩) (block_lt_of_cell hcm) (by simp)).trans hcm⟩
              have HKn : Hid (∀ V, Calls Try.prog 13 #[] V fun e w9 => e = .returned (.bool true) ∧ Kp [] V w9) := known_any
              have RW : Hid (Rb V1 o1 1 c1 (tv [(Ar.tL f)])) := M1.rb
              have HJ : Hid (∀ j (hj : j < 1) V, Kp [] V1 V → ∃ kb2 ko2 b7 o7 tj, po = some ⟨kb2, ko2, none⟩ ∧ o1 = some ⟨b7, o7, none⟩ ∧ V.cell? ⟨kb2, ko2 + j * 6 + 4, none⟩ = some (.string tj) ∧ V.cell? ⟨b7, o7 + j, none⟩ = some (.string tj)) := fun j hj V k => by
                obtain ⟨kb2, ko2, g1, g2⟩ := hcs j hj
                obtain ⟨b7, o7, g3, g4⟩ := RW.out.tv_at j hj
                have hq := block_lt_of_cell g2
                refine ⟨kb2, ko2, b7, o7, ([(Ar.tL f)] : List Lb)[j].text, g1, g3, ?_, ?_⟩
                · exact ((k.cell (a := ⟨kb2, ko2 + j * 6 + 4, none⟩) (Nat.lt_of_lt_of_le hq (Nat.le_trans kV.size kM.size)) (by simp)).trans ((kM.cell (a := ⟨kb2, ko2 + j * 6 + 4, none⟩) (Nat.lt_of_lt_of_le hq kV.size) (by simp)).trans (kV.cell (a := ⟨kb2, ko2 + j * 6 + 4, none⟩) hq (by simp)))).trans g2
                · exact (k.cell (a := ⟨b7, o7 + j, none⟩) (block_lt_of_cell g4) (by simp)).trans g4
              clear nd hcs c5 kV kp1 M0 kM T9 kw HP M1
              go_upto_region 24 with fail
              rw [HV0.out]
              clear HV0
              clear hf hl hlt hA0 z1 z2 hi hiL
              go_upto_region 26 with (at_builtin; refine Lib.wpList_append_run _ rfl _ _ _ _ rfl _ _ rfl rfl _ _ (run1 _) ?_)
              clear run1
              go_upto_region 28 with fail
              go_upto_region 30 with fail
              go_wp2_with fail
              clear t5 hcm hkb T9m
              go_loopw [18] (fun x18 wr => ∃ j : Nat, x18 = .int .i64 (j : Int) ∧ j ≤ 1 ∧ Kp [] V1 wr) (fun x18 _ => 1 - (intOf x18).toNat)
              case atStart => exact ⟨0, rfl, Nat.zero_le _, Kp.refl _ _⟩
              case round =>
                obtain ⟨j, rfl, hj, kj⟩ := hrel
                by_cases hjm : j < 1
                · obtain ⟨kb2, ko2, b7, o7, tj, rfl, rfl, g2, g4⟩ := HJ.out j hjm wr kj
                  obtain ⟨y1, y2⟩ := HZ5.out wr kj
                  have bj : decide ((j : Int) < 1) = true := decide_eq_true (by omega)
                  have j1 : (0 : Int) ≤ (j : Int) := by omega
                  have j2 : (j : Int) < 1 := by omega
                  have hS35 : (World.drew wr).cell? ⟨g9, 5, none⟩ = some (.slice (some ⟨kb, ko, none⟩) 1 kc) ∧ (World.drew wr).cell? ⟨kb, ko + 5, none⟩ = some (.slice (some ⟨kb2, ko2, none⟩) 1 pc) ∧ (World.drew wr).cell? ⟨kb2, ko2 + j * 6 + 4, none⟩ = some (.string tj) ∧ (World.drew wr).cell? ⟨b7, o7 + j, none⟩ = some (.string tj) := ⟨y1, y2, g2, g4⟩
                  go_wp2_with fail
                  refine wp_region_g (S := fun V => V.cell? ⟨g9, 5, none⟩ = some (.slice (some ⟨kb, ko, none⟩) 1 kc) ∧ V.cell? ⟨kb, ko + 5, none⟩ = some (.slice (some ⟨kb2, ko2, none⟩) 1 pc) ∧ V.cell? ⟨kb2, ko2 + j * 6 + 4, none⟩ = some (.string tj) ∧ V.cell? ⟨b7, o7 + j, none⟩ = some (.string tj)) (T := []) (by kernel_rfl) hS35 (fun hHeld => ?_)
                  refine wpAnyG_pure (i := 0) (oi := { dst := some 142, op := Go.Op.fieldAddr 42 (Go.Operand.tmp 15) 5, type := 0, pos := "law.go:279", after := #[], guard := none }) (v := ?_) rfl (by kernel_rfl) (by kernel_rfl) (by kernel_rfl) (by kernel_rfl) (fun _ _ _ h => h) (Or.inl ⟨by rfl, ?_⟩) (by assumption) ?_
                  rotate_left
                  · (intro w; go_simp; try with_reducible rfl)
                  simp only [Act.put, List.setIfInBounds_toArray, List.set_cons_zero, List.set_cons_succ]
                  refine wpAnyG_take (i := 1) (oi := { dst := some 143, op := Go.Op.load 40 (Go.Operand.tmp 142), type := 40, pos := "law.go:279", after := #[{ on := 0, ground := Go.Ground.data }], guard := none }) (v := ?_) rfl (by kernel_rfl) (by kernel_rfl) (by kernel_rfl) (by kernel_rfl) (fun _ _ _ h => h) (Or.inl ⟨by rfl, ?_⟩) (by assumption) ?_
                  rotate_left
                  · (intro w hSw; (obtain ⟨q1, q2, q3, q4⟩ := hSw); go_simp; try with_reducible rfl)
                  simp only [Act.put, List.setIfInBounds_toArray, List.set_cons_zero, List.set_cons_succ]
                  refine wpAnyG_pure (i := 2) (oi := { dst := some 144, op := Go.Op.indexAddr 40 (Go.Operand.tmp 143) (Go.Operand.const (Go.Value.int Go.IntKind.i64 0)), type := 0, pos := "law.go:279", after := #[{ on := 1, ground := Go.Ground.data }], guard := none }) (v := ?_) rfl (by kernel_rfl) (by kernel_rfl) (by kernel_rfl) (by kernel_rfl) (fun _ _ _ h => h) (Or.inl ⟨by rfl, ?_⟩) (by assumption) ?_
                  rotate_left
                  · (intro w; go_simp; try with_reducible rfl)
                  simp only [Act.put, List.setIfInBounds_toArray, List.set_cons_zero, List.set_cons_succ]
                  refine wpAnyG_pure (i := 3) (oi := { dst := some 145, op := Go.Op.fieldAddr 42 (Go.Operand.tmp 144) 5, type := 0, pos := "law.go:279", after := #[{ on := 2, ground := Go.Ground.data }], guard := none }) (v := ?_) rfl (by kernel_rfl) (by kernel_rfl) (by kernel_rfl) (by kernel_rfl) (fun _ _ _ h => h) (Or.inl ⟨by rfl, ?_⟩) (by assumption) ?_
                  rotate_left
                  · (intro w; go_simp; try with_reducible rfl)
                  simp only [Act.put, List.setIfInBounds_toArray, List.set_cons_zero, List.set_cons_succ]
                  refine wpAnyG_take (i := 4) (oi := { dst := some 146, op := Go.Op.load 40 (Go.Operand.tmp 145), type := 40, pos := "law.go:279", after := #[{ on := 3, ground := Go.Ground.data }], guard := none }) (v := ?_) rfl (by kernel_rfl) (by kernel_rfl) (by kernel_rfl) (by kernel_rfl) (fun _ _ _ h => h) (Or.inl ⟨by rfl, ?_⟩) (by assumption) ?_
                  rotate_left
                  · (intro w hSw; (obtain ⟨q1, q2, q3, q4⟩ := hSw); go_simp; try with_reducible rfl)
                  simp only [Act.put, List.setIfInBounds_toArray, List.set_cons_zero, List.set_cons_succ]
                  refine wpAnyG_pure (i := 5) (oi := { dst := some 147, op := Go.Op.move (Go.Operand.tmp 18), type := 3, pos := "law.go:279", after := #[], guard := none }) (v := ?_) rfl (by kernel_rfl) (by kernel_rfl) (by kernel_rfl) (by kernel_rfl) (fun _ _ _ h => h) (Or.inl ⟨by rfl, ?_⟩) (by assumption) ?_
                  rotate_left
                  · (intro w; go_simp; try with_reducible rfl)
                  simp only [Act.put, List.setIfInBounds_toArray, List.set_cons_zero, List.set_cons_succ]
                  refine wpAnyG_pure (i := 6) (oi := { dst := some 148, op := Go.Op.indexAddr 40 (Go.Operand.tmp 146) (Go.Operand.tmp 147), type := 0, pos := "law.go:279", after := #[{ on := 4, ground := Go.Ground.data }, { on := 5, ground := Go.Ground.data }], guard := none }) (v := ?_) rfl (by kernel_rfl) (by kernel_rfl) (by kernel_rfl) (by kernel_rfl) (fun _ _ _ h => h) (Or.inl ⟨by rfl, ?_⟩) (by assumption) ?_
                  rotate_left
                  · (intro w; go_simp; try with_reducible rfl)
                  simp only [Act.put, List.setIfInBounds_toArray, List.set_cons_zero, List.set_cons_succ]
                  refine wpAnyG_pure (i := 7) (oi := { dst := some 149, op := Go.Op.fieldAddr 42 (Go.Operand.tmp 148) 4, type := 0, pos := "law.go:279", after := #[{ on := 6, ground := Go.Ground.data }], guard := none }) (v := ?_) rfl (by kernel_rfl) (by kernel_rfl) (by kernel_rfl) (by kernel_rfl) (fun _ _ _ h => h) (Or.inl ⟨by rfl, ?_⟩) (by assumption) ?_
                  rotate_left
                  · (intro w; go_simp; try with_reducible rfl)
                  simp only [Act.put, List.setIfInBounds_toArray, List.set_cons_zero, List.set_cons_succ]
                  refine wpAnyG_take (i := 8) (oi := { dst := some 150, op := Go.Op.load 9 (Go.Operand.tmp 149), type := 9, pos := "law.go:279", after := #[{ on := 7, ground := Go.Ground.data }], guard := none }) (v := ?_) rfl (by kernel_rfl) (by kernel_rfl) (by kernel_rfl) (by kernel_rfl) (fun _ _ _ h => h) (Or.inl ⟨by rfl, ?_⟩) (by assumption) ?_
                  rotate_left
                  · (intro w hSw; (obtain ⟨q1, q2, q3, q4⟩ := hSw); go_simp; try with_reducible rfl)
                  simp only [Act.put, List.setIfInBounds_toArray, List.set_cons_zero, List.set_cons_succ]
                  refine wpAnyG_pure (i := 9) (oi := { dst := some 151, op := Go.Op.move (Go.Operand.tmp 17), type := 53, pos := "law.go:279", after := #[], guard := none }) (v := ?_) rfl (by kernel_rfl) (by kernel_rfl) (by kernel_rfl) (by kernel_rfl) (fun _ _ _ h => h) (Or.inl ⟨by rfl, ?_⟩) (by assumption) ?_
                  rotate_left
                  · (intro w; go_simp; try with_reducible rfl)
                  simp only [Act.put, List.setIfInBounds_toArray, List.set_cons_zero, List.set_cons_succ]
                  refine wpAnyG_pure (i := 10) (oi := { dst := some 152, op := Go.Op.move (Go.Operand.tmp 18), type := 3, pos := "law.go:279", after := #[], guard := none }) (v := ?_) rfl (by kernel_rfl) (by kernel_rfl) (by kernel_rfl) (by kernel_rfl) (fun _ _ _ h => h) (Or.inl ⟨by rfl, ?_⟩) (by assumption) ?_
                  rotate_left
                  · (intro w; go_simp; try with_reducible rfl)
                  simp only [Act.put, List.setIfInBounds_toArray, List.set_cons_zero, List.set_cons_succ]
                  refine wpAnyG_pure (i := 11) (oi := { dst := some 153, op := Go.Op.indexAddr 53 (Go.Operand.tmp 151) (Go.Operand.tmp 152), type := 0, pos := "law.go:279", after := #[{ on := 9, ground := Go.Ground.data }, { on := 10, ground := Go.Ground.data }], guard := none }) (v := ?_) rfl (by kernel_rfl) (by kernel_rfl) (by kernel_rfl) (by kernel_rfl) (fun _ _ _ h => h) (Or.inl ⟨by rfl, ?_⟩) (by assumption) ?_
                  rotate_left
                  · (intro w; go_simp; try with_reducible rfl)
                  simp only [Act.put, List.setIfInBounds_toArray, List.set_cons_zero, List.set_cons_succ]
                  refine wpAnyG_take (i := 12) (oi := { dst := some 154, op := Go.Op.load 9 (Go.Operand.tmp 153), type := 9, pos := "law.go:279", after := #[{ on := 11, ground := Go.Ground.data }], guard := none }) (v := ?_) rfl (by kernel_rfl) (by kernel_rfl) (by kernel_rfl) (by kernel_rfl) (fun _ _ _ h => h) (Or.inl ⟨by rfl, ?_⟩) (by assumption) ?_
                  rotate_left
                  · (intro w hSw; (obtain ⟨q1, q2, q3, q4⟩ := hSw); go_simp; try with_reducible rfl)
                  simp only [Act.put, List.setIfInBounds_toArray, List.set_cons_zero, List.set_cons_succ]
                  refine wpAnyG_pure (i := 13) (oi := { dst := some 155, op := Go.Op.binOp Go.BinOp.neq 9 (Go.Operand.tmp 150) (Go.Operand.tmp 154) 9, type := 4, pos := "law.go:279", after := #[{ on := 8, ground := Go.Ground.data }, { on := 12, ground := Go.Ground.data }], guard := none }) (v := ?_) rfl (by kernel_rfl) (by kernel_rfl) (by kernel_rfl) (by kernel_rfl) (fun _ _ _ h => h) (Or.inl ⟨by rfl, ?_⟩) (by assumption) ?_
                  rotate_left
                  · (intro w; go_simp; try with_reducible rfl)
                  simp only [Act.put, List.setIfInBounds_toArray, List.set_cons_zero, List.set_cons_succ]
                  refine wpAnyG_free (by kernel_rfl) ?_
                  refine wpAny_done (by kernel_rfl) ?_ _
                  go_wp2_with fail
                  go_roundw
                  case rel => exact ⟨j + 1, by go_num, by omega, kj.drew⟩
                  case measure => simp [intOf]; omega
                · have b7 : decide ((j : Int) < 1) = false := decide_eq_false (by omega)
                  go_wp2_with (go_at_call 13; refine (HKn.out _).mono ?_; rintro e w8 ⟨rfl, k8⟩)
                  go_ret
                  exact ⟨rfl, (kE.trans kj (fun x hx => Or.inl hx)).trans k8 (fun x hx => Or.inl hx)⟩
            · have hf0 : f.toList.isEmpty = false := ne_empty z1
              have hl0 : l.toList.isEmpty = false := ne_empty z2
              have hM : Ar.wantT f false l = [(Ar.tL f), (Ar.tL l)] := by unfold Ar.wantT Ar.tO; rw [if_neg z1, if_neg z2]; rfl
              rw [hC, hM] at HP
              clear hM hC
              go_upto_region 23 with (go_at_call 20; refine HP.mono ?_; rintro e w1 ⟨⟨⟨a1, a2, a3⟩, ⟨k1, k2, kc⟩⟩, rfl, kp1, nd⟩; refine Hid.out ?_)
              unfold Hid
              obtain ⟨hp1, kb, ko, ⟨po, pn, pc⟩, hp2, c5, hlen, hcs⟩ := tx_tree nd
              simp only at hp1 hp2 c5 hlen hcs
              subst hp1 hp2
              replace hlen : pn = 2 := hlen
              subst hlen
              obtain ⟨g9, hg9⟩ : ∃ g, w1.heap.size = g := ⟨_, rfl⟩
              obtain ⟨V0, hV0⟩ : ∃ V, V = w1.alloc (.cells #[.int .i64 L0.kind, .int .i64 L0.ns, .string L0.name, .slice a1 a2 a3, .string L0.text, .slice (some ⟨kb, ko, none⟩) 1 kc] 42) := ⟨_, rfl⟩
              have kV : Kp [] w1 V0 := by rw [hV0]; exact (Kp.refl _ _).alloc _
              have T9 : At V0 g9 #[.int .i64 L0.kind, .int .i64 L0.ns, .string L0.name, .slice a1 a2 a3, .string L0.text, .slice (some ⟨kb, ko, none⟩) 1 kc] 42 := by rw [hV0, ← hg9]; exact At.new _ _ _
              have HV0 : Hid (w1.alloc (.cells #[.int .i64 L0.kind, .int .i64 L0.ns, .string L0.name, .slice a1 a2 a3, .string L0.text, .slice (some ⟨kb, ko, none⟩) 1 kc] 42) = V0) := hV0.symm
              clear hV0
              have M0 := Made.nil V0 9
              obtain ⟨o1, n1, c1, V1, run1, M1⟩ := M0.one Try.underlying53 infoS1 rfl (by decide) (.string f) rfl (by simp)
              obtain rfl : n1 = 1 := by have := M1.rb.len; simpa using this
              obtain ⟨o2, n2, c2, V2, run2, M2⟩ := M1.one Try.underlying53 infoS1 rfl (by decide) (.string l) rfl (by simp)
              obtain rfl : n2 = 2 := by have := M2.rb.len; simpa using this
              have kM := M2.2.1
              have kE : Kp [] w V2 := ((kw.trans kp1 (fun x hx => Or.inl hx)).trans kV (fun x hx => Or.inl hx)).trans kM (fun x hx => Or.inl hx)
              have hkb := block_lt_of_cell c5
              have hcm : V2.cell? ⟨kb, ko + 5, none⟩ = some (.slice po 2 pc) := by rw [kM.cell (a := ⟨kb, ko + 5, none⟩) (Nat.lt_of_lt_of_le hkb kV.size) (by simp), kV.cell (a := ⟨kb, ko + 5, none⟩) hkb (by simp)]; exact c5
              have T9m := T9.kept kM (by simp)
              have t5 : V2.cell? ⟨g9, 5, none⟩ = some (.slice (some ⟨kb, ko, none⟩) 1 kc) := T9m.cell 5
              have HZ5 : Hid (∀ V, Kp [] V2 V → V.cell? ⟨g9, 5, none⟩ = some (.slice (some ⟨kb, ko, none⟩) 1 kc) ∧ V.cell? ⟨kb, ko + 5, none⟩ = some (.slice po 2 pc)) := fun V k => ⟨(k.cell (a := ⟨g9, 5, none⟩) T9m.lt (by simp)).trans t5, (k.cell (a := ⟨kb, ko + 5, none⟩) (block_lt_of_cell hcm) (by simp)).trans hcm⟩
              have HKn : Hid (∀ V, Calls Try.prog 13 #[] V fun e w9 => e = .returned (.bool true) ∧ Kp [] V w9) := known_any
              have RW : Hid (Rb V2 o2 2 c2 (tv [(Ar.tL f), (Ar.tL l)])) := M2.rb
              have HJ : Hid (∀ j (hj : j < 2) V, Kp [] V2 V → ∃ kb2 ko2 b7 o7 tj, po = some ⟨kb2, ko2, none⟩ ∧ o2 = some ⟨b7, o7, none⟩ ∧ V.cell? ⟨kb2, ko2 + j * 6 + 4, none⟩ = some (.string tj) ∧ V.cell? ⟨b7, o7 + j, none⟩ = some (.string tj)) := fun j hj V k => by
                obtain ⟨kb2, ko2, g1, g2⟩ := hcs j hj
                obtain ⟨b7, o7, g3, g4⟩ := RW.out.tv_at j hj
                have hq := block_lt_of_cell g2
                refine ⟨kb2, ko2, b7, o7, ([(Ar.tL f), (Ar.tL l)] : List Lb)[j].text, g1, g3, ?_, ?_⟩
                · exact ((k.cell (a := ⟨kb2, ko2 + j * 6 + 4, none⟩) (Nat.lt_of_lt_of_le hq (Nat.le_trans kV.size kM.size)) (by simp)).trans ((kM.cell (a := ⟨kb2, ko2 + j * 6 + 4, none⟩) (Nat.lt_of_lt_of_le hq kV.size) (by simp)).trans (kV.cell (a := ⟨kb2, ko2 + j * 6 + 4, none⟩) hq (by simp)))).trans g2
                · exact (k.cell (a := ⟨b7, o7 + j, none⟩) (block_lt_of_cell g4) (by simp)).trans g4
              clear nd hcs c5 kV kp1 M0 kM T9 kw HP M1 M2
              go_upto_region 24 with fail
              rw [HV0.out]
              clear HV0
              clear hf hl hlt hA0 z1 z2 hi hiL
              go_upto_region 26 with (at_builtin; refine Lib.wpList_append_run _ rfl _ _ _ _ rfl _ _ rfl rfl _ _ (run1 _) ?_)
              clear run1
              go_upto_region 28 with fail
              go_upto_region 30 with (at_builtin; refine Lib.wpList_append_run _ rfl _ _ _ _ rfl _ _ rfl rfl _ _ (run2 _) ?_)
              clear run2
              go_wp2_with fail
              clear t5 hcm hkb T9m
              go_loopw [18] (fun x18 wr => ∃ j : Nat, x18 = .int .i64 (j : Int) ∧ j ≤ 2 ∧ Kp [] V2 wr) (fun x18 _ => 2 - (intOf x18).toNat)
              case atStart => exact ⟨0, rfl, Nat.zero_le _, Kp.refl _ _⟩
              case round =>
                obtain ⟨j, rfl, hj, kj⟩ := hrel
                by_cases hjm : j < 2
                · obtain ⟨kb2, ko2, b7, o7, tj, rfl, rfl, g2, g4⟩ := HJ.out j hjm wr kj
                  obtain ⟨y1, y2⟩ := HZ5.out wr kj
                  have bj : decide ((j : Int) < 2) = true := decide_eq_true (by omega)
                  have j1 : (0 : Int) ≤ (j : Int) := by omega
                  have j2 : (j : Int) < 2 := by omega
                  have hS35 : (World.drew wr).cell? ⟨g9, 5, none⟩ = some (.slice (some ⟨kb, ko, none⟩) 1 kc) ∧ (World.drew wr).cell? ⟨kb, ko + 5, none⟩ = some (.slice (some ⟨kb2, ko2, none⟩) 2 pc) ∧ (World.drew wr).cell? ⟨kb2, ko2 + j * 6 + 4, none⟩ = some (.string tj) ∧ (World.drew wr).cell? ⟨b7, o7 + j, none⟩ = some (.string tj) := ⟨y1, y2, g2, g4⟩
                  go_wp2_with fail
                  refine wp_region_g (S := fun V => V.cell? ⟨g9, 5, none⟩ = some (.slice (some ⟨kb, ko, none⟩) 1 kc) ∧ V.cell? ⟨kb, ko + 5, none⟩ = some (.slice (some ⟨kb2, ko2, none⟩) 2 pc) ∧ V.cell? ⟨kb2, ko2 + j * 6 + 4, none⟩ = some (.string tj) ∧ V.cell? ⟨b7, o7 + j, none⟩ = some (.string tj)) (T := []) (by kernel_rfl) hS35 (fun hHeld => ?_)
                  refine wpAnyG_pure (i := 0) (oi := { dst := some 142, op := Go.Op.fieldAddr 42 (Go.Operand.tmp 15) 5, type := 0, pos := "law.go:279", after := #[], guard := none }) (v := ?_) rfl (by kernel_rfl) (by kernel_rfl) (by kernel_rfl) (by kernel_rfl) (fun _ _ _ h => h) (Or.inl ⟨by rfl, ?_⟩) (by assumption) ?_
                  rotate_left
                  · (intro w; go_simp; try with_reducible rfl)
                  simp only [Act.put, List.setIfInBounds_toArray, List.set_cons_zero, List.set_cons_succ]
                  refine wpAnyG_take (i := 1) (oi := { dst := some 143, op := Go.Op.load 40 (Go.Operand.tmp 142), type := 40, pos := "law.go:279", after := #[{ on := 0, ground := Go.Ground.data }], guard := none }) (v := ?_) rfl (by kernel_rfl) (by kernel_rfl) (by kernel_rfl) (by kernel_rfl) (fun _ _ _ h => h) (Or.inl ⟨by rfl, ?_⟩) (by assumption) ?_
                  rotate_left
                  · (intro w hSw; (obtain ⟨q1, q2, q3, q4⟩ := hSw); go_simp; try with_reducible rfl)
                  simp only [Act.put, List.setIfInBounds_toArray, List.set_cons_zero, List.set_cons_succ]
                  refine wpAnyG_pure (i := 2) (oi := { dst := some 144, op := Go.Op.indexAddr 40 (Go.Operand.tmp 143) (Go.Operand.const (Go.Value.int Go.IntKind.i64 0)), type := 0, pos := "law.go:279", after := #[{ on := 1, ground := Go.Ground.data }], guard := none }) (v := ?_) rfl (by kernel_rfl) (by kernel_rfl) (by kernel_rfl) (by kernel_rfl) (fun _ _ _ h => h) (Or.inl ⟨by rfl, ?_⟩) (by assumption) ?_
                  rotate_left
                  · (intro w; go_simp; try with_reducible rfl)
                  simp only [Act.put, List.setIfInBounds_toArray, List.set_cons_zero, List.set_cons_succ]
                  refine wpAnyG_pure (i := 3) (oi := { dst := some 145, op := Go.Op.fieldAddr 42 (Go.Operand.tmp 144) 5, type := 0, pos := "law.go:279", after := #[{ on := 2, ground := Go.Ground.data }], guard := none }) (v := ?_) rfl (by kernel_rfl) (by kernel_rfl) (by kernel_rfl) (by kernel_rfl) (fun _ _ _ h => h) (Or.inl ⟨by rfl, ?_⟩) (by assumption) ?_
                  rotate_left
                  · (intro w; go_simp; try with_reducible rfl)
                  simp only [Act.put, List.setIfInBounds_toArray, List.set_cons_zero, List.set_cons_succ]
                  refine wpAnyG_take (i := 4) (oi := { dst := some 146, op := Go.Op.load 40 (Go.Operand.tmp 145), type := 40, pos := "law.go:279", after := #[{ on := 3, ground := Go.Ground.data }], guard := none }) (v := ?_) rfl (by kernel_rfl) (by kernel_rfl) (by kernel_rfl) (by kernel_rfl) (fun _ _ _ h => h) (Or.inl ⟨by rfl, ?_⟩) (by assumption) ?_
                  rotate_left
                  · (intro w hSw; (obtain ⟨q1, q2, q3, q4⟩ := hSw); go_simp; try with_reducible rfl)
                  simp only [Act.put, List.setIfInBounds_toArray, List.set_cons_zero, List.set_cons_succ]
                  refine wpAnyG_pure (i := 5) (oi := { dst := some 147, op := Go.Op.move (Go.Operand.tmp 18), type := 3, pos := "law.go:279", after := #[], guard := none }) (v := ?_) rfl (by kernel_rfl) (by kernel_rfl) (by kernel_rfl) (by kernel_rfl) (fun _ _ _ h => h) (Or.inl ⟨by rfl, ?_⟩) (by assumption) ?_
                  rotate_left
                  · (intro w; go_simp; try with_reducible rfl)
                  simp only [Act.put, List.setIfInBounds_toArray, List.set_cons_zero, List.set_cons_succ]
                  refine wpAnyG_pure (i := 6) (oi := { dst := some 148, op := Go.Op.indexAddr 40 (Go.Operand.tmp 146) (Go.Operand.tmp 147), type := 0, pos := "law.go:279", after := #[{ on := 4, ground := Go.Ground.data }, { on := 5, ground := Go.Ground.data }], guard := none }) (v := ?_) rfl (by kernel_rfl) (by kernel_rfl) (by kernel_rfl) (by kernel_rfl) (fun _ _ _ h => h) (Or.inl ⟨by rfl, ?_⟩) (by assumption) ?_
                  rotate_left
                  · (intro w; go_simp; try with_reducible rfl)
                  simp only [Act.put, List.setIfInBounds_toArray, List.set_cons_zero, List.set_cons_succ]
                  refine wpAnyG_pure (i := 7) (oi := { dst := some 149, op := Go.Op.fieldAddr 42 (Go.Operand.tmp 148) 4, type := 0, pos := "law.go:279", after := #[{ on := 6, ground := Go.Ground.data }], guard := none }) (v := ?_) rfl (by kernel_rfl) (by kernel_rfl) (by kernel_rfl) (by kernel_rfl) (fun _ _ _ h => h) (Or.inl ⟨by rfl, ?_⟩) (by assumption) ?_
                  rotate_left
                  · (intro w; go_simp; try with_reducible rfl)
                  simp only [Act.put, List.setIfInBounds_toArray, List.set_cons_zero, List.set_cons_succ]
                  refine wpAnyG_take (i := 8) (oi := { dst := some 150, op := Go.Op.load 9 (Go.Operand.tmp 149), type := 9, pos := "law.go:279", after := #[{ on := 7, ground := Go.Ground.data }], guard := none }) (v := ?_) rfl (by kernel_rfl) (by kernel_rfl) (by kernel_rfl) (by kernel_rfl) (fun _ _ _ h => h) (Or.inl ⟨by rfl, ?_⟩) (by assumption) ?_
                  rotate_left
                  · (intro w hSw; (obtain ⟨q1, q2, q3, q4⟩ := hSw); go_simp; try with_reducible rfl)
                  simp only [Act.put, List.setIfInBounds_toArray, List.set_cons_zero, List.set_cons_succ]
                  refine wpAnyG_pure (i := 9) (oi := { dst := some 151, op := Go.Op.move (Go.Operand.tmp 17), type := 53, pos := "law.go:279", after := #[], guard := none }) (v := ?_) rfl (by kernel_rfl) (by kernel_rfl) (by kernel_rfl) (by kernel_rfl) (fun _ _ _ h => h) (Or.inl ⟨by rfl, ?_⟩) (by assumption) ?_
                  rotate_left
                  · (intro w; go_simp; try with_reducible rfl)
                  simp only [Act.put, List.setIfInBounds_toArray, List.set_cons_zero, List.set_cons_succ]
                  refine wpAnyG_pure (i := 10) (oi := { dst := some 152, op := Go.Op.move (Go.Operand.tmp 18), type := 3, pos := "law.go:279", after := #[], guard := none }) (v := ?_) rfl (by kernel_rfl) (by kernel_rfl) (by kernel_rfl) (by kernel_rfl) (fun _ _ _ h => h) (Or.inl ⟨by rfl, ?_⟩) (by assumption) ?_
                  rotate_left
                  · (intro w; go_simp; try with_reducible rfl)
                  simp only [Act.put, List.setIfInBounds_toArray, List.set_cons_zero, List.set_cons_succ]
                  refine wpAnyG_pure (i := 11) (oi := { dst := some 153, op := Go.Op.indexAddr 53 (Go.Operand.tmp 151) (Go.Operand.tmp 152), type := 0, pos := "law.go:279", after := #[{ on := 9, ground := Go.Ground.data }, { on := 10, ground := Go.Ground.data }], guard := none }) (v := ?_) rfl (by kernel_rfl) (by kernel_rfl) (by kernel_rfl) (by kernel_rfl) (fun _ _ _ h => h) (Or.inl ⟨by rfl, ?_⟩) (by assumption) ?_
                  rotate_left
                  · (intro w; go_simp; try with_reducible rfl)
                  simp only [Act.put, List.setIfInBounds_toArray, List.set_cons_zero, List.set_cons_succ]
                  refine wpAnyG_take (i := 12) (oi := { dst := some 154, op := Go.Op.load 9 (Go.Operand.tmp 153), type := 9, pos := "law.go:279", after := #[{ on := 11, ground := Go.Ground.data }], guard := none }) (v := ?_) rfl (by kernel_rfl) (by kernel_rfl) (by kernel_rfl) (by kernel_rfl) (fun _ _ _ h => h) (Or.inl ⟨by rfl, ?_⟩) (by assumption) ?_
                  rotate_left
                  · (intro w hSw; (obtain ⟨q1, q2, q3, q4⟩ := hSw); go_simp; try with_reducible rfl)
                  simp only [Act.put, List.setIfInBounds_toArray, List.set_cons_zero, List.set_cons_succ]
                  refine wpAnyG_pure (i := 13) (oi := { dst := some 155, op := Go.Op.binOp Go.BinOp.neq 9 (Go.Operand.tmp 150) (Go.Operand.tmp 154) 9, type := 4, pos := "law.go:279", after := #[{ on := 8, ground := Go.Ground.data }, { on := 12, ground := Go.Ground.data }], guard := none }) (v := ?_) rfl (by kernel_rfl) (by kernel_rfl) (by kernel_rfl) (by kernel_rfl) (fun _ _ _ h => h) (Or.inl ⟨by rfl, ?_⟩) (by assumption) ?_
                  rotate_left
                  · (intro w; go_simp; try with_reducible rfl)
                  simp only [Act.put, List.setIfInBounds_toArray, List.set_cons_zero, List.set_cons_succ]
                  refine wpAnyG_free (by kernel_rfl) ?_
                  refine wpAny_done (by kernel_rfl) ?_ _
                  go_wp2_with fail
                  go_roundw
                  case rel => exact ⟨j + 1, by go_num, by omega, kj.drew⟩
                  case measure => simp [intOf]; omega
                · have b7 : decide ((j : Int) < 2) = false := decide_eq_false (by omega)
                  go_wp2_with (go_at_call 13; refine (HKn.out _).mono ?_; rintro e w8 ⟨rfl, k8⟩)
                  go_ret
                  exact ⟨rfl, (kE.trans kj (fun x hx => Or.inl hx)).trans k8 (fun x hx => Or.inl hx)⟩
      · have b1 : decide ((i : Int) < (n : Int)) = false := decide_eq_false (by omega)
        by_cases hkn : k < n
        · skip
          have hk9 : k < 10 := by omega
          have b5 : decide ((k : Int) < (n : Int)) = true := decide_eq_true (by omega)
          have b6 : decide ((k : Int) < 10) = true := decide_eq_true (by omega)
          have hC : decide (k < i) = true := decide_eq_true (by omega)
          by_cases z1 : f.size = 0
          · by_cases z2 : l.size = 0
            · have hf0 : f.toList.isEmpty = true := emp_yes z1
              have hl0 : l.toList.isEmpty = true := emp_yes z2
              have hM : Ar.wantT f true l = [Ar.cL] := by unfold Ar.wantT Ar.tO; rw [if_pos z1, if_pos z2]; rfl
              rw [hC, hM] at HP
              clear hM hC
              go_upto_region 23 with (go_at_call 20; refine HP.mono ?_; rintro e w1 ⟨⟨⟨a1, a2, a3⟩, ⟨k1, k2, kc⟩⟩, rfl, kp1, nd⟩; refine Hid.out ?_)
              unfold Hid
              obtain ⟨hp1, kb, ko, ⟨po, pn, pc⟩, hp2, c5, hlen, hcs⟩ := tx_tree nd
              simp only at hp1 hp2 c5 hlen hcs
              subst hp1 hp2
              replace hlen : pn = 1 := hlen
              subst hlen
              obtain ⟨g9, hg9⟩ : ∃ g, w1.heap.size = g := ⟨_, rfl⟩
              obtain ⟨V0, hV0⟩ : ∃ V, V = w1.alloc (.cells #[.int .i64 L0.kind, .int .i64 L0.ns, .string L0.name, .slice a1 a2 a3, .string L0.text, .slice (some ⟨kb, ko, none⟩) 1 kc] 42) := ⟨_, rfl⟩
              have kV : Kp [] w1 V0 := by rw [hV0]; exact (Kp.refl _ _).alloc _
              have T9 : At V0 g9 #[.int .i64 L0.kind, .int .i64 L0.ns, .string L0.name, .slice a1 a2 a3, .string L0.text, .slice (some ⟨kb, ko, none⟩) 1 kc] 42 := by rw [hV0, ← hg9]; exact At.new _ _ _
              have HV0 : Hid (w1.alloc (.cells #[.int .i64 L0.kind, .int .i64 L0.ns, .string L0.name, .slice a1 a2 a3, .string L0.text, .slice (some ⟨kb, ko, none⟩) 1 kc] 42) = V0) := hV0.symm
              clear hV0
              have M0 := Made.nil V0 9
              obtain ⟨o1, n1, c1, V1, run1, M1⟩ := M0.one Try.underlying53 infoS1 rfl (by decide) (.string (⟨#[99]⟩ : ByteArray)) rfl (by simp)
              obtain rfl : n1 = 1 := by have := M1.rb.len; simpa using this
              have kM := M1.2.1
              have kE : Kp [] w V1 := ((kw.trans kp1 (fun x hx => Or.inl hx)).trans kV (fun x hx => Or.inl hx)).trans kM (fun x hx => Or.inl hx)
              have hkb := block_lt_of_cell c5
              have hcm : V1.cell? ⟨kb, ko + 5, none⟩ = some (.slice po 1 pc) := by rw [kM.cell (a := ⟨kb, ko + 5, none⟩) (Nat.lt_of_lt_of_le hkb kV.size) (by simp), kV.cell (a := ⟨kb, ko + 5, none⟩) hkb (by simp)]; exact c5
              have T9m := T9.kept kM (by simp)
              have t5 : V1.cell? ⟨g9, 5, none⟩ = some (.slice (some ⟨kb, ko, none⟩) 1 kc) := T9m.cell 5
              have HZ5 : Hid (∀ V, Kp [] V1 V → V.cell? ⟨g9, 5, none⟩ = some (.slice (some ⟨kb, ko, none⟩) 1 kc) ∧ V.cell? ⟨kb, ko + 5, none⟩ = some (.slice po 1 pc)) := fun V k => ⟨(k.cell (a := ⟨g9, 5, none⟩) T9m.lt (by simp)).trans t5, (k.cell (a := ⟨kb, ko + 5, none⟩) (block_lt_of_cell hcm) (by simp)).trans hcm⟩
              have HKn : Hid (∀ V, Calls Try.prog 13 #[] V fun e w9 => e = .returned (.bool true) ∧ Kp [] V w9) := known_any
              have RW : Hid (Rb V1 o1 1 c1 (tv [Ar.cL])) := M1.rb
              have HJ : Hid (∀ j (hj : j < 1) V, Kp [] V1 V → ∃ kb2 ko2 b7 o7 tj, po = some ⟨kb2, ko2, none⟩ ∧ o1 = some ⟨b7, o7, none⟩ ∧ V.cell? ⟨kb2, ko2 + j * 6 + 4, none⟩ = some (.string tj) ∧ V.cell? ⟨b7, o7 + j, none⟩ = some (.string tj)) := fun j hj V k => by
                obtain ⟨kb2, ko2, g1, g2⟩ := hcs j hj
                obtain ⟨b7, o7, g3, g4⟩ := RW.out.tv_at j hj
                have hq := block_lt_of_cell g2
                refine ⟨kb2, ko2, b7, o7, ([Ar.cL] : List Lb)[j].text, g1, g3, ?_, ?_⟩
                · exact ((k.cell (a := ⟨kb2, ko2 + j * 6 + 4, none⟩) (Nat.lt_of_lt_of_le hq (Nat.le_trans kV.size kM.size)) (by simp)).trans ((kM.cell (a := ⟨kb2, ko2 + j * 6 + 4, none⟩) (Nat.lt_of_lt_of_le hq kV.size) (by simp)).trans (kV.cell (a := ⟨kb2, ko2 + j * 6 + 4, none⟩) hq (by simp)))).trans g2
                · exact (k.cell (a := ⟨b7, o7 + j, none⟩) (block_lt_of_cell g4) (by simp)).trans g4
              clear nd hcs c5 kV kp1 M0 kM T9 kw HP M1
              go_upto_region 24 with fail
              rw [HV0.out]
              clear HV0
              clear hf hl hlt hA0 z1 z2 hi hiL
              go_upto_region 26 with fail
              go_upto_region 28 with (at_builtin; refine Lib.wpList_append_run _ rfl _ _ _ _ rfl _ _ rfl rfl _ _ (run1 _) ?_)
              clear run1
              go_upto_region 30 with fail
              go_wp2_with fail
              clear t5 hcm hkb T9m
              go_loopw [18] (fun x18 wr => ∃ j : Nat, x18 = .int .i64 (j : Int) ∧ j ≤ 1 ∧ Kp [] V1 wr) (fun x18 _ => 1 - (intOf x18).toNat)
              case atStart => exact ⟨0, rfl, Nat.zero_le _, Kp.refl _ _⟩
              case round =>
                obtain ⟨j, rfl, hj, kj⟩ := hrel
                by_cases hjm : j < 1
                · obtain ⟨kb2, ko2, b7, o7, tj, rfl, rfl, g2, g4⟩ := HJ.out j hjm wr kj
                  obtain ⟨y1, y2⟩ := HZ5.out wr kj
                  have bj : decide ((j : Int) < 1) = true := decide_eq_true (by omega)
                  have j1 : (0 : Int) ≤ (j : Int) := by omega
                  have j2 : (j : Int) < 1 := by omega
                  have hS35 : (World.drew wr).cell? ⟨g9, 5, none⟩ = some (.slice (some ⟨kb, ko, none⟩) 1 kc) ∧ (World.drew wr).cell? ⟨kb, ko + 5, none⟩ = some (.slice (some ⟨kb2, ko2, none⟩) 1 pc) ∧ (World.drew wr).cell? ⟨kb2, ko2 + j * 6 + 4, none⟩ = some (.string tj) ∧ (World.drew wr).cell? ⟨b7, o7 + j, none⟩ = some (.string tj) := ⟨y1, y2, g2, g4⟩
                  go_wp2_with fail
                  refine wp_region_g (S := fun V => V.cell? ⟨g9, 5, none⟩ = some (.slice (some ⟨kb, ko, none⟩) 1 kc) ∧ V.cell? ⟨kb, ko + 5, none⟩ = some (.slice (some ⟨kb2, ko2, none⟩) 1 pc) ∧ V.cell? ⟨kb2, ko2 + j * 6 + 4, none⟩ = some (.string tj) ∧ V.cell? ⟨b7, o7 + j, none⟩ = some (.string tj)) (T := []) (by kernel_rfl) hS35 (fun hHeld => ?_)
                  refine wpAnyG_pure (i := 0) (oi := { dst := some 142, op := Go.Op.fieldAddr 42 (Go.Operand.tmp 15) 5, type := 0, pos := "law.go:279", after := #[], guard := none }) (v := ?_) rfl (by kernel_rfl) (by kernel_rfl) (by kernel_rfl) (by kernel_rfl) (fun _ _ _ h => h) (Or.inl ⟨by rfl, ?_⟩) (by assumption) ?_
                  rotate_left
                  · (intro w; go_simp; try with_reducible rfl)
                  simp only [Act.put, List.setIfInBounds_toArray, List.set_cons_zero, List.set_cons_succ]
                  refine wpAnyG_take (i := 1) (oi := { dst := some 143, op := Go.Op.load 40 (Go.Operand.tmp 142), type := 40, pos := "law.go:279", after := #[{ on := 0, ground := Go.Ground.data }], guard := none }) (v := ?_) rfl (by kernel_rfl) (by kernel_rfl) (by kernel_rfl) (by kernel_rfl) (fun _ _ _ h => h) (Or.inl ⟨by rfl, ?_⟩) (by assumption) ?_
                  rotate_left
                  · (intro w hSw; (obtain ⟨q1, q2, q3, q4⟩ := hSw); go_simp; try with_reducible rfl)
                  simp only [Act.put, List.setIfInBounds_toArray, List.set_cons_zero, List.set_cons_succ]
                  refine wpAnyG_pure (i := 2) (oi := { dst := some 144, op := Go.Op.indexAddr 40 (Go.Operand.tmp 143) (Go.Operand.const (Go.Value.int Go.IntKind.i64 0)), type := 0, pos := "law.go:279", after := #[{ on := 1, ground := Go.Ground.data }], guard := none }) (v := ?_) rfl (by kernel_rfl) (by kernel_rfl) (by kernel_rfl) (by kernel_rfl) (fun _ _ _ h => h) (Or.inl ⟨by rfl, ?_⟩) (by assumption) ?_
                  rotate_left
                  · (intro w; go_simp; try with_reducible rfl)
                  simp only [Act.put, List.setIfInBounds_toArray, List.set_cons_zero, List.set_cons_succ]
                  refine wpAnyG_pure (i := 3) (oi := { dst := some 145, op := Go.Op.fieldAddr 42 (Go.Operand.tmp 144) 5, type := 0, pos := "law.go:279", after := #[{ on := 2, ground := Go.Ground.data }], guard := none }) (v := ?_) rfl (by kernel_rfl) (by kernel_rfl) (by kernel_rfl) (by kernel_rfl) (fun _ _ _ h => h) (Or.inl ⟨by rfl, ?_⟩) (by assumption) ?_
                  rotate_left
                  · (intro w; go_simp; try with_reducible rfl)
                  simp only [Act.put, List.setIfInBounds_toArray, List.set_cons_zero, List.set_cons_succ]
                  refine wpAnyG_take (i := 4) (oi := { dst := some 146, op := Go.Op.load 40 (Go.Operand.tmp 145), type := 40, pos := "law.go:279", after := #[{ on := 3, ground := Go.Ground.data }], guard := none }) (v := ?_) rfl (by kernel_rfl) (by kernel_rfl) (by kernel_rfl) (by kernel_rfl) (fun _ _ _ h => h) (Or.inl ⟨by rfl, ?_⟩) (by assumption) ?_
                  rotate_left
                  · (intro w hSw; (obtain ⟨q1, q2, q3, q4⟩ := hSw); go_simp; try with_reducible rfl)
                  simp only [Act.put, List.setIfInBounds_toArray, List.set_cons_zero, List.set_cons_succ]
                  refine wpAnyG_pure (i := 5) (oi := { dst := some 147, op := Go.Op.move (Go.Operand.tmp 18), type := 3, pos := "law.go:279", after := #[], guard := none }) (v := ?_) rfl (by kernel_rfl) (by kernel_rfl) (by kernel_rfl) (by kernel_rfl) (fun _ _ _ h => h) (Or.inl ⟨by rfl, ?_⟩) (by assumption) ?_
                  rotate_left
                  · (intro w; go_simp; try with_reducible rfl)
                  simp only [Act.put, List.setIfInBounds_toArray, List.set_cons_zero, List.set_cons_succ]
                  refine wpAnyG_pure (i := 6) (oi := { dst := some 148, op := Go.Op.indexAddr 40 (Go.Operand.tmp 146) (Go.Operand.tmp 147), type := 0, pos := "law.go:279", after := #[{ on := 4, ground := Go.Ground.data }, { on := 5, ground := Go.Ground.data }], guard := none }) (v := ?_) rfl (by kernel_rfl) (by kernel_rfl) (by kernel_rfl) (by kernel_rfl) (fun _ _ _ h => h) (Or.inl ⟨by rfl, ?_⟩) (by assumption) ?_
                  rotate_left
                  · (intro w; go_simp; try with_reducible rfl)
                  simp only [Act.put, List.setIfInBounds_toArray, List.set_cons_zero, List.set_cons_succ]
                  refine wpAnyG_pure (i := 7) (oi := { dst := some 149, op := Go.Op.fieldAddr 42 (Go.Operand.tmp 148) 4, type := 0, pos := "law.go:279", after := #[{ on := 6, ground := Go.Ground.data }], guard := none }) (v := ?_) rfl (by kernel_rfl) (by kernel_rfl) (by kernel_rfl) (by kernel_rfl) (fun _ _ _ h => h) (Or.inl ⟨by rfl, ?_⟩) (by assumption) ?_
                  rotate_left
                  · (intro w; go_simp; try with_reducible rfl)
                  simp only [Act.put, List.setIfInBounds_toArray, List.set_cons_zero, List.set_cons_succ]
                  refine wpAnyG_take (i := 8) (oi := { dst := some 150, op := Go.Op.load 9 (Go.Operand.tmp 149), type := 9, pos := "law.go:279", after := #[{ on := 7, ground := Go.Ground.data }], guard := none }) (v := ?_) rfl (by kernel_rfl) (by kernel_rfl) (by kernel_rfl) (by kernel_rfl) (fun _ _ _ h => h) (Or.inl ⟨by rfl, ?_⟩) (by assumption) ?_
                  rotate_left
                  · (intro w hSw; (obtain ⟨q1, q2, q3, q4⟩ := hSw); go_simp; try with_reducible rfl)
                  simp only [Act.put, List.setIfInBounds_toArray, List.set_cons_zero, List.set_cons_succ]
                  refine wpAnyG_pure (i := 9) (oi := { dst := some 151, op := Go.Op.move (Go.Operand.tmp 17), type := 53, pos := "law.go:279", after := #[], guard := none }) (v := ?_) rfl (by kernel_rfl) (by kernel_rfl) (by kernel_rfl) (by kernel_rfl) (fun _ _ _ h => h) (Or.inl ⟨by rfl, ?_⟩) (by assumption) ?_
                  rotate_left
                  · (intro w; go_simp; try with_reducible rfl)
                  simp only [Act.put, List.setIfInBounds_toArray, List.set_cons_zero, List.set_cons_succ]
                  refine wpAnyG_pure (i := 10) (oi := { dst := some 152, op := Go.Op.move (Go.Operand.tmp 18), type := 3, pos := "law.go:279", after := #[], guard := none }) (v := ?_) rfl (by kernel_rfl) (by kernel_rfl) (by kernel_rfl) (by kernel_rfl) (fun _ _ _ h => h) (Or.inl ⟨by rfl, ?_⟩) (by assumption) ?_
                  rotate_left
                  · (intro w; go_simp; try with_reducible rfl)
                  simp only [Act.put, List.setIfInBounds_toArray, List.set_cons_zero, List.set_cons_succ]
                  refine wpAnyG_pure (i := 11) (oi := { dst := some 153, op := Go.Op.indexAddr 53 (Go.Operand.tmp 151) (Go.Operand.tmp 152), type := 0, pos := "law.go:279", after := #[{ on := 9, ground := Go.Ground.data }, { on := 10, ground := Go.Ground.data }], guard := none }) (v := ?_) rfl (by kernel_rfl) (by kernel_rfl) (by kernel_rfl) (by kernel_rfl) (fun _ _ _ h => h) (Or.inl ⟨by rfl, ?_⟩) (by assumption) ?_
                  rotate_left
                  · (intro w; go_simp; try with_reducible rfl)
                  simp only [Act.put, List.setIfInBounds_toArray, List.set_cons_zero, List.set_cons_succ]
                  refine wpAnyG_take (i := 12) (oi := { dst := some 154, op := Go.Op.load 9 (Go.Operand.tmp 153), type := 9, pos := "law.go:279", after := #[{ on := 11, ground := Go.Ground.data }], guard := none }) (v := ?_) rfl (by kernel_rfl) (by kernel_rfl) (by kernel_rfl) (by kernel_rfl) (fun _ _ _ h => h) (Or.inl ⟨by rfl, ?_⟩) (by assumption) ?_
                  rotate_left
                  · (intro w hSw; (obtain ⟨q1, q2, q3, q4⟩ := hSw); go_simp; try with_reducible rfl)
                  simp only [Act.put, List.setIfInBounds_toArray, List.set_cons_zero, List.set_cons_succ]
                  refine wpAnyG_pure (i := 13) (oi := { dst := some 155, op := Go.Op.binOp Go.BinOp.neq 9 (Go.Operand.tmp 150) (Go.Operand.tmp 154) 9, type := 4, pos := "law.go:279", after := #[{ on := 8, ground := Go.Ground.data }, { on := 12, ground := Go.Ground.data }], guard := none }) (v := ?_) rfl (by kernel_rfl) (by kernel_rfl) (by kernel_rfl) (by kernel_rfl) (fun _ _ _ h => h) (Or.inl ⟨by rfl, ?_⟩) (by assumption) ?_
                  rotate_left
                  · (intro w; go_simp; try with_reducible rfl)
                  simp only [Act.put, List.setIfInBounds_toArray, List.set_cons_zero, List.set_cons_succ]
                  refine wpAnyG_free (by kernel_rfl) ?_
                  refine wpAny_done (by kernel_rfl) ?_ _
                  go_wp2_with fail
                  go_roundw
                  case rel => exact ⟨j + 1, by go_num, by omega, kj.drew⟩
                  case measure => simp [intOf]; omega
                · have b7 : decide ((j : Int) < 1) = false := decide_eq_false (by omega)
                  go_wp2_with (go_at_call 13; refine (HKn.out _).mono ?_; rintro e w8 ⟨rfl, k8⟩)
                  go_ret
                  exact ⟨rfl, (kE.trans kj (fun x hx => Or.inl hx)).trans k8 (fun x hx => Or.inl hx)⟩
            · have hf0 : f.toList.isEmpty = true := emp_yes z1
              have hl0 : l.toList.isEmpty = false := ne_empty z2
              have hM : Ar.wantT f true l = [Ar.cL, (Ar.tL l)] := by unfold Ar.wantT Ar.tO; rw [if_pos z1, if_neg z2]; rfl
              rw [hC, hM] at HP
              clear hM hC
              go_upto_region 23 with (go_at_call 20; refine HP.mono ?_; rintro e w1 ⟨⟨⟨a1, a2, a3⟩, ⟨k1, k2, kc⟩⟩, rfl, kp1, nd⟩; refine Hid.out ?_)
              unfold Hid
              obtain ⟨hp1, kb, ko, ⟨po, pn, pc⟩, hp2, c5, hlen, hcs⟩ := tx_tree nd
              simp only at hp1 hp2 c5 hlen hcs
              subst hp1 hp2
              replace hlen : pn = 2 := hlen
              subst hlen
              obtain ⟨g9, hg9⟩ : ∃ g, w1.heap.size = g := ⟨_, rfl⟩
              obtain ⟨V0, hV0⟩ : ∃ V, V = w1.alloc (.cells #[.int .i64 L0.kind, .int .i64 L0.ns, .string L0.name, .slice a1 a2 a3, .string L0.text, .slice (some ⟨kb, ko, none⟩) 1 kc] 42) := ⟨_, rfl⟩
              have kV : Kp [] w1 V0 := by rw [hV0]; exact (Kp.refl _ _).alloc _
              have T9 : At V0 g9 #[.int .i64 L0.kind, .int .i64 L0.ns, .string L0.name, .slice a1 a2 a3, .string L0.text, .slice (some ⟨kb, ko, none⟩) 1 kc] 42 := by rw [hV0, ← hg9]; exact At.new _ _ _
              have HV0 : Hid (w1.alloc (.cells #[.int .i64 L0.kind, .int .i64 L0.ns, .string L0.name, .slice a1 a2 a3, .string L0.text, .slice (some ⟨kb, ko, none⟩) 1 kc] 42) = V0) := hV0.symm
              clear hV0
              have M0 := Made.nil V0 9
              obtain ⟨o1, n1, c1, V1, run1, M1⟩ := M0.one Try.underlying53 infoS1 rfl (by decide) (.string (⟨#[99]⟩ : ByteArray)) rfl (by simp)
              obtain rfl : n1 = 1 := by have := M1.rb.len; simpa using this
              obtain ⟨o2, n2, c2, V2, run2, M2⟩ := M1.one Try.underlying53 infoS1 rfl (by decide) (.string l) rfl (by simp)
              obtain rfl : n2 = 2 := by have := M2.rb.len; simpa using this
              have kM := M2.2.1
              have kE : Kp [] w V2 := ((kw.trans kp1 (fun x hx => Or.inl hx)).trans kV (fun x hx => Or.inl hx)).trans kM (fun x hx => Or.inl hx)
              have hkb := block_lt_of_cell c5
              have hcm : V2.cell? ⟨kb, ko + 5, none⟩ = some (.slice po 2 pc) := by rw [kM.cell (a := ⟨kb, ko + 5, none⟩) (Nat.lt_of_lt_of_le hkb kV.size) (by simp), kV.cell (a := ⟨kb, ko + 5, none⟩) hkb (by simp)]; exact c5
              have T9m := T9.kept kM (by simp)
              have t5 : V2.cell? ⟨g9, 5, none⟩ = some (.slice (some ⟨kb, ko, none⟩) 1 kc) := T9m.cell 5
              have HZ5 : Hid (∀ V, Kp [] V2 V → V.cell? ⟨g9, 5, none⟩ = some (.slice (some ⟨kb, ko, none⟩) 1 kc) ∧ V.cell? ⟨kb, ko + 5, none⟩ = some (.slice po 2 pc)) := fun V k => ⟨(k.cell (a := ⟨g9, 5, none⟩) T9m.lt (by simp)).trans t5, (k.cell (a := ⟨kb, ko + 5, none⟩) (block_lt_of_cell hcm) (by simp)).trans hcm⟩
              have HKn : Hid (∀ V, Calls Try.prog 13 #[] V fun e w9 => e = .returned (.bool true) ∧ Kp [] V w9) := known_any
              have RW : Hid (Rb V2 o2 2 c2 (tv [Ar.cL, (Ar.tL l)])) := M2.rb
              have HJ : Hid (∀ j (hj : j < 2) V, Kp [] V2 V → ∃ kb2 ko2 b7 o7 tj, po = some ⟨kb2, ko2, none⟩ ∧ o2 = some ⟨b7, o7, none⟩ ∧ V.cell? ⟨kb2, ko2 + j * 6 + 4, none⟩ = some (.string tj) ∧ V.cell? ⟨b7, o7 + j, none⟩ = some (.string tj)) := fun j hj V k => by
                obtain ⟨kb2, ko2, g1, g2⟩ := hcs j hj
                obtain ⟨b7, o7, g3, g4⟩ := RW.out.tv_at j hj
                have hq := block_lt_of_cell g2
                refine ⟨kb2, ko2, b7, o7, ([Ar.cL, (Ar.tL l)] : List Lb)[j].text, g1, g3, ?_, ?_⟩
                · exact ((k.cell (a := ⟨kb2, ko2 + j * 6 + 4, none⟩) (Nat.lt_of_lt_of_le hq (Nat.le_trans kV.size kM.size)) (by simp)).trans ((kM.cell (a := ⟨kb2, ko2 + j * 6 + 4, none⟩) (Nat.lt_of_lt_of_le hq kV.size) (by simp)).trans (kV.cell (a := ⟨kb2, ko2 + j * 6 + 4, none⟩) hq (by simp)))).trans g2
                · exact (k.cell (a := ⟨b7, o7 + j, none⟩) (block_lt_of_cell g4) (by simp)).trans g4
              clear nd hcs c5 kV kp1 M0 kM T9 kw HP M1 M2
              go_upto_region 24 with fail
              rw [HV0.out]
              clear HV0
              clear hf hl hlt hA0 z1 z2 hi hiL
              go_upto_region 26 with fail
              go_upto_region 28 with (at_builtin; refine Lib.wpList_append_run _ rfl _ _ _ _ rfl _ _ rfl rfl _ _ (run1 _) ?_)
              clear run1
              go_upto_region 30 with (at_builtin; refine Lib.wpList_append_run _ rfl _ _ _ _ rfl _ _ rfl rfl _ _ (run2 _) ?_)
              clear run2
              go_wp2_with fail
              clear t5 hcm hkb T9m
              go_loopw [18] (fun x18 wr => ∃ j : Nat, x18 = .int .i64 (j : Int) ∧ j ≤ 2 ∧ Kp [] V2 wr) (fun x18 _ => 2 - (intOf x18).toNat)
              case atStart => exact ⟨0, rfl, Nat.zero_le _, Kp.refl _ _⟩
              case round =>
                obtain ⟨j, rfl, hj, kj⟩ := hrel
                by_cases hjm : j < 2
                · obtain ⟨kb2, ko2, b7, o7, tj, rfl, rfl, g2, g4⟩ := HJ.out j hjm wr kj
                  obtain ⟨y1, y2⟩ := HZ5.out wr kj
                  have bj : decide ((j : Int) < 2) = true := decide_eq_true (by omega)
                  have j1 : (0 : Int) ≤ (j : Int) := by omega
                  have j2 : (j : Int) < 2 := by omega
                  have hS35 : (World.drew wr).cell? ⟨g9, 5, none⟩ = some (.slice (some ⟨kb, ko, none⟩) 1 kc) ∧ (World.drew wr).cell? ⟨kb, ko + 5, none⟩ = some (.slice (some ⟨kb2, ko2, none⟩) 2 pc) ∧ (World.drew wr).cell? ⟨kb2, ko2 + j * 6 + 4, none⟩ = some (.string tj) ∧ (World.drew wr).cell? ⟨b7, o7 + j, none⟩ = some (.string tj) := ⟨y1, y2, g2, g4⟩
                  go_wp2_with fail
                  refine wp_region_g (S := fun V => V.cell? ⟨g9, 5, none⟩ = some (.slice (some ⟨kb, ko, none⟩) 1 kc) ∧ V.cell? ⟨kb, ko + 5, none⟩ = some (.slice (some ⟨kb2, ko2, none⟩) 2 pc) ∧ V.cell? ⟨kb2, ko2 + j * 6 + 4, none⟩ = some (.string tj) ∧ V.cell? ⟨b7, o7 + j, none⟩ = some (.string tj)) (T := []) (by kernel_rfl) hS35 (fun hHeld => ?_)
                  refine wpAnyG_pure (i := 0) (oi := { dst := some 142, op := Go.Op.fieldAddr 42 (Go.Operand.tmp 15) 5, type := 0, pos := "law.go:279", after := #[], guard := none }) (v := ?_) rfl (by kernel_rfl) (by kernel_rfl) (by kernel_rfl) (by kernel_rfl) (fun _ _ _ h => h) (Or.inl ⟨by rfl, ?_⟩) (by assumption) ?_
                  rotate_left
                  · (intro w; go_simp; try with_reducible rfl)
                  simp only [Act.put, List.setIfInBounds_toArray, List.set_cons_zero, List.set_cons_succ]
                  refine wpAnyG_take (i := 1) (oi := { dst := some 143, op := Go.Op.load 40 (Go.Operand.tmp 142), type := 40, pos := "law.go:279", after := #[{ on := 0, ground := Go.Ground.data }], guard := none }) (v := ?_) rfl (by kernel_rfl) (by kernel_rfl) (by kernel_rfl) (by kernel_rfl) (fun _ _ _ h => h) (Or.inl ⟨by rfl, ?_⟩) (by assumption) ?_
                  rotate_left
                  · (intro w hSw; (obtain ⟨q1, q2, q3, q4⟩ := hSw); go_simp; try with_reducible rfl)
                  simp only [Act.put, List.setIfInBounds_toArray, List.set_cons_zero, List.set_cons_succ]
                  refine wpAnyG_pure (i := 2) (oi := { dst := some 144, op := Go.Op.indexAddr 40 (Go.Operand.tmp 143) (Go.Operand.const (Go.Value.int Go.IntKind.i64 0)), type := 0, pos := "law.go:279", after := #[{ on := 1, ground := Go.Ground.data }], guard := none }) (v := ?_) rfl (by kernel_rfl) (by kernel_rfl) (by kernel_rfl) (by kernel_rfl) (fun _ _ _ h => h) (Or.inl ⟨by rfl, ?_⟩) (by assumption) ?_
                  rotate_left
                  · (intro w; go_simp; try with_reducible rfl)
                  simp only [Act.put, List.setIfInBounds_toArray, List.set_cons_zero, List.set_cons_succ]
                  refine wpAnyG_pure (i := 3) (oi := { dst := some 145, op := Go.Op.fieldAddr 42 (Go.Operand.tmp 144) 5, type := 0, pos := "law.go:279", after := #[{ on := 2, ground := Go.Ground.data }], guard := none }) (v := ?_) rfl (by kernel_rfl) (by kernel_rfl) (by kernel_rfl) (by kernel_rfl) (fun _ _ _ h => h) (Or.inl ⟨by rfl, ?_⟩) (by assumption) ?_
                  rotate_left
                  · (intro w; go_simp; try with_reducible rfl)
                  simp only [Act.put, List.setIfInBounds_toArray, List.set_cons_zero, List.set_cons_succ]
                  refine wpAnyG_take (i := 4) (oi := { dst := some 146, op := Go.Op.load 40 (Go.Operand.tmp 145), type := 40, pos := "law.go:279", after := #[{ on := 3, ground := Go.Ground.data }], guard := none }) (v := ?_) rfl (by kernel_rfl) (by kernel_rfl) (by kernel_rfl) (by kernel_rfl) (fun _ _ _ h => h) (Or.inl ⟨by rfl, ?_⟩) (by assumption) ?_
                  rotate_left
                  · (intro w hSw; (obtain ⟨q1, q2, q3, q4⟩ := hSw); go_simp; try with_reducible rfl)
                  simp only [Act.put, List.setIfInBounds_toArray, List.set_cons_zero, List.set_cons_succ]
                  refine wpAnyG_pure (i := 5) (oi := { dst := some 147, op := Go.Op.move (Go.Operand.tmp 18), type := 3, pos := "law.go:279", after := #[], guard := none }) (v := ?_) rfl (by kernel_rfl) (by kernel_rfl) (by kernel_rfl) (by kernel_rfl) (fun _ _ _ h => h) (Or.inl ⟨by rfl, ?_⟩) (by assumption) ?_
                  rotate_left
                  · (intro w; go_simp; try with_reducible rfl)
                  simp only [Act.put, List.setIfInBounds_toArray, List.set_cons_zero, List.set_cons_succ]
                  refine wpAnyG_pure (i := 6) (oi := { dst := some 148, op := Go.Op.indexAddr 40 (Go.Operand.tmp 146) (Go.Operand.tmp 147), type := 0, pos := "law.go:279", after := #[{ on := 4, ground := Go.Ground.data }, { on := 5, ground := Go.Ground.data }], guard := none }) (v := ?_) rfl (by kernel_rfl) (by kernel_rfl) (by kernel_rfl) (by kernel_rfl) (fun _ _ _ h => h) (Or.inl ⟨by rfl, ?_⟩) (by assumption) ?_
                  rotate_left
                  · (intro w; go_simp; try with_reducible rfl)
                  simp only [Act.put, List.setIfInBounds_toArray, List.set_cons_zero, List.set_cons_succ]
                  refine wpAnyG_pure (i := 7) (oi := { dst := some 149, op := Go.Op.fieldAddr 42 (Go.Operand.tmp 148) 4, type := 0, pos := "law.go:279", after := #[{ on := 6, ground := Go.Ground.data }], guard := none }) (v := ?_) rfl (by kernel_rfl) (by kernel_rfl) (by kernel_rfl) (by kernel_rfl) (fun _ _ _ h => h) (Or.inl ⟨by rfl, ?_⟩) (by assumption) ?_
                  rotate_left
                  · (intro w; go_simp; try with_reducible rfl)
                  simp only [Act.put, List.setIfInBounds_toArray, List.set_cons_zero, List.set_cons_succ]
                  refine wpAnyG_take (i := 8) (oi := { dst := some 150, op := Go.Op.load 9 (Go.Operand.tmp 149), type := 9, pos := "law.go:279", after := #[{ on := 7, ground := Go.Ground.data }], guard := none }) (v := ?_) rfl (by kernel_rfl) (by kernel_rfl) (by kernel_rfl) (by kernel_rfl) (fun _ _ _ h => h) (Or.inl ⟨by rfl, ?_⟩) (by assumption) ?_
                  rotate_left
                  · (intro w hSw; (obtain ⟨q1, q2, q3, q4⟩ := hSw); go_simp; try with_reducible rfl)
                  simp only [Act.put, List.setIfInBounds_toArray, List.set_cons_zero, List.set_cons_succ]
                  refine wpAnyG_pure (i := 9) (oi := { dst := some 151, op := Go.Op.move (Go.Operand.tmp 17), type := 53, pos := "law.go:279", after := #[], guard := none }) (v := ?_) rfl (by kernel_rfl) (by kernel_rfl) (by kernel_rfl) (by kernel_rfl) (fun _ _ _ h => h) (Or.inl ⟨by rfl, ?_⟩) (by assumption) ?_
                  rotate_left
                  · (intro w; go_simp; try with_reducible rfl)
                  simp only [Act.put, List.setIfInBounds_toArray, List.set_cons_zero, List.set_cons_succ]
                  refine wpAnyG_pure (i := 10) (oi := { dst := some 152, op := Go.Op.move (Go.Operand.tmp 18), type := 3, pos := "law.go:279", after := #[], guard := none }) (v := ?_) rfl (by kernel_rfl) (by kernel_rfl) (by kernel_rfl) (by kernel_rfl) (fun _ _ _ h => h) (Or.inl ⟨by rfl, ?_⟩) (by assumption) ?_
                  rotate_left
                  · (intro w; go_simp; try with_reducible rfl)
                  simp only [Act.put, List.setIfInBounds_toArray, List.set_cons_zero, List.set_cons_succ]
                  refine wpAnyG_pure (i := 11) (oi := { dst := some 153, op := Go.Op.indexAddr 53 (Go.Operand.tmp 151) (Go.Operand.tmp 152), type := 0, pos := "law.go:279", after := #[{ on := 9, ground := Go.Ground.data }, { on := 10, ground := Go.Ground.data }], guard := none }) (v := ?_) rfl (by kernel_rfl) (by kernel_rfl) (by kernel_rfl) (by kernel_rfl) (fun _ _ _ h => h) (Or.inl ⟨by rfl, ?_⟩) (by assumption) ?_
                  rotate_left
                  · (intro w; go_simp; try with_reducible rfl)
                  simp only [Act.put, List.setIfInBounds_toArray, List.set_cons_zero, List.set_cons_succ]
                  refine wpAnyG_take (i := 12) (oi := { dst := some 154, op := Go.Op.load 9 (Go.Operand.tmp 153), type := 9, pos := "law.go:279", after := #[{ on := 11, ground := Go.Ground.data }], guard := none }) (v := ?_) rfl (by kernel_rfl) (by kernel_rfl) (by kernel_rfl) (by kernel_rfl) (fun _ _ _ h => h) (Or.inl ⟨by rfl, ?_⟩) (by assumption) ?_
                  rotate_left
                  · (intro w hSw; (obtain ⟨q1, q2, q3, q4⟩ := hSw); go_simp; try with_reducible rfl)
                  simp only [Act.put, List.setIfInBounds_toArray, List.set_cons_zero, List.set_cons_succ]
                  refine wpAnyG_pure (i := 13) (oi := { dst := some 155, op := Go.Op.binOp Go.BinOp.neq 9 (Go.Operand.tmp 150) (Go.Operand.tmp 154) 9, type := 4, pos := "law.go:279", after := #[{ on := 8, ground := Go.Ground.data }, { on := 12, ground := Go.Ground.data }], guard := none }) (v := ?_) rfl (by kernel_rfl) (by kernel_rfl) (by kernel_rfl) (by kernel_rfl) (fun _ _ _ h => h) (Or.inl ⟨by rfl, ?_⟩) (by assumption) ?_
                  rotate_left
                  · (intro w; go_simp; try with_reducible rfl)
                  simp only [Act.put, List.setIfInBounds_toArray, List.set_cons_zero, List.set_cons_succ]
                  refine wpAnyG_free (by kernel_rfl) ?_
                  refine wpAny_done (by kernel_rfl) ?_ _
                  go_wp2_with fail
                  go_roundw
                  case rel => exact ⟨j + 1, by go_num, by omega, kj.drew⟩
                  case measure => simp [intOf]; omega
                · have b7 : decide ((j : Int) < 2) = false := decide_eq_false (by omega)
                  go_wp2_with (go_at_call 13; refine (HKn.out _).mono ?_; rintro e w8 ⟨rfl, k8⟩)
                  go_ret
                  exact ⟨rfl, (kE.trans kj (fun x hx => Or.inl hx)).trans k8 (fun x hx => Or.inl hx)⟩
          · by_cases z2 : l.size = 0
            · have hf0 : f.toList.isEmpty = false := ne_empty z1
              have hl0 : l.toList.isEmpty = true := emp_yes z2
              have hM : Ar.wantT f true l = [(Ar.tL f), Ar.cL] := by unfold Ar.wantT Ar.tO; rw [if_neg z1, if_pos z2]; rfl
              rw [hC, hM] at HP
              clear hM hC
              go_upto_region 23 with (go_at_call 20; refine HP.mono ?_; rintro e w1 ⟨⟨⟨a1, a2, a3⟩, ⟨k1, k2, kc⟩⟩, rfl, kp1, nd⟩; refine Hid.out ?_)
              unfold Hid
              obtain ⟨hp1, kb, ko, ⟨po, pn, pc⟩, hp2, c5, hlen, hcs⟩ := tx_tree nd
              simp only at hp1 hp2 c5 hlen hcs
              subst hp1 hp2
              replace hlen : pn = 2 := hlen
              subst hlen
              obtain ⟨g9, hg9⟩ : ∃ g, w1.heap.size = g := ⟨_, rfl⟩
              obtain ⟨V0, hV0⟩ : ∃ V, V = w1.alloc (.cells #[.int .i64 L0.kind, .int .i64 L0.ns, .string L0.name, .slice a1 a2 a3, .string L0.text, .slice (some ⟨kb, ko, none⟩) 1 kc] 42) := ⟨_, rfl⟩
              have kV : Kp [] w1 V0 := by rw [hV0]; exact (Kp.refl _ _).alloc _
              have T9 : At V0 g9 #[.int .i64 L0.kind, .int .i64 L0.ns, .string L0.name, .slice a1 a2 a3, .string L0.text, .slice (some ⟨kb, ko, none⟩) 1 kc] 42 := by rw [hV0, ← hg9]; exact At.new _ _ _
              have HV0 : Hid (w1.alloc (.cells #[.int .i64 L0.kind, .int .i64 L0.ns, .string L0.name, .slice a1 a2 a3, .string L0.text, .slice (some ⟨kb, ko, none⟩) 1 kc] 42) = V0) := hV0.symm
              clear hV0
              have M0 := Made.nil V0 9
              obtain ⟨o1, n1, c1, V1, run1, M1⟩ := M0.one Try.underlying53 infoS1 rfl (by decide) (.string f) rfl (by simp)
              obtain rfl : n1 = 1 := by have := M1.rb.len; simpa using this
              obtain ⟨o2, n2, c2, V2, run2, M2⟩ := M1.one Try.underlying53 infoS1 rfl (by decide) (.string (⟨#[99]⟩ : ByteArray)) rfl (by simp)
              obtain rfl : n2 = 2 := by have := M2.rb.len; simpa using this
              have kM := M2.2.1
              have kE : Kp [] w V2 := ((kw.trans kp1 (fun x hx => Or.inl hx)).trans kV (fun x hx => Or.inl hx)).trans kM (fun x hx => Or.inl hx)
              have hkb := block_lt_of_cell c5
              have hcm : V2.cell? ⟨kb, ko + 5, none⟩ = some (.slice po 2 pc) := by rw [kM.cell (a := ⟨kb, ko + 5, none⟩) (Nat.lt_of_lt_of_le hkb kV.size) (by simp), kV.cell (a := ⟨kb, ko + 5, none⟩) hkb (by simp)]; exact c5
              have T9m := T9.kept kM (by simp)
              have t5 : V2.cell? ⟨g9, 5, none⟩ = some (.slice (some ⟨kb, ko, none⟩) 1 kc) := T9m.cell 5
              have HZ5 : Hid (∀ V, Kp [] V2 V → V.cell? ⟨g9, 5, none⟩ = some (.slice (some ⟨kb, ko, none⟩) 1 kc) ∧ V.cell? ⟨kb, ko + 5, none⟩ = some (.slice po 2 pc)) := fun V k => ⟨(k.cell (a := ⟨g9, 5, none⟩) T9m.lt (by simp)).trans t5, (k.cell (a := ⟨kb, ko + 5, none⟩) (block_lt_of_cell hcm) (by simp)).trans hcm⟩
              have HKn : Hid (∀ V, Calls Try.prog 13 #[] V fun e w9 => e = .returned (.bool true) ∧ Kp [] V w9) := known_any
              have RW : Hid (Rb V2 o2 2 c2 (tv [(Ar.tL f), Ar.cL])) := M2.rb
              have HJ : Hid (∀ j (hj : j < 2) V, Kp [] V2 V → ∃ kb2 ko2 b7 o7 tj, po = some ⟨kb2, ko2, none⟩ ∧ o2 = some ⟨b7, o7, none⟩ ∧ V.cell? ⟨kb2, ko2 + j * 6 + 4, none⟩ = some (.string tj) ∧ V.cell? ⟨b7, o7 + j, none⟩ = some (.string tj)) := fun j hj V k => by
                obtain ⟨kb2, ko2, g1, g2⟩ := hcs j hj
                obtain ⟨b7, o7, g3, g4⟩ := RW.out.tv_at j hj
                have hq := block_lt_of_cell g2
                refine ⟨kb2, ko2, b7, o7, ([(Ar.tL f), Ar.cL] : List Lb)[j].text, g1, g3, ?_, ?_⟩
                · exact ((k.cell (a := ⟨kb2, ko2 + j * 6 + 4, none⟩) (Nat.lt_of_lt_of_le hq (Nat.le_trans kV.size kM.size)) (by simp)).trans ((kM.cell (a := ⟨kb2, ko2 + j * 6 + 4, none⟩) (Nat.lt_of_lt_of_le hq kV.size) (by simp)).trans (kV.cell (a := ⟨kb2, ko2 + j * 6 + 4, none⟩) hq (by simp)))).trans g2
                · exact (k.cell (a := ⟨b7, o7 + j, none⟩) (block_lt_of_cell g4) (by simp)).trans g4
              clear nd hcs c5 kV kp1 M0 kM T9 kw HP M1 M2
              go_upto_region 24 with fail
              rw [HV0.out]
              clear HV0
              clear hf hl hlt hA0 z1 z2 hi hiL
              go_upto_region 26 with (at_builtin; refine Lib.wpList_append_run _ rfl _ _ _ _ rfl _ _ rfl rfl _ _ (run1 _) ?_)
              clear run1
              go_upto_region 28 with (at_builtin; refine Lib.wpList_append_run _ rfl _ _ _ _ rfl _ _ rfl rfl _ _ (run2 _) ?_)
              clear run2
              go_upto_region 30 with fail
              go_wp2_with fail
              clear t5 hcm hkb T9m
              go_loopw [18] (fun x18 wr => ∃ j : Nat, x18 = .int .i64 (j : Int) ∧ j ≤ 2 ∧ Kp [] V2 wr) (fun x18 _ => 2 - (intOf x18).toNat)
              case atStart => exact ⟨0, rfl, Nat.zero_le _, Kp.refl _ _⟩
              case round =>
                obtain ⟨j, rfl, hj, kj⟩ := hrel
                by_cases hjm : j < 2
                · obtain ⟨kb2, ko2, b7, o7, tj, rfl, rfl, g2, g4⟩ := HJ.out j hjm wr kj
                  obtain ⟨y1, y2⟩ := HZ5.out wr kj
                  have bj : decide ((j : Int) < 2) = true := decide_eq_true (by omega)
                  have j1 : (0 : Int) ≤ (j : Int) := by omega
                  have j2 : (j : Int) < 2 := by omega
                  have hS35 : (World.drew wr).cell? ⟨g9, 5, none⟩ = some (.slice (some ⟨kb, ko, none⟩) 1 kc) ∧ (World.drew wr).cell? ⟨kb, ko + 5, none⟩ = some (.slice (some ⟨kb2, ko2, none⟩) 2 pc) ∧ (World.drew wr).cell? ⟨kb2, ko2 + j * 6 + 4, none⟩ = some (.string tj) ∧ (World.drew wr).cell? ⟨b7, o7 + j, none⟩ = some (.string tj) := ⟨y1, y2, g2, g4⟩
                  go_wp2_with fail
                  refine wp_region_g (S := fun V => V.cell? ⟨g9, 5, none⟩ = some (.slice (some ⟨kb, ko, none⟩) 1 kc) ∧ V.cell? ⟨kb, ko + 5, none⟩ = some (.slice (some ⟨kb2, ko2, none⟩) 2 pc) ∧ V.cell? ⟨kb2, ko2 + j * 6 + 4, none⟩ = some (.string tj) ∧ V.cell? ⟨b7, o7 + j, none⟩ = some (.string tj)) (T := []) (by kernel_rfl) hS35 (fun hHeld => ?_)
                  refine wpAnyG_pure (i := 0) (oi := { dst := some 142, op := Go.Op.fieldAddr 42 (Go.Operand.tmp 15) 5, type := 0, pos := "law.go:279", after := #[], guard := none }) (v := ?_) rfl (by kernel_rfl) (by kernel_rfl) (by kernel_rfl) (by kernel_rfl) (fun _ _ _ h => h) (Or.inl ⟨by rfl, ?_⟩) (by assumption) ?_
                  rotate_left
                  · (intro w; go_simp; try with_reducible rfl)
                  simp only [Act.put, List.setIfInBounds_toArray, List.set_cons_zero, List.set_cons_succ]
                  refine wpAnyG_take (i := 1) (oi := { dst := some 143, op := Go.Op.load 40 (Go.Operand.tmp 142), type := 40, pos := "law.go:279", after := #[{ on := 0, ground := Go.Ground.data }], guard := none }) (v := ?_) rfl (by kernel_rfl) (by kernel_rfl) (by kernel_rfl) (by kernel_rfl) (fun _ _ _ h => h) (Or.inl ⟨by rfl, ?_⟩) (by assumption) ?_
                  rotate_left
                  · (intro w hSw; (obtain ⟨q1, q2, q3, q4⟩ := hSw); go_simp; try with_reducible rfl)
                  simp only [Act.put, List.setIfInBounds_toArray, List.set_cons_zero, List.set_cons_succ]
                  refine wpAnyG_pure (i := 2) (oi := { dst := some 144, op := Go.Op.indexAddr 40 (Go.Operand.tmp 143) (Go.Operand.const (Go.Value.int Go.IntKind.i64 0)), type := 0, pos := "law.go:279", after := #[{ on := 1, ground := Go.Ground.data }], guard := none }) (v := ?_) rfl (by kernel_rfl) (by kernel_rfl) (by kernel_rfl) (by kernel_rfl) (fun _ _ _ h => h) (Or.inl ⟨by rfl, ?_⟩) (by assumption) ?_
                  rotate_left
                  · (intro w; go_simp; try with_reducible rfl)
                  simp only [Act.put, List.setIfInBounds_toArray, List.set_cons_zero, List.set_cons_succ]
                  refine wpAnyG_pure (i := 3) (oi := { dst := some 145, op := Go.Op.fieldAddr 42 (Go.Operand.tmp 144) 5, type := 0, pos := "law.go:279", after := #[{ on := 2, ground := Go.Ground.data }], guard := none }) (v := ?_) rfl (by kernel_rfl) (by kernel_rfl) (by kernel_rfl) (by kernel_rfl) (fun _ _ _ h => h) (Or.inl ⟨by rfl, ?_⟩) (by assumption) ?_
                  rotate_left
                  · (intro w; go_simp; try with_reducible rfl)
                  simp only [Act.put, List.setIfInBounds_toArray, List.set_cons_zero, List.set_cons_succ]
                  refine wpAnyG_take (i := 4) (oi := { dst := some 146, op := Go.Op.load 40 (Go.Operand.tmp 145), type := 40, pos := "law.go:279", after := #[{ on := 3, ground := Go.Ground.data }], guard := none }) (v := ?_) rfl (by kernel_rfl) (by kernel_rfl) (by kernel_rfl) (by kernel_rfl) (fun _ _ _ h => h) (Or.inl ⟨by rfl, ?_⟩) (by assumption) ?_
                  rotate_left
                  · (intro w hSw; (obtain ⟨q1, q2, q3, q4⟩ := hSw); go_simp; try with_reducible rfl)
                  simp only [Act.put, List.setIfInBounds_toArray, List.set_cons_zero, List.set_cons_succ]
                  refine wpAnyG_pure (i := 5) (oi := { dst := some 147, op := Go.Op.move (Go.Operand.tmp 18), type := 3, pos := "law.go:279", after := #[], guard := none }) (v := ?_) rfl (by kernel_rfl) (by kernel_rfl) (by kernel_rfl) (by kernel_rfl) (fun _ _ _ h => h) (Or.inl ⟨by rfl, ?_⟩) (by assumption) ?_
                  rotate_left
                  · (intro w; go_simp; try with_reducible rfl)
                  simp only [Act.put, List.setIfInBounds_toArray, List.set_cons_zero, List.set_cons_succ]
                  refine wpAnyG_pure (i := 6) (oi := { dst := some 148, op := Go.Op.indexAddr 40 (Go.Operand.tmp 146) (Go.Operand.tmp 147), type := 0, pos := "law.go:279", after := #[{ on := 4, ground := Go.Ground.data }, { on := 5, ground := Go.Ground.data }], guard := none }) (v := ?_) rfl (by kernel_rfl) (by kernel_rfl) (by kernel_rfl) (by kernel_rfl) (fun _ _ _ h => h) (Or.inl ⟨by rfl, ?_⟩) (by assumption) ?_
                  rotate_left
                  · (intro w; go_simp; try with_reducible rfl)
                  simp only [Act.put, List.setIfInBounds_toArray, List.set_cons_zero, List.set_cons_succ]
                  refine wpAnyG_pure (i := 7) (oi := { dst := some 149, op := Go.Op.fieldAddr 42 (Go.Operand.tmp 148) 4, type := 0, pos := "law.go:279", after := #[{ on := 6, ground := Go.Ground.data }], guard := none }) (v := ?_) rfl (by kernel_rfl) (by kernel_rfl) (by kernel_rfl) (by kernel_rfl) (fun _ _ _ h => h) (Or.inl ⟨by rfl, ?_⟩) (by assumption) ?_
                  rotate_left
                  · (intro w; go_simp; try with_reducible rfl)
                  simp only [Act.put, List.setIfInBounds_toArray, List.set_cons_zero, List.set_cons_succ]
                  refine wpAnyG_take (i := 8) (oi := { dst := some 150, op := Go.Op.load 9 (Go.Operand.tmp 149), type := 9, pos := "law.go:279", after := #[{ on := 7, ground := Go.Ground.data }], guard := none }) (v := ?_) rfl (by kernel_rfl) (by kernel_rfl) (by kernel_rfl) (by kernel_rfl) (fun _ _ _ h => h) (Or.inl ⟨by rfl, ?_⟩) (by assumption) ?_
                  rotate_left
                  · (intro w hSw; (obtain ⟨q1, q2, q3, q4⟩ := hSw); go_simp; try with_reducible rfl)
                  simp only [Act.put, List.setIfInBounds_toArray, List.set_cons_zero, List.set_cons_succ]
                  refine wpAnyG_pure (i := 9) (oi := { dst := some 151, op := Go.Op.move (Go.Operand.tmp 17), type := 53, pos := "law.go:279", after := #[], guard := none }) (v := ?_) rfl (by kernel_rfl) (by kernel_rfl) (by kernel_rfl) (by kernel_rfl) (fun _ _ _ h => h) (Or.inl ⟨by rfl, ?_⟩) (by assumption) ?_
                  rotate_left
                  · (intro w; go_simp; try with_reducible rfl)
                  simp only [Act.put, List.setIfInBounds_toArray, List.set_cons_zero, List.set_cons_succ]
                  refine wpAnyG_pure (i := 10) (oi := { dst := some 152, op := Go.Op.move (Go.Operand.tmp 18), type := 3, pos := "law.go:279", after := #[], guard := none }) (v := ?_) rfl (by kernel_rfl) (by kernel_rfl) (by kernel_rfl) (by kernel_rfl) (fun _ _ _ h => h) (Or.inl ⟨by rfl, ?_⟩) (by assumption) ?_
                  rotate_left
                  · (intro w; go_simp; try with_reducible rfl)
                  simp only [Act.put, List.setIfInBounds_toArray, List.set_cons_zero, List.set_cons_succ]
                  refine wpAnyG_pure (i := 11) (oi := { dst := some 153, op := Go.Op.indexAddr 53 (Go.Operand.tmp 151) (Go.Operand.tmp 152), type := 0, pos := "law.go:279", after := #[{ on := 9, ground := Go.Ground.data }, { on := 10, ground := Go.Ground.data }], guard := none }) (v := ?_) rfl (by kernel_rfl) (by kernel_rfl) (by kernel_rfl) (by kernel_rfl) (fun _ _ _ h => h) (Or.inl ⟨by rfl, ?_⟩) (by assumption) ?_
                  rotate_left
                  · (intro w; go_simp; try with_reducible rfl)
                  simp only [Act.put, List.setIfInBounds_toArray, List.set_cons_zero, List.set_cons_succ]
                  refine wpAnyG_take (i := 12) (oi := { dst := some 154, op := Go.Op.load 9 (Go.Operand.tmp 153), type := 9, pos := "law.go:279", after := #[{ on := 11, ground := Go.Ground.data }], guard := none }) (v := ?_) rfl (by kernel_rfl) (by kernel_rfl) (by kernel_rfl) (by kernel_rfl) (fun _ _ _ h => h) (Or.inl ⟨by rfl, ?_⟩) (by assumption) ?_
                  rotate_left
                  · (intro w hSw; (obtain ⟨q1, q2, q3, q4⟩ := hSw); go_simp; try with_reducible rfl)
                  simp only [Act.put, List.setIfInBounds_toArray, List.set_cons_zero, List.set_cons_succ]
                  refine wpAnyG_pure (i := 13) (oi := { dst := some 155, op := Go.Op.binOp Go.BinOp.neq 9 (Go.Operand.tmp 150) (Go.Operand.tmp 154) 9, type := 4, pos := "law.go:279", after := #[{ on := 8, ground := Go.Ground.data }, { on := 12, ground := Go.Ground.data }], guard := none }) (v := ?_) rfl (by kernel_rfl) (by kernel_rfl) (by kernel_rfl) (by kernel_rfl) (fun _ _ _ h => h) (Or.inl ⟨by rfl, ?_⟩) (by assumption) ?_
                  rotate_left
                  · (intro w; go_simp; try with_reducible rfl)
                  simp only [Act.put, List.setIfInBounds_toArray, List.set_cons_zero, List.set_cons_succ]
                  refine wpAnyG_free (by kernel_rfl) ?_
                  refine wpAny_done (by kernel_rfl) ?_ _
                  go_wp2_with fail
                  go_roundw
                  case rel => exact ⟨j + 1, by go_num, by omega, kj.drew⟩
                  case measure => simp [intOf]; omega
                · have b7 : decide ((j : Int) < 2) = false := decide_eq_false (by omega)
                  go_wp2_with (go_at_call 13; refine (HKn.out _).mono ?_; rintro e w8 ⟨rfl, k8⟩)
                  go_ret
                  exact ⟨rfl, (kE.trans kj (fun x hx => Or.inl hx)).trans k8 (fun x hx => Or.inl hx)⟩
            · have hf0 : f.toList.isEmpty = false := ne_empty z1
              have hl0 : l.toList.isEmpty = false := ne_empty z2
              have hM : Ar.wantT f true l = [(Ar.tL f), Ar.cL, (Ar.tL l)] := by unfold Ar.wantT Ar.tO; rw [if_neg z1, if_neg z2]; rfl
              rw [hC, hM] at HP
              clear hM hC
              go_upto_region 23 with (go_at_call 20; refine HP.mono ?_; rintro e w1 ⟨⟨⟨a1, a2, a3⟩, ⟨k1, k2, kc⟩⟩, rfl, kp1, nd⟩; refine Hid.out ?_)
              unfold Hid
              obtain ⟨hp1, kb, ko, ⟨po, pn, pc⟩, hp2, c5, hlen, hcs⟩ := tx_tree nd
              simp only at hp1 hp2 c5 hlen hcs
              subst hp1 hp2
              replace hlen : pn = 3 := hlen
              subst hlen
              obtain ⟨g9, hg9⟩ : ∃ g, w1.heap.size = g := ⟨_, rfl⟩
              obtain ⟨V0, hV0⟩ : ∃ V, V = w1.alloc (.cells #[.int .i64 L0.kind, .int .i64 L0.ns, .string L0.name, .slice a1 a2 a3, .string L0.text, .slice (some ⟨kb, ko, none⟩) 1 kc] 42) := ⟨_, rfl⟩
              have kV : Kp [] w1 V0 := by rw [hV0]; exact (Kp.refl _ _).alloc _
              have T9 : At V0 g9 #[.int .i64 L0.kind, .int .i64 L0.ns, .string L0.name, .slice a1 a2 a3, .string L0.text, .slice (some ⟨kb, ko, none⟩) 1 kc] 42 := by rw [hV0, ← hg9]; exact At.new _ _ _
              have HV0 : Hid (w1.alloc (.cells #[.int .i64 L0.kind, .int .i64 L0.ns, .string L0.name, .slice a1 a2 a3, .string L0.text, .slice (some ⟨kb, ko, none⟩) 1 kc] 42) = V0) := hV0.symm
              clear hV0
              have M0 := Made.nil V0 9
              obtain ⟨o1, n1, c1, V1, run1, M1⟩ := M0.one Try.underlying53 infoS1 rfl (by decide) (.string f) rfl (by simp)
              obtain rfl : n1 = 1 := by have := M1.rb.len; simpa using this
              obtain ⟨o2, n2, c2, V2, run2, M2⟩ := M1.one Try.underlying53 infoS1 rfl (by decide) (.string (⟨#[99]⟩ : ByteArray)) rfl (by simp)
              obtain rfl : n2 = 2 := by have := M2.rb.len; simpa using this
              obtain ⟨o3, n3, c3, V3, run3, M3⟩ := M2.one Try.underlying53 infoS1 rfl (by decide) (.string l) rfl (by simp)
              obtain rfl : n3 = 3 := by have := M3.rb.len; simpa using this
              have kM := M3.2.1
              have kE : Kp [] w V3 := ((kw.trans kp1 (fun x hx => Or.inl hx)).trans kV (fun x hx => Or.inl hx)).trans kM (fun x hx => Or.inl hx)
              have hkb := block_lt_of_cell c5
              have hcm : V3.cell? ⟨kb, ko + 5, none⟩ = some (.slice po 3 pc) := by rw [kM.cell (a := ⟨kb, ko + 5, none⟩) (Nat.lt_of_lt_of_le hkb kV.size) (by simp), kV.cell (a := ⟨kb, ko + 5, none⟩) hkb (by simp)]; exact c5
              have T9m := T9.kept kM (by simp)
              have t5 : V3.cell? ⟨g9, 5, none⟩ = some (.slice (some ⟨kb, ko, none⟩) 1 kc) := T9m.cell 5
              have HZ5 : Hid (∀ V, Kp [] V3 V → V.cell? ⟨g9, 5, none⟩ = some (.slice (some ⟨kb, ko, none⟩) 1 kc) ∧ V.cell? ⟨kb, ko + 5, none⟩ = some (.slice po 3 pc)) := fun V k => ⟨(k.cell (a := ⟨g9, 5, none⟩) T9m.lt (by simp)).trans t5, (k.cell (a := ⟨kb, ko + 5, none⟩) (block_lt_of_cell hcm) (by simp)).trans hcm⟩
              have HKn : Hid (∀ V, Calls Try.prog 13 #[] V fun e w9 => e = .returned (.bool true) ∧ Kp [] V w9) := known_any
              have RW : Hid (Rb V3 o3 3 c3 (tv [(Ar.tL f), Ar.cL, (Ar.tL l)])) := M3.rb
              have HJ : Hid (∀ j (hj : j < 3) V, Kp [] V3 V → ∃ kb2 ko2 b7 o7 tj, po = some ⟨kb2, ko2, none⟩ ∧ o3 = some ⟨b7, o7, none⟩ ∧ V.cell? ⟨kb2, ko2 + j * 6 + 4, none⟩ = some (.string tj) ∧ V.cell? ⟨b7, o7 + j, none⟩ = some (.string tj)) := fun j hj V k => by
                obtain ⟨kb2, ko2, g1, g2⟩ := hcs j hj
                obtain ⟨b7, o7, g3, g4⟩ := RW.out.tv_at j hj
                have hq := block_lt_of_cell g2
                refine ⟨kb2, ko2, b7, o7, ([(Ar.tL f), Ar.cL, (Ar.tL l)] : List Lb)[j].text, g1, g3, ?_, ?_⟩
                · exact ((k.cell (a := ⟨kb2, ko2 + j * 6 + 4, none⟩) (Nat.lt_of_lt_of_le hq (Nat.le_trans kV.size kM.size)) (by simp)).trans ((kM.cell (a := ⟨kb2, ko2 + j * 6 + 4, none⟩) (Nat.lt_of_lt_of_le hq kV.size) (by simp)).trans (kV.cell (a := ⟨kb2, ko2 + j * 6 + 4, none⟩) hq (by simp)))).trans g2
                · exact (k.cell (a := ⟨b7, o7 + j, none⟩) (block_lt_of_cell g4) (by simp)).trans g4
              clear nd hcs c5 kV kp1 M0 kM T9 kw HP M1 M2 M3
              go_upto_region 24 with fail
              rw [HV0.out]
              clear HV0
              clear hf hl hlt hA0 z1 z2 hi hiL
              go_upto_region 26 with (at_builtin; refine Lib.wpList_append_run _ rfl _ _ _ _ rfl _ _ rfl rfl _ _ (run1 _) ?_)
              clear run1
              go_upto_region 28 with (at_builtin; refine Lib.wpList_append_run _ rfl _ _ _ _ rfl _ _ rfl rfl _ _ (run2 _) ?_)
              clear run2
              go_upto_region 30 with (at_builtin; refine Lib.wpList_append_run _ rfl _ _ _ _ rfl _ _ rfl rfl _ _ (run3 _) ?_)
              clear run3
              go_wp2_with fail
              clear t5 hcm hkb T9m
              go_loopw [18] (fun x18 wr => ∃ j : Nat, x18 = .int .i64 (j : Int) ∧ j ≤ 3 ∧ Kp [] V3 wr) (fun x18 _ => 3 - (intOf x18).toNat)
              case atStart => exact ⟨0, rfl, Nat.zero_le _, Kp.refl _ _⟩
              case round =>
                obtain ⟨j, rfl, hj, kj⟩ := hrel
                by_cases hjm : j < 3
                · obtain ⟨kb2, ko2, b7, o7, tj, rfl, rfl, g2, g4⟩ := HJ.out j hjm wr kj
                  obtain ⟨y1, y2⟩ := HZ5.out wr kj
                  have bj : decide ((j : Int) < 3) = true := decide_eq_true (by omega)
                  have j1 : (0 : Int) ≤ (j : Int) := by omega
                  have j2 : (j : Int) < 3 := by omega
                  have hS35 : (World.drew wr).cell? ⟨g9, 5, none⟩ = some (.slice (some ⟨kb, ko, none⟩) 1 kc) ∧ (World.drew wr).cell? ⟨kb, ko + 5, none⟩ = some (.slice (some ⟨kb2, ko2, none⟩) 3 pc) ∧ (World.drew wr).cell? ⟨kb2, ko2 + j * 6 + 4, none⟩ = some (.string tj) ∧ (World.drew wr).cell? ⟨b7, o7 + j, none⟩ = some (.string tj) := ⟨y1, y2, g2, g4⟩
                  go_wp2_with fail
                  refine wp_region_g (S := fun V => V.cell? ⟨g9, 5, none⟩ = some (.slice (some ⟨kb, ko, none⟩) 1 kc) ∧ V.cell? ⟨kb, ko + 5, none⟩ = some (.slice (some ⟨kb2, ko2, none⟩) 3 pc) ∧ V.cell? ⟨kb2, ko2 + j * 6 + 4, none⟩ = some (.string tj) ∧ V.cell? ⟨b7, o7 + j, none⟩ = some (.string tj)) (T := []) (by kernel_rfl) hS35 (fun hHeld => ?_)
                  refine wpAnyG_pure (i := 0) (oi := { dst := some 142, op := Go.Op.fieldAddr 42 (Go.Operand.tmp 15) 5, type := 0, pos := "law.go:279", after := #[], guard := none }) (v := ?_) rfl (by kernel_rfl) (by kernel_rfl) (by kernel_rfl) (by kernel_rfl) (fun _ _ _ h => h) (Or.inl ⟨by rfl, ?_⟩) (by assumption) ?_
                  rotate_left
                  · (intro w; go_simp; try with_reducible rfl)
                  simp only [Act.put, List.setIfInBounds_toArray, List.set_cons_zero, List.set_cons_succ]
                  refine wpAnyG_take (i := 1) (oi := { dst := some 143, op := Go.Op.load 40 (Go.Operand.tmp 142), type := 40, pos := "law.go:279", after := #[{ on := 0, ground := Go.Ground.data }], guard := none }) (v := ?_) rfl (by kernel_rfl) (by kernel_rfl) (by kernel_rfl) (by kernel_rfl) (fun _ _ _ h => h) (Or.inl ⟨by rfl, ?_⟩) (by assumption) ?_
                  rotate_left
                  · (intro w hSw; (obtain ⟨q1, q2, q3, q4⟩ := hSw); go_simp; try with_reducible rfl)
                  simp only [Act.put, List.setIfInBounds_toArray, List.set_cons_zero, List.set_cons_succ]
                  refine wpAnyG_pure (i := 2) (oi := { dst := some 144, op := Go.Op.indexAddr 40 (Go.Operand.tmp 143) (Go.Operand.const (Go.Value.int Go.IntKind.i64 0)), type := 0, pos := "law.go:279", after := #[{ on := 1, ground := Go.Ground.data }], guard := none }) (v := ?_) rfl (by kernel_rfl) (by kernel_rfl) (by kernel_rfl) (by kernel_rfl) (fun _ _ _ h => h) (Or.inl ⟨by rfl, ?_⟩) (by assumption) ?_
                  rotate_left
                  · (intro w; go_simp; try with_reducible rfl)
                  simp only [Act.put, List.setIfInBounds_toArray, List.set_cons_zero, List.set_cons_succ]
                  refine wpAnyG_pure (i := 3) (oi := { dst := some 145, op := Go.Op.fieldAddr 42 (Go.Operand.tmp 144) 5, type := 0, pos := "law.go:279", after := #[{ on := 2, ground := Go.Ground.data }], guard := none }) (v := ?_) rfl (by kernel_rfl) (by kernel_rfl) (by kernel_rfl) (by kernel_rfl) (fun _ _ _ h => h) (Or.inl ⟨by rfl, ?_⟩) (by assumption) ?_
                  rotate_left
                  · (intro w; go_simp; try with_reducible rfl)
                  simp only [Act.put, List.setIfInBounds_toArray, List.set_cons_zero, List.set_cons_succ]
                  refine wpAnyG_take (i := 4) (oi := { dst := some 146, op := Go.Op.load 40 (Go.Operand.tmp 145), type := 40, pos := "law.go:279", after := #[{ on := 3, ground := Go.Ground.data }], guard := none }) (v := ?_) rfl (by kernel_rfl) (by kernel_rfl) (by kernel_rfl) (by kernel_rfl) (fun _ _ _ h => h) (Or.inl ⟨by rfl, ?_⟩) (by assumption) ?_
                  rotate_left
                  · (intro w hSw; (obtain ⟨q1, q2, q3, q4⟩ := hSw); go_simp; try with_reducible rfl)
                  simp only [Act.put, List.setIfInBounds_toArray, List.set_cons_zero, List.set_cons_succ]
                  refine wpAnyG_pure (i := 5) (oi := { dst := some 147, op := Go.Op.move (Go.Operand.tmp 18), type := 3, pos := "law.go:279", after := #[], guard := none }) (v := ?_) rfl (by kernel_rfl) (by kernel_rfl) (by kernel_rfl) (by kernel_rfl) (fun _ _ _ h => h) (Or.inl ⟨by rfl, ?_⟩) (by assumption) ?_
                  rotate_left
                  · (intro w; go_simp; try with_reducible rfl)
                  simp only [Act.put, List.setIfInBounds_toArray, List.set_cons_zero, List.set_cons_succ]
                  refine wpAnyG_pure (i := 6) (oi := { dst := some 148, op := Go.Op.indexAddr 40 (Go.Operand.tmp 146) (Go.Operand.tmp 147), type := 0, pos := "law.go:279", after := #[{ on := 4, ground := Go.Ground.data }, { on := 5, ground := Go.Ground.data }], guard := none }) (v := ?_) rfl (by kernel_rfl) (by kernel_rfl) (by kernel_rfl) (by kernel_rfl) (fun _ _ _ h => h) (Or.inl ⟨by rfl, ?_⟩) (by assumption) ?_
                  rotate_left
                  · (intro w; go_simp; try with_reducible rfl)
                  simp only [Act.put, List.setIfInBounds_toArray, List.set_cons_zero, List.set_cons_succ]
                  refine wpAnyG_pure (i := 7) (oi := { dst := some 149, op := Go.Op.fieldAddr 42 (Go.Operand.tmp 148) 4, type := 0, pos := "law.go:279", after := #[{ on := 6, ground := Go.Ground.data }], guard := none }) (v := ?_) rfl (by kernel_rfl) (by kernel_rfl) (by kernel_rfl) (by kernel_rfl) (fun _ _ _ h => h) (Or.inl ⟨by rfl, ?_⟩) (by assumption) ?_
                  rotate_left
                  · (intro w; go_simp; try with_reducible rfl)
                  simp only [Act.put, List.setIfInBounds_toArray, List.set_cons_zero, List.set_cons_succ]
                  refine wpAnyG_take (i := 8) (oi := { dst := some 150, op := Go.Op.load 9 (Go.Operand.tmp 149), type := 9, pos := "law.go:279", after := #[{ on := 7, ground := Go.Ground.data }], guard := none }) (v := ?_) rfl (by kernel_rfl) (by kernel_rfl) (by kernel_rfl) (by kernel_rfl) (fun _ _ _ h => h) (Or.inl ⟨by rfl, ?_⟩) (by assumption) ?_
                  rotate_left
                  · (intro w hSw; (obtain ⟨q1, q2, q3, q4⟩ := hSw); go_simp; try with_reducible rfl)
                  simp only [Act.put, List.setIfInBounds_toArray, List.set_cons_zero, List.set_cons_succ]
                  refine wpAnyG_pure (i := 9) (oi := { dst := some 151, op := Go.Op.move (Go.Operand.tmp 17), type := 53, pos := "law.go:279", after := #[], guard := none }) (v := ?_) rfl (by kernel_rfl) (by kernel_rfl) (by kernel_rfl) (by kernel_rfl) (fun _ _ _ h => h) (Or.inl ⟨by rfl, ?_⟩) (by assumption) ?_
                  rotate_left
                  · (intro w; go_simp; try with_reducible rfl)
                  simp only [Act.put, List.setIfInBounds_toArray, List.set_cons_zero, List.set_cons_succ]
                  refine wpAnyG_pure (i := 10) (oi := { dst := some 152, op := Go.Op.move (Go.Operand.tmp 18), type := 3, pos := "law.go:279", after := #[], guard := none }) (v := ?_) rfl (by kernel_rfl) (by kernel_rfl) (by kernel_rfl) (by kernel_rfl) (fun _ _ _ h => h) (Or.inl ⟨by rfl, ?_⟩) (by assumption) ?_
                  rotate_left
                  · (intro w; go_simp; try with_reducible rfl)
                  simp only [Act.put, List.setIfInBounds_toArray, List.set_cons_zero, List.set_cons_succ]
                  refine wpAnyG_pure (i := 11) (oi := { dst := some 153, op := Go.Op.indexAddr 53 (Go.Operand.tmp 151) (Go.Operand.tmp 152), type := 0, pos := "law.go:279", after := #[{ on := 9, ground := Go.Ground.data }, { on := 10, ground := Go.Ground.data }], guard := none }) (v := ?_) rfl (by kernel_rfl) (by kernel_rfl) (by kernel_rfl) (by kernel_rfl) (fun _ _ _ h => h) (Or.inl ⟨by rfl, ?_⟩) (by assumption) ?_
                  rotate_left
                  · (intro w; go_simp; try with_reducible rfl)
                  simp only [Act.put, List.setIfInBounds_toArray, List.set_cons_zero, List.set_cons_succ]
                  refine wpAnyG_take (i := 12) (oi := { dst := some 154, op := Go.Op.load 9 (Go.Operand.tmp 153), type := 9, pos := "law.go:279", after := #[{ on := 11, ground := Go.Ground.data }], guard := none }) (v := ?_) rfl (by kernel_rfl) (by kernel_rfl) (by kernel_rfl) (by kernel_rfl) (fun _ _ _ h => h) (Or.inl ⟨by rfl, ?_⟩) (by assumption) ?_
                  rotate_left
                  · (intro w hSw; (obtain ⟨q1, q2, q3, q4⟩ := hSw); go_simp; try with_reducible rfl)
                  simp only [Act.put, List.setIfInBounds_toArray, List.set_cons_zero, List.set_cons_succ]
                  refine wpAnyG_pure (i := 13) (oi := { dst := some 155, op := Go.Op.binOp Go.BinOp.neq 9 (Go.Operand.tmp 150) (Go.Operand.tmp 154) 9, type := 4, pos := "law.go:279", after := #[{ on := 8, ground := Go.Ground.data }, { on := 12, ground := Go.Ground.data }], guard := none }) (v := ?_) rfl (by kernel_rfl) (by kernel_rfl) (by kernel_rfl) (by kernel_rfl) (fun _ _ _ h => h) (Or.inl ⟨by rfl, ?_⟩) (by assumption) ?_
                  rotate_left
                  · (intro w; go_simp; try with_reducible rfl)
                  simp only [Act.put, List.setIfInBounds_toArray, List.set_cons_zero, List.set_cons_succ]
                  refine wpAnyG_free (by kernel_rfl) ?_
                  refine wpAny_done (by kernel_rfl) ?_ _
                  go_wp2_with fail
                  go_roundw
                  case rel => exact ⟨j + 1, by go_num, by omega, kj.drew⟩
                  case measure => simp [intOf]; omega
                · have b7 : decide ((j : Int) < 3) = false := decide_eq_false (by omega)
                  go_wp2_with (go_at_call 13; refine (HKn.out _).mono ?_; rintro e w8 ⟨rfl, k8⟩)
                  go_ret
                  exact ⟨rfl, (kE.trans kj (fun x hx => Or.inl hx)).trans k8 (fun x hx => Or.inl hx)⟩
        · skip
          have b5 : decide ((k : Int) < (n : Int)) = false := decide_eq_false (by omega)
          have hC : decide (k < i) = false := decide_eq_false (by omega)
          by_cases z1 : f.size = 0
          · by_cases z2 : l.size = 0
            · have hf0 : f.toList.isEmpty = true := emp_yes z1
              have hl0 : l.toList.isEmpty = true := emp_yes z2
              have hM : Ar.wantT f false l = [] := by unfold Ar.wantT Ar.tO; rw [if_pos z1, if_pos z2]; rfl
              rw [hC, hM] at HP
              clear hM hC
              go_upto_region 23 with (go_at_call 20; refine HP.mono ?_; rintro e w1 ⟨⟨⟨a1, a2, a3⟩, ⟨k1, k2, kc⟩⟩, rfl, kp1, nd⟩; refine Hid.out ?_)
              unfold Hid
              obtain ⟨hp1, kb, ko, ⟨po, pn, pc⟩, hp2, c5, hlen, hcs⟩ := tx_tree nd
              simp only at hp1 hp2 c5 hlen hcs
              subst hp1 hp2
              replace hlen : pn = 0 := hlen
              subst hlen
              obtain ⟨g9, hg9⟩ : ∃ g, w1.heap.size = g := ⟨_, rfl⟩
              obtain ⟨V0, hV0⟩ : ∃ V, V = w1.alloc (.cells #[.int .i64 L0.kind, .int .i64 L0.ns, .string L0.name, .slice a1 a2 a3, .string L0.text, .slice (some ⟨kb, ko, none⟩) 1 kc] 42) := ⟨_, rfl⟩
              have kV : Kp [] w1 V0 := by rw [hV0]; exact (Kp.refl _ _).alloc _
              have T9 : At V0 g9 #[.int .i64 L0.kind, .int .i64 L0.ns, .string L0.name, .slice a1 a2 a3, .string L0.text, .slice (some ⟨kb, ko, none⟩) 1 kc] 42 := by rw [hV0, ← hg9]; exact At.new _ _ _
              have HV0 : Hid (w1.alloc (.cells #[.int .i64 L0.kind, .int .i64 L0.ns, .string L0.name, .slice a1 a2 a3, .string L0.text, .slice (some ⟨kb, ko, none⟩) 1 kc] 42) = V0) := hV0.symm
              clear hV0
              have M0 := Made.nil V0 9
              have kM := M0.2.1
              have kE : Kp [] w V0 := ((kw.trans kp1 (fun x hx => Or.inl hx)).trans kV (fun x hx => Or.inl hx)).trans kM (fun x hx => Or.inl hx)
              have hkb := block_lt_of_cell c5
              have hcm : V0.cell? ⟨kb, ko + 5, none⟩ = some (.slice po 0 pc) := by rw [kM.cell (a := ⟨kb, ko + 5, none⟩) (Nat.lt_of_lt_of_le hkb kV.size) (by simp), kV.cell (a := ⟨kb, ko + 5, none⟩) hkb (by simp)]; exact c5
              have T9m := T9.kept kM (by simp)
              have t5 : V0.cell? ⟨g9, 5, none⟩ = some (.slice (some ⟨kb, ko, none⟩) 1 kc) := T9m.cell 5
              have HZ5 : Hid (∀ V, Kp [] V0 V → V.cell? ⟨g9, 5, none⟩ = some (.slice (some ⟨kb, ko, none⟩) 1 kc) ∧ V.cell? ⟨kb, ko + 5, none⟩ = some (.slice po 0 pc)) := fun V k => ⟨(k.cell (a := ⟨g9, 5, none⟩) T9m.lt (by simp)).trans t5, (k.cell (a := ⟨kb, ko + 5, none⟩) (block_lt_of_cell hcm) (by simp)).trans hcm⟩
              have HKn : Hid (∀ V, Calls Try.prog 13 #[] V fun e w9 => e = .returned (.bool true) ∧ Kp [] V w9) := known_any
              clear nd hcs c5 kV kp1 M0 kM T9 kw HP
              go_upto_region 24 with fail
              rw [HV0.out]
              clear HV0
              clear hf hl hlt hA0 z1 z2 hi hiL
              go_upto_region 26 with fail
              go_upto_region 28 with fail
              go_upto_region 30 with fail
              go_wp2_with fail
              clear t5 hcm hkb T9m
              go_loopw [18] (fun x18 wr => ∃ j : Nat, x18 = .int .i64 (j : Int) ∧ j ≤ 0 ∧ Kp [] V0 wr) (fun x18 _ => 0 - (intOf x18).toNat)
              case atStart => exact ⟨0, rfl, Nat.zero_le _, Kp.refl _ _⟩
              case round =>
                obtain ⟨j, rfl, hj, kj⟩ := hrel
                have b7 : decide ((j : Int) < 0) = false := decide_eq_false (by omega)
                go_wp2_with (go_at_call 13; refine (HKn.out _).mono ?_; rintro e w8 ⟨rfl, k8⟩)
                go_ret
                exact ⟨rfl, (kE.trans kj (fun x hx => Or.inl hx)).trans k8 (fun x hx => Or.inl hx)⟩
            · have hf0 : f.toList.isEmpty = true := emp_yes z1
              have hl0 : l.toList.isEmpty = false := ne_empty z2
              have hM : Ar.wantT f false l = [(Ar.tL l)] := by unfold Ar.wantT Ar.tO; rw [if_pos z1, if_neg z2]; rfl
              rw [hC, hM] at HP
              clear hM hC
              go_upto_region 23 with (go_at_call 20; refine HP.mono ?_; rintro e w1 ⟨⟨⟨a1, a2, a3⟩, ⟨k1, k2, kc⟩⟩, rfl, kp1, nd⟩; refine Hid.out ?_)
              unfold Hid
              obtain ⟨hp1, kb, ko, ⟨po, pn, pc⟩, hp2, c5, hlen, hcs⟩ := tx_tree nd
              simp only at hp1 hp2 c5 hlen hcs
              subst hp1 hp2
              replace hlen : pn = 1 := hlen
              subst hlen
              obtain ⟨g9, hg9⟩ : ∃ g, w1.heap.size = g := ⟨_, rfl⟩
              obtain ⟨V0, hV0⟩ : ∃ V, V = w1.alloc (.cells #[.int .i64 L0.kind, .int .i64 L0.ns, .string L0.name, .slice a1 a2 a3, .string L0.text, .slice (some ⟨kb, ko, none⟩) 1 kc] 42) := ⟨_, rfl⟩
              have kV : Kp [] w1 V0 := by rw [hV0]; exact (Kp.refl _ _).alloc _
              have T9 : At V0 g9 #[.int .i64 L0.kind, .int .i64 L0.ns, .string L0.name, .slice a1 a2 a3, .string L0.text, .slice (some ⟨kb, ko, none⟩) 1 kc] 42 := by rw [hV0, ← hg9]; exact At.new _ _ _
              have HV0 : Hid (w1.alloc (.cells #[.int .i64 L0.kind, .int .i64 L0.ns, .string L0.name, .slice a1 a2 a3, .string L0.text, .slice (some ⟨kb, ko, none⟩) 1 kc] 42) = V0) := hV0.symm
              clear hV0
              have M0 := Made.nil V0 9
              obtain ⟨o1, n1, c1, V1, run1, M1⟩ := M0.one Try.underlying53 infoS1 rfl (by decide) (.string l) rfl (by simp)
              obtain rfl : n1 = 1 := by have := M1.rb.len; simpa using this
              have kM := M1.2.1
              have kE : Kp [] w V1 := ((kw.trans kp1 (fun x hx => Or.inl hx)).trans kV (fun x hx => Or.inl hx)).trans kM (fun x hx => Or.inl hx)
              have hkb := block_lt_of_cell c5
              have hcm : V1.cell? ⟨kb, ko + 5, none⟩ = some (.slice po 1 pc) := by rw [kM.cell (a := ⟨kb, ko + 5, none⟩) (Nat.lt_of_lt_of_le hkb kV.size) (by simp), kV.cell (a := ⟨kb, ko + 5, none⟩) hkb (by simp)]; exact c5
              have T9m := T9.kept kM (by simp)
              have t5 : V1.cell? ⟨g9, 5, none⟩ = some (.slice (some ⟨kb, ko, none⟩) 1 kc) := T9m.cell 5
              have HZ5 : Hid (∀ V, Kp [] V1 V → V.cell? ⟨g9, 5, none⟩ = some (.slice (some ⟨kb, ko, none⟩) 1 kc) ∧ V.cell? ⟨kb, ko + 5, none⟩ = some (.slice po 1 pc)) := fun V k => ⟨(k.cell (a := ⟨g9, 5, none⟩) T9m.lt (by simp)).trans t5, (k.cell (a := ⟨kb, ko + 5, none⟩) (block_lt_of_cell hcm) (by simp)).trans hcm⟩
              have HKn : Hid (∀ V, Calls Try.prog 13 #[] V fun e w9 => e = .returned (.bool true) ∧ Kp [] V w9) := known_any
              have RW : Hid (Rb V1 o1 1 c1 (tv [(Ar.tL l)])) := M1.rb
              have HJ : Hid (∀ j (hj : j < 1) V, Kp [] V1 V → ∃ kb2 ko2 b7 o7 tj, po = some ⟨kb2, ko2, none⟩ ∧ o1 = some ⟨b7, o7, none⟩ ∧ V.cell? ⟨kb2, ko2 + j * 6 + 4, none⟩ = some (.string tj) ∧ V.cell? ⟨b7, o7 + j, none⟩ = some (.string tj)) := fun j hj V k => by
                obtain ⟨kb2, ko2, g1, g2⟩ := hcs j hj
                obtain ⟨b7, o7, g3, g4⟩ := RW.out.tv_at j hj
                have hq := block_lt_of_cell g2
                refine ⟨kb2, ko2, b7, o7, ([(Ar.tL l)] : List Lb)[j].text, g1, g3, ?_, ?_⟩
                · exact ((k.cell (a := ⟨kb2, ko2 + j * 6 + 4, none⟩) (Nat.lt_of_lt_of_le hq (Nat.le_trans kV.size kM.size)) (by simp)).trans ((kM.cell (a := ⟨kb2, ko2 + j * 6 + 4, none⟩) (Nat.lt_of_lt_of_le hq kV.size) (by simp)).trans (kV.cell (a := ⟨kb2, ko2 + j * 6 + 4, none⟩) hq (by simp)))).trans g2
                · exact (k.cell (a := ⟨b7, o7 + j, none⟩) (block_lt_of_cell g4) (by simp)).trans g4
              clear nd hcs c5 kV kp1 M0 kM T9 kw HP M1
              go_upto_region 24 with fail
              rw [HV0.out]
              clear HV0
              clear hf hl hlt hA0 z1 z2 hi hiL
              go_upto_region 26 with fail
              go_upto_region 28 with fail
              go_upto_region 30 with (at_builtin; refine Lib.wpList_append_run _ rfl _ _ _ _ rfl _ _ rfl rfl _ _ (run1 _) ?_)
              clear run1
              go_wp2_with fail
              clear t5 hcm hkb T9m
              go_loopw [18] (fun x18 wr => ∃ j : Nat, x18 = .int .i64 (j : Int) ∧ j ≤ 1 ∧ Kp [] V1 wr) (fun x18 _ => 1 - (intOf x18).toNat)
              case atStart => exact ⟨0, rfl, Nat.zero_le _, Kp.refl _ _⟩
              case round =>
                obtain ⟨j, rfl, hj, kj⟩ := hrel
                by_cases hjm : j < 1
                · obtain ⟨kb2, ko2, b7, o7, tj, rfl, rfl, g2, g4⟩ := HJ.out j hjm wr kj
                  obtain ⟨y1, y2⟩ := HZ5.out wr kj
                  have bj : decide ((j : Int) < 1) = true := decide_eq_true (by omega)
                  have j1 : (0 : Int) ≤ (j : Int) := by omega
                  have j2 : (j : Int) < 1 := by omega
                  have hS35 : (World.drew wr).cell? ⟨g9, 5, none⟩ = some (.slice (some ⟨kb, ko, none⟩) 1 kc) ∧ (World.drew wr).cell? ⟨kb, ko + 5, none⟩ = some (.slice (some ⟨kb2, ko2, none⟩) 1 pc) ∧ (World.drew wr).cell? ⟨kb2, ko2 + j * 6 + 4, none⟩ = some (.string tj) ∧ (World.drew wr).cell? ⟨b7, o7 + j, none⟩ = some (.string tj) := ⟨y1, y2, g2, g4⟩
                  go_wp2_with fail
                  refine wp_region_g (S := fun V => V.cell? ⟨g9, 5, none⟩ = some (.slice (some ⟨kb, ko, none⟩) 1 kc) ∧ V.cell? ⟨kb, ko + 5, none⟩ = some (.slice (some ⟨kb2, ko2, none⟩) 1 pc) ∧ V.cell? ⟨kb2, ko2 + j * 6 + 4, none⟩ = some (.string tj) ∧ V.cell? ⟨b7, o7 + j, none⟩ = some (.string tj)) (T := []) (by kernel_rfl) hS35 (fun hHeld => ?_)
                  refine wpAnyG_pure (i := 0) (oi := { dst := some 142, op := Go.Op.fieldAddr 42 (Go.Operand.tmp 15) 5, type := 0, pos := "law.go:279", after := #[], guard := none }) (v := ?_) rfl (by kernel_rfl) (by kernel_rfl) (by kernel_rfl) (by kernel_rfl) (fun _ _ _ h => h) (Or.inl ⟨by rfl, ?_⟩) (by assumption) ?_
                  rotate_left
                  · (intro w; go_simp; try with_reducible rfl)
                  simp only [Act.put, List.setIfInBounds_toArray, List.set_cons_zero, List.set_cons_succ]
                  refine wpAnyG_take (i := 1) (oi := { dst := some 143, op := Go.Op.load 40 (Go.Operand.tmp 142), type := 40, pos := "law.go:279", after := #[{ on := 0, ground := Go.Ground.data }], guard := none }) (v := ?_) rfl (by kernel_rfl) (by kernel_rfl) (by kernel_rfl) (by kernel_rfl) (fun _ _ _ h => h) (Or.inl ⟨by rfl, ?_⟩) (by assumption) ?_
                  rotate_left
                  · (intro w hSw; (obtain ⟨q1, q2, q3, q4⟩ := hSw); go_simp; try with_reducible rfl)
                  simp only [Act.put, List.setIfInBounds_toArray, List.set_cons_zero, List.set_cons_succ]
                  refine wpAnyG_pure (i := 2) (oi := { dst := some 144, op := Go.Op.indexAddr 40 (Go.Operand.tmp 143) (Go.Operand.const (Go.Value.int Go.IntKind.i64 0)), type := 0, pos := "law.go:279", after := #[{ on := 1, ground := Go.Ground.data }], guard := none }) (v := ?_) rfl (by kernel_rfl) (by kernel_rfl) (by kernel_rfl) (by kernel_rfl) (fun _ _ _ h => h) (Or.inl ⟨by rfl, ?_⟩) (by assumption) ?_
                  rotate_left
                  · (intro w; go_simp; try with_reducible rfl)
                  simp only [Act.put, List.setIfInBounds_toArray, List.set_cons_zero, List.set_cons_succ]
                  refine wpAnyG_pure (i := 3) (oi := { dst := some 145, op := Go.Op.fieldAddr 42 (Go.Operand.tmp 144) 5, type := 0, pos := "law.go:279", after := #[{ on := 2, ground := Go.Ground.data }], guard := none }) (v := ?_) rfl (by kernel_rfl) (by kernel_rfl) (by kernel_rfl) (by kernel_rfl) (fun _ _ _ h => h) (Or.inl ⟨by rfl, ?_⟩) (by assumption) ?_
                  rotate_left
                  · (intro w; go_simp; try with_reducible rfl)
                  simp only [Act.put, List.setIfInBounds_toArray, List.set_cons_zero, List.set_cons_succ]
                  refine wpAnyG_take (i := 4) (oi := { dst := some 146, op := Go.Op.load 40 (Go.Operand.tmp 145), type := 40, pos := "law.go:279", after := #[{ on := 3, ground := Go.Ground.data }], guard := none }) (v := ?_) rfl (by kernel_rfl) (by kernel_rfl) (by kernel_rfl) (by kernel_rfl) (fun _ _ _ h => h) (Or.inl ⟨by rfl, ?_⟩) (by assumption) ?_
                  rotate_left
                  · (intro w hSw; (obtain ⟨q1, q2, q3, q4⟩ := hSw); go_simp; try with_reducible rfl)
                  simp only [Act.put, List.setIfInBounds_toArray, List.set_cons_zero, List.set_cons_succ]
                  refine wpAnyG_pure (i := 5) (oi := { dst := some 147, op := Go.Op.move (Go.Operand.tmp 18), type := 3, pos := "law.go:279", after := #[], guard := none }) (v := ?_) rfl (by kernel_rfl) (by kernel_rfl) (by kernel_rfl) (by kernel_rfl) (fun _ _ _ h => h) (Or.inl ⟨by rfl, ?_⟩) (by assumption) ?_
                  rotate_left
                  · (intro w; go_simp; try with_reducible rfl)
                  simp only [Act.put, List.setIfInBounds_toArray, List.set_cons_zero, List.set_cons_succ]
                  refine wpAnyG_pure (i := 6) (oi := { dst := some 148, op := Go.Op.indexAddr 40 (Go.Operand.tmp 146) (Go.Operand.tmp 147), type := 0, pos := "law.go:279", after := #[{ on := 4, ground := Go.Ground.data }, { on := 5, ground := Go.Ground.data }], guard := none }) (v := ?_) rfl (by kernel_rfl) (by kernel_rfl) (by kernel_rfl) (by kernel_rfl) (fun _ _ _ h => h) (Or.inl ⟨by rfl, ?_⟩) (by assumption) ?_
                  rotate_left
                  · (intro w; go_simp; try with_reducible rfl)
                  simp only [Act.put, List.setIfInBounds_toArray, List.set_cons_zero, List.set_cons_succ]
                  refine wpAnyG_pure (i := 7) (oi := { dst := some 149, op := Go.Op.fieldAddr 42 (Go.Operand.tmp 148) 4, type := 0, pos := "law.go:279", after := #[{ on := 6, ground := Go.Ground.data }], guard := none }) (v := ?_) rfl (by kernel_rfl) (by kernel_rfl) (by kernel_rfl) (by kernel_rfl) (fun _ _ _ h => h) (Or.inl ⟨by rfl, ?_⟩) (by assumption) ?_
                  rotate_left
                  · (intro w; go_simp; try with_reducible rfl)
                  simp only [Act.put, List.setIfInBounds_toArray, List.set_cons_zero, List.set_cons_succ]
                  refine wpAnyG_take (i := 8) (oi := { dst := some 150, op := Go.Op.load 9 (Go.Operand.tmp 149), type := 9, pos := "law.go:279", after := #[{ on := 7, ground := Go.Ground.data }], guard := none }) (v := ?_) rfl (by kernel_rfl) (by kernel_rfl) (by kernel_rfl) (by kernel_rfl) (fun _ _ _ h => h) (Or.inl ⟨by rfl, ?_⟩) (by assumption) ?_
                  rotate_left
                  · (intro w hSw; (obtain ⟨q1, q2, q3, q4⟩ := hSw); go_simp; try with_reducible rfl)
                  simp only [Act.put, List.setIfInBounds_toArray, List.set_cons_zero, List.set_cons_succ]
                  refine wpAnyG_pure (i := 9) (oi := { dst := some 151, op := Go.Op.move (Go.Operand.tmp 17), type := 53, pos := "law.go:279", after := #[], guard := none }) (v := ?_) rfl (by kernel_rfl) (by kernel_rfl) (by kernel_rfl) (by kernel_rfl) (fun _ _ _ h => h) (Or.inl ⟨by rfl, ?_⟩) (by assumption) ?_
                  rotate_left
                  · (intro w; go_simp; try with_reducible rfl)
                  simp only [Act.put, List.setIfInBounds_toArray, List.set_cons_zero, List.set_cons_succ]
                  refine wpAnyG_pure (i := 10) (oi := { dst := some 152, op := Go.Op.move (Go.Operand.tmp 18), type := 3, pos := "law.go:279", after := #[], guard := none }) (v := ?_) rfl (by kernel_rfl) (by kernel_rfl) (by kernel_rfl) (by kernel_rfl) (fun _ _ _ h => h) (Or.inl ⟨by rfl, ?_⟩) (by assumption) ?_
                  rotate_left
                  · (intro w; go_simp; try with_reducible rfl)
                  simp only [Act.put, List.setIfInBounds_toArray, List.set_cons_zero, List.set_cons_succ]
                  refine wpAnyG_pure (i := 11) (oi := { dst := some 153, op := Go.Op.indexAddr 53 (Go.Operand.tmp 151) (Go.Operand.tmp 152), type := 0, pos := "law.go:279", after := #[{ on := 9, ground := Go.Ground.data }, { on := 10, ground := Go.Ground.data }], guard := none }) (v := ?_) rfl (by kernel_rfl) (by kernel_rfl) (by kernel_rfl) (by kernel_rfl) (fun _ _ _ h => h) (Or.inl ⟨by rfl, ?_⟩) (by assumption) ?_
                  rotate_left
                  · (intro w; go_simp; try with_reducible rfl)
                  simp only [Act.put, List.setIfInBounds_toArray, List.set_cons_zero, List.set_cons_succ]
                  refine wpAnyG_take (i := 12) (oi := { dst := some 154, op := Go.Op.load 9 (Go.Operand.tmp 153), type := 9, pos := "law.go:279", after := #[{ on := 11, ground := Go.Ground.data }], guard := none }) (v := ?_) rfl (by kernel_rfl) (by kernel_rfl) (by kernel_rfl) (by kernel_rfl) (fun _ _ _ h => h) (Or.inl ⟨by rfl, ?_⟩) (by assumption) ?_
                  rotate_left
                  · (intro w hSw; (obtain ⟨q1, q2, q3, q4⟩ := hSw); go_simp; try with_reducible rfl)
                  simp only [Act.put, List.setIfInBounds_toArray, List.set_cons_zero, List.set_cons_succ]
                  refine wpAnyG_pure (i := 13) (oi := { dst := some 155, op := Go.Op.binOp Go.BinOp.neq 9 (Go.Operand.tmp 150) (Go.Operand.tmp 154) 9, type := 4, pos := "law.go:279", after := #[{ on := 8, ground := Go.Ground.data }, { on := 12, ground := Go.Ground.data }], guard := none }) (v := ?_) rfl (by kernel_rfl) (by kernel_rfl) (by kernel_rfl) (by kernel_rfl) (fun _ _ _ h => h) (Or.inl ⟨by rfl, ?_⟩) (by assumption) ?_
                  rotate_left
                  · (intro w; go_simp; try with_reducible rfl)
                  simp only [Act.put, List.setIfInBounds_toArray, List.set_cons_zero, List.set_cons_succ]
                  refine wpAnyG_free (by kernel_rfl) ?_
                  refine wpAny_done (by kernel_rfl) ?_ _
                  go_wp2_with fail
                  go_roundw
                  case rel => exact ⟨j + 1, by go_num, by omega, kj.drew⟩
                  case measure => simp [intOf]; omega
                · have b7 : decide ((j : Int) < 1) = false := decide_eq_false (by omega)
                  go_wp2_with (go_at_call 13; refine (HKn.out _).mono ?_; rintro e w8 ⟨rfl, k8⟩)
                  go_ret
                  exact ⟨rfl, (kE.trans kj (fun x hx => Or.inl hx)).trans k8 (fun x hx => Or.inl hx)⟩
          · by_cases z2 : l.size = 0
            · have hf0 : f.toList.isEmpty = false := ne_empty z1
              have hl0 : l.toList.isEmpty = true := emp_yes z2
              have hM : Ar.wantT f false l = [(Ar.tL f)] := by unfold Ar.wantT Ar.tO; rw [if_neg z1, if_pos z2]; rfl
              rw [hC, hM] at HP
              clear hM hC
              go_upto_region 23 with (go_at_call 20; refine HP.mono ?_; rintro e w1 ⟨⟨⟨a1, a2, a3⟩, ⟨k1, k2, kc⟩⟩, rfl, kp1, nd⟩; refine Hid.out ?_)
              unfold Hid
              obtain ⟨hp1, kb, ko, ⟨po, pn, pc⟩, hp2, c5, hlen, hcs⟩ := tx_tree nd
              simp only at hp1 hp2 c5 hlen hcs
              subst hp1 hp2
              replace hlen : pn = 1 := hlen
              subst hlen
              obtain ⟨g9, hg9⟩ : ∃ g, w1.heap.size = g := ⟨_, rfl⟩
              obtain ⟨V0, hV0⟩ : ∃ V, V = w1.alloc (.cells #[.int .i64 L0.kind, .int .i64 L0.ns, .string L0.name, .slice a1 a2 a3, .string L0.text, .slice (some ⟨kb, ko, none⟩) 1 kc] 42) := ⟨_, rfl⟩
              have kV : Kp [] w1 V0 := by rw [hV0]; exact (Kp.refl _ _).alloc _
              have T9 : At V0 g9 #[.int .i64 L0.kind, .int .i64 L0.ns, .string L0.name, .slice a1 a2 a3, .string L0.text, .slice (some ⟨kb, ko, none⟩) 1 kc] 42 := by rw [hV0, ← hg9]; exact At.new _ _ _
              have HV0 : Hid (w1.alloc (.cells #[.int .i64 L0.kind, .int .i64 L0.ns, .string L0.name, .slice a1 a2 a3, .string L0.text, .slice (some ⟨kb, ko, none⟩) 1 kc] 42) = V0) := hV0.symm
              clear hV0
              have M0 := Made.nil V0 9
              obtain ⟨o1, n1, c1, V1, run1, M1⟩ := M0.one Try.underlying53 infoS1 rfl (by decide) (.string f) rfl (by simp)
              obtain rfl : n1 = 1 := by have := M1.rb.len; simpa using this
              have kM := M1.2.1
              have kE : Kp [] w V1 := ((kw.trans kp1 (fun x hx => Or.inl hx)).trans kV (fun x hx => Or.inl hx)).trans kM (fun x hx => Or.inl hx)
              have hkb := block_lt_of_cell c5
              have hcm : V1.cell? ⟨kb, ko + 5, none⟩ = some (.slice po 1 pc) := by rw [kM.cell (a := ⟨kb, ko + 5, none⟩) (Nat.lt_of_lt_of_le hkb kV.size) (by simp), kV.cell (a := ⟨kb, ko + 5, none⟩) hkb (by simp)]; exact c5
              have T9m := T9.kept kM (by simp)
              have t5 : V1.cell? ⟨g9, 5, none⟩ = some (.slice (some ⟨kb, ko, none⟩) 1 kc) := T9m.cell 5
              have HZ5 : Hid (∀ V, Kp [] V1 V → V.cell? ⟨g9, 5, none⟩ = some (.slice (some ⟨kb, ko, none⟩) 1 kc) ∧ V.cell? ⟨kb, ko + 5, none⟩ = some (.slice po 1 pc)) := fun V k => ⟨(k.cell (a := ⟨g9, 5, none⟩) T9m.lt (by simp)).trans t5, (k.cell (a := ⟨kb, ko + 5, none⟩) (block_lt_of_cell hcm) (by simp)).trans hcm⟩
              have HKn : Hid (∀ V, Calls Try.prog 13 #[] V fun e w9 => e = .returned (.bool true) ∧ Kp [] V w9) := known_any
              have RW : Hid (Rb V1 o1 1 c1 (tv [(Ar.tL f)])) := M1.rb
              have HJ : Hid (∀ j (hj : j < 1) V, Kp [] V1 V → ∃ kb2 ko2 b7 o7 tj, po = some ⟨kb2, ko2, none⟩ ∧ o1 = some ⟨b7, o7, none⟩ ∧ V.cell? ⟨kb2, ko2 + j * 6 + 4, none⟩ = some (.string tj) ∧ V.cell? ⟨b7, o7 + j, none⟩ = some (.string tj)) := fun j hj V k => by
                obtain ⟨kb2, ko2, g1, g2⟩ := hcs j hj
                obtain ⟨b7, o7, g3, g4⟩ := RW.out.tv_at j hj
                have hq := block_lt_of_cell g2
                refine ⟨kb2, ko2, b7, o7, ([(Ar.tL f)] : List Lb)[j].text, g1, g3, ?_, ?_⟩
                · exact ((k.cell (a := ⟨kb2, ko2 + j * 6 + 4, none⟩) (Nat.lt_of_lt_of_le hq (Nat.le_trans kV.size kM.size)) (by simp)).trans ((kM.cell (a := ⟨kb2, ko2 + j * 6 + 4, none⟩) (Nat.lt_of_lt_of_le hq kV.size) (by simp)).trans (kV.cell (a := ⟨kb2, ko2 + j * 6 + 4, none⟩) hq (by simp)))).trans g2
                · exact (k.cell (a := ⟨b7, o7 + j, none⟩) (block_lt_of_cell g4) (by simp)).trans g4
              clear nd hcs c5 kV kp1 M0 kM T9 kw HP M1
              go_upto_region 24 with fail
              rw [HV0.out]
              clear HV0
              clear hf hl hlt hA0 z1 z2 hi hiL
              go_upto_region 26 with (at_builtin; refine Lib.wpList_append_run _ rfl _ _ _ _ rfl _ _ rfl rfl _ _ (run1 _) ?_)
              clear run1
              go_upto_region 28 with fail
              go_upto_region 30 with fail
              go_wp2_with fail
              clear t5 hcm hkb T9m
              go_loopw [18] (fun x18 wr => ∃ j : Nat, x18 = .int .i64 (j : Int) ∧ j ≤ 1 ∧ Kp [] V1 wr) (fun x18 _ => 1 - (intOf x18).toNat)
              case atStart => exact ⟨0, rfl, Nat.zero_le _, Kp.refl _ _⟩
              case round =>
                obtain ⟨j, rfl, hj, kj⟩ := hrel
                by_cases hjm : j < 1
                · obtain ⟨kb2, ko2, b7, o7, tj, rfl, rfl, g2, g4⟩ := HJ.out j hjm wr kj
                  obtain ⟨y1, y2⟩ := HZ5.out wr kj
                  have bj : decide ((j : Int) < 1) = true := decide_eq_true (by omega)
                  have j1 : (0 : Int) ≤ (j : Int) := by omega
                  have j2 : (j : Int) < 1 := by omega
                  have hS35 : (World.drew wr).cell? ⟨g9, 5, none⟩ = some (.slice (some ⟨kb, ko, none⟩) 1 kc) ∧ (World.drew wr).cell? ⟨kb, ko + 5, none⟩ = some (.slice (some ⟨kb2, ko2, none⟩) 1 pc) ∧ (World.drew wr).cell? ⟨kb2, ko2 + j * 6 + 4, none⟩ = some (.string tj) ∧ (World.drew wr).cell? ⟨b7, o7 + j, none⟩ = some (.string tj) := ⟨y1, y2, g2, g4⟩
                  go_wp2_with fail
                  refine wp_region_g (S := fun V => V.cell? ⟨g9, 5, none⟩ = some (.slice (some ⟨kb, ko, none⟩) 1 kc) ∧ V.cell? ⟨kb, ko + 5, none⟩ = some (.slice (some ⟨kb2, ko2, none⟩) 1 pc) ∧ V.cell? ⟨kb2, ko2 + j * 6 + 4, none⟩ = some (.string tj) ∧ V.cell? ⟨b7, o7 + j, none⟩ = some (.string tj)) (T := []) (by kernel_rfl) hS35 (fun hHeld => ?_)
                  refine wpAnyG_pure (i := 0) (oi := { dst := some 142, op := Go.Op.fieldAddr 42 (Go.Operand.tmp 15) 5, type := 0, pos := "law.go:279", after := #[], guard := none }) (v := ?_) rfl (by kernel_rfl) (by kernel_rfl) (by kernel_rfl) (by kernel_rfl) (fun _ _ _ h => h) (Or.inl ⟨by rfl, ?_⟩) (by assumption) ?_
                  rotate_left
                  · (intro w; go_simp; try with_reducible rfl)
                  simp only [Act.put, List.setIfInBounds_toArray, List.set_cons_zero, List.set_cons_succ]
                  refine wpAnyG_take (i := 1) (oi := { dst := some 143, op := Go.Op.load 40 (Go.Operand.tmp 142), type := 40, pos := "law.go:279", after := #[{ on := 0, ground := Go.Ground.data }], guard := none }) (v := ?_) rfl (by kernel_rfl) (by kernel_rfl) (by kernel_rfl) (by kernel_rfl) (fun _ _ _ h => h) (Or.inl ⟨by rfl, ?_⟩) (by assumption) ?_
                  rotate_left
                  · (intro w hSw; (obtain ⟨q1, q2, q3, q4⟩ := hSw); go_simp; try with_reducible rfl)
                  simp only [Act.put, List.setIfInBounds_toArray, List.set_cons_zero, List.set_cons_succ]
                  refine wpAnyG_pure (i := 2) (oi := { dst := some 144, op := Go.Op.indexAddr 40 (Go.Operand.tmp 143) (Go.Operand.const (Go.Value.int Go.IntKind.i64 0)), type := 0, pos := "law.go:279", after := #[{ on := 1, ground := Go.Ground.data }], guard := none }) (v := ?_) rfl (by kernel_rfl) (by kernel_rfl) (by kernel_rfl) (by kernel_rfl) (fun _ _ _ h => h) (Or.inl ⟨by rfl, ?_⟩) (by assumption) ?_
                  rotate_left
                  · (intro w; go_simp; try with_reducible rfl)
                  simp only [Act.put, List.setIfInBounds_toArray, List.set_cons_zero, List.set_cons_succ]
                  refine wpAnyG_pure (i := 3) (oi := { dst := some 145, op := Go.Op.fieldAddr 42 (Go.Operand.tmp 144) 5, type := 0, pos := "law.go:279", after := #[{ on := 2, ground := Go.Ground.data }], guard := none }) (v := ?_) rfl (by kernel_rfl) (by kernel_rfl) (by kernel_rfl) (by kernel_rfl) (fun _ _ _ h => h) (Or.inl ⟨by rfl, ?_⟩) (by assumption) ?_
                  rotate_left
                  · (intro w; go_simp; try with_reducible rfl)
                  simp only [Act.put, List.setIfInBounds_toArray, List.set_cons_zero, List.set_cons_succ]
                  refine wpAnyG_take (i := 4) (oi := { dst := some 146, op := Go.Op.load 40 (Go.Operand.tmp 145), type := 40, pos := "law.go:279", after := #[{ on := 3, ground := Go.Ground.data }], guard := none }) (v := ?_) rfl (by kernel_rfl) (by kernel_rfl) (by kernel_rfl) (by kernel_rfl) (fun _ _ _ h => h) (Or.inl ⟨by rfl, ?_⟩) (by assumption) ?_
                  rotate_left
                  · (intro w hSw; (obtain ⟨q1, q2, q3, q4⟩ := hSw); go_simp; try with_reducible rfl)
                  simp only [Act.put, List.setIfInBounds_toArray, List.set_cons_zero, List.set_cons_succ]
                  refine wpAnyG_pure (i := 5) (oi := { dst := some 147, op := Go.Op.move (Go.Operand.tmp 18), type := 3, pos := "law.go:279", after := #[], guard := none }) (v := ?_) rfl (by kernel_rfl) (by kernel_rfl) (by kernel_rfl) (by kernel_rfl) (fun _ _ _ h => h) (Or.inl ⟨by rfl, ?_⟩) (by assumption) ?_
                  rotate_left
                  · (intro w; go_simp; try with_reducible rfl)
                  simp only [Act.put, List.setIfInBounds_toArray, List.set_cons_zero, List.set_cons_succ]
                  refine wpAnyG_pure (i := 6) (oi := { dst := some 148, op := Go.Op.indexAddr 40 (Go.Operand.tmp 146) (Go.Operand.tmp 147), type := 0, pos := "law.go:279", after := #[{ on := 4, ground := Go.Ground.data }, { on := 5, ground := Go.Ground.data }], guard := none }) (v := ?_) rfl (by kernel_rfl) (by kernel_rfl) (by kernel_rfl) (by kernel_rfl) (fun _ _ _ h => h) (Or.inl ⟨by rfl, ?_⟩) (by assumption) ?_
                  rotate_left
                  · (intro w; go_simp; try with_reducible rfl)
                  simp only [Act.put, List.setIfInBounds_toArray, List.set_cons_zero, List.set_cons_succ]
                  refine wpAnyG_pure (i := 7) (oi := { dst := some 149, op := Go.Op.fieldAddr 42 (Go.Operand.tmp 148) 4, type := 0, pos := "law.go:279", after := #[{ on := 6, ground := Go.Ground.data }], guard := none }) (v := ?_) rfl (by kernel_rfl) (by kernel_rfl) (by kernel_rfl) (by kernel_rfl) (fun _ _ _ h => h) (Or.inl ⟨by rfl, ?_⟩) (by assumption) ?_
                  rotate_left
                  · (intro w; go_simp; try with_reducible rfl)
                  simp only [Act.put, List.setIfInBounds_toArray, List.set_cons_zero, List.set_cons_succ]
                  refine wpAnyG_take (i := 8) (oi := { dst := some 150, op := Go.Op.load 9 (Go.Operand.tmp 149), type := 9, pos := "law.go:279", after := #[{ on := 7, ground := Go.Ground.data }], guard := none }) (v := ?_) rfl (by kernel_rfl) (by kernel_rfl) (by kernel_rfl) (by kernel_rfl) (fun _ _ _ h => h) (Or.inl ⟨by rfl, ?_⟩) (by assumption) ?_
                  rotate_left
                  · (intro w hSw; (obtain ⟨q1, q2, q3, q4⟩ := hSw); go_simp; try with_reducible rfl)
                  simp only [Act.put, List.setIfInBounds_toArray, List.set_cons_zero, List.set_cons_succ]
                  refine wpAnyG_pure (i := 9) (oi := { dst := some 151, op := Go.Op.move (Go.Operand.tmp 17), type := 53, pos := "law.go:279", after := #[], guard := none }) (v := ?_) rfl (by kernel_rfl) (by kernel_rfl) (by kernel_rfl) (by kernel_rfl) (fun _ _ _ h => h) (Or.inl ⟨by rfl, ?_⟩) (by assumption) ?_
                  rotate_left
                  · (intro w; go_simp; try with_reducible rfl)
                  simp only [Act.put, List.setIfInBounds_toArray, List.set_cons_zero, List.set_cons_succ]
                  refine wpAnyG_pure (i := 10) (oi := { dst := some 152, op := Go.Op.move (Go.Operand.tmp 18), type := 3, pos := "law.go:279", after := #[], guard := none }) (v := ?_) rfl (by kernel_rfl) (by kernel_rfl) (by kernel_rfl) (by kernel_rfl) (fun _ _ _ h => h) (Or.inl ⟨by rfl, ?_⟩) (by assumption) ?_
                  rotate_left
                  · (intro w; go_simp; try with_reducible rfl)
                  simp only [Act.put, List.setIfInBounds_toArray, List.set_cons_zero, List.set_cons_succ]
                  refine wpAnyG_pure (i := 11) (oi := { dst := some 153, op := Go.Op.indexAddr 53 (Go.Operand.tmp 151) (Go.Operand.tmp 152), type := 0, pos := "law.go:279", after := #[{ on := 9, ground := Go.Ground.data }, { on := 10, ground := Go.Ground.data }], guard := none }) (v := ?_) rfl (by kernel_rfl) (by kernel_rfl) (by kernel_rfl) (by kernel_rfl) (fun _ _ _ h => h) (Or.inl ⟨by rfl, ?_⟩) (by assumption) ?_
                  rotate_left
                  · (intro w; go_simp; try with_reducible rfl)
                  simp only [Act.put, List.setIfInBounds_toArray, List.set_cons_zero, List.set_cons_succ]
                  refine wpAnyG_take (i := 12) (oi := { dst := some 154, op := Go.Op.load 9 (Go.Operand.tmp 153), type := 9, pos := "law.go:279", after := #[{ on := 11, ground := Go.Ground.data }], guard := none }) (v := ?_) rfl (by kernel_rfl) (by kernel_rfl) (by kernel_rfl) (by kernel_rfl) (fun _ _ _ h => h) (Or.inl ⟨by rfl, ?_⟩) (by assumption) ?_
                  rotate_left
                  · (intro w hSw; (obtain ⟨q1, q2, q3, q4⟩ := hSw); go_simp; try with_reducible rfl)
                  simp only [Act.put, List.setIfInBounds_toArray, List.set_cons_zero, List.set_cons_succ]
                  refine wpAnyG_pure (i := 13) (oi := { dst := some 155, op := Go.Op.binOp Go.BinOp.neq 9 (Go.Operand.tmp 150) (Go.Operand.tmp 154) 9, type := 4, pos := "law.go:279", after := #[{ on := 8, ground := Go.Ground.data }, { on := 12, ground := Go.Ground.data }], guard := none }) (v := ?_) rfl (by kernel_rfl) (by kernel_rfl) (by kernel_rfl) (by kernel_rfl) (fun _ _ _ h => h) (Or.inl ⟨by rfl, ?_⟩) (by assumption) ?_
                  rotate_left
                  · (intro w; go_simp; try with_reducible rfl)
                  simp only [Act.put, List.setIfInBounds_toArray, List.set_cons_zero, List.set_cons_succ]
                  refine wpAnyG_free (by kernel_rfl) ?_
                  refine wpAny_done (by kernel_rfl) ?_ _
                  go_wp2_with fail
                  go_roundw
                  case rel => exact ⟨j + 1, by go_num, by omega, kj.drew⟩
                  case measure => simp [intOf]; omega
                · have b7 : decide ((j : Int) < 1) = false := decide_eq_false (by omega)
                  go_wp2_with (go_at_call 13; refine (HKn.out _).mono ?_; rintro e w8 ⟨rfl, k8⟩)
                  go_ret
                  exact ⟨rfl, (kE.trans kj (fun x hx => Or.inl hx)).trans k8 (fun x hx => Or.inl hx)⟩
            · have hf0 : f.toList.isEmpty = false := ne_empty z1
              have hl0 : l.toList.isEmpty = false := ne_empty z2
              have hM : Ar.wantT f false l = [(Ar.tL f), (Ar.tL l)] := by unfold Ar.wantT Ar.tO; rw [if_neg z1, if_neg z2]; rfl
              rw [hC, hM] at HP
              clear hM hC
              go_upto_region 23 with (go_at_call 20; refine HP.mono ?_; rintro e w1 ⟨⟨⟨a1, a2, a3⟩, ⟨k1, k2, kc⟩⟩, rfl, kp1, nd⟩; refine Hid.out ?_)
              unfold Hid
              obtain ⟨hp1, kb, ko, ⟨po, pn, pc⟩, hp2, c5, hlen, hcs⟩ := tx_tree nd
              simp only at hp1 hp2 c5 hlen hcs
              subst hp1 hp2
              replace hlen : pn = 2 := hlen
              subst hlen
              obtain ⟨g9, hg9⟩ : ∃ g, w1.heap.size = g := ⟨_, rfl⟩
              obtain ⟨V0, hV0⟩ : ∃ V, V = w1.alloc (.cells #[.int .i64 L0.kind, .int .i64 L0.ns, .string L0.name, .slice a1 a2 a3, .string L0.text, .slice (some ⟨kb, ko, none⟩) 1 kc] 42) := ⟨_, rfl⟩
              have kV : Kp [] w1 V0 := by rw [hV0]; exact (Kp.refl _ _).alloc _
              have T9 : At V0 g9 #[.int .i64 L0.kind, .int .i64 L0.ns, .string L0.name, .slice a1 a2 a3, .string L0.text, .slice (some ⟨kb, ko, none⟩) 1 kc] 42 := by rw [hV0, ← hg9]; exact At.new _ _ _
              have HV0 : Hid (w1.alloc (.cells #[.int .i64 L0.kind, .int .i64 L0.ns, .string L0.name, .slice a1 a2 a3, .string L0.text, .slice (some ⟨kb, ko, none⟩) 1 kc] 42) = V0) := hV0.symm
              clear hV0
              have M0 := Made.nil V0 9
              obtain ⟨o1, n1, c1, V1, run1, M1⟩ := M0.one Try.underlying53 infoS1 rfl (by decide) (.string f) rfl (by simp)
              obtain rfl : n1 = 1 := by have := M1.rb.len; simpa using this
              obtain ⟨o2, n2, c2, V2, run2, M2⟩ := M1.one Try.underlying53 infoS1 rfl (by decide) (.string l) rfl (by simp)
              obtain rfl : n2 = 2 := by have := M2.rb.len; simpa using this
              have kM := M2.2.1
              have kE : Kp [] w V2 := ((kw.trans kp1 (fun x hx => Or.inl hx)).trans kV (fun x hx => Or.inl hx)).trans kM (fun x hx => Or.inl hx)
              have hkb := block_lt_of_cell c5
              have hcm : V2.cell? ⟨kb, ko + 5, none⟩ = some (.slice po 2 pc) := by rw [kM.cell (a := ⟨kb, ko + 5, none⟩) (Nat.lt_of_lt_of_le hkb kV.size) (by simp), kV.cell (a := ⟨kb, ko + 5, none⟩) hkb (by simp)]; exact c5
              have T9m := T9.kept kM (by simp)
              have t5 : V2.cell? ⟨g9, 5, none⟩ = some (.slice (some ⟨kb, ko, none⟩) 1 kc) := T9m.cell 5
              have HZ5 : Hid (∀ V, Kp [] V2 V → V.cell? ⟨g9, 5, none⟩ = some (.slice (some ⟨kb, ko, none⟩) 1 kc) ∧ V.cell? ⟨kb, ko + 5, none⟩ = some (.slice po 2 pc)) := fun V k => ⟨(k.cell (a := ⟨g9, 5, none⟩) T9m.lt (by simp)).trans t5, (k.cell (a := ⟨kb, ko + 5, none⟩) (block_lt_of_cell hcm) (by simp)).trans hcm⟩
              have HKn : Hid (∀ V, Calls Try.prog 13 #[] V fun e w9 => e = .returned (.bool true) ∧ Kp [] V w9) := known_any
              have RW : Hid (Rb V2 o2 2 c2 (tv [(Ar.tL f), (Ar.tL l)])) := M2.rb
              have HJ : Hid (∀ j (hj : j < 2) V, Kp [] V2 V → ∃ kb2 ko2 b7 o7 tj, po = some ⟨kb2, ko2, none⟩ ∧ o2 = some ⟨b7, o7, none⟩ ∧ V.cell? ⟨kb2, ko2 + j * 6 + 4, none⟩ = some (.string tj) ∧ V.cell? ⟨b7, o7 + j, none⟩ = some (.string tj)) := fun j hj V k => by
                obtain ⟨kb2, ko2, g1, g2⟩ := hcs j hj
                obtain ⟨b7, o7, g3, g4⟩ := RW.out.tv_at j hj
                have hq := block_lt_of_cell g2
                refine ⟨kb2, ko2, b7, o7, ([(Ar.tL f), (Ar.tL l)] : List Lb)[j].text, g1, g3, ?_, ?_⟩
                · exact ((k.cell (a := ⟨kb2, ko2 + j * 6 + 4, none⟩) (Nat.lt_of_lt_of_le hq (Nat.le_trans kV.size kM.size)) (by simp)).trans ((kM.cell (a := ⟨kb2, ko2 + j * 6 + 4, none⟩) (Nat.lt_of_lt_of_le hq kV.size) (by simp)).trans (kV.cell (a := ⟨kb2, ko2 + j * 6 + 4, none⟩) hq (by simp)))).trans g2
                · exact (k.cell (a := ⟨b7, o7 + j, none⟩) (block_lt_of_cell g4) (by simp)).trans g4
              clear nd hcs c5 kV kp1 M0 kM T9 kw HP M1 M2
              go_upto_region 24 with fail
              rw [HV0.out]
              clear HV0
              clear hf hl hlt hA0 z1 z2 hi hiL
              go_upto_region 26 with (at_builtin; refine Lib.wpList_append_run _ rfl _ _ _ _ rfl _ _ rfl rfl _ _ (run1 _) ?_)
              clear run1
              go_upto_region 28 with fail
              go_upto_region 30 with (at_builtin; refine Lib.wpList_append_run _ rfl _ _ _ _ rfl _ _ rfl rfl _ _ (run2 _) ?_)
              clear run2
              go_wp2_with fail
              clear t5 hcm hkb T9m
              go_loopw [18] (fun x18 wr => ∃ j : Nat, x18 = .int .i64 (j : Int) ∧ j ≤ 2 ∧ Kp [] V2 wr) (fun x18 _ => 2 - (intOf x18).toNat)
              case atStart => exact ⟨0, rfl, Nat.zero_le _, Kp.refl _ _⟩
              case round =>
                obtain ⟨j, rfl, hj, kj⟩ := hrel
                by_cases hjm : j < 2
                · obtain ⟨kb2, ko2, b7, o7, tj, rfl, rfl, g2, g4⟩ := HJ.out j hjm wr kj
                  obtain ⟨y1, y2⟩ := HZ5.out wr kj
                  have bj : decide ((j : Int) < 2) = true := decide_eq_true (by omega)
                  have j1 : (0 : Int) ≤ (j : Int) := by omega
                  have j2 : (j : Int) < 2 := by omega
                  have hS35 : (World.drew wr).cell? ⟨g9, 5, none⟩ = some (.slice (some ⟨kb, ko, none⟩) 1 kc) ∧ (World.drew wr).cell? ⟨kb, ko + 5, none⟩ = some (.slice (some ⟨kb2, ko2, none⟩) 2 pc) ∧ (World.drew wr).cell? ⟨kb2, ko2 + j * 6 + 4, none⟩ = some (.string tj) ∧ (World.drew wr).cell? ⟨b7, o7 + j, none⟩ = some (.string tj) := ⟨y1, y2, g2, g4⟩
                  go_wp2_with fail
                  refine wp_region_g (S := fun V => V.cell? ⟨g9, 5, none⟩ = some (.slice (some ⟨kb, ko, none⟩) 1 kc) ∧ V.cell? ⟨kb, ko + 5, none⟩ = some (.slice (some ⟨kb2, ko2, none⟩) 2 pc) ∧ V.cell? ⟨kb2, ko2 + j * 6 + 4, none⟩ = some (.string tj) ∧ V.cell? ⟨b7, o7 + j, none⟩ = some (.string tj)) (T := []) (by kernel_rfl) hS35 (fun hHeld => ?_)
                  refine wpAnyG_pure (i := 0) (oi := { dst := some 142, op := Go.Op.fieldAddr 42 (Go.Operand.tmp 15) 5, type := 0, pos := "law.go:279", after := #[], guard := none }) (v := ?_) rfl (by kernel_rfl) (by kernel_rfl) (by kernel_rfl) (by kernel_rfl) (fun _ _ _ h => h) (Or.inl ⟨by rfl, ?_⟩) (by assumption) ?_
                  rotate_left
                  · (intro w; go_simp; try with_reducible rfl)
                  simp only [Act.put, List.setIfInBounds_toArray, List.set_cons_zero, List.set_cons_succ]
                  refine wpAnyG_take (i := 1) (oi := { dst := some 143, op := Go.Op.load 40 (Go.Operand.tmp 142), type := 40, pos := "law.go:279", after := #[{ on := 0, ground := Go.Ground.data }], guard := none }) (v := ?_) rfl (by kernel_rfl) (by kernel_rfl) (by kernel_rfl) (by kernel_rfl) (fun _ _ _ h => h) (Or.inl ⟨by rfl, ?_⟩) (by assumption) ?_
                  rotate_left
                  · (intro w hSw; (obtain ⟨q1, q2, q3, q4⟩ := hSw); go_simp; try with_reducible rfl)
                  simp only [Act.put, List.setIfInBounds_toArray, List.set_cons_zero, List.set_cons_succ]
                  refine wpAnyG_pure (i := 2) (oi := { dst := some 144, op := Go.Op.indexAddr 40 (Go.Operand.tmp 143) (Go.Operand.const (Go.Value.int Go.IntKind.i64 0)), type := 0, pos := "law.go:279", after := #[{ on := 1, ground := Go.Ground.data }], guard := none }) (v := ?_) rfl (by kernel_rfl) (by kernel_rfl) (by kernel_rfl) (by kernel_rfl) (fun _ _ _ h => h) (Or.inl ⟨by rfl, ?_⟩) (by assumption) ?_
                  rotate_left
                  · (intro w; go_simp; try with_reducible rfl)
                  simp only [Act.put, List.setIfInBounds_toArray, List.set_cons_zero, List.set_cons_succ]
                  refine wpAnyG_pure (i := 3) (oi := { dst := some 145, op := Go.Op.fieldAddr 42 (Go.Operand.tmp 144) 5, type := 0, pos := "law.go:279", after := #[{ on := 2, ground := Go.Ground.data }], guard := none }) (v := ?_) rfl (by kernel_rfl) (by kernel_rfl) (by kernel_rfl) (by kernel_rfl) (fun _ _ _ h => h) (Or.inl ⟨by rfl, ?_⟩) (by assumption) ?_
                  rotate_left
                  · (intro w; go_simp; try with_reducible rfl)
                  simp only [Act.put, List.setIfInBounds_toArray, List.set_cons_zero, List.set_cons_succ]
                  refine wpAnyG_take (i := 4) (oi := { dst := some 146, op := Go.Op.load 40 (Go.Operand.tmp 145), type := 40, pos := "law.go:279", after := #[{ on := 3, ground := Go.Ground.data }], guard := none }) (v := ?_) rfl (by kernel_rfl) (by kernel_rfl) (by kernel_rfl) (by kernel_rfl) (fun _ _ _ h => h) (Or.inl ⟨by rfl, ?_⟩) (by assumption) ?_
                  rotate_left
                  · (intro w hSw; (obtain ⟨q1, q2, q3, q4⟩ := hSw); go_simp; try with_reducible rfl)
                  simp only [Act.put, List.setIfInBounds_toArray, List.set_cons_zero, List.set_cons_succ]
                  refine wpAnyG_pure (i := 5) (oi := { dst := some 147, op := Go.Op.move (Go.Operand.tmp 18), type := 3, pos := "law.go:279", after := #[], guard := none }) (v := ?_) rfl (by kernel_rfl) (by kernel_rfl) (by kernel_rfl) (by kernel_rfl) (fun _ _ _ h => h) (Or.inl ⟨by rfl, ?_⟩) (by assumption) ?_
                  rotate_left
                  · (intro w; go_simp; try with_reducible rfl)
                  simp only [Act.put, List.setIfInBounds_toArray, List.set_cons_zero, List.set_cons_succ]
                  refine wpAnyG_pure (i := 6) (oi := { dst := some 148, op := Go.Op.indexAddr 40 (Go.Operand.tmp 146) (Go.Operand.tmp 147), type := 0, pos := "law.go:279", after := #[{ on := 4, ground := Go.Ground.data }, { on := 5, ground := Go.Ground.data }], guard := none }) (v := ?_) rfl (by kernel_rfl) (by kernel_rfl) (by kernel_rfl) (by kernel_rfl) (fun _ _ _ h => h) (Or.inl ⟨by rfl, ?_⟩) (by assumption) ?_
                  rotate_left
                  · (intro w; go_simp; try with_reducible rfl)
                  simp only [Act.put, List.setIfInBounds_toArray, List.set_cons_zero, List.set_cons_succ]
                  refine wpAnyG_pure (i := 7) (oi := { dst := some 149, op := Go.Op.fieldAddr 42 (Go.Operand.tmp 148) 4, type := 0, pos := "law.go:279", after := #[{ on := 6, ground := Go.Ground.data }], guard := none }) (v := ?_) rfl (by kernel_rfl) (by kernel_rfl) (by kernel_rfl) (by kernel_rfl) (fun _ _ _ h => h) (Or.inl ⟨by rfl, ?_⟩) (by assumption) ?_
                  rotate_left
                  · (intro w; go_simp; try with_reducible rfl)
                  simp only [Act.put, List.setIfInBounds_toArray, List.set_cons_zero, List.set_cons_succ]
                  refine wpAnyG_take (i := 8) (oi := { dst := some 150, op := Go.Op.load 9 (Go.Operand.tmp 149), type := 9, pos := "law.go:279", after := #[{ on := 7, ground := Go.Ground.data }], guard := none }) (v := ?_) rfl (by kernel_rfl) (by kernel_rfl) (by kernel_rfl) (by kernel_rfl) (fun _ _ _ h => h) (Or.inl ⟨by rfl, ?_⟩) (by assumption) ?_
                  rotate_left
                  · (intro w hSw; (obtain ⟨q1, q2, q3, q4⟩ := hSw); go_simp; try with_reducible rfl)
                  simp only [Act.put, List.setIfInBounds_toArray, List.set_cons_zero, List.set_cons_succ]
                  refine wpAnyG_pure (i := 9) (oi := { dst := some 151, op := Go.Op.move (Go.Operand.tmp 17), type := 53, pos := "law.go:279", after := #[], guard := none }) (v := ?_) rfl (by kernel_rfl) (by kernel_rfl) (by kernel_rfl) (by kernel_rfl) (fun _ _ _ h => h) (Or.inl ⟨by rfl, ?_⟩) (by assumption) ?_
                  rotate_left
                  · (intro w; go_simp; try with_reducible rfl)
                  simp only [Act.put, List.setIfInBounds_toArray, List.set_cons_zero, List.set_cons_succ]
                  refine wpAnyG_pure (i := 10) (oi := { dst := some 152, op := Go.Op.move (Go.Operand.tmp 18), type := 3, pos := "law.go:279", after := #[], guard := none }) (v := ?_) rfl (by kernel_rfl) (by kernel_rfl) (by kernel_rfl) (by kernel_rfl) (fun _ _ _ h => h) (Or.inl ⟨by rfl, ?_⟩) (by assumption) ?_
                  rotate_left
                  · (intro w; go_simp; try with_reducible rfl)
                  simp only [Act.put, List.setIfInBounds_toArray, List.set_cons_zero, List.set_cons_succ]
                  refine wpAnyG_pure (i := 11) (oi := { dst := some 153, op := Go.Op.indexAddr 53 (Go.Operand.tmp 151) (Go.Operand.tmp 152), type := 0, pos := "law.go:279", after := #[{ on := 9, ground := Go.Ground.data }, { on := 10, ground := Go.Ground.data }], guard := none }) (v := ?_) rfl (by kernel_rfl) (by kernel_rfl) (by kernel_rfl) (by kernel_rfl) (fun _ _ _ h => h) (Or.inl ⟨by rfl, ?_⟩) (by assumption) ?_
                  rotate_left
                  · (intro w; go_simp; try with_reducible rfl)
                  simp only [Act.put, List.setIfInBounds_toArray, List.set_cons_zero, List.set_cons_succ]
                  refine wpAnyG_take (i := 12) (oi := { dst := some 154, op := Go.Op.load 9 (Go.Operand.tmp 153), type := 9, pos := "law.go:279", after := #[{ on := 11, ground := Go.Ground.data }], guard := none }) (v := ?_) rfl (by kernel_rfl) (by kernel_rfl) (by kernel_rfl) (by kernel_rfl) (fun _ _ _ h => h) (Or.inl ⟨by rfl, ?_⟩) (by assumption) ?_
                  rotate_left
                  · (intro w hSw; (obtain ⟨q1, q2, q3, q4⟩ := hSw); go_simp; try with_reducible rfl)
                  simp only [Act.put, List.setIfInBounds_toArray, List.set_cons_zero, List.set_cons_succ]
                  refine wpAnyG_pure (i := 13) (oi := { dst := some 155, op := Go.Op.binOp Go.BinOp.neq 9 (Go.Operand.tmp 150) (Go.Operand.tmp 154) 9, type := 4, pos := "law.go:279", after := #[{ on := 8, ground := Go.Ground.data }, { on := 12, ground := Go.Ground.data }], guard := none }) (v := ?_) rfl (by kernel_rfl) (by kernel_rfl) (by kernel_rfl) (by kernel_rfl) (fun _ _ _ h => h) (Or.inl ⟨by rfl, ?_⟩) (by assumption) ?_
                  rotate_left
                  · (intro w; go_simp; try with_reducible rfl)
                  simp only [Act.put, List.setIfInBounds_toArray, List.set_cons_zero, List.set_cons_succ]
                  refine wpAnyG_free (by kernel_rfl) ?_
                  refine wpAny_done (by kernel_rfl) ?_ _
                  go_wp2_with fail
                  go_roundw
                  case rel => exact ⟨j + 1, by go_num, by omega, kj.drew⟩
                  case measure => simp [intOf]; omega
                · have b7 : decide ((j : Int) < 2) = false := decide_eq_false (by omega)
                  go_wp2_with (go_at_call 13; refine (HKn.out _).mono ?_; rintro e w8 ⟨rfl, k8⟩)
                  go_ret
                  exact ⟨rfl, (kE.trans kj (fun x hx => Or.inl hx)).trans k8 (fun x hx => Or.inl hx)⟩

end Go.Proofs.Ytngbpbgohpblmaa
