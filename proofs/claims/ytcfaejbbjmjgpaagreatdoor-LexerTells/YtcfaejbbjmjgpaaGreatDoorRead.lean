/-
  The program's Read, of any text and place.
-/
import Derived.Test.YtcfaejbbjmjgpaaGreatDoorGroundG
import Derived.Test.YtcfaejbbjmjgpaaGreatDoorGroundE
namespace Go.Proofs.YtcfaejbbjmjgpaaGreatDoor
open Go.RowKit Utf
set_option linter.unusedVariables false

theorem vF_size (s : ByteArray) (p : Nat) : (vF s p).1.size ≤ 16 * s.size := by
  have e0 : (⟨#[]⟩ : ByteArray).size = 0 := rfl
  have ha : ∀ a b : Nat, (allF (s.extract a b) true 0).size ≤ 16 * s.size := fun a b => by
    have h1 := allF_size (s.extract a b) true (s.extract a b).size 0 (by omega)
    have h2 := cut_le s a b
    omega
  have hz : (⟨#[]⟩ : ByteArray).size ≤ 16 * s.size := by omega
  unfold vF
  split
  · exact hz
  split
  · exact hz
  split
  · split
    · exact hz
    · exact ha _ _
  split
  · exact hz
  · exact ha _ _

theorem aF_size (s : ByteArray) (p : Nat) : (aF s p).1.1.size ≤ s.size ∧ (aF s p).1.2.size ≤ 16 * s.size := by
  have e0 : (⟨#[]⟩ : ByteArray).size = 0 := rfl
  have hl : ∀ a b : Nat, (lower (s.extract a b)).size ≤ s.size := fun a b => by rw [lower_size]; exact cut_le s a b
  unfold aF
  split
  · exact ⟨by show ByteArray.size ⟨#[]⟩ ≤ _; omega, by show ByteArray.size ⟨#[]⟩ ≤ _; omega⟩
  split
  · exact ⟨hl _ _, by show ByteArray.size ⟨#[]⟩ ≤ _; omega⟩
  split
  · exact ⟨by show ByteArray.size ⟨#[]⟩ ≤ _; omega, by show ByteArray.size ⟨#[]⟩ ≤ _; omega⟩
  · exact ⟨hl _ _, vF_size s _⟩

theorem rF_fits (s : ByteArray) (hs : s.size ≤ 20000) : ∀ (n p : Nat) (l : List Att), fits l → fits (rF s n p l).1
  | 0, p, l, h => fun a ha => by simp [rF] at ha
  | n + 1, p, l, h => by
    have h1 : ∀ q, fits (l ++ [(aF s q).1]) := fun q => fits_append h (fun a ha => by
      have := aF_size s q
      simp only [List.mem_singleton] at ha
      rw [ha]
      exact ⟨by omega, by omega⟩)
    unfold rF
    split
    · exact fun a ha => by simp at ha
    split
    · exact h
    split
    · exact h
    split
    · exact rF_fits s hs n _ l h
    split
    · exact fun a ha => by simp at ha
    split
    · exact h1 _
    · exact rF_fits s hs n _ _ (h1 _)

theorem in_fits {s : ByteArray} (hs : s.size ≤ 20000) (p : Nat) : fits (inF s p []).1 := rF_fits s hs _ _ _ (fun a ha => by simp at ha)
theorem in_len {s : ByteArray} {p : Nat} (hp : p ≤ s.size) : (inF s p []).1.length ≤ s.size := rF_len s _ _ _ hp (Nat.zero_le _)

/-- A list that a call made, seen past writes to other blocks. -/
theorem Mp.past {w w1 w2 : World} {ao : Option Addr} {n c : Nat} {l : List Att} {S : List Nat} (h : Mp w w1 ao n c l) (k : Kp S w1 w2) (kw : Kp [] w w2) (hS : ∀ x, x ∈ blk (.slice ao n c) → x ∉ S) : Mp w w2 ao n c l := ⟨h.1.keep k hS, kw, h.2.2⟩

/-- What Read answers, as a value. -/
def rdv (T : Tok × Int × Bool) (ao : Option Addr) (n c : Nat) : Value := .tuple #[tv T.1.1 T.1.2.1 ao n c T.1.2.2.2.1 T.1.2.2.2.2, .int .i64 T.2.1, .bool T.2.2]

set_option maxHeartbeats 1000000 in
set_option maxRecDepth 100000 in
theorem tread_any (w : World) (hn : Nm w) (hi : In w) (s : ByteArray) (a : Int) (hs : s.size ≤ 4000) : Calls Tryz.prog 55 #[.string s, .int .i64 a] w fun e w' => ∃ ao n c, e = .returned (rdv (tagF s a) ao n c) ∧ Mp w w' ao n c (tagF s a).1.2.2.1 := by
  have k0 : Kp [] w (w.alloc (.cells ZT 44)) := (Kp.refl _ _).alloc _
  have A0 := At.new w ZT 44
  have HB := fun W => begin_any W s a (by omega)
  obtain ⟨V, hV⟩ : ∃ V, tagF s a = V := ⟨_, rfl⟩
  rw [hV]
  unfold tagF at hV
  have hb := beg_is s a
  generalize begF s a = B at HB hb hV
  obtain ⟨kd, f⟩ := B
  simp only at HB hb hV
  rcases hb with ⟨rfl, rfl⟩ | ⟨hkd, l1, hlet, _⟩
  · rw [if_pos rfl] at hV
    subst hV
    clear hn hi
    unfold rdv zt tv
    go_enter Tryz.func55, Tryz.ntmps55
    go_wp2_with fail
    refine (HB _).mono ?_
    rintro e w1 ⟨rfl, k1⟩
    have A1 := A0.kept k1 (by simp)
    have k2 := k0.trans k1 (fun z hz => by simp at hz)
    clear HB A0 k0 k1
    obtain ⟨d0, d1, d2, d3, d4, kz⟩ := laid5 k2 A1 (Nat.le_refl _) (.int .i64 0) (.string ⟨#[]⟩) (.slice none 0 0) (.bool false) (.string ⟨#[]⟩)
    have c0 := A1.cell 0
    have c1 := A1.cell 1
    have c2 := A1.cell 2
    have c3 := A1.cell 3
    have c4 := A1.cell 4
    have f0 := fun j => A1.free j
    simp at c0 c1 c2 c3 c4
    unfold put5 at d0 d1 d2 d3 d4 kz
    clear A1 k2
    generalize w.heap.size = g0 at c0 c1 c2 c3 c4 f0 d0 d1 d2 d3 d4 kz
    go_wp2
    refine bodyPost_ret (v := .tuple #[.agg #[.int .i64 0, .string ⟨#[]⟩, .slice none 0 0, .bool false, .string ⟨#[]⟩], .int .i64 a, .bool false]) (by simp [results, go_sem, d0, d1, d2, d3, d4]) rfl ⟨_, _, _, rfl, Mp.none kz⟩
  have hk0 : ¬ kd = 0 := by rcases hkd with rfl | rfl <;> decide
  rw [if_neg hk0] at hV
  have HN := fun W => name_any W s (f : Int) (by omega)
  rw [pl_of (by omega)] at HN
  have hnm := name_is s (p := f) (by omega)
  unfold wholeF at hV
  generalize nameF s f = t at HN hnm hV
  have l2 := hnm.lo
  have l3 := hnm.hi
  have HL := fun W => lower_any W (s.extract f t) (by have := cut_le s f t; omega)
  generalize lower (s.extract f t) = nm at HL hV
  have HI := fun W (kk : Kp [] w W) => inside_any W (hn.kept kk) (hi.kept kk) s t l3 hs
  have hf := in_fits (s := s) (by omega) t
  have hl := in_len (s := s) l3
  generalize inF s t [] = R at HI hf hl hV
  obtain ⟨lst, self, en⟩ := R
  simp only at HI hf hl hV
  have b0 : (kd == 0) = false := by simpa using hk0
  clear hn hi hlet hnm hk0
  by_cases h1 : en = 0
  · rw [if_pos h1] at hV
    subst hV
    subst h1
    unfold rdv zt tv
    go_enter Tryz.func55, Tryz.ntmps55
    go_wp2_with fail
    refine (HB _).mono ?_
    rintro e w1 ⟨rfl, k1⟩
    have A1 := A0.kept k1 (by simp)
    have k2 := k0.trans k1 (fun z hz => by simp at hz)
    clear HB A0 k0 k1
    go_wp2_with fail
    refine (HN _).mono ?_
    rintro e w1 ⟨rfl, rfl⟩
    clear HN
    go_wp2_with fail
    refine (HL _).mono ?_
    rintro e w2 ⟨rfl, k3⟩
    have T1 := Bx.new (k2.trans k3 (fun z hz => by simp at hz)) (A1.kept k3 (by simp)) (Nat.le_refl _) (.int .i64 kd) (.string nm) (.slice none 0 0) (.bool false) (.string ⟨#[]⟩)
    clear HL A1 k2 k3
    go_wp2_with fail
    generalize w2.alloc (.cells #[.int .i64 kd, .string nm, .slice none 0 0, .bool false, .string ⟨#[]⟩] 44) = W at T1 ⊢
    generalize w2.heap.size = g8 at T1 ⊢
    refine (HI _ T1.kp).mono ?_
    rintro e w3 ⟨ao, n, c, rfl, M3⟩
    clear HI
    have T2 := T1.kept M3.kp
    clear T1 M3
    obtain ⟨_, _, ⟨c0, c1, c2, c3, c4⟩, f0⟩ := T2.facts
    obtain ⟨d0, d1, d2, d3, d4, kz⟩ := laid5 T2.kp T2.r T2.n0 (.int .i64 0) (.string ⟨#[]⟩) (.slice none 0 0) (.bool false) (.string ⟨#[]⟩)
    unfold put5 at d0 d1 d2 d3 d4 kz
    clear T2
    generalize w.heap.size = g0 at c0 c1 c2 c3 c4 f0 d0 d1 d2 d3 d4 kz
    go_wp2
    refine bodyPost_ret (v := .tuple #[.agg #[.int .i64 0, .string ⟨#[]⟩, .slice none 0 0, .bool false, .string ⟨#[]⟩], .int .i64 (s.size : Int), .bool false]) (by simp [results, go_sem, d0, d1, d2, d3, d4]) rfl ⟨_, _, _, rfl, Mp.none kz⟩
  rw [if_neg h1] at hV
  have b1 : ((en : Int) == 0) = false := by simp only [beq_eq_false_iff_ne, ne_eq]; omega
  rcases hkd with rfl | rfl
  · rw [if_pos rfl] at hV
    subst hV
    unfold rdv tv
    have HQ := fun W (bo : Option Addr) (p d : Nat) (hr : Rp W bo p d lst) => uniq_any W lst bo p d hr (by have := hr.len; omega) hf
    go_enter Tryz.func55, Tryz.ntmps55
    go_wp2_with fail
    refine (HB _).mono ?_
    rintro e w1 ⟨rfl, k1⟩
    have A1 := A0.kept k1 (by simp)
    have k2 := k0.trans k1 (fun z hz => by simp at hz)
    clear HB A0 k0 k1
    go_wp2_with fail
    refine (HN _).mono ?_
    rintro e w1 ⟨rfl, rfl⟩
    clear HN
    go_wp2_with fail
    refine (HL _).mono ?_
    rintro e w2 ⟨rfl, k3⟩
    have T1 := Bx.new (k2.trans k3 (fun z hz => by simp at hz)) (A1.kept k3 (by simp)) (Nat.le_refl _) (.int .i64 2) (.string nm) (.slice none 0 0) (.bool false) (.string ⟨#[]⟩)
    clear HL A1 k2 k3
    go_wp2_with fail
    generalize w2.alloc (.cells #[.int .i64 2, .string nm, .slice none 0 0, .bool false, .string ⟨#[]⟩] 44) = W at T1 ⊢
    generalize w2.heap.size = g8 at T1 ⊢
    refine (HI _ T1.kp).mono ?_
    rintro e w3 ⟨ao, n, c, rfl, M3⟩
    clear HI
    have T2 := T1.kept M3.kp
    have hr := M3.rp
    clear T1 M3
    go_wp2_with fail
    refine (HQ _ _ _ _ hr).mono ?_
    rintro e w4 ⟨ao4, n4, c4', rfl, M4⟩
    clear HQ hr
    have T3 := T2.kept M4.kp
    have hnew : ∀ x, x ∈ blk (.slice ao4 n4 c4') → x ∉ [g8, w.heap.size] := fun x hx => by
      have h2 := M4.2.2 x hx
      have h3 := T2.a.lt
      have h4 := T2.r.lt
      simp only [List.mem_cons, List.mem_nil_iff, or_false]
      omega
    have T4 := T3.set 2 (.slice ao4 n4 c4') (.int .i64 2) (.string nm) (.slice ao4 n4 c4') (.bool false) (.string ⟨#[]⟩) rfl
    have T5 := T4.set 3 (.bool self) (.int .i64 2) (.string nm) (.slice ao4 n4 c4') (.bool self) (.string ⟨#[]⟩) rfl
    have M5 := Mp.back T2.kp M4
    have K6 := ((((Kp.refl [g8, w.heap.size] w4).setCell (p := ⟨g8, 2, none⟩) (Or.inl (by simp)) (.slice ao4 n4 c4')).setCell (p := ⟨g8, 3, none⟩) (Or.inl (by simp)) (.bool self)).put5 (g := w.heap.size) (Or.inl (by simp)) (.int .i64 2) (.string nm) (.slice ao4 n4 c4') (.bool self) (.string ⟨#[]⟩))
    obtain ⟨d0, d1, d2, d3, d4, kz⟩ := laid5 T5.kp T5.r T5.n0 (.int .i64 2) (.string nm) (.slice ao4 n4 c4') (.bool self) (.string ⟨#[]⟩)
    have M6 := M5.past K6 kz hnew
    obtain ⟨⟨_, _, x2, x3, _⟩, xf, _, _⟩ := T3.facts
    obtain ⟨⟨_, _, y2, y3, _⟩, yf, _, _⟩ := T4.facts
    obtain ⟨⟨z0, z1, z2, z3, z4⟩, _, ⟨c0, c1, c2, c3, c4⟩, f0⟩ := T5.facts
    unfold put5 at d0 d1 d2 d3 d4 kz M6
    clear T2 T3 T4 T5 M4 M5 K6 hnew kz
    have hid : Hid (Mp w (((((((w4.setCell ⟨g8, 2, none⟩ (.slice ao4 n4 c4')).setCell ⟨g8, 3, none⟩ (.bool self)).setCell ⟨w.heap.size, 0, none⟩ (.int .i64 2)).setCell ⟨w.heap.size, 1, none⟩ (.string nm)).setCell ⟨w.heap.size, 2, none⟩ (.slice ao4 n4 c4')).setCell ⟨w.heap.size, 3, none⟩ (.bool self)).setCell ⟨w.heap.size, 4, none⟩ (.string ⟨#[]⟩)) ao4 n4 c4' (uniq lst)) := M6
    clear M6
    generalize w.heap.size = g0 at c0 c1 c2 c3 c4 f0 d0 d1 d2 d3 d4 hid
    go_wp2
    refine bodyPost_ret (v := .tuple #[.agg #[.int .i64 2, .string nm, .slice ao4 n4 c4', .bool self, .string ⟨#[]⟩], .int .i64 (en : Int), .bool true]) (by simp [results, go_sem, d0, d1, d2, d3, d4]) rfl ⟨_, _, _, rfl, hid.out⟩
  · rw [if_neg (by decide)] at hV
    subst hV
    unfold rdv tv
    clear hf hl
    go_enter Tryz.func55, Tryz.ntmps55
    go_wp2_with fail
    refine (HB _).mono ?_
    rintro e w1 ⟨rfl, k1⟩
    have A1 := A0.kept k1 (by simp)
    have k2 := k0.trans k1 (fun z hz => by simp at hz)
    clear HB A0 k0 k1
    go_wp2_with fail
    refine (HN _).mono ?_
    rintro e w1 ⟨rfl, rfl⟩
    clear HN
    go_wp2_with fail
    refine (HL _).mono ?_
    rintro e w2 ⟨rfl, k3⟩
    have T1 := Bx.new (k2.trans k3 (fun z hz => by simp at hz)) (A1.kept k3 (by simp)) (Nat.le_refl _) (.int .i64 3) (.string nm) (.slice none 0 0) (.bool false) (.string ⟨#[]⟩)
    clear HL A1 k2 k3
    go_wp2_with fail
    generalize w2.alloc (.cells #[.int .i64 3, .string nm, .slice none 0 0, .bool false, .string ⟨#[]⟩] 44) = W at T1 ⊢
    generalize w2.heap.size = g8 at T1 ⊢
    refine (HI _ T1.kp).mono ?_
    rintro e w3 ⟨ao, n, c, rfl, M3⟩
    clear HI
    have T2 := T1.kept M3.kp
    clear T1 M3
    obtain ⟨⟨z0, z1, z2, z3, z4⟩, _, ⟨c0, c1, c2, c3, c4⟩, f0⟩ := T2.facts
    obtain ⟨d0, d1, d2, d3, d4, kz⟩ := laid5 T2.kp T2.r T2.n0 (.int .i64 3) (.string nm) (.slice none 0 0) (.bool false) (.string ⟨#[]⟩)
    unfold put5 at d0 d1 d2 d3 d4 kz
    clear T2
    generalize w.heap.size = g0 at c0 c1 c2 c3 c4 f0 d0 d1 d2 d3 d4 kz
    go_wp2
    refine bodyPost_ret (v := .tuple #[.agg #[.int .i64 3, .string nm, .slice none 0 0, .bool false, .string ⟨#[]⟩], .int .i64 (en : Int), .bool true]) (by simp [results, go_sem, d0, d1, d2, d3, d4]) rfl ⟨_, _, _, rfl, Mp.none kz⟩

end Go.Proofs.YtcfaejbbjmjgpaaGreatDoor
