/-
  The document's Attr, of any text.
-/
import Derived.Test.YtcfaejbbjmjgpaaGreatDoorGroundG
namespace Go.Proofs.YtcfaejbbjmjgpaaGreatDoor
open Go.RowKit Utf
set_option linter.unusedVariables false

set_option maxHeartbeats 2000000 in
set_option maxRecDepth 100000 in
theorem ref_attr_any (w : World) (s : ByteArray) (p : Nat) (hp : p < s.size) (hs : s.size ≤ 20000) : Calls Tryz.prog 67 #[.string s, .int .i64 (p : Int)] w fun e w' => e = .returned (.tuple #[av (aF s p).1, .int .i64 ((aF s p).2.1 : Int), .int .i64 (aF s p).2.2]) ∧ Kp [] w w' := by
  have k0 : Kp [] w (w.alloc (.cells #[.string ⟨#[]⟩, .string ⟨#[]⟩] 73)) := (Kp.refl _ _).alloc _
  have A0 := At.new w #[.string ⟨#[]⟩, .string ⟨#[]⟩] 73
  have HU := fun W => ref_until_any W s ((p + 1 : Nat) : Int) NE (by omega) (by decide)
  rw [pl_of (by omega)] at HU
  push_cast at HU
  have hu := until_is s NE (p := p + 1) (by omega)
  obtain ⟨V, hV⟩ : ∃ V, aF s p = V := ⟨_, rfl⟩
  rw [hV]
  unfold aF at hV
  generalize untilF s NE (p + 1) = u at HU hu hV
  have l1 := hu.lo
  have l2 := hu.hi
  clear hu
  by_cases h1 : u = s.size
  · rw [if_pos h1] at hV
    subst h1
    subst hV
    go_enter Tryz.func67, Tryz.ntmps67
    go_wp2_with fail
    refine (HU _).mono ?_
    rintro e w1 ⟨rfl, rfl⟩
    clear HU
    have k3 := (k0.setCell (p := ⟨w.heap.size, 0, none⟩) (Or.inr (Nat.le_refl _)) (.string ⟨#[]⟩)).setCell (p := ⟨w.heap.size, 1, none⟩) (Or.inr (Nat.le_refl _)) (.string ⟨#[]⟩)
    have A2 := (A0.set 0 (.string ⟨#[]⟩)).set 1 (.string ⟨#[]⟩)
    have c0 : (w.alloc (.cells #[.string ⟨#[]⟩, .string ⟨#[]⟩] 73)).cell? ⟨w.heap.size, 0, none⟩ = some (.string ⟨#[]⟩) := A0.cell 0
    have c1 : (w.alloc (.cells #[.string ⟨#[]⟩, .string ⟨#[]⟩] 73)).cell? ⟨w.heap.size, 1, none⟩ = some (.string ⟨#[]⟩) := A0.cell 1
    have f0 := A0.free 0
    have f1 := A0.free 1
    have d0 := A2.cell 0
    have d1 := A2.cell 1
    simp at d0 d1
    clear A0 A2 k0
    generalize w.alloc (.cells #[.string ⟨#[]⟩, .string ⟨#[]⟩] 73) = W at c0 c1 f0 f1 d0 d1 k3
    generalize w.heap.size = g0 at c0 c1 f0 f1 d0 d1 k3
    go_wp2
    refine bodyPost_ret (v := .tuple #[.agg #[.string ⟨#[]⟩, .string ⟨#[]⟩], .int .i64 (s.size : Int), .int .i64 0]) (by simp [results, go_sem, d0, d1]) rfl ⟨rfl, k3⟩
  rw [if_neg h1] at hV
  have h2 : ((u : Int) == (s.size : Int)) = false := by simp only [beq_eq_false_iff_ne, ne_eq]; omega
  have HL := fun W => ref_lower_any W (s.extract p u) (by have := cut_le s p u; omega)
  generalize lower (s.extract p u) = nm at HL hV
  have HK := fun W => ref_skip_any W s (u : Int) (by omega)
  rw [pl_of l2] at HK
  have hk := skip_is s (p := u) l2
  generalize skipF s u = k at HK hk hV
  have l3 := hk.lo
  have l4 := hk.hi
  clear hk h1
  have HE := fun W => ref_starts_any W s (k : Int) ⟨#[61]⟩ (by omega) (by decide)
  rw [pl_of l4, show st s k ⟨#[61]⟩ = st s k EQ from rfl] at HE
  cases h3 : st s k EQ with
  | false =>
    rw [if_pos h3] at hV
    subst hV
    rw [h3] at HE
    clear h3
    go_enter Tryz.func67, Tryz.ntmps67
    go_wp2_with fail
    refine (HU _).mono ?_
    rintro e w1 ⟨rfl, rfl⟩
    clear HU
    go_wp2_with fail
    refine (HL _).mono ?_
    rintro e w2 ⟨rfl, k3⟩
    have T1 := Two.new (k0.trans k3 (fun z hz => by simp at hz)) (A0.kept k3 (by simp)) nm
    clear HL A0 k0 k3
    go_wp2_with fail
    refine (HK _).mono ?_
    rintro e w3 ⟨rfl, rfl⟩
    clear HK
    generalize w2.alloc (.cells #[.string nm, .string ⟨#[]⟩] 73) = W at T1
    generalize w2.heap.size = g8 at T1
    go_wp2_with fail
    refine (HE _).mono ?_
    rintro e w3 ⟨rfl, rfl⟩
    clear HE
    obtain ⟨c0, c1, c2, c3, c4, c5, c6⟩ := T1.facts
    obtain ⟨d0, d1, kz⟩ := T1.laid nm ⟨#[]⟩
    clear T1
    generalize w.heap.size = g0 at c3 c4 c5 c6 d0 d1 kz
    go_wp2
    refine bodyPost_ret (v := .tuple #[.agg #[.string nm, .string ⟨#[]⟩], .int .i64 (k : Int), .int .i64 1]) (by simp [results, go_sem, d0, d1]) rfl ⟨rfl, kz⟩
  | true =>
    rw [if_neg (by rw [h3]; simp)] at hV
    rw [h3] at HE
    obtain ⟨l5, _⟩ := eq_is.1 h3
    have HJ := fun W => ref_skip_any W s ((k + 1 : Nat) : Int) (by omega)
    rw [pl_of (by omega)] at HJ
    push_cast at HJ
    have hj := skip_is s (p := k + 1) l5
    generalize skipF s (k + 1) = j at HJ hj hV
    have l6 := hj.lo
    have l7 := hj.hi
    clear hj h3
    by_cases h4 : j = s.size
    · have hv : vF s j = (⟨#[]⟩, s.size, 0) := by unfold vF; rw [if_pos h4]
      rw [hv, if_pos rfl] at hV
      subst hV
      subst h4
      clear hv
      go_enter Tryz.func67, Tryz.ntmps67
      go_wp2_with fail
      refine (HU _).mono ?_
      rintro e w1 ⟨rfl, rfl⟩
      clear HU
      go_wp2_with fail
      refine (HL _).mono ?_
      rintro e w2 ⟨rfl, k3⟩
      have T1 := Two.new (k0.trans k3 (fun z hz => by simp at hz)) (A0.kept k3 (by simp)) nm
      clear HL A0 k0 k3
      go_wp2_with fail
      refine (HK _).mono ?_
      rintro e w3 ⟨rfl, rfl⟩
      clear HK
      generalize w2.alloc (.cells #[.string nm, .string ⟨#[]⟩] 73) = W at T1
      generalize w2.heap.size = g8 at T1
      go_wp2_with fail
      refine (HE _).mono ?_
      rintro e w3 ⟨rfl, rfl⟩
      clear HE
      go_wp2_with fail
      refine (HJ _).mono ?_
      rintro e w3 ⟨rfl, rfl⟩
      clear HJ
      obtain ⟨c0, c1, c2, c3, c4, c5, c6⟩ := T1.facts
      obtain ⟨d0, d1, kz⟩ := T1.laid ⟨#[]⟩ ⟨#[]⟩
      clear T1
      generalize w.heap.size = g0 at c3 c4 c5 c6 d0 d1 kz
      go_wp2
      refine bodyPost_ret (v := .tuple #[.agg #[.string ⟨#[]⟩, .string ⟨#[]⟩], .int .i64 (s.size : Int), .int .i64 0]) (by simp [results, go_sem, d0, d1]) rfl ⟨rfl, kz⟩
    have h5 : ((j : Int) == (s.size : Int)) = false := by simp only [beq_eq_false_iff_ne, ne_eq]; omega
    have l8 : j < s.size := by omega
    have i1 := index_at s (j : Int) j rfl l8
    obtain ⟨r1, r2⟩ := bt_range s j
    by_cases h6 : bt s j = 62
    · rw [vF_gt l8 h6, if_neg (by simp)] at hV
      subst hV
      rw [h6] at i1
      clear h6 r1 r2 h4
      push_cast
      go_enter Tryz.func67, Tryz.ntmps67
      go_wp2_with fail
      refine (HU _).mono ?_
      rintro e w1 ⟨rfl, rfl⟩
      clear HU
      go_wp2_with fail
      refine (HL _).mono ?_
      rintro e w2 ⟨rfl, k3⟩
      have T1 := Two.new (k0.trans k3 (fun z hz => by simp at hz)) (A0.kept k3 (by simp)) nm
      clear HL A0 k0 k3
      go_wp2_with fail
      refine (HK _).mono ?_
      rintro e w3 ⟨rfl, rfl⟩
      clear HK
      generalize w2.alloc (.cells #[.string nm, .string ⟨#[]⟩] 73) = W at T1
      generalize w2.heap.size = g8 at T1
      go_wp2_with fail
      refine (HE _).mono ?_
      rintro e w3 ⟨rfl, rfl⟩
      clear HE
      go_wp2_with fail
      refine (HJ _).mono ?_
      rintro e w3 ⟨rfl, rfl⟩
      clear HJ
      obtain ⟨c0, c1, c2, c3, c4, c5, c6⟩ := T1.facts
      obtain ⟨d0, d1, kz⟩ := T1.laid nm ⟨#[]⟩
      clear T1
      generalize w.heap.size = g0 at c3 c4 c5 c6 d0 d1 kz
      go_wp2
      refine bodyPost_ret (v := .tuple #[.agg #[.string nm, .string ⟨#[]⟩], .int .i64 ((j : Int) + 1), .int .i64 2]) (by simp [results, go_sem, d0, d1]) rfl ⟨rfl, kz⟩
    by_cases hq : bt s j = 34 ∨ bt s j = 39
    · rw [vF_quote l8 hq] at hV
      have HF := fun W => ref_find_any W s ((j + 1 : Nat) : Int) (s.extract j (j + 1)) (by omega) (by have := cut_le s j (j + 1); omega)
      rw [pl_of (by omega), find_by l8 (by omega)] at HF
      have hb := by_is s (bt s j) (p := j + 1) (by omega)
      push_cast at HF
      generalize byF s (bt s j) (j + 1) = r at HF hb hV
      have HA := fun W => ref_alls_any W (s.extract (j + 1) r) true (by have := cut_le s (j + 1) r; omega)
      have m1 := hb.lo
      have m2 := hb.hi
      generalize allF (s.extract (j + 1) r) true 0 = A at HA hV
      generalize bt s j = x at i1 hq h6 r1 r2
      clear hb h4
      by_cases hr : r = s.size
      · rw [if_pos hr, if_pos rfl] at hV
        subst hV
        subst hr
        clear HA
        rcases hq with rfl | rfl
        all_goals
          clear h6
          go_enter Tryz.func67, Tryz.ntmps67
          go_wp2_with fail
          refine (HU _).mono ?_
          rintro e w1 ⟨rfl, rfl⟩
          clear HU
          go_wp2_with fail
          refine (HL _).mono ?_
          rintro e w2 ⟨rfl, k3⟩
          have T1 := Two.new (k0.trans k3 (fun z hz => by simp at hz)) (A0.kept k3 (by simp)) nm
          clear HL A0 k0 k3
          go_wp2_with fail
          refine (HK _).mono ?_
          rintro e w3 ⟨rfl, rfl⟩
          clear HK
          generalize w2.alloc (.cells #[.string nm, .string ⟨#[]⟩] 73) = W at T1
          generalize w2.heap.size = g8 at T1
          go_wp2_with fail
          refine (HE _).mono ?_
          rintro e w3 ⟨rfl, rfl⟩
          clear HE
          go_wp2_with fail
          refine (HJ _).mono ?_
          rintro e w3 ⟨rfl, rfl⟩
          clear HJ
          go_wp2_with fail
          refine (HF _).mono ?_
          rintro e w3 ⟨rfl, rfl⟩
          clear HF
          obtain ⟨c0, c1, c2, c3, c4, c5, c6⟩ := T1.facts
          obtain ⟨d0, d1, kz⟩ := T1.laid ⟨#[]⟩ ⟨#[]⟩
          clear T1
          generalize w.heap.size = g0 at c3 c4 c5 c6 d0 d1 kz
          go_wp2
          refine bodyPost_ret (v := .tuple #[.agg #[.string ⟨#[]⟩, .string ⟨#[]⟩], .int .i64 (s.size : Int), .int .i64 0]) (by simp [results, go_sem, d0, d1]) rfl ⟨rfl, kz⟩
      · rw [if_neg hr, if_neg (by simp)] at hV
        subst hV
        have hr2 : ((r : Int) == (s.size : Int)) = false := by simp only [beq_eq_false_iff_ne, ne_eq]; omega
        clear hr
        push_cast
        rcases hq with rfl | rfl
        all_goals
          clear h6
          go_enter Tryz.func67, Tryz.ntmps67
          go_wp2_with fail
          refine (HU _).mono ?_
          rintro e w1 ⟨rfl, rfl⟩
          clear HU
          go_wp2_with fail
          refine (HL _).mono ?_
          rintro e w2 ⟨rfl, k3⟩
          have T1 := Two.new (k0.trans k3 (fun z hz => by simp at hz)) (A0.kept k3 (by simp)) nm
          clear HL A0 k0 k3
          go_wp2_with fail
          refine (HK _).mono ?_
          rintro e w3 ⟨rfl, rfl⟩
          clear HK
          generalize w2.alloc (.cells #[.string nm, .string ⟨#[]⟩] 73) = W at T1
          generalize w2.heap.size = g8 at T1
          go_wp2_with fail
          refine (HE _).mono ?_
          rintro e w3 ⟨rfl, rfl⟩
          clear HE
          go_wp2_with fail
          refine (HJ _).mono ?_
          rintro e w3 ⟨rfl, rfl⟩
          clear HJ
          go_wp2_with fail
          refine (HF _).mono ?_
          rintro e w3 ⟨rfl, rfl⟩
          clear HF
          go_wp2_with fail
          refine (HA _).mono ?_
          rintro e w5 ⟨rfl, k5⟩
          have T3 := T1.kept k5
          clear HA k5 T1
          have T4 := T3.set A
          obtain ⟨_, b1, b2, _, _, _, _⟩ := T3.facts
          clear T3
          obtain ⟨c0, c1, c2, c3, c4, c5, c6⟩ := T4.facts
          obtain ⟨d0, d1, kz⟩ := T4.laid nm A
          clear T4
          generalize w.heap.size = g0 at c3 c4 c5 c6 d0 d1 kz
          go_wp2
          refine bodyPost_ret (v := .tuple #[.agg #[.string nm, .string A], .int .i64 ((r : Int) + 1), .int .i64 1]) (by simp [results, go_sem, d0, d1]) rfl ⟨rfl, kz⟩
    · rw [vF_bare l7 (fun e => h6 e.2) (fun e => hq (Or.inl e.2)) (fun e => hq (Or.inr e.2))] at hV
      have HF := fun W => ref_until_any W s (j : Int) VE (by omega) (by decide)
      rw [pl_of (by omega)] at HF
      have hb := until_is s VE (p := j) l7
      generalize untilF s VE j = r at HF hb hV
      have HA := fun W => ref_alls_any W (s.extract j r) true (by have := cut_le s j r; omega)
      have m1 := hb.lo
      have m2 := hb.hi
      generalize allF (s.extract j r) true 0 = A at HA hV
      generalize bt s j = x at i1 hq h6 r1 r2
      have b1 : (x == 62) = false := by simpa using h6
      have b2 : (x == 34) = false := by simpa using fun e => hq (Or.inl e)
      have b3 : (x == 39) = false := by simpa using fun e => hq (Or.inr e)
      clear hb h4 hq h6
      by_cases hr : r = s.size
      · rw [if_pos hr, if_pos rfl] at hV
        subst hV
        subst hr
        clear HA
        go_enter Tryz.func67, Tryz.ntmps67
        go_wp2_with fail
        refine (HU _).mono ?_
        rintro e w1 ⟨rfl, rfl⟩
        clear HU
        go_wp2_with fail
        refine (HL _).mono ?_
        rintro e w2 ⟨rfl, k3⟩
        have T1 := Two.new (k0.trans k3 (fun z hz => by simp at hz)) (A0.kept k3 (by simp)) nm
        clear HL A0 k0 k3
        go_wp2_with fail
        refine (HK _).mono ?_
        rintro e w3 ⟨rfl, rfl⟩
        clear HK
        generalize w2.alloc (.cells #[.string nm, .string ⟨#[]⟩] 73) = W at T1
        generalize w2.heap.size = g8 at T1
        go_wp2_with fail
        refine (HE _).mono ?_
        rintro e w3 ⟨rfl, rfl⟩
        clear HE
        go_wp2_with fail
        refine (HJ _).mono ?_
        rintro e w3 ⟨rfl, rfl⟩
        clear HJ
        go_wp2_with fail
        refine (HF _).mono ?_
        rintro e w3 ⟨rfl, rfl⟩
        clear HF
        obtain ⟨c0, c1, c2, c3, c4, c5, c6⟩ := T1.facts
        obtain ⟨d0, d1, kz⟩ := T1.laid ⟨#[]⟩ ⟨#[]⟩
        clear T1
        generalize w.heap.size = g0 at c3 c4 c5 c6 d0 d1 kz
        go_wp2
        refine bodyPost_ret (v := .tuple #[.agg #[.string ⟨#[]⟩, .string ⟨#[]⟩], .int .i64 (s.size : Int), .int .i64 0]) (by simp [results, go_sem, d0, d1]) rfl ⟨rfl, kz⟩
      · rw [if_neg hr, if_neg (by simp)] at hV
        subst hV
        have hr2 : ((r : Int) == (s.size : Int)) = false := by simp only [beq_eq_false_iff_ne, ne_eq]; omega
        clear hr
        go_enter Tryz.func67, Tryz.ntmps67
        go_wp2_with fail
        refine (HU _).mono ?_
        rintro e w1 ⟨rfl, rfl⟩
        clear HU
        go_wp2_with fail
        refine (HL _).mono ?_
        rintro e w2 ⟨rfl, k3⟩
        have T1 := Two.new (k0.trans k3 (fun z hz => by simp at hz)) (A0.kept k3 (by simp)) nm
        clear HL A0 k0 k3
        go_wp2_with fail
        refine (HK _).mono ?_
        rintro e w3 ⟨rfl, rfl⟩
        clear HK
        generalize w2.alloc (.cells #[.string nm, .string ⟨#[]⟩] 73) = W at T1
        generalize w2.heap.size = g8 at T1
        go_wp2_with fail
        refine (HE _).mono ?_
        rintro e w3 ⟨rfl, rfl⟩
        clear HE
        go_wp2_with fail
        refine (HJ _).mono ?_
        rintro e w3 ⟨rfl, rfl⟩
        clear HJ
        go_wp2_with fail
        refine (HF _).mono ?_
        rintro e w3 ⟨rfl, rfl⟩
        clear HF
        go_wp2_with fail
        refine (HA _).mono ?_
        rintro e w5 ⟨rfl, k5⟩
        have T3 := T1.kept k5
        clear HA k5 T1
        have T4 := T3.set A
        obtain ⟨_, b1, b2, _, _, _, _⟩ := T3.facts
        clear T3
        obtain ⟨c0, c1, c2, c3, c4, c5, c6⟩ := T4.facts
        obtain ⟨d0, d1, kz⟩ := T4.laid nm A
        clear T4
        generalize w.heap.size = g0 at c3 c4 c5 c6 d0 d1 kz
        go_wp2
        refine bodyPost_ret (v := .tuple #[.agg #[.string nm, .string A], .int .i64 (r : Int), .int .i64 1]) (by simp [results, go_sem, d0, d1]) rfl ⟨rfl, kz⟩

end Go.Proofs.YtcfaejbbjmjgpaaGreatDoor
