/-
  The program's value, of any text.
-/
import Derived.Test.YtgebdaanglmnnaaDoorTags
import Derived.Test.YtgebdaanglmnnaaDoorWhole
namespace Go.Proofs.YtgebdaanglmnnaaDoor
open Go.RowKit Utf
set_option linter.unusedVariables false

/-- One byte there. -/
theorem st_byte (s : ByteArray) (p : Nat) (c : UInt8) : st s p ⟨#[c]⟩ = decide (p < s.size ∧ bt s p = (c.toNat : Int)) := by
  have hb : bt ⟨#[c]⟩ 0 = (c.toNat : Int) := bt_at ⟨#[c]⟩ 0 (Nat.zero_lt_one)
  rw [Bool.eq_iff_iff, decide_eq_true_eq]
  constructor
  · intro h
    exact ⟨st_le h, by rw [← hb]; exact st_at h 0 (Nat.zero_lt_one)⟩
  · rintro ⟨h1, h2⟩
    refine st_true h1 fun j hj => ?_
    have hj1 : j < 1 := hj
    obtain rfl : j = 0 := by omega
    rw [hb]
    exact h2

theorem in_byte {s : ByteArray} {p : Nat} (hp : p < s.size) (x : Int) : inS (s.extract p (p + 1)) x = decide (x = bt s p) := by
  unfold inS
  have hz : (s.extract p (p + 1)).size = 1 := by rw [ByteArray.size_extract]; omega
  have hb := bt_cut s p (p + 1) 0 (by omega) (by omega)
  rw [Nat.add_zero] at hb
  rw [decide_eq_decide, hz]
  constructor
  · rintro ⟨j, hj, h⟩
    obtain rfl : j = 0 := by omega
    rw [← h, hb]
    rfl
  · rintro rfl
    exact ⟨0, by omega, hb⟩

theorem until_by {s : ByteArray} {p : Nat} (hp : p < s.size) (q : Nat) : untilF s (s.extract p (p + 1)) q = byF s (bt s p) q := fs_congr (fun i => in_byte hp _) _ _

theorem find_by {s : ByteArray} {p : Nat} (hp : p < s.size) {q : Nat} (hq : q ≤ s.size) : findF s (s.extract p (p + 1)) q = byF s (bt s p) q := by
  have hz : (s.extract p (p + 1)).size = 1 := by rw [ByteArray.size_extract]; omega
  have hb := bt_cut s p (p + 1) 0 (by omega) (by omega)
  rw [Nat.add_zero] at hb
  have h := by_is s (bt s p) hq
  refine fs_eq ⟨h.lo, h.hi, fun j h1 h2 => ?_, fun hl => ?_⟩
  · refine st_not 0 (by omega) (fun e => ?_)
    rw [Nat.add_zero, hb] at e
    exact of_decide_eq_false (h.no j h1 h2) e
  · refine st_true (by omega) fun j hj => ?_
    obtain rfl : j = 0 := by omega
    rw [Nat.add_zero, hb]
    exact of_decide_eq_true (h.at' hl)

theorem cut_le (s : ByteArray) (p q : Nat) : (s.extract p q).size ≤ s.size := by rw [ByteArray.size_extract]; omega

/-- What a value is, behind a quote. -/
theorem vF_quote {s : ByteArray} {p : Nat} (hp : p < s.size) (h : bt s p = 34 ∨ bt s p = 39) : vF s p = if byF s (bt s p) (p + 1) = s.size then (⟨#[]⟩, s.size, 0) else (allF (s.extract (p + 1) (byF s (bt s p) (p + 1))) true 0, byF s (bt s p) (p + 1) + 1, 1) := by
  unfold vF
  rw [if_neg (by omega), if_neg (by rcases h with h | h <;> rw [h] <;> decide), if_pos h]
theorem vF_gt {s : ByteArray} {p : Nat} (hp : p < s.size) (h : bt s p = 62) : vF s p = (⟨#[]⟩, p + 1, 2) := by
  unfold vF
  rw [if_neg (by omega), if_pos h]
theorem vF_bare {s : ByteArray} {p : Nat} (hp : p ≤ s.size) (h1 : ¬ (p < s.size ∧ bt s p = 62)) (h2 : ¬ (p < s.size ∧ bt s p = 34)) (h3 : ¬ (p < s.size ∧ bt s p = 39)) : vF s p = if untilF s VE p = s.size then (⟨#[]⟩, s.size, 0) else (allF (s.extract p (untilF s VE p)) true 0, untilF s VE p, 1) := by
  unfold vF
  by_cases h : p = s.size
  · have := until_is s VE hp
    have := this.lo
    have := (until_is s VE hp).hi
    rw [if_pos h, if_pos (by omega)]
  · rw [if_neg h, if_neg (fun e => h1 ⟨by omega, e⟩), if_neg (fun e => e.elim (fun e => h2 ⟨by omega, e⟩) (fun e => h3 ⟨by omega, e⟩))]

set_option maxHeartbeats 1000000 in
set_option maxRecDepth 100000 in
theorem value_any (w : World) (hn : Nm w) (hi : In w) (s : ByteArray) (p : Nat) (hp : p ≤ s.size) (hs : s.size ≤ 20000) : Calls Tryd.prog 24 #[.string s, .int .i64 (p : Int)] w fun e w' => e = .returned (.tuple #[.string (vF s p).1, .int .i64 ((vF s p).2.1 : Int), .int .i64 (vF s p).2.2]) ∧ Kp [] w w' := by
  have H1 := fun W => starts_any W s (p : Int) ⟨#[62]⟩ (by omega)
  have H2 := fun W => starts_any W s (p : Int) ⟨#[34]⟩ (by omega)
  have H3 := fun W => starts_any W s (p : Int) ⟨#[39]⟩ (by omega)
  rw [pl_of hp, st_byte] at H1 H2 H3
  rw [show (((62 : UInt8).toNat : Nat) : Int) = 62 from rfl] at H1
  rw [show (((34 : UInt8).toNat : Nat) : Int) = 34 from rfl] at H2
  rw [show (((39 : UInt8).toNat : Nat) : Int) = 39 from rfl] at H3
  by_cases h1 : p < s.size ∧ bt s p = 62
  · rw [decide_eq_true h1] at H1
    rw [vF_gt h1.1 h1.2]
    clear h1 H2 H3 hn hi
    go_enter Tryd.func24, Tryd.ntmps24
    go_wp2_with fail
    refine (H1 _).mono ?_
    rintro e w1 ⟨rfl, k1⟩
    clear H1
    go_wp2
    go_ret3
    exact ⟨rfl, k1⟩
  rw [decide_eq_false h1] at H1
  by_cases hq : p < s.size ∧ (bt s p = 34 ∨ bt s p = 39)
  · obtain ⟨hlt, h3⟩ := hq
    rw [vF_quote hlt h3]
    have HU := fun W => until_any W s ((p + 1 : Nat) : Int) (s.extract p (p + 1)) (by omega) (by have := cut_le s p (p + 1); omega)
    rw [pl_of (by omega), until_by hlt] at HU
    have hb := by_is s (bt s p) (p := p + 1) (by omega)
    push_cast at HU
    generalize byF s (bt s p) (p + 1) = r at HU hb ⊢
    have HA := fun W (kk : Kp [] w W) => all_any W (hn.kept kk) (hi.kept kk) (s.extract (p + 1) r) true (by have := cut_le s (p + 1) r; omega)
    have l1 := hb.lo
    have l2 := hb.hi
    clear hb hn hi h1
    generalize allF (s.extract (p + 1) r) true 0 = A at HA ⊢
    have hc : (decide (p < s.size ∧ bt s p = 34) = true) ∨ (decide (p < s.size ∧ bt s p = 34) = false ∧ decide (p < s.size ∧ bt s p = 39) = true) := by
      rcases h3 with h | h
      · exact Or.inl (decide_eq_true ⟨hlt, h⟩)
      · exact Or.inr ⟨decide_eq_false (fun x => by rw [h] at x; exact absurd x.2 (by decide)), decide_eq_true ⟨hlt, h⟩⟩
    clear h3
    by_cases hr : r = s.size
    · rw [if_pos hr]
      subst hr
      clear HA
      rcases hc with e1 | ⟨e1, e2⟩
      · rw [e1] at H2
        clear e1 H3
        go_enter Tryd.func24, Tryd.ntmps24
        go_wp2_with fail
        refine (H1 _).mono ?_
        rintro e w1 ⟨rfl, k1⟩
        clear H1 
        go_wp2_with fail
        refine (from_back (H2 _) k1).mono ?_
        rintro e w2 ⟨rfl, k2⟩
        clear H2 k1
        go_wp2_with fail
        go_quiet (fail)
        go_wp2_with fail
        refine (from_back (HU _) (k2.drewN _)).mono ?_
        rintro e w3 ⟨rfl, k3⟩
        clear HU k2
        go_wp2
        go_ret3
        exact ⟨rfl, k3⟩
      · rw [e1] at H2
        rw [e2] at H3
        clear e1 e2
        go_enter Tryd.func24, Tryd.ntmps24
        go_wp2_with fail
        refine (H1 _).mono ?_
        rintro e w1 ⟨rfl, k1⟩
        clear H1 
        go_wp2_with fail
        refine (from_back (H2 _) k1).mono ?_
        rintro e w2 ⟨rfl, k2⟩
        clear H2 k1
        go_wp2_with fail
        refine (from_back (H3 _) k2).mono ?_
        rintro e w3 ⟨rfl, k3⟩
        clear H3 k2
        go_wp2_with fail
        go_quiet (fail)
        go_wp2_with fail
        refine (from_back (HU _) (k3.drewN _)).mono ?_
        rintro e w4 ⟨rfl, k4⟩
        clear HU k3
        go_wp2
        go_ret3
        exact ⟨rfl, k4⟩
    · rw [if_neg hr]
      have hr2 : ((r : Int) == (s.size : Int)) = false := by simp only [beq_eq_false_iff_ne, ne_eq]; omega
      push_cast
      clear hr
      rcases hc with e1 | ⟨e1, e2⟩
      · rw [e1] at H2
        clear e1 H3
        go_enter Tryd.func24, Tryd.ntmps24
        go_wp2_with fail
        refine (H1 _).mono ?_
        rintro e w1 ⟨rfl, k1⟩
        clear H1 
        go_wp2_with fail
        refine (from_back (H2 _) k1).mono ?_
        rintro e w2 ⟨rfl, k2⟩
        clear H2 k1
        go_wp2_with fail
        go_quiet (fail)
        go_wp2_with fail
        refine (from_back (HU _) (k2.drewN _)).mono ?_
        rintro e w3 ⟨rfl, k3⟩
        clear HU k2
        go_wp2_with fail
        refine (from_back (HA _ k3) k3).mono ?_
        rintro e w4 ⟨rfl, k4⟩
        clear HA k3
        go_wp2
        go_ret3
        exact ⟨rfl, k4⟩
      · rw [e1] at H2
        rw [e2] at H3
        clear e1 e2
        go_enter Tryd.func24, Tryd.ntmps24
        go_wp2_with fail
        refine (H1 _).mono ?_
        rintro e w1 ⟨rfl, k1⟩
        clear H1 
        go_wp2_with fail
        refine (from_back (H2 _) k1).mono ?_
        rintro e w2 ⟨rfl, k2⟩
        clear H2 k1
        go_wp2_with fail
        refine (from_back (H3 _) k2).mono ?_
        rintro e w3 ⟨rfl, k3⟩
        clear H3 k2
        go_wp2_with fail
        go_quiet (fail)
        go_wp2_with fail
        refine (from_back (HU _) (k3.drewN _)).mono ?_
        rintro e w4 ⟨rfl, k4⟩
        clear HU k3
        go_wp2_with fail
        refine (from_back (HA _ k4) k4).mono ?_
        rintro e w5 ⟨rfl, k5⟩
        clear HA k4
        go_wp2
        go_ret3
        exact ⟨rfl, k5⟩
  · have h2 : ¬ (p < s.size ∧ bt s p = 34) := fun e => hq ⟨e.1, Or.inl e.2⟩
    have h3 : ¬ (p < s.size ∧ bt s p = 39) := fun e => hq ⟨e.1, Or.inr e.2⟩
    rw [vF_bare hp h1 h2 h3]
    rw [decide_eq_false h2] at H2
    rw [decide_eq_false h3] at H3
    have HU := fun W => until_any W s (p : Int) VE (by omega) (by decide)
    rw [pl_of hp] at HU
    have hb := until_is s VE hp
    generalize untilF s VE p = r at HU hb ⊢
    have HA := fun W (kk : Kp [] w W) => all_any W (hn.kept kk) (hi.kept kk) (s.extract p r) true (by have := cut_le s p r; omega)
    have l1 := hb.lo
    have l2 := hb.hi
    clear hb hn hi h1 h2 h3 hq
    generalize allF (s.extract p r) true 0 = A at HA ⊢
    by_cases hr : r = s.size
    · rw [if_pos hr]
      subst hr
      clear HA
      go_enter Tryd.func24, Tryd.ntmps24
      go_wp2_with fail
      refine (H1 _).mono ?_
      rintro e w1 ⟨rfl, k1⟩
      clear H1 
      go_wp2_with fail
      refine (from_back (H2 _) k1).mono ?_
      rintro e w2 ⟨rfl, k2⟩
      clear H2 k1
      go_wp2_with fail
      refine (from_back (H3 _) k2).mono ?_
      rintro e w3 ⟨rfl, k3⟩
      clear H3 k2
      go_wp2_with fail
      refine (from_back (HU _) k3).mono ?_
      rintro e w4 ⟨rfl, k4⟩
      clear HU k3
      go_wp2
      go_ret3
      exact ⟨rfl, k4⟩
    · rw [if_neg hr]
      have hr2 : ((r : Int) == (s.size : Int)) = false := by simp only [beq_eq_false_iff_ne, ne_eq]; omega
      clear hr
      go_enter Tryd.func24, Tryd.ntmps24
      go_wp2_with fail
      refine (H1 _).mono ?_
      rintro e w1 ⟨rfl, k1⟩
      clear H1 
      go_wp2_with fail
      refine (from_back (H2 _) k1).mono ?_
      rintro e w2 ⟨rfl, k2⟩
      clear H2 k1
      go_wp2_with fail
      refine (from_back (H3 _) k2).mono ?_
      rintro e w3 ⟨rfl, k3⟩
      clear H3 k2
      go_wp2_with fail
      refine (from_back (HU _) k3).mono ?_
      rintro e w4 ⟨rfl, k4⟩
      clear HU k3
      go_wp2_with fail
      refine (from_back (HA _ k4) k4).mono ?_
      rintro e w5 ⟨rfl, k5⟩
      clear HA k4
      go_wp2
      go_ret3
      exact ⟨rfl, k5⟩

end Go.Proofs.YtgebdaanglmnnaaDoor
