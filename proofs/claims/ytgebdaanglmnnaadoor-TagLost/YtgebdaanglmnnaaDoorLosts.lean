/-
  The walk of TagLost: whatever it is given, it answers true, and leaves what was there as it was.
-/
import Derived.Test.YtgebdaanglmnnaaDoorLose
namespace Go.Proofs.YtgebdaanglmnnaaDoor
open Go.RowKit Utf
set_option linter.unusedVariables false

set_option maxRecDepth 100000 in
set_option maxHeartbeats 8000000 in
theorem losts_false (w : World) (hn : Nm w) (hi : In w) (ao : Option Addr) (n c : Nat) (F : Nat → Int) (hl : Is w ao n c F) :
    Calls Tryd.prog 8 #[.slice ao n c, .bool false] w fun e w' => e = .returned (.bool true) ∧ Kp [] w w' := by
  go_enter Tryd.func8, Tryd.ntmps8
  go_wp2
  go_loopw [5, 6] (fun x i wr => ∃ (k : Nat) (t : ByteArray), i = .int .i64 (k : Int) ∧ x = .string t ∧ k ≤ n ∧ k ≤ 15 ∧ t.size ≤ 3 + 6 * k ∧ Hid (Opn t 2 1) ∧ Hid (Clean t) ∧ Kp [] w wr) (fun _ i _ => 15 - (intOf i).toNat)
  case atStart => exact ⟨0, ⟨#[60, 97]⟩, rfl, rfl, by omega, by omega, by decide, opn_start, clean_start, Kp.refl _ _⟩
  case round =>
    obtain ⟨k, t, rfl, rfl, hk1, hk2, ht, hO, hC, kr⟩ := hrel
    by_cases h1 : k < n
    · by_cases h2 : k < 15
      · obtain ⟨b, o, rfl, hc⟩ := (hl.kept kr).2 k h1
        generalize F k = y at hc
        go_wp2_with fail
        refine (piece_any _ y).mono ?_
        rintro e w2 ⟨p, rfl, hp, k2⟩
        have k3 := kr.trans k2 (fun x hx => by simp at hx)
        clear kr k2 hc
        go_wp2
        try rw [show decide ((k : Int) < 15) = true from decide_eq_true (by omega)]
        go_loopw [5, 8] (fun x j wr => ∃ (q : Nat) (u : ByteArray), j = .int .i64 (q : Int) ∧ x = .string u ∧ q ≤ p.size ∧ u.size ≤ 3 + 6 * k + q ∧ Hid (Opn u 2 1) ∧ Hid (Clean u) ∧ Kp [] w wr) (fun _ j _ => p.size - (intOf j).toNat)
        case atStart => exact ⟨0, t, rfl, rfl, by omega, by omega, hO, hC, k3⟩
        case round =>
          obtain ⟨q, u, rfl, rfl, hq, hu, hO2, hC2, kq⟩ := hrel
          clear k3 hO hC
          by_cases h3 : q < p.size
          · have i1 := index_at p (q : Int) q rfl h3
            obtain ⟨r1, r2⟩ := bt_range p q
            have hz1 : (p.extract q (q + 1)).size = 1 := one_size h3
            have hon := fun a b c => hC2.out.one (p := p) (k := q) h3 a b c
            generalize bt p q = z at i1 r1 r2 hon
            by_cases q1 : z = 62
            · subst q1
              go_wp2
              go_roundw
              case rel => exact ⟨q + 1, u, by go_num, rfl, by omega, by omega, hO2, hC2, kq⟩
              case measure => simp [intOf]; omega
            have b1 : (z != 62) = true := by simpa using q1
            have d1 : (z == 62) = false := by simpa using q1
            by_cases q2 : z = 34
            · subst q2
              clear q1 b1 d1
              go_wp2
              go_roundw
              case rel => exact ⟨q + 1, u, by go_num, rfl, by omega, by omega, hO2, hC2, kq⟩
              case measure => simp [intOf]; omega
            have b2 : (z != 34) = true := by simpa using q2
            have d2 : (z == 34) = false := by simpa using q2
            by_cases q3 : z = 39
            · subst q3
              clear q1 b1 q2 b2 d1 d2
              go_wp2
              go_roundw
              case rel => exact ⟨q + 1, u, by go_num, rfl, by omega, by omega, hO2, hC2, kq⟩
              case measure => simp [intOf]; omega
            have b3 : (z != 39) = true := by simpa using q3
            have d3 : (z == 39) = false := by simpa using q3
            have hC3 : Hid (Clean (u ++ p.extract q (q + 1))) := hon q1 q2 q3
            have i7 : ¬ 9223372036854775807 < u.size + (p.extract q (q + 1)).size := by omega
            clear q1 q2 q3 hon
            go_wp2
            go_roundw
            case rel => exact ⟨q + 1, u ++ p.extract q (q + 1), by go_num, rfl, by omega, by rw [cat_size]; omega, hO2.out.cat _, hC3, kq⟩
            case measure => simp [intOf]; omega
          · go_wp2
            go_roundw
            case rel => exact ⟨k + 1, u, by go_num, rfl, by omega, by omega, by omega, hO2, hC2, kq⟩
            case measure => simp [intOf]; omega
      · skip
        have hz : t.size ≤ 100 := by omega
        have hz2 : (t.size : Int) ≤ 100 := by omega
        have zm : (t ++ ⟨#[32, 62]⟩).size ≤ 380 := by rw [cat_size, show ByteArray.size ⟨#[32, 62]⟩ = 2 from rfl]; omega
        have H1 := tread_any _ (hn.kept kr) (hi.kept kr) t 0 (by omega)
        have H2 := fun W (kk : Kp [] w W) => tread_any W (hn.kept kk) (hi.kept kk) (t ++ ⟨#[32, 62]⟩) 0 zm
        have S6 := fun W (kk : Kp [] w W) => known_any W (hn.kept kk) (hi.kept kk)
        obtain ⟨g1, g2⟩ := told_tag hO.out hC.out
        rw [lost_tag hO.out hC.out (by omega)] at H1
        generalize tagF (t ++ ⟨#[32, 62]⟩) 0 = Z at H2 g1 g2
        obtain ⟨⟨k9, x9, l9, y9, v9⟩, m9, ok9⟩ := Z
        simp only at H2 g1 g2
        obtain ⟨rfl, rfl⟩ : m9 = (t.size : Int) + 2 ∧ ok9 = true := by simpa using g1
        have g3 := some_text g2
        unfold rdv zt tv at H1
        unfold rdv tv at H2
        simp only [] at H1 H2
        have i8 : ¬ 9223372036854775807 < t.size + 2 := by omega
        clear hl hn hi zm g1 g2 hO hC
        go_wp2_with fail
        refine H1.mono ?_
        rintro e1 w1 ⟨bo, m, d, rfl, M1⟩
        have A1 := At.new w1 #[.int .i64 0, .string ⟨#[]⟩, .slice bo m d, .bool false, .string ⟨#[]⟩] 37
        have k1 := (kr.trans M1.kp (fun z hz => by simp at hz)).alloc (.cells #[.int .i64 0, .string ⟨#[]⟩, .slice bo m d, .bool false, .string ⟨#[]⟩] 37)
        clear H1 M1
        go_wp2_with fail
        generalize w1.alloc (.cells #[.int .i64 0, .string ⟨#[]⟩, .slice bo m d, .bool false, .string ⟨#[]⟩] 37) = W at A1 k1 ⊢
        generalize w1.heap.size = g at A1 ⊢
        refine (H2 _ k1).mono ?_
        rintro e1 w2 ⟨b2, m2, d2, rfl, M2⟩
        have k2 := (k1.trans M2.kp (fun z hz => by simp at hz)).alloc (.cells #[.int .i64 k9, .string x9, .slice b2 m2 d2, .bool y9, .string v9] 37)
        have A2 := (A1.kept M2.kp (by simp)).kept ((Kp.refl [] w2).alloc (.cells #[.int .i64 k9, .string x9, .slice b2 m2 d2, .bool y9, .string v9] 37)) (by simp)
        have A3 := At.new w2 #[.int .i64 k9, .string x9, .slice b2 m2 d2, .bool y9, .string v9] 37
        obtain ⟨x0, x1, x2, x3, x4⟩ := A2.cells5
        obtain ⟨y0, y1, y2, y3, y4⟩ := A3.cells5
        clear H2 M2 A1 A2 A3 k1
        go_wp2_with fail
        refine (from_back (S6 _ k2) k2).mono ?_
        rintro e1 w5 ⟨rfl, k5⟩
        clear S6 k2 x0 x1 x2 x3 x4 y0 y1 y2 y3 y4
        go_wp2
        go_ret
        exact ⟨rfl, k5⟩
    · skip
      have hz : t.size ≤ 100 := by omega
      have hz2 : (t.size : Int) ≤ 100 := by omega
      have zm : (t ++ ⟨#[32, 62]⟩).size ≤ 380 := by rw [cat_size, show ByteArray.size ⟨#[32, 62]⟩ = 2 from rfl]; omega
      have H1 := tread_any _ (hn.kept kr) (hi.kept kr) t 0 (by omega)
      have H2 := fun W (kk : Kp [] w W) => tread_any W (hn.kept kk) (hi.kept kk) (t ++ ⟨#[32, 62]⟩) 0 zm
      have S6 := fun W (kk : Kp [] w W) => known_any W (hn.kept kk) (hi.kept kk)
      obtain ⟨g1, g2⟩ := told_tag hO.out hC.out
      rw [lost_tag hO.out hC.out (by omega)] at H1
      generalize tagF (t ++ ⟨#[32, 62]⟩) 0 = Z at H2 g1 g2
      obtain ⟨⟨k9, x9, l9, y9, v9⟩, m9, ok9⟩ := Z
      simp only at H2 g1 g2
      obtain ⟨rfl, rfl⟩ : m9 = (t.size : Int) + 2 ∧ ok9 = true := by simpa using g1
      have g3 := some_text g2
      unfold rdv zt tv at H1
      unfold rdv tv at H2
      simp only [] at H1 H2
      have i8 : ¬ 9223372036854775807 < t.size + 2 := by omega
      clear hl hn hi zm g1 g2 hO hC
      go_wp2_with fail
      refine H1.mono ?_
      rintro e1 w1 ⟨bo, m, d, rfl, M1⟩
      have A1 := At.new w1 #[.int .i64 0, .string ⟨#[]⟩, .slice bo m d, .bool false, .string ⟨#[]⟩] 37
      have k1 := (kr.trans M1.kp (fun z hz => by simp at hz)).alloc (.cells #[.int .i64 0, .string ⟨#[]⟩, .slice bo m d, .bool false, .string ⟨#[]⟩] 37)
      clear H1 M1
      go_wp2_with fail
      generalize w1.alloc (.cells #[.int .i64 0, .string ⟨#[]⟩, .slice bo m d, .bool false, .string ⟨#[]⟩] 37) = W at A1 k1 ⊢
      generalize w1.heap.size = g at A1 ⊢
      refine (H2 _ k1).mono ?_
      rintro e1 w2 ⟨b2, m2, d2, rfl, M2⟩
      have k2 := (k1.trans M2.kp (fun z hz => by simp at hz)).alloc (.cells #[.int .i64 k9, .string x9, .slice b2 m2 d2, .bool y9, .string v9] 37)
      have A2 := (A1.kept M2.kp (by simp)).kept ((Kp.refl [] w2).alloc (.cells #[.int .i64 k9, .string x9, .slice b2 m2 d2, .bool y9, .string v9] 37)) (by simp)
      have A3 := At.new w2 #[.int .i64 k9, .string x9, .slice b2 m2 d2, .bool y9, .string v9] 37
      obtain ⟨x0, x1, x2, x3, x4⟩ := A2.cells5
      obtain ⟨y0, y1, y2, y3, y4⟩ := A3.cells5
      clear H2 M2 A1 A2 A3 k1
      go_wp2_with fail
      refine (from_back (S6 _ k2) k2).mono ?_
      rintro e1 w5 ⟨rfl, k5⟩
      clear S6 k2 x0 x1 x2 x3 x4 y0 y1 y2 y3 y4
      go_wp2
      go_ret
      exact ⟨rfl, k5⟩

set_option maxRecDepth 100000 in
set_option maxHeartbeats 8000000 in
theorem losts_true (w : World) (hn : Nm w) (hi : In w) (ao : Option Addr) (n c : Nat) (F : Nat → Int) (hl : Is w ao n c F) :
    Calls Tryd.prog 8 #[.slice ao n c, .bool true] w fun e w' => e = .returned (.bool true) ∧ Kp [] w w' := by
  go_enter Tryd.func8, Tryd.ntmps8
  go_wp2
  go_loopw [5, 6] (fun x i wr => ∃ (k : Nat) (t : ByteArray), i = .int .i64 (k : Int) ∧ x = .string t ∧ k ≤ n ∧ k ≤ 15 ∧ t.size ≤ 3 + 6 * k ∧ Hid (Opn t 3 2) ∧ Hid (Clean t) ∧ Kp [] w wr) (fun _ i _ => 15 - (intOf i).toNat)
  case atStart => exact ⟨0, ⟨#[60, 47, 97]⟩, rfl, rfl, by omega, by omega, by decide, opn_end, clean_end, Kp.refl _ _⟩
  case round =>
    obtain ⟨k, t, rfl, rfl, hk1, hk2, ht, hO, hC, kr⟩ := hrel
    by_cases h1 : k < n
    · by_cases h2 : k < 15
      · obtain ⟨b, o, rfl, hc⟩ := (hl.kept kr).2 k h1
        generalize F k = y at hc
        go_wp2_with fail
        refine (piece_any _ y).mono ?_
        rintro e w2 ⟨p, rfl, hp, k2⟩
        have k3 := kr.trans k2 (fun x hx => by simp at hx)
        clear kr k2 hc
        go_wp2
        try rw [show decide ((k : Int) < 15) = true from decide_eq_true (by omega)]
        go_loopw [5, 8] (fun x j wr => ∃ (q : Nat) (u : ByteArray), j = .int .i64 (q : Int) ∧ x = .string u ∧ q ≤ p.size ∧ u.size ≤ 3 + 6 * k + q ∧ Hid (Opn u 3 2) ∧ Hid (Clean u) ∧ Kp [] w wr) (fun _ j _ => p.size - (intOf j).toNat)
        case atStart => exact ⟨0, t, rfl, rfl, by omega, by omega, hO, hC, k3⟩
        case round =>
          obtain ⟨q, u, rfl, rfl, hq, hu, hO2, hC2, kq⟩ := hrel
          clear k3 hO hC
          by_cases h3 : q < p.size
          · have i1 := index_at p (q : Int) q rfl h3
            obtain ⟨r1, r2⟩ := bt_range p q
            have hz1 : (p.extract q (q + 1)).size = 1 := one_size h3
            have hon := fun a b c => hC2.out.one (p := p) (k := q) h3 a b c
            generalize bt p q = z at i1 r1 r2 hon
            by_cases q1 : z = 62
            · subst q1
              go_wp2
              go_roundw
              case rel => exact ⟨q + 1, u, by go_num, rfl, by omega, by omega, hO2, hC2, kq⟩
              case measure => simp [intOf]; omega
            have b1 : (z != 62) = true := by simpa using q1
            have d1 : (z == 62) = false := by simpa using q1
            by_cases q2 : z = 34
            · subst q2
              clear q1 b1 d1
              go_wp2
              go_roundw
              case rel => exact ⟨q + 1, u, by go_num, rfl, by omega, by omega, hO2, hC2, kq⟩
              case measure => simp [intOf]; omega
            have b2 : (z != 34) = true := by simpa using q2
            have d2 : (z == 34) = false := by simpa using q2
            by_cases q3 : z = 39
            · subst q3
              clear q1 b1 q2 b2 d1 d2
              go_wp2
              go_roundw
              case rel => exact ⟨q + 1, u, by go_num, rfl, by omega, by omega, hO2, hC2, kq⟩
              case measure => simp [intOf]; omega
            have b3 : (z != 39) = true := by simpa using q3
            have d3 : (z == 39) = false := by simpa using q3
            have hC3 : Hid (Clean (u ++ p.extract q (q + 1))) := hon q1 q2 q3
            have i7 : ¬ 9223372036854775807 < u.size + (p.extract q (q + 1)).size := by omega
            clear q1 q2 q3 hon
            go_wp2
            go_roundw
            case rel => exact ⟨q + 1, u ++ p.extract q (q + 1), by go_num, rfl, by omega, by rw [cat_size]; omega, hO2.out.cat _, hC3, kq⟩
            case measure => simp [intOf]; omega
          · go_wp2
            go_roundw
            case rel => exact ⟨k + 1, u, by go_num, rfl, by omega, by omega, by omega, hO2, hC2, kq⟩
            case measure => simp [intOf]; omega
      · skip
        have hz : t.size ≤ 100 := by omega
        have hz2 : (t.size : Int) ≤ 100 := by omega
        have zm : (t ++ ⟨#[32, 62]⟩).size ≤ 380 := by rw [cat_size, show ByteArray.size ⟨#[32, 62]⟩ = 2 from rfl]; omega
        have H1 := tread_any _ (hn.kept kr) (hi.kept kr) t 0 (by omega)
        have H2 := fun W (kk : Kp [] w W) => tread_any W (hn.kept kk) (hi.kept kk) (t ++ ⟨#[32, 62]⟩) 0 zm
        have S6 := fun W (kk : Kp [] w W) => known_any W (hn.kept kk) (hi.kept kk)
        obtain ⟨g1, g2⟩ := told_tag hO.out hC.out
        rw [lost_tag hO.out hC.out (by omega)] at H1
        generalize tagF (t ++ ⟨#[32, 62]⟩) 0 = Z at H2 g1 g2
        obtain ⟨⟨k9, x9, l9, y9, v9⟩, m9, ok9⟩ := Z
        simp only at H2 g1 g2
        obtain ⟨rfl, rfl⟩ : m9 = (t.size : Int) + 2 ∧ ok9 = true := by simpa using g1
        have g3 := some_text g2
        unfold rdv zt tv at H1
        unfold rdv tv at H2
        simp only [] at H1 H2
        have i8 : ¬ 9223372036854775807 < t.size + 2 := by omega
        clear hl hn hi zm g1 g2 hO hC
        go_wp2_with fail
        refine H1.mono ?_
        rintro e1 w1 ⟨bo, m, d, rfl, M1⟩
        have A1 := At.new w1 #[.int .i64 0, .string ⟨#[]⟩, .slice bo m d, .bool false, .string ⟨#[]⟩] 37
        have k1 := (kr.trans M1.kp (fun z hz => by simp at hz)).alloc (.cells #[.int .i64 0, .string ⟨#[]⟩, .slice bo m d, .bool false, .string ⟨#[]⟩] 37)
        clear H1 M1
        go_wp2_with fail
        generalize w1.alloc (.cells #[.int .i64 0, .string ⟨#[]⟩, .slice bo m d, .bool false, .string ⟨#[]⟩] 37) = W at A1 k1 ⊢
        generalize w1.heap.size = g at A1 ⊢
        refine (H2 _ k1).mono ?_
        rintro e1 w2 ⟨b2, m2, d2, rfl, M2⟩
        have k2 := (k1.trans M2.kp (fun z hz => by simp at hz)).alloc (.cells #[.int .i64 k9, .string x9, .slice b2 m2 d2, .bool y9, .string v9] 37)
        have A2 := (A1.kept M2.kp (by simp)).kept ((Kp.refl [] w2).alloc (.cells #[.int .i64 k9, .string x9, .slice b2 m2 d2, .bool y9, .string v9] 37)) (by simp)
        have A3 := At.new w2 #[.int .i64 k9, .string x9, .slice b2 m2 d2, .bool y9, .string v9] 37
        obtain ⟨x0, x1, x2, x3, x4⟩ := A2.cells5
        obtain ⟨y0, y1, y2, y3, y4⟩ := A3.cells5
        clear H2 M2 A1 A2 A3 k1
        go_wp2_with fail
        refine (from_back (S6 _ k2) k2).mono ?_
        rintro e1 w5 ⟨rfl, k5⟩
        clear S6 k2 x0 x1 x2 x3 x4 y0 y1 y2 y3 y4
        go_wp2
        go_ret
        exact ⟨rfl, k5⟩
    · skip
      have hz : t.size ≤ 100 := by omega
      have hz2 : (t.size : Int) ≤ 100 := by omega
      have zm : (t ++ ⟨#[32, 62]⟩).size ≤ 380 := by rw [cat_size, show ByteArray.size ⟨#[32, 62]⟩ = 2 from rfl]; omega
      have H1 := tread_any _ (hn.kept kr) (hi.kept kr) t 0 (by omega)
      have H2 := fun W (kk : Kp [] w W) => tread_any W (hn.kept kk) (hi.kept kk) (t ++ ⟨#[32, 62]⟩) 0 zm
      have S6 := fun W (kk : Kp [] w W) => known_any W (hn.kept kk) (hi.kept kk)
      obtain ⟨g1, g2⟩ := told_tag hO.out hC.out
      rw [lost_tag hO.out hC.out (by omega)] at H1
      generalize tagF (t ++ ⟨#[32, 62]⟩) 0 = Z at H2 g1 g2
      obtain ⟨⟨k9, x9, l9, y9, v9⟩, m9, ok9⟩ := Z
      simp only at H2 g1 g2
      obtain ⟨rfl, rfl⟩ : m9 = (t.size : Int) + 2 ∧ ok9 = true := by simpa using g1
      have g3 := some_text g2
      unfold rdv zt tv at H1
      unfold rdv tv at H2
      simp only [] at H1 H2
      have i8 : ¬ 9223372036854775807 < t.size + 2 := by omega
      clear hl hn hi zm g1 g2 hO hC
      go_wp2_with fail
      refine H1.mono ?_
      rintro e1 w1 ⟨bo, m, d, rfl, M1⟩
      have A1 := At.new w1 #[.int .i64 0, .string ⟨#[]⟩, .slice bo m d, .bool false, .string ⟨#[]⟩] 37
      have k1 := (kr.trans M1.kp (fun z hz => by simp at hz)).alloc (.cells #[.int .i64 0, .string ⟨#[]⟩, .slice bo m d, .bool false, .string ⟨#[]⟩] 37)
      clear H1 M1
      go_wp2_with fail
      generalize w1.alloc (.cells #[.int .i64 0, .string ⟨#[]⟩, .slice bo m d, .bool false, .string ⟨#[]⟩] 37) = W at A1 k1 ⊢
      generalize w1.heap.size = g at A1 ⊢
      refine (H2 _ k1).mono ?_
      rintro e1 w2 ⟨b2, m2, d2, rfl, M2⟩
      have k2 := (k1.trans M2.kp (fun z hz => by simp at hz)).alloc (.cells #[.int .i64 k9, .string x9, .slice b2 m2 d2, .bool y9, .string v9] 37)
      have A2 := (A1.kept M2.kp (by simp)).kept ((Kp.refl [] w2).alloc (.cells #[.int .i64 k9, .string x9, .slice b2 m2 d2, .bool y9, .string v9] 37)) (by simp)
      have A3 := At.new w2 #[.int .i64 k9, .string x9, .slice b2 m2 d2, .bool y9, .string v9] 37
      obtain ⟨x0, x1, x2, x3, x4⟩ := A2.cells5
      obtain ⟨y0, y1, y2, y3, y4⟩ := A3.cells5
      clear H2 M2 A1 A2 A3 k1
      go_wp2_with fail
      refine (from_back (S6 _ k2) k2).mono ?_
      rintro e1 w5 ⟨rfl, k5⟩
      clear S6 k2 x0 x1 x2 x3 x4 y0 y1 y2 y3 y4
      go_wp2
      go_ret
      exact ⟨rfl, k5⟩

theorem losts_any (w : World) (hn : Nm w) (hi : In w) (ao : Option Addr) (n c : Nat) (F : Nat → Int) (hl : Is w ao n c F) (en : Bool) :
    Calls Tryd.prog 8 #[.slice ao n c, .bool en] w fun e w' => e = .returned (.bool true) ∧ Kp [] w w' := by
  cases en with
  | false => exact losts_false w hn hi ao n c F hl
  | true => exact losts_true w hn hi ao n c F hl

end Go.Proofs.YtgebdaanglmnnaaDoor
