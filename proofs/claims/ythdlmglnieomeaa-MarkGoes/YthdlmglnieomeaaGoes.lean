/-
  The walk of MarkGoes: whatever it is given, it answers true, and leaves what was there as it was.
-/
import Derived.Test.YthdlmglnieomeaaTold
import Derived.Test.YthdlmglnieomeaaKnows
import Derived.Test.YthdlmglnieomeaaJust
import Derived.Deep.RegionWith
import Derived.Deep.CutRange
namespace Go.Proofs.Ythdlmglnieomeaa
open Go.RowKit Utf
set_option linter.unusedVariables false

/-- The beginnings. -/
def BEGS : List ByteArray := [⟨#[60, 33, 45, 45]⟩, ⟨#[60, 33]⟩, ⟨#[60, 63]⟩, ⟨#[60, 47, 32]⟩, ⟨#[60, 33, 91, 67, 68, 65, 84, 65, 91]⟩]
theorem begs_len : BEGS.length = 5 := rfl
theorem begs_size : ∀ x, x ∈ BEGS → x.size ≤ 9 := by decide +kernel
theorem begs_opm : ∀ x, x ∈ BEGS → Opm x := by
  intro x hx
  simp only [BEGS, List.mem_cons, List.mem_nil_iff, or_false] at hx
  rcases hx with rfl | rfl | rfl | rfl | rfl
  · exact ⟨by decide, by decide, by decide⟩
  · exact ⟨by decide, by decide, by decide⟩
  · exact ⟨by decide, by decide, by decide⟩
  · exact ⟨by decide, by decide, by decide⟩
  · exact ⟨by decide, by decide, by decide⟩

/-- Two tokens alike, in two blocks. -/
def Pair (w wx : World) (g g12 : Nat) (k9 : Int) (x9 y9 : ByteArray) : Prop := At wx g #[.int .i64 k9, .string x9, .slice none 0 0, .bool false, .string y9] 32 ∧ At wx g12 #[.int .i64 k9, .string x9, .slice none 0 0, .bool false, .string y9] 32 ∧ Kp [] w wx

theorem way_a {w w2 v2 : World} {g : Nat} {k9 : Int} {x9 y9 : ByteArray} (k3 : Kp [] w w2) (A3 : At w2 g #[.int .i64 k9, .string x9, .slice none 0 0, .bool false, .string y9] 32) (N : Kp [] w2.drew v2) : Pair w (v2.alloc (.cells #[.int .i64 k9, .string x9, .slice none 0 0, .bool false, .string y9] 32)) g v2.heap.size k9 x9 y9 := by
  have q1 : Kp [] w2 v2 := (Kp.refl [] w2).drew.trans N (fun z hz => by simp at hz)
  have q2 : Kp [] w2 (v2.alloc (.cells #[.int .i64 k9, .string x9, .slice none 0 0, .bool false, .string y9] 32)) := q1.alloc _
  exact ⟨A3.kept q2 (by simp), At.new _ _ _, k3.trans q2 (fun z hz => by simp at hz)⟩

theorem way_b {w w2 v2 : World} {g : Nat} {k9 : Int} {x9 y9 : ByteArray} (k3 : Kp [] w w2) (A3 : At w2 g #[.int .i64 k9, .string x9, .slice none 0 0, .bool false, .string y9] 32) (N : Kp [] (w2.alloc (.cells ZT 32)).drew v2) : Pair w (put5 v2 w2.heap.size (.int .i64 k9) (.string x9) (.slice none 0 0) (.bool false) (.string y9)) g w2.heap.size k9 x9 y9 := by
  have q0 : Kp [] (w2.alloc (.cells ZT 32)) v2 := (Kp.refl [] _).drew.trans N (fun z hz => by simp at hz)
  have q1 : Kp [] w2 v2 := ((Kp.refl [] w2).alloc (.cells ZT 32)).trans q0 (fun z hz => by simp at hz)
  have B := (At.new w2 ZT 32).kept q0 (by simp)
  have P := B.put5 (.int .i64 k9) (.string x9) (.slice none 0 0) (.bool false) (.string y9)
  have q2 : Kp [] w2 (put5 v2 w2.heap.size (.int .i64 k9) (.string x9) (.slice none 0 0) (.bool false) (.string y9)) := q1.put5 (Or.inr (Nat.le_refl _)) _ _ _ _ _
  exact ⟨A3.kept q2 (by simp), P, k3.trans q2 (fun z hz => by simp at hz)⟩

theorem fresh_b {w2 v2 : World} (N : Kp [] (w2.alloc (.cells ZT 32)).drew v2) :
    (v2.cell? ⟨w2.heap.size, 0, none⟩ = some (.int .i64 0) ∧ v2.cell? ⟨w2.heap.size, 1, none⟩ = some (.string ⟨#[]⟩) ∧ v2.cell? ⟨w2.heap.size, 2, none⟩ = some (.slice none 0 0) ∧ v2.cell? ⟨w2.heap.size, 3, none⟩ = some (.bool false) ∧ v2.cell? ⟨w2.heap.size, 4, none⟩ = some (.string ⟨#[]⟩)) ∧ ∀ j, v2.frozen? ⟨w2.heap.size, j, none⟩ = false := by
  have q0 : Kp [] (w2.alloc (.cells ZT 32)) v2 := (Kp.refl [] _).drew.trans N (fun z hz => by simp at hz)
  have B := (At.new w2 ZT 32).kept q0 (by simp)
  exact ⟨B.cells5, fun j => B.free j⟩

set_option maxRecDepth 100000 in
set_option maxHeartbeats 8000000 in
theorem goes_any (w : World) (ao : Option Addr) (n c : Nat) (F : Nat → Int) (hl : Is w ao n c F) (how : Int) (fg : Bool) (s0 : ByteArray) :
    Calls Try.prog 6 #[.slice ao n c, .int .i64 how, .bool fg, .string s0] w fun e w' => e = .returned (.bool true) ∧ Kp [] w w' := by
  have hsz := cut_size s0 20
  have hj := wi_le how 4
  have HW := fun W => within_zero W how 4 (by omega)
  generalize wi how 4 = q at hj HW
  have HR : Rb (w.alloc (.cells (tx BEGS).toArray 9)) (some ⟨w.heap.size, 0, none⟩) 5 5 (tx BEGS) := rb_lit w 9 _ (tx BEGS) 5 rfl rfl (by omega)
  have k1 : Kp [] w (w.alloc (.cells (tx BEGS).toArray 9)) := (Kp.refl _ _).alloc _
  go_enter Try.func6, Try.ntmps6
  go_wp2_with fail
  rw [show #[Value.string { data := #[60, 33, 45, 45] }, Value.string { data := #[60, 33] }, Value.string { data := #[60, 63] }, Value.string { data := #[60, 47, 32] }, Value.string { data := #[60, 33, 91, 67, 68, 65, 84, 65, 91] }] = (tx BEGS).toArray from rfl]
  generalize w.alloc (.cells (tx BEGS).toArray 9) = W0 at HR k1 ⊢
  generalize some (⟨w.heap.size, 0, none⟩ : Addr) = ta at HR ⊢
  refine (HW _).mono ?_
  rintro e w' ⟨rfl, rfl⟩
  clear HW
  obtain ⟨b1, o1, rfl, h1⟩ := HR.tx_at q (by rw [begs_len]; omega)
  have hx := begs_size (BEGS[q]'(by rw [begs_len]; omega)) (List.getElem_mem _)
  have hx2 : Hid (Opm (BEGS[q]'(by rw [begs_len]; omega))) := begs_opm (BEGS[q]'(by rw [begs_len]; omega)) (List.getElem_mem _)
  generalize BEGS[q]'(by rw [begs_len]; omega) = x0 at h1 hx hx2
  clear HR
  go_wp2
  go_loopw [9, 10] (fun x i wr => ∃ (k : Nat) (t : ByteArray), i = .int .i64 (k : Int) ∧ x = .string t ∧ k ≤ n ∧ k ≤ 15 ∧ t.size ≤ 9 + 7 * k ∧ Hid (Opm t) ∧ Kp [] w wr) (fun _ i _ => 15 - (intOf i).toNat)
  case atStart => exact ⟨0, x0, rfl, rfl, by omega, by omega, by omega, hx2, k1⟩
  case round =>
    obtain ⟨k, t, rfl, rfl, hk1, hk2, ht, hO, kr⟩ := hrel
    clear h1 k1
    by_cases h1 : k < n
    · by_cases h2 : k < 15
      · obtain ⟨b, o, rfl, hc⟩ := (hl.kept kr).2 k h1
        generalize F k = y at hc
        go_wp2_with fail
        refine (piece_any _ y).mono ?_
        rintro e w2 ⟨p, rfl, hp, k2⟩
        have i7 : ¬ 9223372036854775807 < t.size + p.size := by omega
        go_wp2
        go_roundw
        case rel => exact ⟨k + 1, t ++ p, by go_num, rfl, by omega, by omega, by rw [cat_size]; omega, hO.out.cat p, kr.trans k2 (fun x hx => by simp at hx)⟩
        case measure => simp [intOf]; omega
      · skip
        have hz : t.size ≤ 120 := by omega
        have hz2 : (t.size : Int) ≤ 120 := by omega
        clear hl
        obtain ⟨T9, e, g1, g2, g3, g4, g5, g6⟩ := hO.out.facts fg
        have H1 := fun W => read_any W t 0 fg (by omega)
        rw [g1] at H1
        obtain ⟨k9, x9, y9⟩ := T9
        unfold rv mv at H1
        simp only [] at H1 g4 g5
        have g1 : Hid (mkF t 0 fg = ((k9, x9, y9), (e : Int), true)) := g1
        have g6 : Hid (e < t.size → bt t (e - 1) = 62 → ∀ m, mkF (t.extract 0 e ++ m) 0 fg = mkF t 0 fg) := g6
        have S6 := fun W => known_any W
        have HC := fun W => cut_any W s0 20 (by omega)
        generalize (if 20 < s0.size then s0.extract 0 20 else s0) = mr at HC hsz
        have i1 := index_at t ((e : Int) - 1) (e - 1) (by omega) (by omega)
        have H4 := fun W => book_tsame_any W k9 k9 x9 x9 y9 y9 [] [] false false none none 0 0 0 0 (rp_none W) (rp_none W) (by omega) (by omega)
        rw [decide_eq_true rfl] at H4
        unfold tv at H4
        have n2' : ¬ (e : Int) < 2 := by omega
        have n3' : ¬ (t.size : Int) < (e : Int) := by omega
        clear hO
        rcases g5 with g5 | ⟨g5, g7⟩
        · subst g5
          go_wp2_with fail
          refine (from_back (H1 _) kr).mono ?_
          rintro e1 w1 ⟨rfl, k1⟩
          have A3 := At.new w1 #[.int .i64 0, .string x9, .slice none 0 0, .bool false, .string y9] 32
          have k3 := k1.alloc (.cells #[.int .i64 0, .string x9, .slice none 0 0, .bool false, .string y9] 32)
          obtain ⟨x0, x1, x2, x3, x4⟩ := A3.cells5
          clear H1 k1
          go_upto_region 9 with fail
          clear x0 x1 x2 x3 x4
          generalize w1.alloc (.cells #[.int .i64 0, .string x9, .slice none 0 0, .bool false, .string y9] 32) = w2 at A3 k3 ⊢
          generalize w1.heap.size = g at A3 ⊢
          by_cases c1 : bt t (e - 1) = 62
          · rw [c1] at i1
            by_cases c2 : e = t.size
            · have b2 : ((e : Int) == (t.size : Int)) = true := by simp only [beq_iff_eq]; omega
              clear H4 HC A3 c1 c2 g6
              go_wp2_with fail
              refine (from_back (S6 _) k3).mono ?_
              rintro e1 w7 ⟨rfl, k7⟩
              clear S6 k3
              go_wp2
              go_ret
              exact ⟨rfl, k7⟩
            · have b2 : ((e : Int) == (t.size : Int)) = false := by simp only [beq_eq_false_iff_ne, ne_eq]; omega
              have zm : (t.extract 0 e ++ mr).size ≤ 100000 := by rw [cat_size]; have := cut_le t 0 e; omega
              have H2 := fun W => read_any W (t.extract 0 e ++ mr) 0 fg zm
              rw [g6.out (by omega) c1 mr, g1.out] at H2
              unfold rv mv at H2
              simp only [] at H2
              clear c1 c2 g6 zm
              have D3 : Hid (∀ o, Kp [] w (w2.alloc o).drew) := fun o => (k3.alloc o).drew
              have FA : Hid (∀ v2, Kp [] w2.drew v2 → Hid (Pair w (v2.alloc (.cells #[.int .i64 0, .string x9, .slice none 0 0, .bool false, .string y9] 32)) g v2.heap.size 0 x9 y9)) := fun v2 N => way_a k3 A3 N
              have FB : Hid (∀ v2, Kp [] (w2.alloc (.cells ZT 32)).drew v2 → Hid (Pair w (put5 v2 w2.heap.size (.int .i64 0) (.string x9) (.slice none 0 0) (.bool false) (.string y9)) g w2.heap.size 0 x9 y9)) := fun v2 N => way_b k3 A3 N
              have n1 : (0 : Int) ≤ (e : Int) := by omega
              have n2 : (e : Int) ≤ (t.size : Int) := by omega
              go_upto_region 11 with fail
              have i7 : ¬ 9223372036854775807 < (t.extract 0 e).size + mr.size := by have := cut_le t 0 e; omega
              go_region_with (first
                | (go_at_call 12; with_reducible show Calls Try.prog 12 _ (World.drew (World.alloc w2 _)) _; refine (H2 _).mono ?_; rintro e1 v2 ⟨rfl, N2⟩; have PZ := FB.out _ N2; obtain ⟨⟨x0, x1, x2, x3, x4⟩, xf⟩ := fresh_b N2; clear N2)
                | (go_at_call 12; refine (H2 _).mono ?_; rintro e1 v2 ⟨rfl, N2⟩; have PZ := FA.out _ N2; clear N2)
                | (go_at_call 9; refine (HC _).mono ?_; rintro e1 v1 ⟨rfl, rfl⟩))
              all_goals
                obtain ⟨P1, P2, P5⟩ := PZ.out
                try unfold put5 at P1 P2 P5
                obtain ⟨y0, y1, y2, y3, y4⟩ := P1.cells5
                obtain ⟨z0, z1, z2, z3, z4⟩ := P2.cells5
                try clear x0 x1 x2 x3 x4 xf
                clear P1 P2 PZ H2 HC D3 FA FB A3 k3 i7
                go_wp2_with fail
                refine (from_back (H4 _) P5).mono ?_
                rintro e1 w5 ⟨rfl, k6⟩
                clear H4 y0 y1 y2 y3 y4 z0 z1 z2 z3 z4 P5
                go_wp2_with fail
                refine (from_back (S6 _) k6).mono ?_
                rintro e1 w7 ⟨rfl, k7⟩
                clear S6 k6
                go_wp2
                go_ret
                exact ⟨rfl, k7⟩
          · have b1 : (bt t (e - 1) != 62) = true := by simpa using c1
            have b1' : (bt t (e - 1) == 62) = false := by simpa using c1
            generalize bt t (e - 1) = z at i1 b1 b1'
            clear H4 HC A3 c1 g6
            go_wp2_with fail
            refine (from_back (S6 _) k3).mono ?_
            rintro e1 w7 ⟨rfl, k7⟩
            clear S6 k3
            go_wp2
            go_ret
            exact ⟨rfl, k7⟩
        · have H3 := fun W => right_any W k9 x9 y9 [] false none 0 0 (rp_none W) (by omega) (fun a ha => by simp at ha) (by omega)
          rw [g7] at H3
          unfold tv at H3
          have b2 : (k9 == 2) = false := by rcases g5 with rfl | rfl | rfl <;> rfl
          have b3 : (k9 == 3) = false := by rcases g5 with rfl | rfl | rfl <;> rfl
          have b6 : (k9 == 6) = false := by rcases g5 with rfl | rfl | rfl <;> rfl
          have b0 : (k9 != 0) = true := by rcases g5 with rfl | rfl | rfl <;> rfl
          have b0' : (k9 == 0) = false := by rcases g5 with rfl | rfl | rfl <;> rfl
          clear g5 g7
          go_wp2_with fail
          refine (from_back (H1 _) kr).mono ?_
          rintro e1 w1 ⟨rfl, k1⟩
          have A1 := At.new w1 #[.int .i64 k9, .string x9, .slice none 0 0, .bool false, .string y9] 32
          have k2 := k1.alloc (.cells #[.int .i64 k9, .string x9, .slice none 0 0, .bool false, .string y9] 32)
          obtain ⟨x0, x1, x2, x3, x4⟩ := A1.cells5
          clear H1 k1
          go_wp2_with fail
          clear x0 x1 x2 x3 x4
          generalize w1.alloc (.cells #[.int .i64 k9, .string x9, .slice none 0 0, .bool false, .string y9] 32) = W at A1 k2 ⊢
          generalize w1.heap.size = g at A1 ⊢
          refine (H3 _).mono ?_
          rintro e1 w2 ⟨rfl, k5⟩
          have A3 := A1.kept k5 (by simp)
          have k3 := k2.trans k5 (fun z hz => by simp at hz)
          clear H3 A1 k2 k5
          by_cases c1 : bt t (e - 1) = 62
          · rw [c1] at i1
            by_cases c2 : e = t.size
            · have b2 : ((e : Int) == (t.size : Int)) = true := by simp only [beq_iff_eq]; omega
              clear H4 HC A3 c1 c2 g6
              go_wp2_with fail
              refine (from_back (S6 _) k3).mono ?_
              rintro e1 w7 ⟨rfl, k7⟩
              clear S6 k3
              go_wp2
              go_ret
              exact ⟨rfl, k7⟩
            · have b2 : ((e : Int) == (t.size : Int)) = false := by simp only [beq_eq_false_iff_ne, ne_eq]; omega
              have zm : (t.extract 0 e ++ mr).size ≤ 100000 := by rw [cat_size]; have := cut_le t 0 e; omega
              have H2 := fun W => read_any W (t.extract 0 e ++ mr) 0 fg zm
              rw [g6.out (by omega) c1 mr, g1.out] at H2
              unfold rv mv at H2
              simp only [] at H2
              clear c1 c2 g6 zm
              have D3 : Hid (∀ o, Kp [] w (w2.alloc o).drew) := fun o => (k3.alloc o).drew
              have FA : Hid (∀ v2, Kp [] w2.drew v2 → Hid (Pair w (v2.alloc (.cells #[.int .i64 k9, .string x9, .slice none 0 0, .bool false, .string y9] 32)) g v2.heap.size k9 x9 y9)) := fun v2 N => way_a k3 A3 N
              have FB : Hid (∀ v2, Kp [] (w2.alloc (.cells ZT 32)).drew v2 → Hid (Pair w (put5 v2 w2.heap.size (.int .i64 k9) (.string x9) (.slice none 0 0) (.bool false) (.string y9)) g w2.heap.size k9 x9 y9)) := fun v2 N => way_b k3 A3 N
              have n1 : (0 : Int) ≤ (e : Int) := by omega
              have n2 : (e : Int) ≤ (t.size : Int) := by omega
              go_upto_region 11 with fail
              have i7 : ¬ 9223372036854775807 < (t.extract 0 e).size + mr.size := by have := cut_le t 0 e; omega
              go_region_with (first
                | (go_at_call 12; with_reducible show Calls Try.prog 12 _ (World.drew (World.alloc w2 _)) _; refine (H2 _).mono ?_; rintro e1 v2 ⟨rfl, N2⟩; have PZ := FB.out _ N2; obtain ⟨⟨x0, x1, x2, x3, x4⟩, xf⟩ := fresh_b N2; clear N2)
                | (go_at_call 12; refine (H2 _).mono ?_; rintro e1 v2 ⟨rfl, N2⟩; have PZ := FA.out _ N2; clear N2)
                | (go_at_call 9; refine (HC _).mono ?_; rintro e1 v1 ⟨rfl, rfl⟩))
              all_goals
                obtain ⟨P1, P2, P5⟩ := PZ.out
                try unfold put5 at P1 P2 P5
                obtain ⟨y0, y1, y2, y3, y4⟩ := P1.cells5
                obtain ⟨z0, z1, z2, z3, z4⟩ := P2.cells5
                try clear x0 x1 x2 x3 x4 xf
                clear P1 P2 PZ H2 HC D3 FA FB A3 k3 i7
                go_wp2_with fail
                refine (from_back (H4 _) P5).mono ?_
                rintro e1 w5 ⟨rfl, k6⟩
                clear H4 y0 y1 y2 y3 y4 z0 z1 z2 z3 z4 P5
                go_wp2_with fail
                refine (from_back (S6 _) k6).mono ?_
                rintro e1 w7 ⟨rfl, k7⟩
                clear S6 k6
                go_wp2
                go_ret
                exact ⟨rfl, k7⟩
          · have b1 : (bt t (e - 1) != 62) = true := by simpa using c1
            have b1' : (bt t (e - 1) == 62) = false := by simpa using c1
            generalize bt t (e - 1) = z at i1 b1 b1'
            clear H4 HC A3 c1 g6
            go_wp2_with fail
            refine (from_back (S6 _) k3).mono ?_
            rintro e1 w7 ⟨rfl, k7⟩
            clear S6 k3
            go_wp2
            go_ret
            exact ⟨rfl, k7⟩
    · skip
      have hz : t.size ≤ 120 := by omega
      have hz2 : (t.size : Int) ≤ 120 := by omega
      clear hl
      obtain ⟨T9, e, g1, g2, g3, g4, g5, g6⟩ := hO.out.facts fg
      have H1 := fun W => read_any W t 0 fg (by omega)
      rw [g1] at H1
      obtain ⟨k9, x9, y9⟩ := T9
      unfold rv mv at H1
      simp only [] at H1 g4 g5
      have g1 : Hid (mkF t 0 fg = ((k9, x9, y9), (e : Int), true)) := g1
      have g6 : Hid (e < t.size → bt t (e - 1) = 62 → ∀ m, mkF (t.extract 0 e ++ m) 0 fg = mkF t 0 fg) := g6
      have S6 := fun W => known_any W
      have HC := fun W => cut_any W s0 20 (by omega)
      generalize (if 20 < s0.size then s0.extract 0 20 else s0) = mr at HC hsz
      have i1 := index_at t ((e : Int) - 1) (e - 1) (by omega) (by omega)
      have H4 := fun W => book_tsame_any W k9 k9 x9 x9 y9 y9 [] [] false false none none 0 0 0 0 (rp_none W) (rp_none W) (by omega) (by omega)
      rw [decide_eq_true rfl] at H4
      unfold tv at H4
      have n2' : ¬ (e : Int) < 2 := by omega
      have n3' : ¬ (t.size : Int) < (e : Int) := by omega
      clear hO
      rcases g5 with g5 | ⟨g5, g7⟩
      · subst g5
        go_wp2_with fail
        refine (from_back (H1 _) kr).mono ?_
        rintro e1 w1 ⟨rfl, k1⟩
        have A3 := At.new w1 #[.int .i64 0, .string x9, .slice none 0 0, .bool false, .string y9] 32
        have k3 := k1.alloc (.cells #[.int .i64 0, .string x9, .slice none 0 0, .bool false, .string y9] 32)
        obtain ⟨x0, x1, x2, x3, x4⟩ := A3.cells5
        clear H1 k1
        go_upto_region 9 with fail
        clear x0 x1 x2 x3 x4
        generalize w1.alloc (.cells #[.int .i64 0, .string x9, .slice none 0 0, .bool false, .string y9] 32) = w2 at A3 k3 ⊢
        generalize w1.heap.size = g at A3 ⊢
        by_cases c1 : bt t (e - 1) = 62
        · rw [c1] at i1
          by_cases c2 : e = t.size
          · have b2 : ((e : Int) == (t.size : Int)) = true := by simp only [beq_iff_eq]; omega
            clear H4 HC A3 c1 c2 g6
            go_wp2_with fail
            refine (from_back (S6 _) k3).mono ?_
            rintro e1 w7 ⟨rfl, k7⟩
            clear S6 k3
            go_wp2
            go_ret
            exact ⟨rfl, k7⟩
          · have b2 : ((e : Int) == (t.size : Int)) = false := by simp only [beq_eq_false_iff_ne, ne_eq]; omega
            have zm : (t.extract 0 e ++ mr).size ≤ 100000 := by rw [cat_size]; have := cut_le t 0 e; omega
            have H2 := fun W => read_any W (t.extract 0 e ++ mr) 0 fg zm
            rw [g6.out (by omega) c1 mr, g1.out] at H2
            unfold rv mv at H2
            simp only [] at H2
            clear c1 c2 g6 zm
            have D3 : Hid (∀ o, Kp [] w (w2.alloc o).drew) := fun o => (k3.alloc o).drew
            have FA : Hid (∀ v2, Kp [] w2.drew v2 → Hid (Pair w (v2.alloc (.cells #[.int .i64 0, .string x9, .slice none 0 0, .bool false, .string y9] 32)) g v2.heap.size 0 x9 y9)) := fun v2 N => way_a k3 A3 N
            have FB : Hid (∀ v2, Kp [] (w2.alloc (.cells ZT 32)).drew v2 → Hid (Pair w (put5 v2 w2.heap.size (.int .i64 0) (.string x9) (.slice none 0 0) (.bool false) (.string y9)) g w2.heap.size 0 x9 y9)) := fun v2 N => way_b k3 A3 N
            have n1 : (0 : Int) ≤ (e : Int) := by omega
            have n2 : (e : Int) ≤ (t.size : Int) := by omega
            go_upto_region 11 with fail
            have i7 : ¬ 9223372036854775807 < (t.extract 0 e).size + mr.size := by have := cut_le t 0 e; omega
            go_region_with (first
              | (go_at_call 12; with_reducible show Calls Try.prog 12 _ (World.drew (World.alloc w2 _)) _; refine (H2 _).mono ?_; rintro e1 v2 ⟨rfl, N2⟩; have PZ := FB.out _ N2; obtain ⟨⟨x0, x1, x2, x3, x4⟩, xf⟩ := fresh_b N2; clear N2)
              | (go_at_call 12; refine (H2 _).mono ?_; rintro e1 v2 ⟨rfl, N2⟩; have PZ := FA.out _ N2; clear N2)
              | (go_at_call 9; refine (HC _).mono ?_; rintro e1 v1 ⟨rfl, rfl⟩))
            all_goals
              obtain ⟨P1, P2, P5⟩ := PZ.out
              try unfold put5 at P1 P2 P5
              obtain ⟨y0, y1, y2, y3, y4⟩ := P1.cells5
              obtain ⟨z0, z1, z2, z3, z4⟩ := P2.cells5
              try clear x0 x1 x2 x3 x4 xf
              clear P1 P2 PZ H2 HC D3 FA FB A3 k3 i7
              go_wp2_with fail
              refine (from_back (H4 _) P5).mono ?_
              rintro e1 w5 ⟨rfl, k6⟩
              clear H4 y0 y1 y2 y3 y4 z0 z1 z2 z3 z4 P5
              go_wp2_with fail
              refine (from_back (S6 _) k6).mono ?_
              rintro e1 w7 ⟨rfl, k7⟩
              clear S6 k6
              go_wp2
              go_ret
              exact ⟨rfl, k7⟩
        · have b1 : (bt t (e - 1) != 62) = true := by simpa using c1
          have b1' : (bt t (e - 1) == 62) = false := by simpa using c1
          generalize bt t (e - 1) = z at i1 b1 b1'
          clear H4 HC A3 c1 g6
          go_wp2_with fail
          refine (from_back (S6 _) k3).mono ?_
          rintro e1 w7 ⟨rfl, k7⟩
          clear S6 k3
          go_wp2
          go_ret
          exact ⟨rfl, k7⟩
      · have H3 := fun W => right_any W k9 x9 y9 [] false none 0 0 (rp_none W) (by omega) (fun a ha => by simp at ha) (by omega)
        rw [g7] at H3
        unfold tv at H3
        have b2 : (k9 == 2) = false := by rcases g5 with rfl | rfl | rfl <;> rfl
        have b3 : (k9 == 3) = false := by rcases g5 with rfl | rfl | rfl <;> rfl
        have b6 : (k9 == 6) = false := by rcases g5 with rfl | rfl | rfl <;> rfl
        have b0 : (k9 != 0) = true := by rcases g5 with rfl | rfl | rfl <;> rfl
        have b0' : (k9 == 0) = false := by rcases g5 with rfl | rfl | rfl <;> rfl
        clear g5 g7
        go_wp2_with fail
        refine (from_back (H1 _) kr).mono ?_
        rintro e1 w1 ⟨rfl, k1⟩
        have A1 := At.new w1 #[.int .i64 k9, .string x9, .slice none 0 0, .bool false, .string y9] 32
        have k2 := k1.alloc (.cells #[.int .i64 k9, .string x9, .slice none 0 0, .bool false, .string y9] 32)
        obtain ⟨x0, x1, x2, x3, x4⟩ := A1.cells5
        clear H1 k1
        go_wp2_with fail
        clear x0 x1 x2 x3 x4
        generalize w1.alloc (.cells #[.int .i64 k9, .string x9, .slice none 0 0, .bool false, .string y9] 32) = W at A1 k2 ⊢
        generalize w1.heap.size = g at A1 ⊢
        refine (H3 _).mono ?_
        rintro e1 w2 ⟨rfl, k5⟩
        have A3 := A1.kept k5 (by simp)
        have k3 := k2.trans k5 (fun z hz => by simp at hz)
        clear H3 A1 k2 k5
        by_cases c1 : bt t (e - 1) = 62
        · rw [c1] at i1
          by_cases c2 : e = t.size
          · have b2 : ((e : Int) == (t.size : Int)) = true := by simp only [beq_iff_eq]; omega
            clear H4 HC A3 c1 c2 g6
            go_wp2_with fail
            refine (from_back (S6 _) k3).mono ?_
            rintro e1 w7 ⟨rfl, k7⟩
            clear S6 k3
            go_wp2
            go_ret
            exact ⟨rfl, k7⟩
          · have b2 : ((e : Int) == (t.size : Int)) = false := by simp only [beq_eq_false_iff_ne, ne_eq]; omega
            have zm : (t.extract 0 e ++ mr).size ≤ 100000 := by rw [cat_size]; have := cut_le t 0 e; omega
            have H2 := fun W => read_any W (t.extract 0 e ++ mr) 0 fg zm
            rw [g6.out (by omega) c1 mr, g1.out] at H2
            unfold rv mv at H2
            simp only [] at H2
            clear c1 c2 g6 zm
            have D3 : Hid (∀ o, Kp [] w (w2.alloc o).drew) := fun o => (k3.alloc o).drew
            have FA : Hid (∀ v2, Kp [] w2.drew v2 → Hid (Pair w (v2.alloc (.cells #[.int .i64 k9, .string x9, .slice none 0 0, .bool false, .string y9] 32)) g v2.heap.size k9 x9 y9)) := fun v2 N => way_a k3 A3 N
            have FB : Hid (∀ v2, Kp [] (w2.alloc (.cells ZT 32)).drew v2 → Hid (Pair w (put5 v2 w2.heap.size (.int .i64 k9) (.string x9) (.slice none 0 0) (.bool false) (.string y9)) g w2.heap.size k9 x9 y9)) := fun v2 N => way_b k3 A3 N
            have n1 : (0 : Int) ≤ (e : Int) := by omega
            have n2 : (e : Int) ≤ (t.size : Int) := by omega
            go_upto_region 11 with fail
            have i7 : ¬ 9223372036854775807 < (t.extract 0 e).size + mr.size := by have := cut_le t 0 e; omega
            go_region_with (first
              | (go_at_call 12; with_reducible show Calls Try.prog 12 _ (World.drew (World.alloc w2 _)) _; refine (H2 _).mono ?_; rintro e1 v2 ⟨rfl, N2⟩; have PZ := FB.out _ N2; obtain ⟨⟨x0, x1, x2, x3, x4⟩, xf⟩ := fresh_b N2; clear N2)
              | (go_at_call 12; refine (H2 _).mono ?_; rintro e1 v2 ⟨rfl, N2⟩; have PZ := FA.out _ N2; clear N2)
              | (go_at_call 9; refine (HC _).mono ?_; rintro e1 v1 ⟨rfl, rfl⟩))
            all_goals
              obtain ⟨P1, P2, P5⟩ := PZ.out
              try unfold put5 at P1 P2 P5
              obtain ⟨y0, y1, y2, y3, y4⟩ := P1.cells5
              obtain ⟨z0, z1, z2, z3, z4⟩ := P2.cells5
              try clear x0 x1 x2 x3 x4 xf
              clear P1 P2 PZ H2 HC D3 FA FB A3 k3 i7
              go_wp2_with fail
              refine (from_back (H4 _) P5).mono ?_
              rintro e1 w5 ⟨rfl, k6⟩
              clear H4 y0 y1 y2 y3 y4 z0 z1 z2 z3 z4 P5
              go_wp2_with fail
              refine (from_back (S6 _) k6).mono ?_
              rintro e1 w7 ⟨rfl, k7⟩
              clear S6 k6
              go_wp2
              go_ret
              exact ⟨rfl, k7⟩
        · have b1 : (bt t (e - 1) != 62) = true := by simpa using c1
          have b1' : (bt t (e - 1) == 62) = false := by simpa using c1
          generalize bt t (e - 1) = z at i1 b1 b1'
          clear H4 HC A3 c1 g6
          go_wp2_with fail
          refine (from_back (S6 _) k3).mono ?_
          rintro e1 w7 ⟨rfl, k7⟩
          clear S6 k3
          go_wp2
          go_ret
          exact ⟨rfl, k7⟩

end Go.Proofs.Ythdlmglnieomeaa
