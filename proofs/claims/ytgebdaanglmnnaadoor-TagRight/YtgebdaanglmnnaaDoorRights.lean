/-
  The walk of TagRight: whatever it is given, it answers true, and leaves what was there as it was.
-/
import Derived.Test.YtgebdaanglmnnaaDoorOpens
import Derived.Test.YtgebdaanglmnnaaDoorJust
import Derived.Deep.RegionWith
import Derived.Deep.CutRange
namespace Go.Proofs.YtgebdaanglmnnaaDoor
open Go.RowKit Utf
set_option linter.unusedVariables false

/-- Two tokens alike, in two blocks, and their lists. -/
def Pair (w wx : World) (g g12 : Nat) (k : Int) (x y : ByteArray) (l : List Att) (b : Bool) (bo : Option Addr) (m d : Nat) (b2 : Option Addr) (m2 d2 : Nat) : Prop :=
  At wx g #[.int .i64 k, .string x, .slice bo m d, .bool b, .string y] 37 ∧ At wx g12 #[.int .i64 k, .string x, .slice b2 m2 d2, .bool b, .string y] 37 ∧ Rp wx bo m d l ∧ Rp wx b2 m2 d2 l ∧ Kp [] w wx

theorem way_a {w w0 w2 v2 : World} {g : Nat} {k : Int} {x y : ByteArray} {l : List Att} {b : Bool} {bo b2 : Option Addr} {m d m2 d2 : Nat} (k3 : Kp [] w w2) (A3 : At w2 g #[.int .i64 k, .string x, .slice bo m d, .bool b, .string y] 37) (M3 : Mp w0 w2 bo m d l) (N : Mp w2.drew v2 b2 m2 d2 l) :
    Pair w (v2.alloc (.cells #[.int .i64 k, .string x, .slice b2 m2 d2, .bool b, .string y] 37)) g v2.heap.size k x y l b bo m d b2 m2 d2 := by
  have q1 : Kp [] w2 v2 := (Kp.refl [] w2).drew.trans N.kp (fun z hz => by simp at hz)
  have q2 : Kp [] w2 (v2.alloc (.cells #[.int .i64 k, .string x, .slice b2 m2 d2, .bool b, .string y] 37)) := q1.alloc _
  exact ⟨A3.kept q2 (by simp), At.new _ _ _, (M3.kept q2).rp, (N.kept ((Kp.refl [] v2).alloc _)).rp, k3.trans q2 (fun z hz => by simp at hz)⟩

theorem way_b {w w0 w2 v2 : World} {g : Nat} {k : Int} {x y : ByteArray} {l : List Att} {b : Bool} {bo b2 : Option Addr} {m d m2 d2 : Nat} (k3 : Kp [] w w2) (A3 : At w2 g #[.int .i64 k, .string x, .slice bo m d, .bool b, .string y] 37) (M3 : Mp w0 w2 bo m d l) (N : Mp (w2.alloc (.cells ZT 37)).drew v2 b2 m2 d2 l) :
    Pair w (put5 v2 w2.heap.size (.int .i64 k) (.string x) (.slice b2 m2 d2) (.bool b) (.string y)) g w2.heap.size k x y l b bo m d b2 m2 d2 := by
  have q1 : Kp [] w2 v2 := ((Kp.refl [] w2).alloc (.cells ZT 37)).drew.trans N.kp (fun z hz => by simp at hz)
  have q0 : Kp [] (w2.alloc (.cells ZT 37)) v2 := (Kp.refl [] _).drew.trans N.kp (fun z hz => by simp at hz)
  have hz : (w2.alloc (.cells ZT 37)).drew.heap.size = w2.heap.size + 1 := by
    show (w2.alloc (.cells ZT 37)).heap.size = _
    simp
  have B := (At.new w2 ZT 37).kept q0 (by simp)
  have P := B.put5 (.int .i64 k) (.string x) (.slice b2 m2 d2) (.bool b) (.string y)
  have hg := A3.lt
  have q2 : Kp [] w2 (put5 v2 w2.heap.size (.int .i64 k) (.string x) (.slice b2 m2 d2) (.bool b) (.string y)) := q1.put5 (Or.inr (Nat.le_refl _)) _ _ _ _ _
  have q3 : Kp [w2.heap.size] v2 (put5 v2 w2.heap.size (.int .i64 k) (.string x) (.slice b2 m2 d2) (.bool b) (.string y)) := (Kp.refl _ _).put5 (Or.inl (by simp)) _ _ _ _ _
  have N2 : OwnK 2 (put5 v2 w2.heap.size (.int .i64 k) (.string x) (.slice b2 m2 d2) (.bool b) (.string y)) 31 (.slice b2 m2 d2) m2 (cs l) := N.1.keep q3 (fun z h => by
    have h1 := N.2.2 z h
    rw [hz] at h1
    simp only [List.mem_singleton]
    omega)
  exact ⟨A3.kept q2 (by simp), P, (M3.kept q2).rp, Rp.of_own N2, k3.trans q2 (fun z hz => by simp at hz)⟩

theorem fresh_b {w2 v2 : World} {l : List Att} {b2 : Option Addr} {m2 d2 : Nat} (N : Mp (w2.alloc (.cells ZT 37)).drew v2 b2 m2 d2 l) :
    (v2.cell? ⟨w2.heap.size, 0, none⟩ = some (.int .i64 0) ∧ v2.cell? ⟨w2.heap.size, 1, none⟩ = some (.string ⟨#[]⟩) ∧ v2.cell? ⟨w2.heap.size, 2, none⟩ = some (.slice none 0 0) ∧ v2.cell? ⟨w2.heap.size, 3, none⟩ = some (.bool false) ∧ v2.cell? ⟨w2.heap.size, 4, none⟩ = some (.string ⟨#[]⟩)) ∧ ∀ j, v2.frozen? ⟨w2.heap.size, j, none⟩ = false := by
  have q0 : Kp [] (w2.alloc (.cells ZT 37)) v2 := (Kp.refl [] _).drew.trans N.kp (fun z hz => by simp at hz)
  have B := (At.new w2 ZT 37).kept q0 (by simp)
  exact ⟨B.cells5, fun j => B.free j⟩

set_option maxRecDepth 100000 in
set_option maxHeartbeats 8000000 in
theorem rights_false (w : World) (hn : Nm w) (hi : In w) (ao : Option Addr) (n c : Nat) (F : Nat → Int) (hl : Is w ao n c F) (s0 : ByteArray) (hsz : (if 30 < s0.size then s0.extract 0 30 else s0).size ≤ 30) :
    Calls Tryd.prog 6 #[.slice ao n c, .bool false, .string s0] w fun e w' => e = .returned (.bool true) ∧ Kp [] w w' := by
    go_enter Tryd.func6, Tryd.ntmps6
    go_wp2
    go_loopw [7, 8] (fun x i wr => ∃ (k : Nat) (t : ByteArray), i = .int .i64 (k : Int) ∧ x = .string t ∧ k ≤ n ∧ k ≤ 20 ∧ t.size ≤ 3 + 6 * k ∧ Hid (Opn t 2 1) ∧ Kp [] w wr) (fun _ i _ => 20 - (intOf i).toNat)
    case atStart => exact ⟨0, ⟨#[60, 97]⟩, rfl, rfl, by omega, by omega, by decide, opn_start, Kp.refl _ _⟩
    case round =>
      obtain ⟨k, t, rfl, rfl, hk1, hk2, ht, hO, kr⟩ := hrel
      by_cases h1 : k < n
      · by_cases h2 : k < 20
        · obtain ⟨b, o, rfl, hc⟩ := (hl.kept kr).2 k h1
          generalize F k = y at hc
          go_wp2_with fail
          refine (piece_any _ y).mono ?_
          rintro e w2 ⟨p, rfl, hp, k2⟩
          have i7 : ¬ 9223372036854775807 < t.size + p.size := by omega
          go_wp2
          go_roundw
          case rel => exact ⟨k + 1, t ++ p, by go_num, rfl, by omega, by omega, by rw [cat_size]; omega, hO.out.cat p, kr.trans k2 (fun x hx => by simp at hx)⟩
          case measure => simp [intOf]; omega
        · skip
          have hz : t.size ≤ 130 := by omega
          have hz2 : (t.size : Int) ≤ 130 := by omega
          have H1 := tread_any _ (hn.kept kr) (hi.kept kr) t 0 (by omega)
          have S6 := fun W (kk : Kp [] w W) => known_any W (hn.kept kk) (hi.kept kk)
          have hlen := tag_len t 0
          clear hl
          rcases hO.out.facts (by omega) with g | ⟨e, g1, g2, g3, g4, g5, g6, g7, g8⟩
          · rw [g] at H1
            unfold rdv zt tv at H1
            simp only [] at H1
            clear g hlen hn hi
            go_wp2_with fail
            refine H1.mono ?_
            rintro e w1 ⟨bo, m, d, rfl, M1⟩
            have k1 := (kr.trans M1.kp (fun z hz => by simp at hz)).alloc (.cells #[.int .i64 0, .string ⟨#[]⟩, .slice bo m d, .bool false, .string ⟨#[]⟩] 37)
            clear H1 M1
            go_wp2_with fail
            refine (from_back (S6 _ k1) k1).mono ?_
            rintro e w2 ⟨rfl, k2⟩
            clear S6 k1
            go_wp2
            go_ret
            exact ⟨rfl, k2⟩
          · have HC := fun W => cut_any W s0 30 (by omega)
            generalize (if 30 < s0.size then s0.extract 0 30 else s0) = mr at HC hsz
            have zm : (t.extract 0 e ++ mr).size ≤ 380 := by rw [cat_size]; have := cut_le t 0 e; omega
            have H2 := fun W (kk : Kp [] w W) => tread_any W (hn.kept kk) (hi.kept kk) (t.extract 0 e ++ mr) 0 zm
            rw [g8 mr] at H2
            have i1 := index_at t ((e : Int) - 1) (e - 1) (by omega) (by omega)
            rw [g4] at i1
            generalize tagF t 0 = Z at H1 H2 hlen g1 g5 g6 g7
            obtain ⟨⟨k9, x9, l9, y9, v9⟩, m9, ok9⟩ := Z
            simp only at H1 H2 hlen g1 g5 g6 g7
            obtain ⟨rfl, rfl⟩ : m9 = (e : Int) ∧ ok9 = true := by simpa using g1
            have H3 := fun W ao n c (hr : Rp W ao n c l9) => right_any W k9 x9 v9 l9 y9 ao n c hr (by have := hr.len; omega) g6 (by omega)
            rw [g5] at H3
            have H4 := fun W ao n c bo p d (hr : Rp W ao n c l9) (hq : Rp W bo p d l9) => book_tsame_any W k9 k9 x9 x9 v9 v9 l9 l9 y9 y9 ao bo n c p d hr hq (by have := hr.len; omega) (by have := hq.len; omega)
            rw [decide_eq_true rfl] at H4
            unfold rdv at H1 H2
            unfold tv at H1 H2 H3 H4
            simp only [] at H1 H2
            clear g1 g5 g6 g7 g8 hlen hn hi zm g4 hO
            go_wp2_with fail
            refine H1.mono ?_
            rintro e1 w1 ⟨bo, m, d, rfl, M1⟩
            have A1 := At.new w1 #[.int .i64 k9, .string x9, .slice bo m d, .bool y9, .string v9] 37
            have k1 := (kr.trans M1.kp (fun z hz => by simp at hz)).alloc (.cells #[.int .i64 k9, .string x9, .slice bo m d, .bool y9, .string v9] 37)
            have M2 := M1.kept ((Kp.refl [] w1).alloc (.cells #[.int .i64 k9, .string x9, .slice bo m d, .bool y9, .string v9] 37))
            clear H1 M1
            obtain ⟨x0, x1, x2, x3, x4⟩ := A1.cells5
            go_wp2_with fail
            clear x0 x1 x2 x3 x4
            generalize w1.alloc (.cells #[.int .i64 k9, .string x9, .slice bo m d, .bool y9, .string v9] 37) = W at A1 k1 M2 ⊢
            generalize w1.heap.size = g at A1 ⊢
            refine (H3 _ _ _ _ M2.rp).mono ?_
            rintro e1 w2 ⟨rfl, k2⟩
            have A3 := A1.kept k2 (by simp)
            have M3 := M2.kept k2
            have k3 := k1.trans k2 (fun z hz => by simp at hz)
            clear H3 A1 M2 k1 k2
            have D3 : Hid (∀ o, Kp [] w (w2.alloc o).drew) := fun o => (k3.alloc o).drew
            have D4 : Hid (Kp [] w w2.drew) := k3.drew
            have FA : Hid (∀ v2 b2 m2 d2, Mp w2.drew v2 b2 m2 d2 l9 → Hid (Pair w (v2.alloc (.cells #[.int .i64 k9, .string x9, .slice b2 m2 d2, .bool y9, .string v9] 37)) g v2.heap.size k9 x9 v9 l9 y9 bo m d b2 m2 d2)) := fun v2 b2 m2 d2 N => way_a k3 A3 M3 N
            have FB : Hid (∀ v2 b2 m2 d2, Mp (w2.alloc (.cells ZT 37)).drew v2 b2 m2 d2 l9 → Hid (Pair w (put5 v2 w2.heap.size (.int .i64 k9) (.string x9) (.slice b2 m2 d2) (.bool y9) (.string v9)) g w2.heap.size k9 x9 v9 l9 y9 bo m d b2 m2 d2)) := fun v2 b2 m2 d2 N => way_b k3 A3 M3 N
            have n1 : (0 : Int) ≤ (e : Int) := by omega
            have n2 : (e : Int) ≤ (t.size : Int) := by omega
            go_upto_region 13 with fail
            have i7 : ¬ 9223372036854775807 < (t.extract 0 e).size + mr.size := by have := cut_le t 0 e; omega
            go_region_with (first
              | (go_at_call 16; with_reducible show Calls Tryd.prog 16 _ (World.drew (World.alloc w2 _)) _; refine (H2 _ (D3.out _)).mono ?_; rintro e1 v2 ⟨b2, m2, d2, rfl, N2⟩; have PZ := FB.out _ _ _ _ N2; obtain ⟨⟨x0, x1, x2, x3, x4⟩, xf⟩ := fresh_b N2; clear N2)
              | (go_at_call 16; refine (H2 _ D4.out).mono ?_; rintro e1 v2 ⟨b2, m2, d2, rfl, N2⟩; have PZ := FA.out _ _ _ _ N2; clear N2)
              | (go_at_call 11; refine (HC _).mono ?_; rintro e1 v1 ⟨rfl, rfl⟩))
            all_goals
              obtain ⟨P1, P2, P3, P4, P5⟩ := PZ.out
              try unfold put5 at P1 P2 P3 P4 P5
              obtain ⟨y0, y1, y2, y3, y4⟩ := P1.cells5
              obtain ⟨z0, z1, z2, z3, z4⟩ := P2.cells5
              try clear x0 x1 x2 x3 x4 xf
              clear P1 P2 PZ H2 HC D3 D4 FA FB A3 M3 k3 i7
              go_wp2_with fail
              refine (H4 _ _ _ _ _ _ _ P3 P4).mono ?_
              rintro e1 w5 ⟨rfl, k5⟩
              have k6 := P5.trans k5 (fun z hz => by simp at hz)
              clear H4 y0 y1 y2 y3 y4 z0 z1 z2 z3 z4 P3 P4 P5 k5
              go_wp2_with fail
              refine (from_back (S6 _ k6) k6).mono ?_
              rintro e1 w7 ⟨rfl, k7⟩
              clear S6 k6
              go_wp2
              go_ret
              exact ⟨rfl, k7⟩
      · skip
        have hz : t.size ≤ 130 := by omega
        have hz2 : (t.size : Int) ≤ 130 := by omega
        have H1 := tread_any _ (hn.kept kr) (hi.kept kr) t 0 (by omega)
        have S6 := fun W (kk : Kp [] w W) => known_any W (hn.kept kk) (hi.kept kk)
        have hlen := tag_len t 0
        clear hl
        rcases hO.out.facts (by omega) with g | ⟨e, g1, g2, g3, g4, g5, g6, g7, g8⟩
        · rw [g] at H1
          unfold rdv zt tv at H1
          simp only [] at H1
          clear g hlen hn hi
          go_wp2_with fail
          refine H1.mono ?_
          rintro e w1 ⟨bo, m, d, rfl, M1⟩
          have k1 := (kr.trans M1.kp (fun z hz => by simp at hz)).alloc (.cells #[.int .i64 0, .string ⟨#[]⟩, .slice bo m d, .bool false, .string ⟨#[]⟩] 37)
          clear H1 M1
          go_wp2_with fail
          refine (from_back (S6 _ k1) k1).mono ?_
          rintro e w2 ⟨rfl, k2⟩
          clear S6 k1
          go_wp2
          go_ret
          exact ⟨rfl, k2⟩
        · have HC := fun W => cut_any W s0 30 (by omega)
          generalize (if 30 < s0.size then s0.extract 0 30 else s0) = mr at HC hsz
          have zm : (t.extract 0 e ++ mr).size ≤ 380 := by rw [cat_size]; have := cut_le t 0 e; omega
          have H2 := fun W (kk : Kp [] w W) => tread_any W (hn.kept kk) (hi.kept kk) (t.extract 0 e ++ mr) 0 zm
          rw [g8 mr] at H2
          have i1 := index_at t ((e : Int) - 1) (e - 1) (by omega) (by omega)
          rw [g4] at i1
          generalize tagF t 0 = Z at H1 H2 hlen g1 g5 g6 g7
          obtain ⟨⟨k9, x9, l9, y9, v9⟩, m9, ok9⟩ := Z
          simp only at H1 H2 hlen g1 g5 g6 g7
          obtain ⟨rfl, rfl⟩ : m9 = (e : Int) ∧ ok9 = true := by simpa using g1
          have H3 := fun W ao n c (hr : Rp W ao n c l9) => right_any W k9 x9 v9 l9 y9 ao n c hr (by have := hr.len; omega) g6 (by omega)
          rw [g5] at H3
          have H4 := fun W ao n c bo p d (hr : Rp W ao n c l9) (hq : Rp W bo p d l9) => book_tsame_any W k9 k9 x9 x9 v9 v9 l9 l9 y9 y9 ao bo n c p d hr hq (by have := hr.len; omega) (by have := hq.len; omega)
          rw [decide_eq_true rfl] at H4
          unfold rdv at H1 H2
          unfold tv at H1 H2 H3 H4
          simp only [] at H1 H2
          clear g1 g5 g6 g7 g8 hlen hn hi zm g4 hO
          go_wp2_with fail
          refine H1.mono ?_
          rintro e1 w1 ⟨bo, m, d, rfl, M1⟩
          have A1 := At.new w1 #[.int .i64 k9, .string x9, .slice bo m d, .bool y9, .string v9] 37
          have k1 := (kr.trans M1.kp (fun z hz => by simp at hz)).alloc (.cells #[.int .i64 k9, .string x9, .slice bo m d, .bool y9, .string v9] 37)
          have M2 := M1.kept ((Kp.refl [] w1).alloc (.cells #[.int .i64 k9, .string x9, .slice bo m d, .bool y9, .string v9] 37))
          clear H1 M1
          obtain ⟨x0, x1, x2, x3, x4⟩ := A1.cells5
          go_wp2_with fail
          clear x0 x1 x2 x3 x4
          generalize w1.alloc (.cells #[.int .i64 k9, .string x9, .slice bo m d, .bool y9, .string v9] 37) = W at A1 k1 M2 ⊢
          generalize w1.heap.size = g at A1 ⊢
          refine (H3 _ _ _ _ M2.rp).mono ?_
          rintro e1 w2 ⟨rfl, k2⟩
          have A3 := A1.kept k2 (by simp)
          have M3 := M2.kept k2
          have k3 := k1.trans k2 (fun z hz => by simp at hz)
          clear H3 A1 M2 k1 k2
          have D3 : Hid (∀ o, Kp [] w (w2.alloc o).drew) := fun o => (k3.alloc o).drew
          have D4 : Hid (Kp [] w w2.drew) := k3.drew
          have FA : Hid (∀ v2 b2 m2 d2, Mp w2.drew v2 b2 m2 d2 l9 → Hid (Pair w (v2.alloc (.cells #[.int .i64 k9, .string x9, .slice b2 m2 d2, .bool y9, .string v9] 37)) g v2.heap.size k9 x9 v9 l9 y9 bo m d b2 m2 d2)) := fun v2 b2 m2 d2 N => way_a k3 A3 M3 N
          have FB : Hid (∀ v2 b2 m2 d2, Mp (w2.alloc (.cells ZT 37)).drew v2 b2 m2 d2 l9 → Hid (Pair w (put5 v2 w2.heap.size (.int .i64 k9) (.string x9) (.slice b2 m2 d2) (.bool y9) (.string v9)) g w2.heap.size k9 x9 v9 l9 y9 bo m d b2 m2 d2)) := fun v2 b2 m2 d2 N => way_b k3 A3 M3 N
          have n1 : (0 : Int) ≤ (e : Int) := by omega
          have n2 : (e : Int) ≤ (t.size : Int) := by omega
          go_upto_region 13 with fail
          have i7 : ¬ 9223372036854775807 < (t.extract 0 e).size + mr.size := by have := cut_le t 0 e; omega
          go_region_with (first
            | (go_at_call 16; with_reducible show Calls Tryd.prog 16 _ (World.drew (World.alloc w2 _)) _; refine (H2 _ (D3.out _)).mono ?_; rintro e1 v2 ⟨b2, m2, d2, rfl, N2⟩; have PZ := FB.out _ _ _ _ N2; obtain ⟨⟨x0, x1, x2, x3, x4⟩, xf⟩ := fresh_b N2; clear N2)
            | (go_at_call 16; refine (H2 _ D4.out).mono ?_; rintro e1 v2 ⟨b2, m2, d2, rfl, N2⟩; have PZ := FA.out _ _ _ _ N2; clear N2)
            | (go_at_call 11; refine (HC _).mono ?_; rintro e1 v1 ⟨rfl, rfl⟩))
          all_goals
            obtain ⟨P1, P2, P3, P4, P5⟩ := PZ.out
            try unfold put5 at P1 P2 P3 P4 P5
            obtain ⟨y0, y1, y2, y3, y4⟩ := P1.cells5
            obtain ⟨z0, z1, z2, z3, z4⟩ := P2.cells5
            try clear x0 x1 x2 x3 x4 xf
            clear P1 P2 PZ H2 HC D3 D4 FA FB A3 M3 k3 i7
            go_wp2_with fail
            refine (H4 _ _ _ _ _ _ _ P3 P4).mono ?_
            rintro e1 w5 ⟨rfl, k5⟩
            have k6 := P5.trans k5 (fun z hz => by simp at hz)
            clear H4 y0 y1 y2 y3 y4 z0 z1 z2 z3 z4 P3 P4 P5 k5
            go_wp2_with fail
            refine (from_back (S6 _ k6) k6).mono ?_
            rintro e1 w7 ⟨rfl, k7⟩
            clear S6 k6
            go_wp2
            go_ret
            exact ⟨rfl, k7⟩

set_option maxRecDepth 100000 in
set_option maxHeartbeats 8000000 in
theorem rights_true (w : World) (hn : Nm w) (hi : In w) (ao : Option Addr) (n c : Nat) (F : Nat → Int) (hl : Is w ao n c F) (s0 : ByteArray) (hsz : (if 30 < s0.size then s0.extract 0 30 else s0).size ≤ 30) :
    Calls Tryd.prog 6 #[.slice ao n c, .bool true, .string s0] w fun e w' => e = .returned (.bool true) ∧ Kp [] w w' := by
    go_enter Tryd.func6, Tryd.ntmps6
    go_wp2
    go_loopw [7, 8] (fun x i wr => ∃ (k : Nat) (t : ByteArray), i = .int .i64 (k : Int) ∧ x = .string t ∧ k ≤ n ∧ k ≤ 20 ∧ t.size ≤ 3 + 6 * k ∧ Hid (Opn t 3 2) ∧ Kp [] w wr) (fun _ i _ => 20 - (intOf i).toNat)
    case atStart => exact ⟨0, ⟨#[60, 47, 97]⟩, rfl, rfl, by omega, by omega, by decide, opn_end, Kp.refl _ _⟩
    case round =>
      obtain ⟨k, t, rfl, rfl, hk1, hk2, ht, hO, kr⟩ := hrel
      by_cases h1 : k < n
      · by_cases h2 : k < 20
        · obtain ⟨b, o, rfl, hc⟩ := (hl.kept kr).2 k h1
          generalize F k = y at hc
          go_wp2_with fail
          refine (piece_any _ y).mono ?_
          rintro e w2 ⟨p, rfl, hp, k2⟩
          have i7 : ¬ 9223372036854775807 < t.size + p.size := by omega
          go_wp2
          go_roundw
          case rel => exact ⟨k + 1, t ++ p, by go_num, rfl, by omega, by omega, by rw [cat_size]; omega, hO.out.cat p, kr.trans k2 (fun x hx => by simp at hx)⟩
          case measure => simp [intOf]; omega
        · skip
          have hz : t.size ≤ 130 := by omega
          have hz2 : (t.size : Int) ≤ 130 := by omega
          have H1 := tread_any _ (hn.kept kr) (hi.kept kr) t 0 (by omega)
          have S6 := fun W (kk : Kp [] w W) => known_any W (hn.kept kk) (hi.kept kk)
          have hlen := tag_len t 0
          clear hl
          rcases hO.out.facts (by omega) with g | ⟨e, g1, g2, g3, g4, g5, g6, g7, g8⟩
          · rw [g] at H1
            unfold rdv zt tv at H1
            simp only [] at H1
            clear g hlen hn hi
            go_wp2_with fail
            refine H1.mono ?_
            rintro e w1 ⟨bo, m, d, rfl, M1⟩
            have k1 := (kr.trans M1.kp (fun z hz => by simp at hz)).alloc (.cells #[.int .i64 0, .string ⟨#[]⟩, .slice bo m d, .bool false, .string ⟨#[]⟩] 37)
            clear H1 M1
            go_wp2_with fail
            refine (from_back (S6 _ k1) k1).mono ?_
            rintro e w2 ⟨rfl, k2⟩
            clear S6 k1
            go_wp2
            go_ret
            exact ⟨rfl, k2⟩
          · have HC := fun W => cut_any W s0 30 (by omega)
            generalize (if 30 < s0.size then s0.extract 0 30 else s0) = mr at HC hsz
            have zm : (t.extract 0 e ++ mr).size ≤ 380 := by rw [cat_size]; have := cut_le t 0 e; omega
            have H2 := fun W (kk : Kp [] w W) => tread_any W (hn.kept kk) (hi.kept kk) (t.extract 0 e ++ mr) 0 zm
            rw [g8 mr] at H2
            have i1 := index_at t ((e : Int) - 1) (e - 1) (by omega) (by omega)
            rw [g4] at i1
            generalize tagF t 0 = Z at H1 H2 hlen g1 g5 g6 g7
            obtain ⟨⟨k9, x9, l9, y9, v9⟩, m9, ok9⟩ := Z
            simp only at H1 H2 hlen g1 g5 g6 g7
            obtain ⟨rfl, rfl⟩ : m9 = (e : Int) ∧ ok9 = true := by simpa using g1
            have H3 := fun W ao n c (hr : Rp W ao n c l9) => right_any W k9 x9 v9 l9 y9 ao n c hr (by have := hr.len; omega) g6 (by omega)
            rw [g5] at H3
            have H4 := fun W ao n c bo p d (hr : Rp W ao n c l9) (hq : Rp W bo p d l9) => book_tsame_any W k9 k9 x9 x9 v9 v9 l9 l9 y9 y9 ao bo n c p d hr hq (by have := hr.len; omega) (by have := hq.len; omega)
            rw [decide_eq_true rfl] at H4
            unfold rdv at H1 H2
            unfold tv at H1 H2 H3 H4
            simp only [] at H1 H2
            clear g1 g5 g6 g7 g8 hlen hn hi zm g4 hO
            go_wp2_with fail
            refine H1.mono ?_
            rintro e1 w1 ⟨bo, m, d, rfl, M1⟩
            have A1 := At.new w1 #[.int .i64 k9, .string x9, .slice bo m d, .bool y9, .string v9] 37
            have k1 := (kr.trans M1.kp (fun z hz => by simp at hz)).alloc (.cells #[.int .i64 k9, .string x9, .slice bo m d, .bool y9, .string v9] 37)
            have M2 := M1.kept ((Kp.refl [] w1).alloc (.cells #[.int .i64 k9, .string x9, .slice bo m d, .bool y9, .string v9] 37))
            clear H1 M1
            obtain ⟨x0, x1, x2, x3, x4⟩ := A1.cells5
            go_wp2_with fail
            clear x0 x1 x2 x3 x4
            generalize w1.alloc (.cells #[.int .i64 k9, .string x9, .slice bo m d, .bool y9, .string v9] 37) = W at A1 k1 M2 ⊢
            generalize w1.heap.size = g at A1 ⊢
            refine (H3 _ _ _ _ M2.rp).mono ?_
            rintro e1 w2 ⟨rfl, k2⟩
            have A3 := A1.kept k2 (by simp)
            have M3 := M2.kept k2
            have k3 := k1.trans k2 (fun z hz => by simp at hz)
            clear H3 A1 M2 k1 k2
            have D3 : Hid (∀ o, Kp [] w (w2.alloc o).drew) := fun o => (k3.alloc o).drew
            have D4 : Hid (Kp [] w w2.drew) := k3.drew
            have FA : Hid (∀ v2 b2 m2 d2, Mp w2.drew v2 b2 m2 d2 l9 → Hid (Pair w (v2.alloc (.cells #[.int .i64 k9, .string x9, .slice b2 m2 d2, .bool y9, .string v9] 37)) g v2.heap.size k9 x9 v9 l9 y9 bo m d b2 m2 d2)) := fun v2 b2 m2 d2 N => way_a k3 A3 M3 N
            have FB : Hid (∀ v2 b2 m2 d2, Mp (w2.alloc (.cells ZT 37)).drew v2 b2 m2 d2 l9 → Hid (Pair w (put5 v2 w2.heap.size (.int .i64 k9) (.string x9) (.slice b2 m2 d2) (.bool y9) (.string v9)) g w2.heap.size k9 x9 v9 l9 y9 bo m d b2 m2 d2)) := fun v2 b2 m2 d2 N => way_b k3 A3 M3 N
            have n1 : (0 : Int) ≤ (e : Int) := by omega
            have n2 : (e : Int) ≤ (t.size : Int) := by omega
            go_upto_region 13 with fail
            have i7 : ¬ 9223372036854775807 < (t.extract 0 e).size + mr.size := by have := cut_le t 0 e; omega
            go_region_with (first
              | (go_at_call 16; with_reducible show Calls Tryd.prog 16 _ (World.drew (World.alloc w2 _)) _; refine (H2 _ (D3.out _)).mono ?_; rintro e1 v2 ⟨b2, m2, d2, rfl, N2⟩; have PZ := FB.out _ _ _ _ N2; obtain ⟨⟨x0, x1, x2, x3, x4⟩, xf⟩ := fresh_b N2; clear N2)
              | (go_at_call 16; refine (H2 _ D4.out).mono ?_; rintro e1 v2 ⟨b2, m2, d2, rfl, N2⟩; have PZ := FA.out _ _ _ _ N2; clear N2)
              | (go_at_call 11; refine (HC _).mono ?_; rintro e1 v1 ⟨rfl, rfl⟩))
            all_goals
              obtain ⟨P1, P2, P3, P4, P5⟩ := PZ.out
              try unfold put5 at P1 P2 P3 P4 P5
              obtain ⟨y0, y1, y2, y3, y4⟩ := P1.cells5
              obtain ⟨z0, z1, z2, z3, z4⟩ := P2.cells5
              try clear x0 x1 x2 x3 x4 xf
              clear P1 P2 PZ H2 HC D3 D4 FA FB A3 M3 k3 i7
              go_wp2_with fail
              refine (H4 _ _ _ _ _ _ _ P3 P4).mono ?_
              rintro e1 w5 ⟨rfl, k5⟩
              have k6 := P5.trans k5 (fun z hz => by simp at hz)
              clear H4 y0 y1 y2 y3 y4 z0 z1 z2 z3 z4 P3 P4 P5 k5
              go_wp2_with fail
              refine (from_back (S6 _ k6) k6).mono ?_
              rintro e1 w7 ⟨rfl, k7⟩
              clear S6 k6
              go_wp2
              go_ret
              exact ⟨rfl, k7⟩
      · skip
        have hz : t.size ≤ 130 := by omega
        have hz2 : (t.size : Int) ≤ 130 := by omega
        have H1 := tread_any _ (hn.kept kr) (hi.kept kr) t 0 (by omega)
        have S6 := fun W (kk : Kp [] w W) => known_any W (hn.kept kk) (hi.kept kk)
        have hlen := tag_len t 0
        clear hl
        rcases hO.out.facts (by omega) with g | ⟨e, g1, g2, g3, g4, g5, g6, g7, g8⟩
        · rw [g] at H1
          unfold rdv zt tv at H1
          simp only [] at H1
          clear g hlen hn hi
          go_wp2_with fail
          refine H1.mono ?_
          rintro e w1 ⟨bo, m, d, rfl, M1⟩
          have k1 := (kr.trans M1.kp (fun z hz => by simp at hz)).alloc (.cells #[.int .i64 0, .string ⟨#[]⟩, .slice bo m d, .bool false, .string ⟨#[]⟩] 37)
          clear H1 M1
          go_wp2_with fail
          refine (from_back (S6 _ k1) k1).mono ?_
          rintro e w2 ⟨rfl, k2⟩
          clear S6 k1
          go_wp2
          go_ret
          exact ⟨rfl, k2⟩
        · have HC := fun W => cut_any W s0 30 (by omega)
          generalize (if 30 < s0.size then s0.extract 0 30 else s0) = mr at HC hsz
          have zm : (t.extract 0 e ++ mr).size ≤ 380 := by rw [cat_size]; have := cut_le t 0 e; omega
          have H2 := fun W (kk : Kp [] w W) => tread_any W (hn.kept kk) (hi.kept kk) (t.extract 0 e ++ mr) 0 zm
          rw [g8 mr] at H2
          have i1 := index_at t ((e : Int) - 1) (e - 1) (by omega) (by omega)
          rw [g4] at i1
          generalize tagF t 0 = Z at H1 H2 hlen g1 g5 g6 g7
          obtain ⟨⟨k9, x9, l9, y9, v9⟩, m9, ok9⟩ := Z
          simp only at H1 H2 hlen g1 g5 g6 g7
          obtain ⟨rfl, rfl⟩ : m9 = (e : Int) ∧ ok9 = true := by simpa using g1
          have H3 := fun W ao n c (hr : Rp W ao n c l9) => right_any W k9 x9 v9 l9 y9 ao n c hr (by have := hr.len; omega) g6 (by omega)
          rw [g5] at H3
          have H4 := fun W ao n c bo p d (hr : Rp W ao n c l9) (hq : Rp W bo p d l9) => book_tsame_any W k9 k9 x9 x9 v9 v9 l9 l9 y9 y9 ao bo n c p d hr hq (by have := hr.len; omega) (by have := hq.len; omega)
          rw [decide_eq_true rfl] at H4
          unfold rdv at H1 H2
          unfold tv at H1 H2 H3 H4
          simp only [] at H1 H2
          clear g1 g5 g6 g7 g8 hlen hn hi zm g4 hO
          go_wp2_with fail
          refine H1.mono ?_
          rintro e1 w1 ⟨bo, m, d, rfl, M1⟩
          have A1 := At.new w1 #[.int .i64 k9, .string x9, .slice bo m d, .bool y9, .string v9] 37
          have k1 := (kr.trans M1.kp (fun z hz => by simp at hz)).alloc (.cells #[.int .i64 k9, .string x9, .slice bo m d, .bool y9, .string v9] 37)
          have M2 := M1.kept ((Kp.refl [] w1).alloc (.cells #[.int .i64 k9, .string x9, .slice bo m d, .bool y9, .string v9] 37))
          clear H1 M1
          obtain ⟨x0, x1, x2, x3, x4⟩ := A1.cells5
          go_wp2_with fail
          clear x0 x1 x2 x3 x4
          generalize w1.alloc (.cells #[.int .i64 k9, .string x9, .slice bo m d, .bool y9, .string v9] 37) = W at A1 k1 M2 ⊢
          generalize w1.heap.size = g at A1 ⊢
          refine (H3 _ _ _ _ M2.rp).mono ?_
          rintro e1 w2 ⟨rfl, k2⟩
          have A3 := A1.kept k2 (by simp)
          have M3 := M2.kept k2
          have k3 := k1.trans k2 (fun z hz => by simp at hz)
          clear H3 A1 M2 k1 k2
          have D3 : Hid (∀ o, Kp [] w (w2.alloc o).drew) := fun o => (k3.alloc o).drew
          have D4 : Hid (Kp [] w w2.drew) := k3.drew
          have FA : Hid (∀ v2 b2 m2 d2, Mp w2.drew v2 b2 m2 d2 l9 → Hid (Pair w (v2.alloc (.cells #[.int .i64 k9, .string x9, .slice b2 m2 d2, .bool y9, .string v9] 37)) g v2.heap.size k9 x9 v9 l9 y9 bo m d b2 m2 d2)) := fun v2 b2 m2 d2 N => way_a k3 A3 M3 N
          have FB : Hid (∀ v2 b2 m2 d2, Mp (w2.alloc (.cells ZT 37)).drew v2 b2 m2 d2 l9 → Hid (Pair w (put5 v2 w2.heap.size (.int .i64 k9) (.string x9) (.slice b2 m2 d2) (.bool y9) (.string v9)) g w2.heap.size k9 x9 v9 l9 y9 bo m d b2 m2 d2)) := fun v2 b2 m2 d2 N => way_b k3 A3 M3 N
          have n1 : (0 : Int) ≤ (e : Int) := by omega
          have n2 : (e : Int) ≤ (t.size : Int) := by omega
          go_upto_region 13 with fail
          have i7 : ¬ 9223372036854775807 < (t.extract 0 e).size + mr.size := by have := cut_le t 0 e; omega
          go_region_with (first
            | (go_at_call 16; with_reducible show Calls Tryd.prog 16 _ (World.drew (World.alloc w2 _)) _; refine (H2 _ (D3.out _)).mono ?_; rintro e1 v2 ⟨b2, m2, d2, rfl, N2⟩; have PZ := FB.out _ _ _ _ N2; obtain ⟨⟨x0, x1, x2, x3, x4⟩, xf⟩ := fresh_b N2; clear N2)
            | (go_at_call 16; refine (H2 _ D4.out).mono ?_; rintro e1 v2 ⟨b2, m2, d2, rfl, N2⟩; have PZ := FA.out _ _ _ _ N2; clear N2)
            | (go_at_call 11; refine (HC _).mono ?_; rintro e1 v1 ⟨rfl, rfl⟩))
          all_goals
            obtain ⟨P1, P2, P3, P4, P5⟩ := PZ.out
            try unfold put5 at P1 P2 P3 P4 P5
            obtain ⟨y0, y1, y2, y3, y4⟩ := P1.cells5
            obtain ⟨z0, z1, z2, z3, z4⟩ := P2.cells5
            try clear x0 x1 x2 x3 x4 xf
            clear P1 P2 PZ H2 HC D3 D4 FA FB A3 M3 k3 i7
            go_wp2_with fail
            refine (H4 _ _ _ _ _ _ _ P3 P4).mono ?_
            rintro e1 w5 ⟨rfl, k5⟩
            have k6 := P5.trans k5 (fun z hz => by simp at hz)
            clear H4 y0 y1 y2 y3 y4 z0 z1 z2 z3 z4 P3 P4 P5 k5
            go_wp2_with fail
            refine (from_back (S6 _ k6) k6).mono ?_
            rintro e1 w7 ⟨rfl, k7⟩
            clear S6 k6
            go_wp2
            go_ret
            exact ⟨rfl, k7⟩

theorem rights_any (w : World) (hn : Nm w) (hi : In w) (ao : Option Addr) (n c : Nat) (F : Nat → Int) (hl : Is w ao n c F) (en : Bool) (s0 : ByteArray) :
    Calls Tryd.prog 6 #[.slice ao n c, .bool en, .string s0] w fun e w' => e = .returned (.bool true) ∧ Kp [] w w' := by
  cases en with
  | false => exact rights_false w hn hi ao n c F hl s0 (cut_size s0 30)
  | true => exact rights_true w hn hi ao n c F hl s0 (cut_size s0 30)

end Go.Proofs.YtgebdaanglmnnaaDoor
