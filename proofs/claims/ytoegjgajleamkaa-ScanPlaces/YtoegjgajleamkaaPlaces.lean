/-
  The walk of ScanPlaces: it answers true, for any arguments, and leaves what was there as it was.
-/
import Derived.Test.YtoegjgajleamkaaFolds
namespace Go.Proofs.Ytoegjgajleamkaa
open Go.RowKit Utf

theorem pl_ge {n : Nat} {p : Int} (h : (n : Int) ≤ p) : pl n p = n := by
  unfold pl
  rw [if_neg (by omega)]
  split <;> omega

theorem starts_pl (w : World) (s : ByteArray) (p : Int) (sub : ByteArray) (K : Nat) (h : pl s.size p = K) (hs : s.size ≤ 100000) : Calls Try.prog 14 #[.string s, .int .i64 p, .string sub] w fun e w' => e = .returned (.bool (st s K sub)) ∧ Kp [] w w' := by
  subst h
  exact starts_any w s p sub hs

theorem fold_pl (w : World) (s : ByteArray) (p : Int) (sub : ByteArray) (K : Nat) (h : pl s.size p = K) (hs : s.size ≤ 100000) : Calls Try.prog 18 #[.string s, .int .i64 p, .string sub] w fun e w' => e = .returned (.bool (fo s K sub)) ∧ Kp [] w w' := by
  subst h
  exact fold_any w s p sub hs

theorem find_pl (w : World) (s : ByteArray) (p : Int) (sub : ByteArray) (K : Nat) (h : pl s.size p = K) (hs : s.size ≤ 100000) (hb : sub.size ≤ 100000) : Calls Try.prog 13 #[.string s, .int .i64 p, .string sub] w fun e w' => e = .returned (.int .i64 (findF s sub K : Int)) ∧ Kp [] w w' := by
  subst h
  exact find_any w s p sub hs hb

theorem until_pl (w : World) (s : ByteArray) (p : Int) (sub : ByteArray) (K : Nat) (h : pl s.size p = K) (hs : s.size ≤ 100000) (hb : sub.size ≤ 100000) : Calls Try.prog 16 #[.string s, .int .i64 p, .string sub] w fun e w' => e = .returned (.int .i64 (untilF s sub K : Int)) ∧ Kp [] w w' := by
  subst h
  exact until_any w s p sub hs hb

theorem skip_pl (w : World) (s : ByteArray) (p : Int) (K : Nat) (h : pl s.size p = K) (hs : s.size ≤ 100000) : Calls Try.prog 15 #[.string s, .int .i64 p] w fun e w' => e = .returned (.int .i64 (skipF s K : Int)) ∧ Kp [] w w' := by
  subst h
  exact still (skip_any w s p hs)

theorem name_pl (w : World) (s : ByteArray) (p : Int) (K : Nat) (h : pl s.size p = K) (hs : s.size ≤ 100000) : Calls Try.prog 17 #[.string s, .int .i64 p] w fun e w' => e = .returned (.int .i64 (nameF s K : Int)) ∧ Kp [] w w' := by
  subst h
  exact still (name_any w s p hs)

set_option maxRecDepth 100000 in
set_option maxHeartbeats 2000000 in
theorem places_any (w : World) (s0 sub0 : ByteArray) (n : Int) : Calls Try.prog 8 #[.string s0, .string sub0, .int .i64 n] w fun e w' => e = .returned (.bool true) ∧ Kp [] w w' := by
  have H1 := head_any w s0 60 60 rfl (by omega)
  have H2 := head_any w sub0 10 10 rfl (by omega)
  have hs := cutB_size s0 60
  have hb := cutB_size sub0 10
  generalize cutB s0 60 = s at H1 hs
  generalize cutB sub0 10 = sub at H2 hb
  have H3 := from_zero w n 1099511627776 (by omega)
  have hv := wi_le n 1099511627776
  generalize wi n 1099511627776 = v at H3 hv
  rw [show ((1099511627776 : Nat) : Int) = 1099511627776 from rfl] at H3
  have HR : Rb (w.alloc (.cells #[Value.int .i64 (-1 - (v : Int)), Value.int .i64 ((s.size : Int) + (v : Int))] 3)) (some ⟨w.heap.size, 0, none⟩) 2 2 [Value.int .i64 (-1 - (v : Int)), Value.int .i64 ((s.size : Int) + (v : Int))] := rb_lit w 3 _ _ 2 rfl rfl (by omega)
  have HK : Kp [] w (w.alloc (.cells #[Value.int .i64 (-1 - (v : Int)), Value.int .i64 ((s.size : Int) + (v : Int))] 3)) := (Kp.refl _ _).alloc _
  go_enter Try.func8, Try.ntmps8
  go_wp2_with fail
  refine H1.mono ?_
  rintro e w1 ⟨rfl, rfl⟩
  clear H1
  go_wp2_with fail
  refine H2.mono ?_
  rintro e w2 ⟨rfl, rfl⟩
  clear H2
  go_wp2_with fail
  refine H3.mono ?_
  rintro e w3 ⟨rfl, rfl⟩
  go_wp2_with fail
  refine H3.mono ?_
  rintro e w4 ⟨rfl, rfl⟩
  clear H3
  go_wp2
  generalize w4.alloc (.cells #[Value.int .i64 (-1 - (v : Int)), Value.int .i64 ((s.size : Int) + (v : Int))] 3) = W at HR HK ⊢
  generalize some (⟨w4.heap.size, 0, none⟩ : Addr) = a1 at HR ⊢
  go_loopw [24] (fun i wr => ∃ p : Nat, p ≤ 2 ∧ i = .int .i64 (p : Int) ∧ Kp [] w4 wr ∧ Rb wr a1 2 2 [Value.int .i64 (-1 - (v : Int)), Value.int .i64 ((s.size : Int) + (v : Int))]) (fun i _ => 2 - (intOf i).toNat)
  case atStart => exact ⟨0, by omega, rfl, HK, HR⟩
  case round =>
    obtain ⟨p, hp, rfl, k0, r0⟩ := hrel
    clear HK HR
    by_cases hlt : p < 2
    · obtain ⟨b, off, rfl, hc⟩ := r0.at' p hlt
      rcases (show p = 0 ∨ p = 1 by omega) with rfl | rfl
      · rw [Nat.add_zero] at hc
        obtain ⟨q, hq⟩ : ∃ q : Int, -1 - (v : Int) = q := ⟨_, rfl⟩
        have hq0 : q < 0 := by omega
        have hc2 : wr.cell? ⟨b, off, none⟩ = some (.int .i64 q) := by rw [hc, ← hq]; rfl
        clear hc hq
        have hc := hc2
        clear hc2
        have g1 : ¬ 0 < q := by omega
        have g2 : (q == (s.size : Int)) = false := by
          simp
          omega
        rw [show ((0 : Nat) : Int) = 0 from rfl]
        obtain ⟨K, hK⟩ : ∃ K, K = 0 := ⟨_, rfl⟩
        have e1 : pl s.size q = K := by rw [hK]; exact pl_lo hq0
        have e2 : pl s.size 0 = K := by rw [hK]; exact pl_of (n := s.size) (p := 0) (by omega)
        clear hK
        have P0 := fun V => starts_pl V s q sub K (e1) (by omega)
        have R0 := fun V => starts_pl V s 0 sub K (e2) (by omega)
        generalize st s K sub = x0 at P0 R0
        have n0 : (x0 != x0) = false := by simp
        have P1 := fun V => fold_pl V s q sub K (e1) (by omega)
        have R1 := fun V => fold_pl V s 0 sub K (e2) (by omega)
        generalize fo s K sub = x1 at P1 R1
        have n1 : (x1 != x1) = false := by simp
        have P2 := fun V => find_pl V s q sub K (e1) (by omega) (by omega)
        have R2 := fun V => find_pl V s 0 sub K (e2) (by omega) (by omega)
        generalize findF s sub K = x2 at P2 R2
        have n2 : ((x2 : Int) != (x2 : Int)) = false := by simp
        have P3 := fun V => until_pl V s q sub K (e1) (by omega) (by omega)
        have R3 := fun V => until_pl V s 0 sub K (e2) (by omega) (by omega)
        generalize untilF s sub K = x3 at P3 R3
        have n3 : ((x3 : Int) != (x3 : Int)) = false := by simp
        have P4 := fun V => skip_pl V s q K (e1) (by omega)
        have R4 := fun V => skip_pl V s 0 K (e2) (by omega)
        generalize skipF s K = x4 at P4 R4
        have n4 : ((x4 : Int) != (x4 : Int)) = false := by simp
        have P5 := fun V => name_pl V s q K (e1) (by omega)
        have R5 := fun V => name_pl V s 0 K (e2) (by omega)
        generalize nameF s K = x5 at P5 R5
        have n5 : ((x5 : Int) != (x5 : Int)) = false := by simp
        clear e1 e2
        have kk0 := Kp.refl [] wr
        go_wp2_with fail
        refine (from_back (P0 _) kk0).mono ?_
        rintro e v1 ⟨rfl, kk1⟩
        clear P0 kk0
        go_wp2_with fail
        refine (from_back (R0 _) kk1).mono ?_
        rintro e v2 ⟨rfl, kk2⟩
        clear R0 kk1
        go_wp2_with fail
        refine (from_back (P1 _) kk2).mono ?_
        rintro e v3 ⟨rfl, kk3⟩
        clear P1 kk2
        go_wp2_with fail
        refine (from_back (R1 _) kk3).mono ?_
        rintro e v4 ⟨rfl, kk4⟩
        clear R1 kk3
        go_wp2_with fail
        refine (from_back (P2 _) kk4).mono ?_
        rintro e v5 ⟨rfl, kk5⟩
        clear P2 kk4
        go_wp2_with fail
        refine (from_back (R2 _) kk5).mono ?_
        rintro e v6 ⟨rfl, kk6⟩
        clear R2 kk5
        go_wp2_with fail
        refine (from_back (P3 _) kk6).mono ?_
        rintro e v7 ⟨rfl, kk7⟩
        clear P3 kk6
        go_wp2_with fail
        refine (from_back (R3 _) kk7).mono ?_
        rintro e v8 ⟨rfl, kk8⟩
        clear R3 kk7
        go_wp2_with fail
        refine (from_back (P4 _) kk8).mono ?_
        rintro e v9 ⟨rfl, kk9⟩
        clear P4 kk8
        go_wp2_with fail
        refine (from_back (R4 _) kk9).mono ?_
        rintro e v10 ⟨rfl, kk10⟩
        clear R4 kk9
        go_wp2_with fail
        refine (from_back (P5 _) kk10).mono ?_
        rintro e v11 ⟨rfl, kk11⟩
        clear P5 kk10
        go_wp2_with fail
        refine (from_back (R5 _) kk11).mono ?_
        rintro e v12 ⟨rfl, kk12⟩
        clear R5 kk11
        have kz := k0.trans kk12 (fun x hx => by simp at hx)
        have rz := r0.kept kk12
        clear k0 r0 kk12 hc
        go_wp2
        go_roundw
        case rel => exact ⟨1, by omega, by go_num, kz, rz⟩
        case measure => simp [intOf]
      · by_cases hpos : 0 < (s.size : Int) + (v : Int)
        · obtain ⟨q, hq⟩ : ∃ q : Int, (s.size : Int) + (v : Int) = q := ⟨_, rfl⟩
          have hc2 : wr.cell? ⟨b, off + 1, none⟩ = some (.int .i64 q) := by rw [hc, ← hq]; rfl
          rw [hq] at hpos
          obtain ⟨K, hK⟩ : ∃ K, K = s.size := ⟨_, rfl⟩
          have e1 : pl s.size q = K := by rw [hK]; exact pl_ge (by omega)
          have e2 : pl s.size (s.size : Int) = K := by rw [hK]; exact pl_of (Nat.le_refl _)
          clear hc hq hK
          have hc := hc2
          clear hc2
          have g3 : ¬ q < 0 := by omega
          rw [show ((1 : Nat) : Int) = 1 from rfl]
          have P0 := fun V => starts_pl V s q sub K (e1) (by omega)
          have R0 := fun V => starts_pl V s (s.size : Int) sub K (e2) (by omega)
          generalize st s K sub = x0 at P0 R0
          have n0 : (x0 != x0) = false := by simp
          have P1 := fun V => fold_pl V s q sub K (e1) (by omega)
          have R1 := fun V => fold_pl V s (s.size : Int) sub K (e2) (by omega)
          generalize fo s K sub = x1 at P1 R1
          have n1 : (x1 != x1) = false := by simp
          have P2 := fun V => find_pl V s q sub K (e1) (by omega) (by omega)
          have R2 := fun V => find_pl V s (s.size : Int) sub K (e2) (by omega) (by omega)
          generalize findF s sub K = x2 at P2 R2
          have n2 : ((x2 : Int) != (x2 : Int)) = false := by simp
          have P3 := fun V => until_pl V s q sub K (e1) (by omega) (by omega)
          have R3 := fun V => until_pl V s (s.size : Int) sub K (e2) (by omega) (by omega)
          generalize untilF s sub K = x3 at P3 R3
          have n3 : ((x3 : Int) != (x3 : Int)) = false := by simp
          have P4 := fun V => skip_pl V s q K (e1) (by omega)
          have R4 := fun V => skip_pl V s (s.size : Int) K (e2) (by omega)
          generalize skipF s K = x4 at P4 R4
          have n4 : ((x4 : Int) != (x4 : Int)) = false := by simp
          have P5 := fun V => name_pl V s q K (e1) (by omega)
          have R5 := fun V => name_pl V s (s.size : Int) K (e2) (by omega)
          generalize nameF s K = x5 at P5 R5
          have n5 : ((x5 : Int) != (x5 : Int)) = false := by simp
          clear e1 e2
          have kk0 := Kp.refl [] wr
          go_wp2_with fail
          refine (from_back (P0 _) kk0).mono ?_
          rintro e v1 ⟨rfl, kk1⟩
          clear P0 kk0
          go_wp2_with fail
          refine (from_back (R0 _) kk1).mono ?_
          rintro e v2 ⟨rfl, kk2⟩
          clear R0 kk1
          go_wp2_with fail
          refine (from_back (P1 _) kk2).mono ?_
          rintro e v3 ⟨rfl, kk3⟩
          clear P1 kk2
          go_wp2_with fail
          refine (from_back (R1 _) kk3).mono ?_
          rintro e v4 ⟨rfl, kk4⟩
          clear R1 kk3
          go_wp2_with fail
          refine (from_back (P2 _) kk4).mono ?_
          rintro e v5 ⟨rfl, kk5⟩
          clear P2 kk4
          go_wp2_with fail
          refine (from_back (R2 _) kk5).mono ?_
          rintro e v6 ⟨rfl, kk6⟩
          clear R2 kk5
          go_wp2_with fail
          refine (from_back (P3 _) kk6).mono ?_
          rintro e v7 ⟨rfl, kk7⟩
          clear P3 kk6
          go_wp2_with fail
          refine (from_back (R3 _) kk7).mono ?_
          rintro e v8 ⟨rfl, kk8⟩
          clear R3 kk7
          go_wp2_with fail
          refine (from_back (P4 _) kk8).mono ?_
          rintro e v9 ⟨rfl, kk9⟩
          clear P4 kk8
          go_wp2_with fail
          refine (from_back (R4 _) kk9).mono ?_
          rintro e v10 ⟨rfl, kk10⟩
          clear R4 kk9
          go_wp2_with fail
          refine (from_back (P5 _) kk10).mono ?_
          rintro e v11 ⟨rfl, kk11⟩
          clear P5 kk10
          go_wp2_with fail
          refine (from_back (R5 _) kk11).mono ?_
          rintro e v12 ⟨rfl, kk12⟩
          clear R5 kk11
          have kz := k0.trans kk12 (fun x hx => by simp at hx)
          have rz := r0.kept kk12
          clear k0 r0 kk12 hc
          go_wp2
          go_roundw
          case rel => exact ⟨2, by omega, by go_num, kz, rz⟩
          case measure => simp [intOf]
        · have hz : s.size = 0 := by omega
          have hc2 : wr.cell? ⟨b, off + 1, none⟩ = some (.int .i64 0) := by
            rw [hc]
            show some (Value.int .i64 ((s.size : Int) + (v : Int))) = _
            rw [show (s.size : Int) + (v : Int) = 0 by omega]
          obtain ⟨K, hK⟩ : ∃ K, K = s.size := ⟨_, rfl⟩
          have e1 : pl s.size 0 = K := by rw [hK]; exact pl_ge (by omega)
          have e2 : pl s.size (s.size : Int) = K := by rw [hK]; exact pl_of (Nat.le_refl _)
          have g2 : ((0 : Int) == (s.size : Int)) = true := by simp [hz]
          clear hc hz hK hpos
          have hc := hc2
          clear hc2
          rw [show ((1 : Nat) : Int) = 1 from rfl]
          have P0 := fun V => starts_pl V s 0 sub K (e1) (by omega)
          have R0 := fun V => starts_pl V s (s.size : Int) sub K (e2) (by omega)
          generalize st s K sub = x0 at P0 R0
          have n0 : (x0 != x0) = false := by simp
          have P1 := fun V => fold_pl V s 0 sub K (e1) (by omega)
          have R1 := fun V => fold_pl V s (s.size : Int) sub K (e2) (by omega)
          generalize fo s K sub = x1 at P1 R1
          have n1 : (x1 != x1) = false := by simp
          have P2 := fun V => find_pl V s 0 sub K (e1) (by omega) (by omega)
          have R2 := fun V => find_pl V s (s.size : Int) sub K (e2) (by omega) (by omega)
          generalize findF s sub K = x2 at P2 R2
          have n2 : ((x2 : Int) != (x2 : Int)) = false := by simp
          have P3 := fun V => until_pl V s 0 sub K (e1) (by omega) (by omega)
          have R3 := fun V => until_pl V s (s.size : Int) sub K (e2) (by omega) (by omega)
          generalize untilF s sub K = x3 at P3 R3
          have n3 : ((x3 : Int) != (x3 : Int)) = false := by simp
          have P4 := fun V => skip_pl V s 0 K (e1) (by omega)
          have R4 := fun V => skip_pl V s (s.size : Int) K (e2) (by omega)
          generalize skipF s K = x4 at P4 R4
          have n4 : ((x4 : Int) != (x4 : Int)) = false := by simp
          have P5 := fun V => name_pl V s 0 K (e1) (by omega)
          have R5 := fun V => name_pl V s (s.size : Int) K (e2) (by omega)
          generalize nameF s K = x5 at P5 R5
          have n5 : ((x5 : Int) != (x5 : Int)) = false := by simp
          clear e1 e2
          have kk0 := Kp.refl [] wr
          go_wp2_with fail
          refine (from_back (P0 _) kk0).mono ?_
          rintro e v1 ⟨rfl, kk1⟩
          clear P0 kk0
          go_wp2_with fail
          refine (from_back (R0 _) kk1).mono ?_
          rintro e v2 ⟨rfl, kk2⟩
          clear R0 kk1
          go_wp2_with fail
          refine (from_back (P1 _) kk2).mono ?_
          rintro e v3 ⟨rfl, kk3⟩
          clear P1 kk2
          go_wp2_with fail
          refine (from_back (R1 _) kk3).mono ?_
          rintro e v4 ⟨rfl, kk4⟩
          clear R1 kk3
          go_wp2_with fail
          refine (from_back (P2 _) kk4).mono ?_
          rintro e v5 ⟨rfl, kk5⟩
          clear P2 kk4
          go_wp2_with fail
          refine (from_back (R2 _) kk5).mono ?_
          rintro e v6 ⟨rfl, kk6⟩
          clear R2 kk5
          go_wp2_with fail
          refine (from_back (P3 _) kk6).mono ?_
          rintro e v7 ⟨rfl, kk7⟩
          clear P3 kk6
          go_wp2_with fail
          refine (from_back (R3 _) kk7).mono ?_
          rintro e v8 ⟨rfl, kk8⟩
          clear R3 kk7
          go_wp2_with fail
          refine (from_back (P4 _) kk8).mono ?_
          rintro e v9 ⟨rfl, kk9⟩
          clear P4 kk8
          go_wp2_with fail
          refine (from_back (R4 _) kk9).mono ?_
          rintro e v10 ⟨rfl, kk10⟩
          clear R4 kk9
          go_wp2_with fail
          refine (from_back (P5 _) kk10).mono ?_
          rintro e v11 ⟨rfl, kk11⟩
          clear P5 kk10
          go_wp2_with fail
          refine (from_back (R5 _) kk11).mono ?_
          rintro e v12 ⟨rfl, kk12⟩
          clear R5 kk11
          have kz := k0.trans kk12 (fun x hx => by simp at hx)
          have rz := r0.kept kk12
          clear k0 r0 kk12 hc
          go_wp2
          go_roundw
          case rel => exact ⟨2, by omega, by go_num, kz, rz⟩
          case measure => simp [intOf]
    · clear r0
      go_wp2_with fail
      refine (from_back (known_any _) k0).mono ?_
      rintro e v1 ⟨rfl, k1⟩
      clear k0
      go_wp2
      go_ret
      exact ⟨rfl, k1⟩

end Go.Proofs.Ytoegjgajleamkaa
