/-
  The first rune of some bytes: the program's first.
-/
import Derived.Test.YtinafcajaikfdaaLead
namespace Go.Proofs.Ytinafcajaikfdaa
open Go.RowKit Utf

theorem more_tail : ∀ (n : Nat) (lo hi r : Int) (bs : List Int), ∃ k, k ≤ bs.length ∧ (more n lo hi r bs).2.2 = bs.drop k
  | 0, _, _, _, bs => ⟨0, Nat.zero_le _, rfl⟩
  | _ + 1, _, _, _, [] => ⟨0, Nat.zero_le _, rfl⟩
  | n + 1, lo, hi, r, b :: bs => by
    rw [more]
    split
    · obtain ⟨k, h1, h2⟩ := more_tail n 128 191 (r * 64 + b % 64) bs
      exact ⟨k + 1, by simp only [List.length_cons]; omega, by rw [h2]; rfl⟩
    · exact ⟨0, Nat.zero_le _, rfl⟩

/-- How many bytes the first rune takes. -/
def took (b : Int) (bs : List Int) : Nat := bs.length - (Utf.step b bs).2.length + 1

theorem step_tail (b : Int) (bs : List Int) : ∃ k, k ≤ bs.length ∧ (Utf.step b bs).2 = bs.drop k := by
  unfold Utf.step
  split
  · exact ⟨0, Nat.zero_le _, rfl⟩
  split
  · exact ⟨0, Nat.zero_le _, rfl⟩
  · exact more_tail _ _ _ _ _

theorem took_of {b : Int} {bs : List Int} {k : Nat} (hk : k ≤ bs.length) (h : (Utf.step b bs).2 = bs.drop k) : took b bs = k + 1 := by
  unfold took
  rw [h, List.length_drop]
  omega

theorem took_drop (b : Int) (bs : List Int) : (b :: bs).drop (took b bs) = (Utf.step b bs).2 ∧ 1 ≤ took b bs ∧ took b bs ≤ bs.length + 1 := by
  obtain ⟨k, h1, h2⟩ := step_tail b bs
  rw [took_of h1 h2, h2]
  exact ⟨rfl, by omega, by omega⟩

/-- A bound of what k bytes behind the lead byte bring about. -/
def rbound : Nat → Int
  | 0 => 32
  | 1 => 2048
  | 2 => 131072
  | _ => 8388608

theorem rbound_step {k : Nat} (hk : k ≤ 2) {r x : Int} (h : r < rbound k) (hx : x < 64) : r < 131072 ∧ r * 64 + x < rbound (k + 1) := by
  match k, hk with
  | 0, _ => simp only [rbound] at h ⊢; omega
  | 1, _ => simp only [rbound] at h ⊢; omega
  | 2, _ => simp only [rbound] at h ⊢; omega

/-- What has been told of the first rune is what the first of the program answers. -/
def Tells (b : Int) (bs : List Int) (e : Ending) : Prop := e = .returned (.tuple #[.int .i32 (Utf.step b bs).1, .int .i64 (took b bs : Int)])

theorem tells_low {b : Int} (bs : List Int) (h : b < 128) : Tells b bs (.returned (.tuple #[.int .i32 b, .int .i64 1])) := by
  have h1 : Utf.step b bs = (b, bs) := by unfold Utf.step; rw [if_pos h]
  unfold Tells
  rw [took_of (k := 0) (Nat.zero_le _) (by rw [h1]; rfl), h1]
  rfl

theorem tells_none {b : Int} (bs : List Int) (h : 128 ≤ b) (hf : firstOf b = none) : Tells b bs (.returned (.tuple #[.int .i32 65533, .int .i64 1])) := by
  have h1 : Utf.step b bs = (65533, bs) := by unfold Utf.step; rw [if_neg (by omega), hf]
  unfold Tells
  rw [took_of (k := 0) (Nat.zero_le _) (by rw [h1]; rfl), h1]
  rfl

theorem step_some {b : Int} (bs : List Int) {n : Nat} {lo hi : Int} (h : 128 ≤ b) (hf : firstOf b = some (n, lo, hi)) : Utf.step b bs = (if (more n lo hi (lead n b) bs).1 = 0 then (more n lo hi (lead n b) bs).2.1 else 65533, (more n lo hi (lead n b) bs).2.2) := by
  unfold Utf.step
  rw [if_neg (by omega), hf]

/-- It ends early. -/
theorem tells_cut {b : Int} {bs : List Int} {n : Nat} {lo hi : Int} (h : 128 ≤ b) (hf : firstOf b = some (n, lo, hi)) {k m : Nat} {r : Int} (hk : k ≤ bs.length) (hm : more n lo hi (lead n b) bs = (m + 1, r, bs.drop k)) : Tells b bs (.returned (.tuple #[.int .i32 65533, .int .i64 ((k : Int) + 1)])) := by
  have h1 := step_some bs h hf
  rw [hm] at h1
  unfold Tells
  rw [took_of hk (by rw [h1]), h1]
  simp

/-- It is whole. -/
theorem tells_whole {b : Int} {bs : List Int} {n : Nat} {lo hi : Int} (h : 128 ≤ b) (hf : firstOf b = some (n, lo, hi)) {k : Nat} {r : Int} (hk : k ≤ bs.length) (hm : more n lo hi (lead n b) bs = (0, r, bs.drop k)) : Tells b bs (.returned (.tuple #[.int .i32 r, .int .i64 ((k : Int) + 1)])) := by
  have h1 := step_some bs h hf
  rw [hm] at h1
  unfold Tells
  rw [took_of hk (by rw [h1]), h1]
  simp

theorem lead_b {b : Int} {n : Nat} {lo hi : Int} (hf : firstOf b = some (n, lo, hi)) : (n = 1 ∨ n = 2 ∨ n = 3) ∧ 128 ≤ lo ∧ hi ≤ 191 ∧ 194 ≤ b := by
  by_cases h : 0 ≤ b ∧ b < 256
  · rcases lead_cases b h.1 h.2 with h | h | h | h | h | h | h | h | h | h
    all_goals
      rw [hf] at h
      simp at h
      try omega
  · exfalso
    unfold firstOf at hf
    rw [if_neg (by omega), if_neg (by omega), if_neg (by omega), if_neg (by omega), if_neg (by omega), if_neg (by omega), if_neg (by omega)] at hf
    cases hf

set_option maxHeartbeats 4000000 in
set_option maxRecDepth 100000 in
/-- A lead byte that asks 1 more. -/
theorem first_1 (w : World) (q off len c : Nat) (b : Int) (bs : List Int) (h : Rb w (some ⟨q, off, none⟩) len c (b8 (b :: bs))) (hb : byt (b :: bs)) (lo hi : Int) (hf : firstOf b = some (1, lo, hi)) (hl : len ≤ 100000) :
    Calls Try.prog 25 #[.slice (some ⟨q, off, none⟩) len c] w fun e w' => Tells b bs e ∧ Kp [] w w' := by
  obtain rfl : len = bs.length + 1 := by rw [h.len, b8_len]; rfl
  obtain ⟨_, hlo, hhi, hb0⟩ := lead_b hf
  have hb1 := (hb b (by simp)).2
  have HB := behind_any w b (by omega) hb1
  unfold leadV at HB
  rw [hf] at HB
  have hcell : w.cell? ⟨q, off, none⟩ = some (.int .u8 b) := by
    obtain ⟨q', off', h1, h2⟩ := h.b8_at 0 (by simp)
    simp only [Option.some.injEq, Addr.mk.injEq] at h1
    obtain ⟨rfl, rfl, _⟩ := h1
    simpa using h2
  have HF : Hid (firstOf b = some (1, lo, hi)) := hf
  clear hf
  go_enter Try.func25, Try.ntmps25
  go_wp2_with fail
  refine HB.mono ?_
  rintro e w1 ⟨rfl, rfl⟩
  clear HB
  have HN : Hid (128 ≤ b) := by show _ ≤ _; omega
  have hld : Hid (lead 1 b = b % 32) := rfl
  have hx0 : 0 ≤ b % 32 := by omega
  have hx1 : b % 32 < 32 := by omega
  go_wp2
  go_region
  all_goals (try go_wp2)
  clear hcell
  generalize b % 32 = r0 at hld hx0 hx1 ⊢
  go_loopw [5, 6, 7, 8] (fun u v x i wr => ∃ (k : Nat) (lo' hi' r : Int), k ≤ 1 ∧ k ≤ bs.length ∧ u = .int .u8 lo' ∧ v = .int .u8 hi' ∧ x = .int .i32 r ∧ i = .int .i64 ((k : Int) + 1) ∧ Hid (more 1 lo hi (lead 1 b) bs = more (1 - k) lo' hi' r (bs.drop k)) ∧ 0 ≤ r ∧ r < rbound k ∧ wr = w1.drew) (fun _ _ _ i _ => 1 + 1 - (intOf i).toNat)
  case atStart => exact ⟨0, lo, hi, r0, Nat.zero_le _, Nat.zero_le _, rfl, rfl, rfl, rfl, by show _ = _; rw [hld.out]; rfl, hx0, hx1, rfl⟩
  case round =>
    obtain ⟨k, lo', hi', r, hk, hkb, rfl, rfl, rfl, rfl, hm, hr0, hr1, rfl⟩ := hrel
    clear hld hx0 hx1
    by_cases hkn : k < 1
    · rcases Nat.lt_or_ge k bs.length with hlt | hge
      · have hcell : w1.cell? ⟨q, off + (k + 1), none⟩ = some (.int .u8 bs[k]) := by
          obtain ⟨q', off', h1, h2⟩ := h.b8_at (k + 1) (by simp; omega)
          simp only [Option.some.injEq, Addr.mk.injEq] at h1
          obtain ⟨rfl, rfl, _⟩ := h1
          simpa using h2
        have hx := hb bs[k] (by simp)
        have hdr : bs.drop k = bs[k] :: bs.drop (k + 1) := by simp
        have hmm := hm.out
        rw [hdr, show 1 - k = (1 - (k + 1)) + 1 by omega, more] at hmm
        generalize bs[k] = x at hcell hx hmm hdr
        obtain ⟨hx2, hx3⟩ := hx
        have hbe : ((k : Int) + 1 == (bs.length : Int) + 1) = false := by simp; omega
        by_cases hin : lo' ≤ x ∧ x ≤ hi'
        · rw [if_pos hin] at hmm
          obtain ⟨hi1, hi2⟩ := hin
          have hm2 : Hid (more 1 lo hi (lead 1 b) bs = more (1 - (k + 1)) 128 191 (r * 64 + x % 64) (bs.drop (k + 1))) := hmm
          have hrb := rbound_step (show k ≤ 2 by omega) hr1 (show x % 64 < 64 by omega)
          have hr2 := hrb.1
          have hr3 : Hid (r * 64 + x % 64 < rbound (k + 1)) := hrb.2
          clear hmm hm hr1 hrb hdr h hb
          go_wp2
          go_roundw
          case rel => exact ⟨k + 1, 128, 191, r * 64 + x % 64, by omega, by omega, rfl, rfl, by go_num, by go_num, hm2, by omega, hr3.out, trivial⟩
          case measure => simp [intOf]; omega
        · rw [if_neg hin] at hmm
          have HT : Hid (Tells b bs (.returned (.tuple #[.int .i32 65533, .int .i64 ((k : Int) + 1)]))) := tells_cut HN.out HF.out hkb (hmm.trans (by rw [hdr]))
          clear hmm hm hr1 hdr h hb
          rcases (show x < lo' ∨ (¬ x < lo' ∧ hi' < x) by omega) with hin | ⟨hin, hin2⟩
          all_goals
            go_wp2
            go_ret2
            exact ⟨HT.out, (Kp.refl _ _).drew⟩
      · obtain rfl : k = bs.length := by omega
        have hmm := hm.out
        rw [List.drop_length, show 1 - bs.length = (1 - (bs.length + 1)) + 1 by omega, more] at hmm
        have HT : Hid (Tells b bs (.returned (.tuple #[.int .i32 65533, .int .i64 ((bs.length : Int) + 1)]))) := tells_cut HN.out HF.out (Nat.le_refl _) (hmm.trans (by rw [List.drop_length]))
        clear hmm hm hr1 h hb
        go_wp2
        go_ret2
        exact ⟨HT.out, (Kp.refl _ _).drew⟩
    · obtain rfl : k = 1 := by omega
      have hmm := hm.out
      rw [Nat.sub_self, more] at hmm
      have HT : Hid (Tells b bs (.returned (.tuple #[.int .i32 r, .int .i64 (((1 : Nat) : Int) + 1)]))) := tells_whole HN.out HF.out hkb hmm
      clear hmm hm hr1 h hb
      go_wp2
      go_ret2
      exact ⟨HT.out, (Kp.refl _ _).drew⟩

set_option maxHeartbeats 4000000 in
set_option maxRecDepth 100000 in
/-- A lead byte that asks 2 more. -/
theorem first_2 (w : World) (q off len c : Nat) (b : Int) (bs : List Int) (h : Rb w (some ⟨q, off, none⟩) len c (b8 (b :: bs))) (hb : byt (b :: bs)) (lo hi : Int) (hf : firstOf b = some (2, lo, hi)) (hl : len ≤ 100000) :
    Calls Try.prog 25 #[.slice (some ⟨q, off, none⟩) len c] w fun e w' => Tells b bs e ∧ Kp [] w w' := by
  obtain rfl : len = bs.length + 1 := by rw [h.len, b8_len]; rfl
  obtain ⟨_, hlo, hhi, hb0⟩ := lead_b hf
  have hb1 := (hb b (by simp)).2
  have HB := behind_any w b (by omega) hb1
  unfold leadV at HB
  rw [hf] at HB
  have hcell : w.cell? ⟨q, off, none⟩ = some (.int .u8 b) := by
    obtain ⟨q', off', h1, h2⟩ := h.b8_at 0 (by simp)
    simp only [Option.some.injEq, Addr.mk.injEq] at h1
    obtain ⟨rfl, rfl, _⟩ := h1
    simpa using h2
  have HF : Hid (firstOf b = some (2, lo, hi)) := hf
  clear hf
  go_enter Try.func25, Try.ntmps25
  go_wp2_with fail
  refine HB.mono ?_
  rintro e w1 ⟨rfl, rfl⟩
  clear HB
  have HN : Hid (128 ≤ b) := by show _ ≤ _; omega
  have hld : Hid (lead 2 b = b % 16) := rfl
  have hx0 : 0 ≤ b % 16 := by omega
  have hx1 : b % 16 < 32 := by omega
  go_wp2
  go_region
  all_goals (try go_wp2)
  clear hcell
  generalize b % 16 = r0 at hld hx0 hx1 ⊢
  go_loopw [5, 6, 7, 8] (fun u v x i wr => ∃ (k : Nat) (lo' hi' r : Int), k ≤ 2 ∧ k ≤ bs.length ∧ u = .int .u8 lo' ∧ v = .int .u8 hi' ∧ x = .int .i32 r ∧ i = .int .i64 ((k : Int) + 1) ∧ Hid (more 2 lo hi (lead 2 b) bs = more (2 - k) lo' hi' r (bs.drop k)) ∧ 0 ≤ r ∧ r < rbound k ∧ wr = w1.drew) (fun _ _ _ i _ => 2 + 1 - (intOf i).toNat)
  case atStart => exact ⟨0, lo, hi, r0, Nat.zero_le _, Nat.zero_le _, rfl, rfl, rfl, rfl, by show _ = _; rw [hld.out]; rfl, hx0, hx1, rfl⟩
  case round =>
    obtain ⟨k, lo', hi', r, hk, hkb, rfl, rfl, rfl, rfl, hm, hr0, hr1, rfl⟩ := hrel
    clear hld hx0 hx1
    by_cases hkn : k < 2
    · rcases Nat.lt_or_ge k bs.length with hlt | hge
      · have hcell : w1.cell? ⟨q, off + (k + 1), none⟩ = some (.int .u8 bs[k]) := by
          obtain ⟨q', off', h1, h2⟩ := h.b8_at (k + 1) (by simp; omega)
          simp only [Option.some.injEq, Addr.mk.injEq] at h1
          obtain ⟨rfl, rfl, _⟩ := h1
          simpa using h2
        have hx := hb bs[k] (by simp)
        have hdr : bs.drop k = bs[k] :: bs.drop (k + 1) := by simp
        have hmm := hm.out
        rw [hdr, show 2 - k = (2 - (k + 1)) + 1 by omega, more] at hmm
        generalize bs[k] = x at hcell hx hmm hdr
        obtain ⟨hx2, hx3⟩ := hx
        have hbe : ((k : Int) + 1 == (bs.length : Int) + 1) = false := by simp; omega
        by_cases hin : lo' ≤ x ∧ x ≤ hi'
        · rw [if_pos hin] at hmm
          obtain ⟨hi1, hi2⟩ := hin
          have hm2 : Hid (more 2 lo hi (lead 2 b) bs = more (2 - (k + 1)) 128 191 (r * 64 + x % 64) (bs.drop (k + 1))) := hmm
          have hrb := rbound_step (show k ≤ 2 by omega) hr1 (show x % 64 < 64 by omega)
          have hr2 := hrb.1
          have hr3 : Hid (r * 64 + x % 64 < rbound (k + 1)) := hrb.2
          clear hmm hm hr1 hrb hdr h hb
          go_wp2
          go_roundw
          case rel => exact ⟨k + 1, 128, 191, r * 64 + x % 64, by omega, by omega, rfl, rfl, by go_num, by go_num, hm2, by omega, hr3.out, trivial⟩
          case measure => simp [intOf]; omega
        · rw [if_neg hin] at hmm
          have HT : Hid (Tells b bs (.returned (.tuple #[.int .i32 65533, .int .i64 ((k : Int) + 1)]))) := tells_cut HN.out HF.out hkb (hmm.trans (by rw [hdr]))
          clear hmm hm hr1 hdr h hb
          rcases (show x < lo' ∨ (¬ x < lo' ∧ hi' < x) by omega) with hin | ⟨hin, hin2⟩
          all_goals
            go_wp2
            go_ret2
            exact ⟨HT.out, (Kp.refl _ _).drew⟩
      · obtain rfl : k = bs.length := by omega
        have hmm := hm.out
        rw [List.drop_length, show 2 - bs.length = (2 - (bs.length + 1)) + 1 by omega, more] at hmm
        have HT : Hid (Tells b bs (.returned (.tuple #[.int .i32 65533, .int .i64 ((bs.length : Int) + 1)]))) := tells_cut HN.out HF.out (Nat.le_refl _) (hmm.trans (by rw [List.drop_length]))
        clear hmm hm hr1 h hb
        go_wp2
        go_ret2
        exact ⟨HT.out, (Kp.refl _ _).drew⟩
    · obtain rfl : k = 2 := by omega
      have hmm := hm.out
      rw [Nat.sub_self, more] at hmm
      have HT : Hid (Tells b bs (.returned (.tuple #[.int .i32 r, .int .i64 (((2 : Nat) : Int) + 1)]))) := tells_whole HN.out HF.out hkb hmm
      clear hmm hm hr1 h hb
      go_wp2
      go_ret2
      exact ⟨HT.out, (Kp.refl _ _).drew⟩

set_option maxHeartbeats 4000000 in
set_option maxRecDepth 100000 in
/-- A lead byte that asks 3 more. -/
theorem first_3 (w : World) (q off len c : Nat) (b : Int) (bs : List Int) (h : Rb w (some ⟨q, off, none⟩) len c (b8 (b :: bs))) (hb : byt (b :: bs)) (lo hi : Int) (hf : firstOf b = some (3, lo, hi)) (hl : len ≤ 100000) :
    Calls Try.prog 25 #[.slice (some ⟨q, off, none⟩) len c] w fun e w' => Tells b bs e ∧ Kp [] w w' := by
  obtain rfl : len = bs.length + 1 := by rw [h.len, b8_len]; rfl
  obtain ⟨_, hlo, hhi, hb0⟩ := lead_b hf
  have hb1 := (hb b (by simp)).2
  have HB := behind_any w b (by omega) hb1
  unfold leadV at HB
  rw [hf] at HB
  have hcell : w.cell? ⟨q, off, none⟩ = some (.int .u8 b) := by
    obtain ⟨q', off', h1, h2⟩ := h.b8_at 0 (by simp)
    simp only [Option.some.injEq, Addr.mk.injEq] at h1
    obtain ⟨rfl, rfl, _⟩ := h1
    simpa using h2
  have HF : Hid (firstOf b = some (3, lo, hi)) := hf
  clear hf
  go_enter Try.func25, Try.ntmps25
  go_wp2_with fail
  refine HB.mono ?_
  rintro e w1 ⟨rfl, rfl⟩
  clear HB
  have HN : Hid (128 ≤ b) := by show _ ≤ _; omega
  have hld : Hid (lead 3 b = b % 8) := rfl
  have hx0 : 0 ≤ b % 8 := by omega
  have hx1 : b % 8 < 32 := by omega
  go_wp2
  go_region
  all_goals (try go_wp2)
  clear hcell
  generalize b % 8 = r0 at hld hx0 hx1 ⊢
  go_loopw [5, 6, 7, 8] (fun u v x i wr => ∃ (k : Nat) (lo' hi' r : Int), k ≤ 3 ∧ k ≤ bs.length ∧ u = .int .u8 lo' ∧ v = .int .u8 hi' ∧ x = .int .i32 r ∧ i = .int .i64 ((k : Int) + 1) ∧ Hid (more 3 lo hi (lead 3 b) bs = more (3 - k) lo' hi' r (bs.drop k)) ∧ 0 ≤ r ∧ r < rbound k ∧ wr = w1.drew) (fun _ _ _ i _ => 3 + 1 - (intOf i).toNat)
  case atStart => exact ⟨0, lo, hi, r0, Nat.zero_le _, Nat.zero_le _, rfl, rfl, rfl, rfl, by show _ = _; rw [hld.out]; rfl, hx0, hx1, rfl⟩
  case round =>
    obtain ⟨k, lo', hi', r, hk, hkb, rfl, rfl, rfl, rfl, hm, hr0, hr1, rfl⟩ := hrel
    clear hld hx0 hx1
    by_cases hkn : k < 3
    · rcases Nat.lt_or_ge k bs.length with hlt | hge
      · have hcell : w1.cell? ⟨q, off + (k + 1), none⟩ = some (.int .u8 bs[k]) := by
          obtain ⟨q', off', h1, h2⟩ := h.b8_at (k + 1) (by simp; omega)
          simp only [Option.some.injEq, Addr.mk.injEq] at h1
          obtain ⟨rfl, rfl, _⟩ := h1
          simpa using h2
        have hx := hb bs[k] (by simp)
        have hdr : bs.drop k = bs[k] :: bs.drop (k + 1) := by simp
        have hmm := hm.out
        rw [hdr, show 3 - k = (3 - (k + 1)) + 1 by omega, more] at hmm
        generalize bs[k] = x at hcell hx hmm hdr
        obtain ⟨hx2, hx3⟩ := hx
        have hbe : ((k : Int) + 1 == (bs.length : Int) + 1) = false := by simp; omega
        by_cases hin : lo' ≤ x ∧ x ≤ hi'
        · rw [if_pos hin] at hmm
          obtain ⟨hi1, hi2⟩ := hin
          have hm2 : Hid (more 3 lo hi (lead 3 b) bs = more (3 - (k + 1)) 128 191 (r * 64 + x % 64) (bs.drop (k + 1))) := hmm
          have hrb := rbound_step (show k ≤ 2 by omega) hr1 (show x % 64 < 64 by omega)
          have hr2 := hrb.1
          have hr3 : Hid (r * 64 + x % 64 < rbound (k + 1)) := hrb.2
          clear hmm hm hr1 hrb hdr h hb
          go_wp2
          go_roundw
          case rel => exact ⟨k + 1, 128, 191, r * 64 + x % 64, by omega, by omega, rfl, rfl, by go_num, by go_num, hm2, by omega, hr3.out, trivial⟩
          case measure => simp [intOf]; omega
        · rw [if_neg hin] at hmm
          have HT : Hid (Tells b bs (.returned (.tuple #[.int .i32 65533, .int .i64 ((k : Int) + 1)]))) := tells_cut HN.out HF.out hkb (hmm.trans (by rw [hdr]))
          clear hmm hm hr1 hdr h hb
          rcases (show x < lo' ∨ (¬ x < lo' ∧ hi' < x) by omega) with hin | ⟨hin, hin2⟩
          all_goals
            go_wp2
            go_ret2
            exact ⟨HT.out, (Kp.refl _ _).drew⟩
      · obtain rfl : k = bs.length := by omega
        have hmm := hm.out
        rw [List.drop_length, show 3 - bs.length = (3 - (bs.length + 1)) + 1 by omega, more] at hmm
        have HT : Hid (Tells b bs (.returned (.tuple #[.int .i32 65533, .int .i64 ((bs.length : Int) + 1)]))) := tells_cut HN.out HF.out (Nat.le_refl _) (hmm.trans (by rw [List.drop_length]))
        clear hmm hm hr1 h hb
        go_wp2
        go_ret2
        exact ⟨HT.out, (Kp.refl _ _).drew⟩
    · obtain rfl : k = 3 := by omega
      have hmm := hm.out
      rw [Nat.sub_self, more] at hmm
      have HT : Hid (Tells b bs (.returned (.tuple #[.int .i32 r, .int .i64 (((3 : Nat) : Int) + 1)]))) := tells_whole HN.out HF.out hkb hmm
      clear hmm hm hr1 h hb
      go_wp2
      go_ret2
      exact ⟨HT.out, (Kp.refl _ _).drew⟩

set_option maxHeartbeats 4000000 in
set_option maxRecDepth 100000 in
theorem first_any (w : World) (q off len c : Nat) (b : Int) (bs : List Int) (h : Rb w (some ⟨q, off, none⟩) len c (b8 (b :: bs))) (hb : byt (b :: bs)) (hl : len ≤ 100000) :
    Calls Try.prog 25 #[.slice (some ⟨q, off, none⟩) len c] w fun e w' => Tells b bs e ∧ Kp [] w w' := by
  rcases hf : firstOf b with _ | ⟨n, lo, hi⟩
  · obtain rfl : len = bs.length + 1 := by rw [h.len, b8_len]; rfl
    have hcell : w.cell? ⟨q, off, none⟩ = some (.int .u8 b) := by
      obtain ⟨q', off', h1, h2⟩ := h.b8_at 0 (by simp)
      simp only [Option.some.injEq, Addr.mk.injEq] at h1
      obtain ⟨rfl, rfl, _⟩ := h1
      simpa using h2
    obtain ⟨hb0, hb1⟩ := hb b (by simp)
    by_cases hlo : b < 128
    · have HT : Hid (Tells b bs (.returned (.tuple #[.int .i32 b, .int .i64 1]))) := tells_low bs hlo
      clear hf h hb
      go_enter Try.func25, Try.ntmps25
      go_wp2
      go_ret2
      exact ⟨HT.out, Kp.refl _ _⟩
    · have HT : Hid (Tells b bs (.returned (.tuple #[.int .i32 65533, .int .i64 1]))) := tells_none bs (by omega) hf
      have HB := behind_any w b hb0 hb1
      unfold leadV at HB
      rw [hf] at HB
      clear hf h hb
      go_enter Try.func25, Try.ntmps25
      go_wp2_with fail
      refine HB.mono ?_
      rintro e w1 ⟨rfl, rfl⟩
      clear HB
      go_wp2
      go_ret2
      exact ⟨HT.out, Kp.refl _ _⟩
  · rcases (lead_b hf).1 with rfl | rfl | rfl
    · exact first_1 w q off len c b bs h hb lo hi hf hl
    · exact first_2 w q off len c b bs h hb lo hi hf hl
    · exact first_3 w q off len c b bs h hb lo hi hf hl


end Go.Proofs.Ytinafcajaikfdaa
