/-
  The program and the document tell the same of any rune and of any text; some runs of the chapter.
-/
import Derived.Test.YtcmfobfjlobnoaaRefSplit
import Derived.Test.YtcmfobfjlobnoaaLow
namespace Go.Proofs.Ytcmfobfjlobnoaa
open Go.RowKit Utf

set_option maxHeartbeats 1000000 in
/-- Same, of two lists of texts that read alike. -/
theorem same_texts (w : World) (ao bo : Option Addr) (n c m d : Nat) (zs : List ByteArray) (hv : Rb w ao n c (tx zs)) (hu : Rb w bo m d (tx zs)) (hl : n ≤ 1000000) :
    Calls Try.prog 25 #[.slice ao n c, .slice bo m d] w fun e w' => e = .returned (.bool true) ∧ Kp [] w w' := by
  obtain rfl : n = zs.length := by rw [hv.len, tx_len]
  obtain rfl : m = zs.length := by rw [hu.len, tx_len]
  go_enter Try.func25, Try.ntmps25
  go_wp2
  go_loopw [5] (fun i wr => ∃ k q : Nat, k ≤ zs.length ∧ i = .int .i64 k ∧ wr = w.drewN q) (fun i _ => zs.length - (intOf i).toNat)
  case atStart => exact ⟨0, 0, Nat.zero_le _, rfl, rfl⟩
  case round =>
    obtain ⟨k, q, hk, rfl, rfl⟩ := hrel
    by_cases hlt : k < zs.length
    · obtain ⟨b1, o1, rfl, h1⟩ := hv.tx_at k hlt
      obtain ⟨b2, o2, rfl, h2⟩ := hu.tx_at k hlt
      obtain ⟨x, hx⟩ : ∃ x, x = zs[k] := ⟨_, rfl⟩
      rw [← hx] at h1 h2
      clear hx hv hu
      go_wp2
      go_region
      all_goals (try go_wp2)
      all_goals
        go_roundw
        case rel => exact ⟨k + 1, q + 1, by omega, by go_num, rfl⟩
        case measure => simp [intOf]; omega
    · go_wp2
      go_ret
      exact ⟨rfl, (Kp.refl _ _).drewN q⟩

/-- No more of a text than m bytes. -/
theorem head_any (w : World) (s : ByteArray) (m : Nat) (hm : m ≤ 1000) : Calls Try.prog 10 #[.string s, .int .i64 (m : Int)] w fun e w' => (∃ t : ByteArray, e = .returned (.string t) ∧ t.size ≤ m) ∧ w' = w := by
  by_cases h : m < s.size
  · go_enter Try.func10, Try.ntmps10
    go_wp2
    go_ret
    exact ⟨⟨s.extract 0 m, rfl, by simp; omega⟩, rfl⟩
  · go_enter Try.func10, Try.ntmps10
    go_wp2
    go_ret
    exact ⟨⟨s, rfl, by omega⟩, rfl⟩

set_option maxHeartbeats 1000000 in
/-- one. -/
theorem one_any (w : World) (r : Int) : Calls Try.prog 7 #[.int .i32 r] w fun e w' => e = .returned (.bool true) ∧ w' = w := by
  have A1 := hex_any w r
  have A2 := ref_hex_any w r
  have B1 := space_any w r
  have B2 := ref_space_any w r
  have C1 := letter_any w r
  have C2 := ref_letter_any w r
  have D1 := digit_any w r
  have D2 := ref_digit_any w r
  generalize hexv r = h at A1 A2
  generalize isHex r = p at A1 A2
  generalize isSp r = q at B1 B2
  generalize isLet r = l at C1 C2
  generalize isDig r = d at D1 D2
  go_enter Try.func7, Try.ntmps7
  go_wp2_with fail
  refine A1.mono ?_
  rintro e w' ⟨rfl, rfl⟩
  go_wp2_with fail
  refine A2.mono ?_
  rintro e w' ⟨rfl, rfl⟩
  go_wp2_with fail
  refine B1.mono ?_
  rintro e w' ⟨rfl, rfl⟩
  go_wp2_with fail
  refine B2.mono ?_
  rintro e w' ⟨rfl, rfl⟩
  go_wp2_with fail
  refine C1.mono ?_
  rintro e w' ⟨rfl, rfl⟩
  go_wp2_with fail
  refine C2.mono ?_
  rintro e w' ⟨rfl, rfl⟩
  go_wp2_with fail
  refine D1.mono ?_
  rintro e w' ⟨rfl, rfl⟩
  go_wp2_with fail
  refine D2.mono ?_
  rintro e w' ⟨rfl, rfl⟩
  clear A1 A2 B1 B2 C1 C2 D1 D2
  go_wp2
  go_ret
  exact ⟨rfl, rfl⟩

set_option maxHeartbeats 1000000 in
/-- same. -/
theorem same_any (w : World) (s : ByteArray) (hl : s.size ≤ 100000) : Calls Try.prog 8 #[.string s] w fun e w' => e = .returned (.bool true) ∧ Kp [] w w' := by
  have HL := split_len s
  go_enter Try.func8, Try.ntmps8
  go_wp2_with fail
  refine (lower_any _ s hl).mono ?_
  rintro e w1 ⟨rfl, k1⟩
  go_wp2_with fail
  refine (ref_lower_any _ s hl).mono ?_
  rintro e w2 ⟨rfl, kk⟩
  have k2 := k1.trans kk (fun x hx => by simp at hx)
  clear k1 kk
  generalize lower s = ls
  go_wp2_with fail
  refine (spaces_any _ s).mono ?_
  rintro e w3 ⟨rfl, kk⟩
  have k3 := k2.trans kk (fun x hx => by simp at hx)
  clear k2 kk
  go_wp2_with fail
  refine (ref_spaces_any _ s hl).mono ?_
  rintro e w4 ⟨rfl, rfl⟩
  generalize spaces s = b
  go_wp2_with fail
  refine (split_any _ s hl).mono ?_
  rintro e w5 ⟨ao, n, c, rfl, m5⟩
  have k5 := k3.trans m5.2.1 (fun x hx => by simp at hx)
  have r5 := m5.rb
  have hn : n ≤ 1000000 := by
    have := r5.len
    rw [tx_len] at this
    omega
  clear k3 m5
  go_wp2_with fail
  refine (ref_split_any _ s hl).mono ?_
  rintro e w6 ⟨bo, m, d, rfl, m6⟩
  have k6 := k5.trans m6.2.1 (fun x hx => by simp at hx)
  have HS := same_texts w6 ao bo n c m d (split s) (r5.kept m6.2.1) m6.rb hn
  clear k5 r5 m6
  go_wp2_with fail
  refine HS.mono ?_
  rintro e w7 ⟨rfl, kk⟩
  have k7 := k6.trans kk (fun x hx => by simp at hx)
  clear k6 kk HS
  go_wp2
  go_ret
  exact ⟨rfl, k7⟩

theorem known_split : split ⟨#[97, 32, 98, 32]⟩ = [⟨#[97]⟩, ⟨#[32]⟩, ⟨#[98]⟩, ⟨#[32]⟩] := by kernel_rfl

set_option maxHeartbeats 1000000 in
/-- known. -/
theorem known_any (w : World) : Calls Try.prog 9 #[] w fun e w' => e = .returned (.bool true) ∧ Kp [] w w' := by
  have HS := split_any w ⟨#[97, 32, 98, 32]⟩ (by decide)
  rw [known_split] at HS
  have L1 := fun W => letter_any W 122
  have L2 := fun W => letter_any W 228
  rw [show isLet 122 = true from rfl] at L1
  rw [show isLet 228 = false from rfl] at L2
  have SP := fun W => spaces_any W ⟨#[]⟩
  rw [show spaces ⟨#[]⟩ = true from rfl] at SP
  go_enter Try.func9, Try.ntmps9
  go_wp2_with fail
  refine HS.mono ?_
  rintro e w1 ⟨ao, n, c, rfl, m1⟩
  clear HS
  have k1 := m1.2.1
  have r1 := m1.rb
  have hn : n ≤ 1000000 := by
    have := r1.len
    rw [tx_len] at this
    simp at this
    omega
  have ka : Kp [] w1 (w1.alloc (.cells #[.string ⟨#[97]⟩, .string ⟨#[32]⟩, .string ⟨#[98]⟩, .string ⟨#[32]⟩] 9)) := (Kp.refl _ _).alloc _
  have HT := same_texts _ _ _ n c 4 4 [⟨#[97]⟩, ⟨#[32]⟩, ⟨#[98]⟩, ⟨#[32]⟩] (r1.kept ka) (rb_lit w1 9 #[.string ⟨#[97]⟩, .string ⟨#[32]⟩, .string ⟨#[98]⟩, .string ⟨#[32]⟩] (tx [⟨#[97]⟩, ⟨#[32]⟩, ⟨#[98]⟩, ⟨#[32]⟩]) 4 rfl rfl (by omega)) hn
  have k2 := k1.trans ka (fun x hx => by simp at hx)
  clear m1 r1 k1 ka
  go_wp2_with fail
  refine HT.mono ?_
  rintro e w2 ⟨rfl, kk⟩
  have k3 := k2.trans kk (fun x hx => by simp at hx)
  clear HT k2 kk
  go_wp2_with fail
  refine (L1 _).mono ?_
  rintro e w3 ⟨rfl, rfl⟩
  go_wp2_with fail
  refine (L2 _).mono ?_
  rintro e w4 ⟨rfl, rfl⟩
  go_wp2_with fail
  refine (SP _).mono ?_
  rintro e w5 ⟨rfl, kk⟩
  have k5 := k3.trans kk (fun x hx => by simp at hx)
  clear k3 kk L1 L2 SP
  go_wp2
  go_ret
  exact ⟨rfl, k5⟩

end Go.Proofs.Ytcmfobfjlobnoaa
