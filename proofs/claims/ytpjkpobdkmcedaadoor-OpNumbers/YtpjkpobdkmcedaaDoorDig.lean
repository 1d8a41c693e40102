/-
  The document's digits.
-/
import Derived.Test.YtpjkpobdkmcedaaDoorItx
import Derived.Test.YtpjkpobdkmcedaaDoorOps
import Derived.Deep.Cut
namespace Go.Proofs.YtpjkpobdkmcedaaDoor
open Go.RowKit Utf
set_option linter.unusedVariables false
set_option linter.unusedSimpArgs false

/-- A digit's text. -/
def dgb (d : Nat) : ByteArray := ⟨#[UInt8.ofNat (48 + d)]⟩

theorem enc_digit {d : Nat} (h : d < 10) : Utf8.encode (48 + (d : Int)) = dgb d := by
  have hv : Utf8.valid (48 + (d : Int)) = true := by
    simp [Utf8.valid]
    omega
  have ht : (48 + (d : Int)).toNat = 48 + d := by omega
  unfold Utf8.encode
  rw [if_pos hv, ht, if_pos (by omega)]
  rfl

/-- The digits of u as bytes. -/
def dcb (u : Nat) : ByteArray := ⟨(Lib.decDigits u).toArray⟩

theorem ba_app (a b : List UInt8) : (⟨a.toArray⟩ : ByteArray) ++ ⟨b.toArray⟩ = ⟨(a ++ b).toArray⟩ := by
  apply ByteArray.ext
  simp [ByteArray.data_append]

theorem dcb_small {u : Nat} (h : u < 10) : dcb u = dgb u := by
  unfold dcb dgb
  rw [Lib.decDigits_one h]

theorem dcb_big {u : Nat} (h : ¬ u < 10) : dcb u = dcb (u / 10) ++ dgb (u % 10) := by
  unfold dcb dgb
  rw [show (⟨#[UInt8.ofNat (48 + u % 10)]⟩ : ByteArray) = ⟨[UInt8.ofNat (48 + u % 10)].toArray⟩ from rfl, ba_app]
  conv => lhs; rw [Lib.decDigits, dif_neg h]

theorem ba_assoc (a b c : ByteArray) : a ++ b ++ c = a ++ (b ++ c) := by
  apply ByteArray.ext
  simp [ByteArray.data_append]

theorem ba_nil (a : ByteArray) : a ++ ⟨#[]⟩ = a := by
  apply ByteArray.ext
  simp [ByteArray.data_append]

/-- How far the loop has come: of u the digits of m are still to be told, s stands. -/
def Dg (u m : Nat) (s : ByteArray) : Prop := (s = ⟨#[]⟩ ∧ m = u) ∨ (0 < s.size ∧ m = 0 ∧ s = dcb u) ∨ (0 < s.size ∧ 0 < m ∧ dcb m ++ s = dcb u)

theorem Dg.next {u m : Nat} {s : ByteArray} (h : Dg u m s) (hm : 0 < m ∨ s = ⟨#[]⟩) : Dg u (m / 10) (dgb (m % 10) ++ s) := by
  have hp : 0 < (dgb (m % 10) ++ s).size := by
    rw [ByteArray.size_append]
    have : (dgb (m % 10)).size = 1 := rfl
    omega
  have key : dcb m ++ s = dcb u := by
    rcases h with ⟨rfl, rfl⟩ | ⟨h1, rfl, rfl⟩ | ⟨h1, h2, h3⟩
    · exact ba_nil _
    · rcases hm with hm | hm
      · omega
      · rw [hm] at h1
        exact absurd h1 (by decide)
    · exact h3
  by_cases h10 : m < 10
  · have e0 : m / 10 = 0 := by omega
    have e1 : m % 10 = m := by omega
    rw [e0, e1] at *
    rw [dcb_small h10] at key
    exact Or.inr (Or.inl ⟨hp, rfl, key⟩)
  · rw [dcb_big h10, ba_assoc] at key
    exact Or.inr (Or.inr ⟨hp, by omega, key⟩)

theorem Dg.done {u : Nat} {s : ByteArray} (h : Dg u 0 s) (hs : ¬ s = ⟨#[]⟩) : s = dcb u := by
  rcases h with ⟨h1, _⟩ | ⟨_, _, h2⟩ | ⟨_, h2, _⟩
  · exact absurd h1 hs
  · exact h2
  · omega

theorem size_pos {s : ByteArray} (h : ¬ s = ⟨#[]⟩) : s.toList.isEmpty = false := by
  cases hx : s.toList.isEmpty with
  | false => rfl
  | true =>
    exfalso
    apply h
    apply ByteArray.ext
    rw [ByteArray.toList_eq] at hx
    simpa using hx

theorem dcb_size {u : Nat} (hu : u ≤ 9223372036854775807) : (dcb u).size ≤ 21 := by
  have := Lib.itoa_length_le (u : Int) (by omega) (by omega)
  unfold Lib.itoa at this
  rw [if_neg (by omega)] at this
  show (Lib.decDigits u).toArray.size ≤ 21
  simpa using this

theorem Dg.size {u m : Nat} {s : ByteArray} (hu : u ≤ 9223372036854775807) (h : Dg u m s) : s.size ≤ 21 := by
  have h0 := dcb_size hu
  rcases h with ⟨rfl, _⟩ | ⟨_, _, rfl⟩ | ⟨_, _, h3⟩
  · exact Nat.zero_le _
  · exact h0
  · rw [← h3, ByteArray.size_append] at h0
    omega

/-- How long a text is. -/
def strl : Value → Nat
  | .string s => s.size
  | _ => 0

set_option maxRecDepth 100000 in
set_option maxHeartbeats 1000000 in
theorem digits_pos (w : World) (u : Nat) (hu : u ≤ 9223372036854775807) :
    Calls Tryd.prog 32 #[.int .i64 (u : Int)] w fun e w' => e = .returned (.string (dcb u)) ∧ w' = w := by
  go_enter Tryd.func32, Tryd.ntmps32
  go_wp2
  go_loopw [0, 3] (fun nv sv wr => ∃ (m : Nat) (s : ByteArray), m ≤ u ∧ nv = .int .i64 (m : Int) ∧ sv = .string s ∧ wr = w ∧ Dg u m s) (fun nv sv _ => (intOf nv).toNat + (1 - strl sv))
  case atStart => exact ⟨u, _, Nat.le_refl _, rfl, rfl, rfl, Or.inl ⟨rfl, rfl⟩⟩
  case round =>
    obtain ⟨m, s, hm, rfl, rfl, rfl, D⟩ := hrel
    have hs := D.size hu
    have hd10 : m % 10 < 10 := by omega
    have hdd : (m : Int).tmod 10 = ((m % 10 : Nat) : Int) := by
      rw [Int.tmod_eq_emod_of_nonneg (by omega)]
      omega
    have he := enc_digit hd10
    have hds : (dgb (m % 10)).size = 1 := rfl
    have HU : Hid (m ≤ u ∧ u ≤ 9223372036854775807) := ⟨hm, hu⟩
    by_cases hm0 : 0 < m
    · have D2 : Hid (Dg u (m / 10) (dgb (m % 10) ++ s)) := D.next (Or.inl hm0)
      generalize dgb (m % 10) = x at he D2 hds ⊢
      obtain ⟨d, hd⟩ : ∃ d, m % 10 = d := ⟨_, rfl⟩
      rw [hd] at hdd he hd10
      have hq : wrap64 ((m : Int) / 10) = ((m / 10 : Nat) : Int) := by unfold wrap64; omega
      have HQ : Hid (wrap64 ((m : Int) / 10) = ((m / 10 : Nat) : Int)) := hq
      clear hd hq D hm hu
      go_upto_region 7 with fail
      go_wp2
      rw [HQ.out]
      exact ⟨⟨m / 10, x ++ s, by have := HU.out; omega, rfl, rfl, trivial, D2.out⟩, by simp only [intOf, strl, ByteArray.size_append, hds]; omega⟩
    · obtain rfl : m = 0 := by omega
      by_cases hse : s = ⟨#[]⟩
      · have D2 : Hid (Dg u (0 / 10) (dgb (0 % 10) ++ s)) := D.next (Or.inr hse)
        subst hse
        have e1 : dgb (0 % 10) ++ ⟨#[]⟩ = ⟨#[48]⟩ := rfl
        rw [e1] at D2
        clear D hm hu he hds hdd hs hd10
        go_wp2
        exact ⟨⟨0, _, Nat.zero_le _, rfl, rfl, trivial, D2.out⟩, by simp [intOf, strl]; decide⟩
      · have hd := D.done hse
        subst hd
        have he2 := size_pos hse
        clear D hm hu hse he hds hdd hs hd10
        go_wp2
        go_ret
        exact ⟨rfl, rfl⟩

/-- What digits tells of any number. -/
def dgt (n : Int) : ByteArray := if n < -4611686018427387904 then ⟨#[63]⟩ else itb n

theorem itb_pos (u : Nat) : itb (u : Int) = dcb u := by
  unfold itb dcb Lib.itoa
  rw [if_neg (by omega)]
  rfl

theorem itb_neg {n : Int} (h : n < 0) : itb n = ⟨#[45]⟩ ++ dcb n.natAbs := by
  unfold itb dcb Lib.itoa
  rw [if_pos h, show (⟨#[45]⟩ : ByteArray) = ⟨[45].toArray⟩ from rfl, ba_app]
  rfl

set_option maxRecDepth 100000 in
set_option maxHeartbeats 1000000 in
theorem digits_any (w : World) (n : Int) (h0 : -9223372036854775808 ≤ n) (h1 : n ≤ 9223372036854775807) :
    Calls Tryd.prog 32 #[.int .i64 n] w fun e w' => e = .returned (.string (dgt n)) ∧ w' = w := by
  by_cases hn : n < 0
  · by_cases hs : n < -4611686018427387904
    · unfold dgt
      rw [if_pos hs]
      go_enter Tryd.func32, Tryd.ntmps32
      go_wp2
      go_ret
      exact ⟨rfl, rfl⟩
    · unfold dgt
      rw [if_neg hs, itb_neg hn]
      have HD := digits_pos w n.natAbs (by omega)
      have hsz := dcb_size (u := n.natAbs) (by omega)
      rw [show ((n.natAbs : Nat) : Int) = -n by omega] at HD
      generalize dcb n.natAbs = x at HD hsz ⊢
      have HN : Hid (Calls Tryd.prog 32 #[.int .i64 (-n)] w fun e w' => e = .returned (.string x) ∧ w' = w) := HD
      clear HD
      go_enter Tryd.func32, Tryd.ntmps32
      go_wp2_with fail
      refine HN.out.mono ?_
      rintro e w9 ⟨rfl, hw⟩
      have hw2 := hw.symm
      clear hw
      subst hw2
      clear HN h0 h1 hn hs
      go_wp2
      go_ret
      exact ⟨rfl, rfl⟩
  · obtain ⟨u, rfl⟩ : ∃ u : Nat, n = (u : Int) := ⟨n.toNat, by omega⟩
    unfold dgt
    rw [if_neg (by omega), itb_pos]
    exact digits_pos w u (by omega)

end Go.Proofs.YtpjkpobdkmcedaaDoor
