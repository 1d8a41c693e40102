/-
  All of both sides, of any text; the laws' same and known.
-/
import Derived.Test.YtcfaejbbjmjgpaaGreatDoorGroundF
import Derived.Test.YtcfaejbbjmjgpaaGreatDoorGroundB
import Derived.Test.YtcfaejbbjmjgpaaGreatDoorBuild
namespace Go.Proofs.YtcfaejbbjmjgpaaGreatDoor
open Go.RowKit Utf
set_option linter.unusedVariables false

theorem in_amp (x : Int) : inS ⟨#[38]⟩ x = decide (x = 38) := by
  unfold inS
  rw [decide_eq_decide]
  constructor
  · rintro ⟨j, hj, h⟩
    have hj1 : j < 1 := hj
    obtain rfl : j = 0 := by omega
    rw [← h]
    decide
  · rintro rfl
    exact ⟨0, by decide, by decide⟩

/-- One round of All: up to the next sign, and what is read there. -/
theorem all_step (s : ByteArray) (attr : Bool) (p : Nat) (hp : p < s.size) : p ≤ untilF s ⟨#[38]⟩ p ∧ untilF s ⟨#[38]⟩ p ≤ s.size ∧
    ∃ r : Nat, rAE s (untilF s ⟨#[38]⟩ p : Int) = (r : Int) ∧ p < r ∧ r ≤ s.size ∧ allF s attr p = s.extract p (untilF s ⟨#[38]⟩ p) ++ (rAT s (untilF s ⟨#[38]⟩ p : Int) attr ++ allF s attr r) := by
  have hf : Fs (fun i => inS ⟨#[38]⟩ (bt s i)) p s.size (untilF s ⟨#[38]⟩ p) := fs_is _ (Nat.le_of_lt hp)
  generalize untilF s ⟨#[38]⟩ p = q at hf
  have hsk := allF_skip s attr (q - p) p (by have := hf.hi; have := hf.lo; omega) (fun j h1 h2 => by
    have := hf.lo
    have h3 := hf.no j h1 (by omega)
    rw [in_amp] at h3
    exact of_decide_eq_false h3)
  rw [show p + (q - p) = q by have := hf.lo; omega] at hsk
  refine ⟨hf.lo, hf.hi, ?_⟩
  by_cases hq : q < s.size
  · have hb : bt s q = 38 := by
      have := hf.at' hq
      rw [in_amp] at this
      exact of_decide_eq_true this
    obtain ⟨e1, e2⟩ := rA_yes hq hb attr
    have h3 := rE_gt hq
    refine ⟨rE s q, e2, by have := hf.lo; omega, h3.2, ?_⟩
    rw [e1, ← allF_amp hq hb]
    exact hsk
  · obtain ⟨e1, e2⟩ := rA_no (s := s) (a := (q : Int)) (fun h => by omega) attr
    refine ⟨q, e2, by omega, hf.hi, ?_⟩
    rw [e1, nil_cat]
    exact hsk

set_option maxHeartbeats 1000000 in
theorem all_any (w : World) (hn : Nm w) (hi : In w) (s : ByteArray) (attr : Bool) (hs : s.size ≤ 20000) : Calls Tryz.prog 62 #[.string s, .bool attr] w fun e w' => e = .returned (.string (allF s attr 0)) ∧ Kp [] w w' := by
  have B0 := bd_new w
  have HS := allF_size s attr s.size 0 (by omega)
  obtain ⟨A, hA⟩ : ∃ A, allF s attr 0 = A := ⟨_, rfl⟩
  rw [hA] at HS ⊢
  have hA1 : A.size ≤ 320000 := by omega
  clear HS
  go_enter Tryz.func62, Tryz.ntmps62
  go_wp2
  generalize w.alloc (.cells #[.pointer none, .slice none 0 0] 94) = w1 at B0 ⊢
  generalize w.heap.size = g at B0 ⊢
  go_loopw [6] (fun i wr => ∃ (p : Nat) (acc : ByteArray), p ≤ s.size ∧ i = .int .i64 (p : Int) ∧ Hid (Bd w wr g acc) ∧ Hid (acc ++ allF s attr p = A)) (fun i _ => s.size - (intOf i).toNat)
  case atStart => exact ⟨0, ⟨#[]⟩, by omega, rfl, B0, by show _ = _; rw [nil_cat]; exact hA⟩
  case round =>
    obtain ⟨p, acc, hp, rfl, HB, hacc⟩ := hrel
    clear B0 hA
    by_cases hlt : p < s.size
    · have HU := until_any wr s p ⟨#[38]⟩ (by omega) (by decide)
      rw [pl_of hp] at HU
      obtain ⟨hq1, hq2, r, hr, hr1, hr2, hstep⟩ := all_step s attr p hlt
      generalize untilF s ⟨#[38]⟩ p = q at HU hq1 hq2 hr hstep
      have HR := fun W (kk : Kp [] w W) => read_any W (hn.kept kk) (hi.kept kk) s (q : Int) attr (by omega)
      rw [hr] at HR
      rw [hstep, ← cat_assoc, ← cat_assoc] at hacc
      generalize rAT s (q : Int) attr = t at HR hacc
      have hz : (acc ++ s.extract p q).size + t.size ≤ 320000 := by
        have := congrArg ByteArray.size hacc.out
        rw [cat_size, cat_size] at this
        omega
      have hz2 : acc.size + (s.extract p q).size ≤ 1000000 := by
        rw [cat_size] at hz
        omega
      have HW1 := fun W (kk : Kp [] wr W) => write_any w W g acc (s.extract p q) (HB.out.kept kk) hz2
      have HW2 := fun W (hB : Bd w W g (acc ++ s.extract p q)) => write_any w W g (acc ++ s.extract p q) t hB (by omega)
      clear hstep hr hz hz2 HB
      go_wp2_with fail
      refine HU.mono ?_
      rintro e w2 ⟨rfl, k2⟩
      clear HU
      go_wp2_with fail
      refine (HW1 _ k2).mono ?_
      rintro e w3 ⟨rfl, B3⟩
      clear HW1 k2
      go_wp2_with fail
      refine (HR _ B3.kp).mono ?_
      rintro e w4 ⟨rfl, k4⟩
      have B4 := B3.kept k4
      clear HR B3 k4
      go_wp2_with fail
      refine (HW2 _ B4).mono ?_
      rintro e w5 ⟨rfl, B5⟩
      clear HW2 B4
      go_wp2
      go_roundw
      case rel => exact ⟨r, _, hr2, rfl, B5, hacc⟩
      case measure => simp [intOf]; omega
    · obtain rfl : p = s.size := by omega
      have he : acc = A := by
        have := hacc.out
        rw [allF_end (Nat.le_refl _), cat_nil] at this
        exact this
      subst he
      have HF := string_any w wr g acc HB.out
      clear hacc HB
      go_wp2_with fail
      refine HF.mono ?_
      rintro e w2 ⟨rfl, k2⟩
      clear HF
      go_wp2
      go_ret
      exact ⟨rfl, k2⟩

set_option maxHeartbeats 1000000 in
theorem ref_alls_any (w : World) (s : ByteArray) (attr : Bool) (hs : s.size ≤ 20000) : Calls Tryz.prog 43 #[.string s, .bool attr] w fun e w' => e = .returned (.string (allF s attr 0)) ∧ Kp [] w w' := by
  have HS := allF_size s attr s.size 0 (by omega)
  obtain ⟨A, hA⟩ : ∃ A, allF s attr 0 = A := ⟨_, rfl⟩
  rw [hA] at HS ⊢
  have hA1 : A.size ≤ 320000 := by omega
  clear HS
  go_enter Tryz.func43, Tryz.ntmps43
  go_wp2
  go_loopw [5, 6] (fun o i wr => ∃ (p : Nat) (acc : ByteArray), p ≤ s.size ∧ i = .int .i64 (p : Int) ∧ o = .string acc ∧ Kp [] w wr ∧ Hid (acc ++ allF s attr p = A)) (fun _ i _ => s.size - (intOf i).toNat)
  case atStart => exact ⟨0, ⟨#[]⟩, by omega, rfl, rfl, Kp.refl _ _, by show _ = _; rw [nil_cat]; exact hA⟩
  case round =>
    obtain ⟨p, acc, hp, rfl, rfl, kp, hacc⟩ := hrel
    clear hA
    by_cases hlt : p < s.size
    · have i1 := index_at s (p : Int) p rfl hlt
      by_cases hb : bt s p = 38
      · have HR := ref_read_any wr s (p : Int) attr (by omega)
        obtain ⟨e1, e2⟩ := rA_yes hlt hb attr
        have h3 := rE_gt hlt
        rw [e1, e2] at HR
        rw [hb] at i1
        rw [allF_amp hlt hb, ← cat_assoc] at hacc
        generalize rE s p = r at HR hacc h3
        generalize rT s p attr = t at HR hacc
        have hz : acc.size + t.size ≤ 320000 := by
          have := congrArg ByteArray.size hacc.out
          rw [cat_size, cat_size] at this
          omega
        clear e1 e2 hb
        go_wp2_with fail
        refine (from_back HR kp).mono ?_
        rintro e w2 ⟨rfl, k2⟩
        clear HR kp
        have i7 : ¬ 9223372036854775807 < acc.size + t.size := by omega
        go_wp2
        go_roundw
        case rel => exact ⟨r, _, h3.2, rfl, rfl, k2, hacc⟩
        case measure => simp [intOf]; omega
      · rw [allF_other hlt hb, ← cat_assoc] at hacc
        obtain ⟨r1, r2⟩ := bt_range s p
        have hz : acc.size + (s.extract p (p + 1)).size ≤ 320000 := by
          have := congrArg ByteArray.size hacc.out
          rw [cat_size, cat_size] at this
          omega
        have hz1 : (s.extract p (p + 1)).size = 1 := by rw [ByteArray.size_extract]; omega
        generalize bt s p = x at i1 hb r1 r2
        have hb2 : (x == 38) = false := by simpa using hb
        clear hb
        have i7 : ¬ 9223372036854775807 < acc.size + (s.extract p (p + 1)).size := by omega
        go_wp2
        go_roundw
        case rel => exact ⟨p + 1, _, by omega, by go_num, rfl, kp, hacc⟩
        case measure => simp [intOf]; omega
    · obtain rfl : p = s.size := by omega
      have he : acc = A := by
        have := hacc.out
        rw [allF_end (Nat.le_refl _), cat_nil] at this
        exact this
      subst he
      clear hacc
      go_wp2
      go_ret
      exact ⟨rfl, kp⟩

end Go.Proofs.YtcfaejbbjmjgpaaGreatDoor
