/-
  The walk of MarkTells: whatever it is given, it answers true, and leaves what was there as it was.
-/
import Derived.Test.YthdlmglnieomeaaAgree
namespace Go.Proofs.Ythdlmglnieomeaa
open Go.RowKit Utf
set_option linter.unusedVariables false

/-- The beginnings. -/
def BEG : List ByteArray := [⟨#[60, 33, 45, 45]⟩, ⟨#[60, 33]⟩, ⟨#[60, 63]⟩, ⟨#[60, 47]⟩, ⟨#[60, 33, 91, 67, 68, 65, 84, 65, 91]⟩]
theorem beg_len : BEG.length = 5 := rfl
theorem beg_size : ∀ x, x ∈ BEG → x.size ≤ 9 := by decide +kernel

set_option maxHeartbeats 2000000 in
set_option maxRecDepth 100000 in
theorem tells_any (w : World) (s0 : ByteArray) (ao : Option Addr) (n c : Nat) (F : Nat → Int) (hl : Is w ao n c F) (how a : Int) (fg : Bool) :
    Calls Try.prog 4 #[.string s0, .slice ao n c, .int .i64 how, .int .i64 a, .bool fg] w fun e w' => e = .returned (.bool true) ∧ Kp [] w w' := by
  have hsz := cut_size s0 60
  have hj := wi_le how 4
  have HW := fun W => within_zero W how 4 (by omega)
  generalize wi how 4 = q at hj HW
  have HR : Rb (w.alloc (.cells (tx BEG).toArray 9)) (some ⟨w.heap.size, 0, none⟩) 5 5 (tx BEG) := rb_lit w 9 _ (tx BEG) 5 rfl rfl (by omega)
  have k1 : Kp [] w (w.alloc (.cells (tx BEG).toArray 9)) := (Kp.refl _ _).alloc _
  go_enter Try.func4, Try.ntmps4
  go_wp2_with fail
  refine (cut_any _ s0 60 (by omega)).mono ?_
  rintro e w' ⟨rfl, rfl⟩
  generalize (if 60 < s0.size then s0.extract 0 60 else s0) = s at hsz ⊢
  rename World => w
  go_wp2_with fail
  rw [show #[Value.string { data := #[60, 33, 45, 45] }, Value.string { data := #[60, 33] }, Value.string { data := #[60, 63] }, Value.string { data := #[60, 47] }, Value.string { data := #[60, 33, 91, 67, 68, 65, 84, 65, 91] }] = (tx BEG).toArray from rfl]
  generalize w.alloc (.cells (tx BEG).toArray 9) = W0 at HR k1 ⊢
  generalize some (⟨w.heap.size, 0, none⟩ : Addr) = ta at HR ⊢
  refine (HW _).mono ?_
  rintro e w' ⟨rfl, rfl⟩
  clear HW
  obtain ⟨b1, o1, rfl, h1⟩ := HR.tx_at q (by rw [beg_len]; omega)
  have hx := beg_size (BEG[q]'(by rw [beg_len]; omega)) (List.getElem_mem _)
  generalize BEG[q]'(by rw [beg_len]; omega) = x0 at h1 hx
  clear HR
  go_wp2
  go_loopw [11, 12] (fun x i wr => ∃ (k : Nat) (t : ByteArray), i = .int .i64 (k : Int) ∧ x = .string t ∧ k ≤ n ∧ k ≤ 20 ∧ t.size ≤ 9 + 7 * k ∧ Kp [] w wr) (fun _ i _ => 20 - (intOf i).toNat)
  case atStart => exact ⟨0, x0, rfl, rfl, by omega, by omega, by omega, k1⟩
  case round =>
    obtain ⟨k, t, rfl, rfl, hk1, hk2, ht, kr⟩ := hrel
    clear h1 k1
    by_cases h1 : k < n
    · by_cases h2 : k < 20
      · obtain ⟨b, o, rfl, hc⟩ := (hl.kept kr).2 k h1
        generalize F k = y at hc
        go_wp2_with fail
        refine (piece_any _ y).mono ?_
        rintro e w2 ⟨p, rfl, hp, k2⟩
        have i7 : ¬ 9223372036854775807 < t.size + p.size := by omega
        go_wp2
        go_roundw
        case rel => exact ⟨k + 1, t ++ p, by go_num, rfl, by omega, by omega, by rw [cat_size]; omega, kr.trans k2 (fun x hx => by simp at hx)⟩
        case measure => simp [intOf]; omega
      · skip
        have hz : t.size ≤ 150 := by omega
        have hz2 : (t.size : Int) ≤ 150 := by omega
        have z1 : (⟨#[60, 33]⟩ ++ s).size ≤ 100000 := by rw [cat_size, show ByteArray.size ⟨#[60, 33]⟩ = 2 from rfl]; omega
        have z3 : (t ++ s).size ≤ 100000 := by rw [cat_size]; omega
        have S1 := same_law wr s a fg (by omega)
        have S2 := fun W => same_law W (⟨#[60, 33]⟩ ++ s) 0 fg z1
        have S3 := fun W => same_law W t 0 fg (by omega)
        have W1 := fun W => within_zero W a t.size (by omega)
        generalize (wi a t.size : Int) = a2 at W1
        have S5 := fun W => same_law W (t ++ s) a2 fg z3
        have S6 := fun W => known_any W
        have i7 : ¬ 9223372036854775807 < 2 + s.size := by omega
        have i9 : ¬ 9223372036854775807 < t.size + s.size := by omega
        clear hl z1 z3
        go_wp2_with fail
        refine (from_back S1 kr).mono ?_
        rintro e w1 ⟨rfl, k1⟩
        clear S1
        go_wp2_with fail
        refine (from_back (S2 _) k1).mono ?_
        rintro e w3 ⟨rfl, k3⟩
        clear S2 k1
        go_wp2_with fail
        refine (from_back (S3 _) k3).mono ?_
        rintro e w4 ⟨rfl, k4⟩
        clear S3 k3
        go_wp2_with fail
        refine (W1 _).mono ?_
        rintro e w6 ⟨rfl, rfl⟩
        clear W1
        go_wp2_with fail
        refine (from_back (S5 _) k4).mono ?_
        rintro e w7 ⟨rfl, k7⟩
        clear S5 k4
        go_wp2_with fail
        refine (from_back (S6 _) k7).mono ?_
        rintro e w8 ⟨rfl, k8⟩
        clear S6 k7
        go_wp2
        go_ret
        exact ⟨rfl, k8⟩
    · skip
      have hz : t.size ≤ 150 := by omega
      have hz2 : (t.size : Int) ≤ 150 := by omega
      have z1 : (⟨#[60, 33]⟩ ++ s).size ≤ 100000 := by rw [cat_size, show ByteArray.size ⟨#[60, 33]⟩ = 2 from rfl]; omega
      have z3 : (t ++ s).size ≤ 100000 := by rw [cat_size]; omega
      have S1 := same_law wr s a fg (by omega)
      have S2 := fun W => same_law W (⟨#[60, 33]⟩ ++ s) 0 fg z1
      have S3 := fun W => same_law W t 0 fg (by omega)
      have W1 := fun W => within_zero W a t.size (by omega)
      generalize (wi a t.size : Int) = a2 at W1
      have S5 := fun W => same_law W (t ++ s) a2 fg z3
      have S6 := fun W => known_any W
      have i7 : ¬ 9223372036854775807 < 2 + s.size := by omega
      have i9 : ¬ 9223372036854775807 < t.size + s.size := by omega
      clear hl z1 z3
      go_wp2_with fail
      refine (from_back S1 kr).mono ?_
      rintro e w1 ⟨rfl, k1⟩
      clear S1
      go_wp2_with fail
      refine (from_back (S2 _) k1).mono ?_
      rintro e w3 ⟨rfl, k3⟩
      clear S2 k1
      go_wp2_with fail
      refine (from_back (S3 _) k3).mono ?_
      rintro e w4 ⟨rfl, k4⟩
      clear S3 k3
      go_wp2_with fail
      refine (W1 _).mono ?_
      rintro e w6 ⟨rfl, rfl⟩
      clear W1
      go_wp2_with fail
      refine (from_back (S5 _) k4).mono ?_
      rintro e w7 ⟨rfl, k7⟩
      clear S5 k4
      go_wp2_with fail
      refine (from_back (S6 _) k7).mono ?_
      rintro e w8 ⟨rfl, k8⟩
      clear S6 k7
      go_wp2
      go_ret
      exact ⟨rfl, k8⟩

end Go.Proofs.Ythdlmglnieomeaa
