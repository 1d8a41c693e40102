/-
  A rune's text, read as runes, is that rune alone; and back.
-/
import Derived.Test.YtgebdaanglmnnaaDoorNumber
import Derived.Laws.IdiomStrings
import Derived.Laws.Cover4
namespace Go.Proofs.YtgebdaanglmnnaaDoor
open Go.RowKit Utf

theorem valid_nat {n : Nat} (h : good (n : Int)) : Utf8.valid (n : Int) = true := valid_of_good h

/-- The text of a rune, by how many bytes it has. -/
theorem encode_nat {n : Nat} (h : good (n : Int)) : Utf8.encode (n : Int) =
    if n < 128 then ⟨#[UInt8.ofNat n]⟩
    else if n < 2048 then ⟨#[UInt8.ofNat (192 + n / 64), UInt8.ofNat (128 + n % 64)]⟩
    else if n < 65536 then ⟨#[UInt8.ofNat (224 + n / 4096), UInt8.ofNat (128 + n / 64 % 64), UInt8.ofNat (128 + n % 64)]⟩
    else ⟨#[UInt8.ofNat (240 + n / 262144), UInt8.ofNat (128 + n / 4096 % 64), UInt8.ofNat (128 + n / 64 % 64), UInt8.ofNat (128 + n % 64)]⟩ := by
  unfold Utf8.encode
  simp only [valid_nat h, if_true, Int.toNat_natCast]

theorem dec1 (a : UInt8) (h : a.toNat < 128) : Utf8.decode ⟨#[a]⟩ 0 = (a.toNat, 1) := by
  unfold Utf8.decode
  simp [ByteArray.get!, h]

theorem dec2 (a b : UInt8) (c : Nat) (h1 : ¬ a.toNat < 128) (h2 : a.toNat / 32 = 6) (h3 : b.toNat / 64 = 2) (hc : a.toNat % 32 * 64 + b.toNat % 64 = c) (h4 : 128 ≤ c) : Utf8.decode ⟨#[a, b]⟩ 0 = (c, 2) := by
  unfold Utf8.decode
  simp [ByteArray.get!, ByteArray.size, h1, h2, h3, hc, h4]

theorem dec3 (a b d : UInt8) (c : Nat) (h1 : ¬ a.toNat < 128) (h2 : ¬ a.toNat / 32 = 6) (h3 : a.toNat / 16 = 14) (h4 : b.toNat / 64 = 2) (h5 : d.toNat / 64 = 2) (hc : a.toNat % 16 * 4096 + b.toNat % 64 * 64 + d.toNat % 64 = c) (h6 : 2048 ≤ c) (hv : Utf8.valid (c : Int) = true) : Utf8.decode ⟨#[a, b, d]⟩ 0 = (c, 3) := by
  have k0 : (⟨#[a, b, d]⟩ : ByteArray).get! 0 = a := rfl
  have k1 : (⟨#[a, b, d]⟩ : ByteArray).get! 1 = b := rfl
  have k2 : (⟨#[a, b, d]⟩ : ByteArray).get! 2 = d := rfl
  have ks : (⟨#[a, b, d]⟩ : ByteArray).size = 3 := rfl
  have g2 : (a.toNat / 32 == 6) = false := beq_eq_false_iff_ne.2 h2
  have g3 : (a.toNat / 16 == 14) = true := beq_iff_eq.2 h3
  have g4 : (b.toNat / 64 == 2) = true := beq_iff_eq.2 h4
  have g5 : (d.toNat / 64 == 2) = true := beq_iff_eq.2 h5
  have g6 : (decide (c ≥ 2048) && Utf8.valid (c : Int)) = true := by rw [hv, decide_eq_true h6]; rfl
  unfold Utf8.decode
  simp only [Nat.zero_add, k0, k1, k2, ks, g2, g3, g4, g5, hc]
  rw [if_neg h1, if_neg (by decide), if_pos (by decide)]
  rw [if_pos g6]

theorem dec4 (a b d e : UInt8) (c : Nat) (h1 : ¬ a.toNat < 128) (h2 : ¬ a.toNat / 32 = 6) (h3 : ¬ a.toNat / 16 = 14) (h4 : a.toNat / 8 = 30) (h5 : b.toNat / 64 = 2) (h6 : d.toNat / 64 = 2) (h7 : e.toNat / 64 = 2) (hc : a.toNat % 8 * 262144 + b.toNat % 64 * 4096 + d.toNat % 64 * 64 + e.toNat % 64 = c) (h8 : 65536 ≤ c) (hv : Utf8.valid (c : Int) = true) : Utf8.decode ⟨#[a, b, d, e]⟩ 0 = (c, 4) := by
  have k0 : (⟨#[a, b, d, e]⟩ : ByteArray).get! 0 = a := rfl
  have k1 : (⟨#[a, b, d, e]⟩ : ByteArray).get! 1 = b := rfl
  have k2 : (⟨#[a, b, d, e]⟩ : ByteArray).get! 2 = d := rfl
  have k3 : (⟨#[a, b, d, e]⟩ : ByteArray).get! 3 = e := rfl
  have ks : (⟨#[a, b, d, e]⟩ : ByteArray).size = 4 := rfl
  have g2 : (a.toNat / 32 == 6) = false := beq_eq_false_iff_ne.2 h2
  have g3 : (a.toNat / 16 == 14) = false := beq_eq_false_iff_ne.2 h3
  have g4 : (a.toNat / 8 == 30) = true := beq_iff_eq.2 h4
  have g5 : (b.toNat / 64 == 2) = true := beq_iff_eq.2 h5
  have g6 : (d.toNat / 64 == 2) = true := beq_iff_eq.2 h6
  have g7 : (e.toNat / 64 == 2) = true := beq_iff_eq.2 h7
  have g8 : (decide (c ≥ 65536) && Utf8.valid (c : Int)) = true := by rw [hv, decide_eq_true h8]; rfl
  unfold Utf8.decode
  simp only [Nat.zero_add, k0, k1, k2, k3, ks, g2, g3, g4, g5, g6, g7, hc]
  rw [if_neg h1, if_neg (by decide), if_neg (by decide), if_pos (by decide)]
  rw [if_pos g8]

/-- Read again it is the rune, and its text's end. -/
theorem decode_encode {n : Nat} (h : good (n : Int)) : Utf8.decode (Utf8.encode (n : Int)) 0 = (n, (Utf8.encode (n : Int)).size) ∧ 1 ≤ (Utf8.encode (n : Int)).size := by
  have hv := valid_nat h
  rw [encode_nat h]
  unfold good at h
  by_cases h1 : n < 128
  · rw [if_pos h1]
    refine ⟨?_, by simp [ByteArray.size]⟩
    have e1 : (UInt8.ofNat n).toNat = n := by simp; omega
    rw [dec1 _ (by omega), e1]
    rfl
  rw [if_neg h1]
  by_cases h2 : n < 2048
  · rw [if_pos h2]
    refine ⟨?_, by simp [ByteArray.size]⟩
    have e1 : (UInt8.ofNat (192 + n / 64)).toNat = 192 + n / 64 := by simp; omega
    have e2 : (UInt8.ofNat (128 + n % 64)).toNat = 128 + n % 64 := by simp; omega
    rw [dec2 _ _ n (by omega) (by omega) (by omega) (by omega) (by omega)]
    rfl
  rw [if_neg h2]
  by_cases h3 : n < 65536
  · rw [if_pos h3]
    refine ⟨?_, by simp [ByteArray.size]⟩
    have e1 : (UInt8.ofNat (224 + n / 4096)).toNat = 224 + n / 4096 := by simp; omega
    have e2 : (UInt8.ofNat (128 + n / 64 % 64)).toNat = 128 + n / 64 % 64 := by simp; omega
    have e3 : (UInt8.ofNat (128 + n % 64)).toNat = 128 + n % 64 := by simp; omega
    rw [dec3 _ _ _ n (by omega) (by omega) (by omega) (by omega) (by omega) (by omega) (by omega) hv]
    rfl
  rw [if_neg h3]
  refine ⟨?_, by simp [ByteArray.size]⟩
  have e1 : (UInt8.ofNat (240 + n / 262144)).toNat = 240 + n / 262144 := by simp; omega
  have e2 : (UInt8.ofNat (128 + n / 4096 % 64)).toNat = 128 + n / 4096 % 64 := by simp; omega
  have e3 : (UInt8.ofNat (128 + n / 64 % 64)).toNat = 128 + n / 64 % 64 := by simp; omega
  have e4 : (UInt8.ofNat (128 + n % 64)).toNat = 128 + n % 64 := by simp; omega
  rw [dec4 _ _ _ _ n (by omega) (by omega) (by omega) (by omega) (by omega) (by omega) (by omega) (by omega) (by omega) hv]
  rfl

/-- []rune of a rune's text. -/
theorem runes_one {c : Int} (h : good c) : Conv.runesFrom (Utf8.encode c) (Utf8.encode c).size 0 #[] = #[.int .i32 c] := by
  obtain ⟨n, rfl⟩ : ∃ n : Nat, c = n := ⟨c.toNat, by unfold good at h; omega⟩
  obtain ⟨h1, h2⟩ := decode_encode h
  generalize Utf8.encode (n : Int) = s at h1 h2
  obtain ⟨m, hm⟩ : ∃ m, s.size = m + 1 := ⟨s.size - 1, by omega⟩
  rw [hm, Conv.runesFrom, if_pos (by omega), h1]
  simp only [Nat.zero_add]
  cases m with
  | zero => simp [Conv.runesFrom]
  | succ k => rw [Conv.runesFrom, if_neg (by omega)]; simp

theorem to_runes (w : World) {c : Int} (h : good c) : ∃ k w1, (convert 9 93 (.string (Utf8.encode c))).run Tryd.prog w = .ok (.slice (some ⟨w.heap.size, 0, none⟩) 1 k) w1 ∧ Kp [] w w1 ∧ w1.cell? ⟨w.heap.size, 0, none⟩ = some (.int .i32 c) ∧ (convert 93 9 (.slice (some ⟨w.heap.size, 0, none⟩) 1 k)).run Tryd.prog w1 = .ok (.string (Utf8.encode c)) w1 := by
  have hr := run_runes_of_string (P := Tryd.prog) w 9 93 21 (Utf8.encode c) Tryd.underlying9 Tryd.underlying93 Tryd.underlying21 (by rw [runes_one h]; simp)
  rw [runes_one h] at hr
  have hcell : ∀ L : Array Value, (w.drew.alloc (.cells (#[Value.int .i32 c] ++ L) 21)).cell? ⟨w.heap.size, 0, none⟩ = some (.int .i32 c) := fun L => by
    have hh : (w.drew.alloc (.cells (#[Value.int .i32 c] ++ L) 21)).heap[w.heap.size]? = some (.cells (#[Value.int .i32 c] ++ L) 21) := heap_new w.drew _
    rw [cell_of hh, Array.getElem?_append_left (by simp)]
    rfl
  refine ⟨_, _, hr, (Kp.refl _ _).drew.alloc _, ?_, ?_⟩
  · exact hcell _
  · rw [run_convert_runes (P := Tryd.prog) _ 93 9 21 ⟨w.heap.size, 0, none⟩ 1 _ [c] (by simp) Tryd.underlying93 Tryd.underlying21 Tryd.underlying9 ?_]
    · simp [runesBytes]
    · intro j hj
      simp at hj
      subst hj
      rw [Addr.add_lit]
      exact hcell _

theorem rune_good (n : Int) : good (rune n) := by
  unfold rune
  split
  · unfold good
    omega
  · rename_i h
    split
    · rename_i h2
      have := ins_good (n - 128).toNat (by omega)
      unfold good
      omega
    · unfold odd at h
      unfold good
      omega

theorem rune_self {n : Int} (h : (32 ≤ n ∧ n < 127) ∨ (160 ≤ n ∧ n < 55296)) : rune n = n := by
  unfold rune
  rw [if_neg (by unfold odd; omega), if_neg (by omega)]

end Go.Proofs.YtgebdaanglmnnaaDoor
