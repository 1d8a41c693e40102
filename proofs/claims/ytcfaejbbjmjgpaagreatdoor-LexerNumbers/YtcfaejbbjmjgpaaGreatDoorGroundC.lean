/-
  Joined: Number One Red Digs Come Named.
-/
import Derived.Test.YtcfaejbbjmjgpaaGreatDoorGroundA
import Derived.Great.BuildSlice
import Derived.Deep.Cut
import Derived.Laws.IdiomStrings
import Derived.Laws.Cover4

/-
  Number, the program's and the document's, of any number.
-/
namespace Go.Proofs.YtcfaejbbjmjgpaaGreatDoor
open Go.RowKit Utf

/-- Runes, as values. -/
def r32 (l : List Int) : List Value := l.map (Value.int .i32)
theorem r32_len (l : List Int) : (r32 l).length = l.length := by simp [r32]

theorem Rb.r32_at {w : World} {ao : Option Addr} {n c : Nat} {l : List Int} (h : Rb w ao n c (r32 l)) (k : Nat) (hk : k < l.length) : ∃ b off, ao = some ⟨b, off, none⟩ ∧ w.cell? ⟨b, off + k, none⟩ = some (Value.int .i32 (l.getD k 0)) := by
  have hl := h.len
  rw [r32_len] at hl
  obtain ⟨b, off, h1, h2⟩ := h.at' k (by omega)
  exact ⟨b, off, h1, by rw [h2]; simp [r32, hk]⟩

/-- What stands instead of the numbers from 128 to 159 lies where the program's variable leads. -/
def In (w : World) : Prop := ∃ ao c, w.cell? ⟨0, 0, none⟩ = some (.slice ao 32 c) ∧ Rb w ao 32 c (r32 INS)

theorem In.kept {w w' : World} (h : In w) (k : Kp [] w w') : In w' := by
  obtain ⟨ao, c, h1, h2⟩ := h
  exact ⟨ao, c, by rw [k.cell (block_lt_of_cell h1) (by simp)]; exact h1, h2.kept k⟩

/-- A number of 64 bits. -/
def int64 (n : Int) : Prop := -9223372036854775808 ≤ n ∧ n ≤ 9223372036854775807

/-- No number of a character. -/
abbrev odd (n : Int) : Prop := n ≤ 0 ∨ 1114111 < n ∨ (55296 ≤ n ∧ n ≤ 57343)

/-- The rune that a number stands for. -/
def rune (n : Int) : Int := if odd n then 65533 else if 128 ≤ n ∧ n ≤ 159 then INS.getD (n - 128).toNat 0 else n

/-- What a number stands for. -/
def num (n : Int) : ByteArray := Utf8.encode (rune n)

theorem num_odd {n : Int} (h : odd n) : num n = ⟨#[239, 191, 189]⟩ := by
  unfold num rune
  rw [if_pos h]
  kernel_rfl
theorem num_high {n : Int} (h0 : ¬ odd n) (h : 128 ≤ n ∧ n ≤ 159) : num n = Utf8.encode (INS.getD (n - 128).toNat 0) := by
  unfold num rune
  rw [if_neg h0, if_pos h]
theorem num_plain {n : Int} (h0 : ¬ odd n) (h : ¬ (128 ≤ n ∧ n ≤ 159)) : num n = Utf8.encode n := by
  unfold num rune
  rw [if_neg h0, if_neg h]

set_option maxHeartbeats 1000000 in
theorem number_any (w : World) (hi : In w) (n : Int) (hn : int64 n) : Calls Tryz.prog 112 #[.int .i64 n] w fun e w' => e = .returned (.string (num n)) ∧ w' = w := by
  obtain ⟨hn1, hn2⟩ := hn
  by_cases h1 : n ≤ 0
  · rw [num_odd (Or.inl h1)]
    clear hi
    go_enter Tryz.func112, Tryz.ntmps112
    go_wp2
    go_ret
    exact ⟨rfl, rfl⟩
  by_cases h2 : 1114111 < n
  · rw [num_odd (Or.inr (Or.inl h2))]
    clear hi
    go_enter Tryz.func112, Tryz.ntmps112
    go_wp2
    go_ret
    exact ⟨rfl, rfl⟩
  by_cases h3 : 55296 ≤ n ∧ n ≤ 57343
  · rw [num_odd (Or.inr (Or.inr h3))]
    obtain ⟨h4, h5⟩ := h3
    clear hi
    go_enter Tryz.func112, Tryz.ntmps112
    go_wp2
    go_ret
    exact ⟨rfl, rfl⟩
  have h0 : ¬ odd n := by unfold odd; omega
  by_cases h4 : 128 ≤ n ∧ n ≤ 159
  · rw [num_high h0 h4]
    obtain ⟨ao, c, hc, hr⟩ := hi
    obtain ⟨k, hk, rfl⟩ : ∃ k : Nat, k < 32 ∧ n = 128 + (k : Int) := ⟨(n - 128).toNat, by omega, by omega⟩
    obtain ⟨b, off, rfl, h5⟩ := hr.r32_at k (by rw [ins_len]; exact hk)
    rw [show (128 + (k : Int) - 128).toNat = k by omega]
    generalize INS.getD k 0 = r at h5
    have h6 : (128 : Int) + k - 128 = k := by omega
    have h7 : ¬ 55296 ≤ (128 : Int) + k := by omega
    clear h0 h3 hr
    go_enter Tryz.func112, Tryz.ntmps112
    go_wp2
    go_ret
    exact ⟨rfl, rfl⟩
  · rw [num_plain h0 h4]
    clear hi h0
    go_enter Tryz.func112, Tryz.ntmps112
    go_wp2
    all_goals go_ret
    all_goals exact ⟨rfl, rfl⟩

theorem inz_num {k : Nat} (hk : k < 32) : num (128 + (k : Int)) = Utf8.encode (if INZ.getD k 0 = 0 then 128 + (k : Int) else INZ.getD k 0) := by
  have h := ins_inz k hk
  rw [num_high (by unfold odd; omega) (by omega), show (128 + (k : Int) - 128).toNat = k by omega, List.getD_eq_getElem?_getD, h]
  rfl

set_option maxRecDepth 100000 in
set_option maxHeartbeats 1000000 in
theorem ref_high (w : World) (k : Nat) (hk : k < 32) (r : Int) (hrr : r = INZ.getD k 0) (t : ByteArray) (h0 : r = 0 → t = Utf8.encode (128 + (k : Int))) (h1 : r ≠ 0 → t = Utf8.encode r) : Calls Tryz.prog 70 #[.int .i64 (128 + (k : Int))] w fun e w' => e = .returned (.string t) ∧ Kp [] w w' := by
  have hr : Rb (w.alloc (.cells (INZ.map (Value.int .i32)).toArray 21)) (some ⟨w.heap.size, 0, none⟩) 32 32 (r32 INZ) := rb_lit w 21 _ (r32 INZ) 32 rfl (by kernel_rfl) (by omega)
  have kk : Kp [] w (w.alloc (.cells (INZ.map (Value.int .i32)).toArray 21)) := (Kp.refl _ _).alloc _
  obtain ⟨b, off, ha, h5⟩ := hr.r32_at k (by rw [inz_len]; exact hk)
  rw [← hrr] at h5
  have h6 : (128 : Int) + k - 128 = k := by omega
  have h7 : ¬ 55296 ≤ (128 : Int) + k := by omega
  clear hr hrr
  by_cases hz : r = 0
  · rw [h0 hz]
    clear h0 h1
    subst hz
    go_enter Tryz.func70, Tryz.ntmps70
    go_upto_region 4 with fail
    refine wp_region_lit ?_
    refine wpList_buildFlat rfl 103 21 32 _ rfl .i32 INZ Tryz.underlying103 (by kernel_rfl) (by kernel_rfl) (by kernel_rfl) (by omega) (by omega) (by kernel_rfl) ?_
    generalize w.alloc (.cells (INZ.map (Value.int .i32)).toArray 21) = w1 at h5 kk
    rw [ha]
    clear ha
    go_wp2
    go_ret
    exact ⟨rfl, kk⟩
  · rw [h1 hz]
    clear h0 h1
    have hz' : (r != 0) = true := by simpa using hz
    clear hz
    go_enter Tryz.func70, Tryz.ntmps70
    go_upto_region 4 with fail
    refine wp_region_lit ?_
    refine wpList_buildFlat rfl 103 21 32 _ rfl .i32 INZ Tryz.underlying103 (by kernel_rfl) (by kernel_rfl) (by kernel_rfl) (by omega) (by omega) (by kernel_rfl) ?_
    generalize w.alloc (.cells (INZ.map (Value.int .i32)).toArray 21) = w1 at h5 kk
    rw [ha]
    clear ha
    go_wp2
    go_ret
    exact ⟨rfl, kk⟩

set_option maxHeartbeats 1000000 in
theorem ref_number_any (w : World) (n : Int) (hn : int64 n) : Calls Tryz.prog 70 #[.int .i64 n] w fun e w' => e = .returned (.string (num n)) ∧ Kp [] w w' := by
  obtain ⟨hn1, hn2⟩ := hn
  by_cases h1 : n ≤ 0
  · rw [num_odd (Or.inl h1)]
    go_enter Tryz.func70, Tryz.ntmps70
    go_wp2
    go_ret
    exact ⟨rfl, Kp.refl _ _⟩
  by_cases h2 : 1114111 < n
  · rw [num_odd (Or.inr (Or.inl h2))]
    go_enter Tryz.func70, Tryz.ntmps70
    go_wp2
    go_ret
    exact ⟨rfl, Kp.refl _ _⟩
  by_cases h3 : 55296 ≤ n ∧ n ≤ 57343
  · rw [num_odd (Or.inr (Or.inr h3))]
    obtain ⟨h4, h5⟩ := h3
    go_enter Tryz.func70, Tryz.ntmps70
    go_wp2
    go_ret
    exact ⟨rfl, Kp.refl _ _⟩
  have h0 : ¬ odd n := by unfold odd; omega
  by_cases h4 : 128 ≤ n ∧ n ≤ 159
  · obtain ⟨k, hk, rfl⟩ : ∃ k : Nat, k < 32 ∧ n = 128 + (k : Int) := ⟨(n - 128).toNat, by omega, by omega⟩
    exact ref_high w k hk _ rfl _ (fun h => by rw [inz_num hk, if_pos h]) (fun h => by rw [inz_num hk, if_neg h])
  · rw [num_plain h0 h4]
    clear h0
    go_enter Tryz.func70, Tryz.ntmps70
    go_wp2
    all_goals (first | omega | go_ret)
    all_goals exact ⟨rfl, Kp.refl _ _⟩

end Go.Proofs.YtcfaejbbjmjgpaaGreatDoor

/-
  A rune's text, read as runes, is that rune alone; and back.
-/
namespace Go.Proofs.YtcfaejbbjmjgpaaGreatDoor
open Go.RowKit Utf

theorem valid_nat {n : Nat} (h : good (n : Int)) : Utf8.valid (n : Int) = true := valid_of_good h

/-- The text of a rune, by how many bytes it has. -/
theorem encode_nat {n : Nat} (h : good (n : Int)) : Utf8.encode (n : Int) =
    if n < 128 then ⟨#[UInt8.ofNat n]⟩
    else if n < 2048 then ⟨#[UInt8.ofNat (192 + n / 64), UInt8.ofNat (128 + n % 64)]⟩
    else if n < 65536 then ⟨#[UInt8.ofNat (224 + n / 4096), UInt8.ofNat (128 + n / 64 % 64), UInt8.ofNat (128 + n % 64)]⟩
    else ⟨#[UInt8.ofNat (240 + n / 262144), UInt8.ofNat (128 + n / 4096 % 64), UInt8.ofNat (128 + n / 64 % 64), UInt8.ofNat (128 + n % 64)]⟩ := by
  unfold Utf8.encode
  simp only [valid_nat h, if_true, Int.toNat_natCast]

theorem dec1 (a : UInt8) (h : a.toNat < 128) : Utf8.decode ⟨#[a]⟩ 0 = (a.toNat, 1) := by
  unfold Utf8.decode
  simp [ByteArray.get!, h]

theorem dec2 (a b : UInt8) (c : Nat) (h1 : ¬ a.toNat < 128) (h2 : a.toNat / 32 = 6) (h3 : b.toNat / 64 = 2) (hc : a.toNat % 32 * 64 + b.toNat % 64 = c) (h4 : 128 ≤ c) : Utf8.decode ⟨#[a, b]⟩ 0 = (c, 2) := by
  unfold Utf8.decode
  simp [ByteArray.get!, ByteArray.size, h1, h2, h3, hc, h4]

theorem dec3 (a b d : UInt8) (c : Nat) (h1 : ¬ a.toNat < 128) (h2 : ¬ a.toNat / 32 = 6) (h3 : a.toNat / 16 = 14) (h4 : b.toNat / 64 = 2) (h5 : d.toNat / 64 = 2) (hc : a.toNat % 16 * 4096 + b.toNat % 64 * 64 + d.toNat % 64 = c) (h6 : 2048 ≤ c) (hv : Utf8.valid (c : Int) = true) : Utf8.decode ⟨#[a, b, d]⟩ 0 = (c, 3) := by
  have k0 : (⟨#[a, b, d]⟩ : ByteArray).get! 0 = a := rfl
  have k1 : (⟨#[a, b, d]⟩ : ByteArray).get! 1 = b := rfl
  have k2 : (⟨#[a, b, d]⟩ : ByteArray).get! 2 = d := rfl
  have ks : (⟨#[a, b, d]⟩ : ByteArray).size = 3 := rfl
  have g2 : (a.toNat / 32 == 6) = false := beq_eq_false_iff_ne.2 h2
  have g3 : (a.toNat / 16 == 14) = true := beq_iff_eq.2 h3
  have g4 : (b.toNat / 64 == 2) = true := beq_iff_eq.2 h4
  have g5 : (d.toNat / 64 == 2) = true := beq_iff_eq.2 h5
  have g6 : (decide (c ≥ 2048) && Utf8.valid (c : Int)) = true := by rw [hv, decide_eq_true h6]; rfl
  unfold Utf8.decode
  simp only [Nat.zero_add, k0, k1, k2, ks, g2, g3, g4, g5, hc]
  rw [if_neg h1, if_neg (by decide), if_pos (by decide)]
  rw [if_pos g6]

theorem dec4 (a b d e : UInt8) (c : Nat) (h1 : ¬ a.toNat < 128) (h2 : ¬ a.toNat / 32 = 6) (h3 : ¬ a.toNat / 16 = 14) (h4 : a.toNat / 8 = 30) (h5 : b.toNat / 64 = 2) (h6 : d.toNat / 64 = 2) (h7 : e.toNat / 64 = 2) (hc : a.toNat % 8 * 262144 + b.toNat % 64 * 4096 + d.toNat % 64 * 64 + e.toNat % 64 = c) (h8 : 65536 ≤ c) (hv : Utf8.valid (c : Int) = true) : Utf8.decode ⟨#[a, b, d, e]⟩ 0 = (c, 4) := by
  have k0 : (⟨#[a, b, d, e]⟩ : ByteArray).get! 0 = a := rfl
  have k1 : (⟨#[a, b, d, e]⟩ : ByteArray).get! 1 = b := rfl
  have k2 : (⟨#[a, b, d, e]⟩ : ByteArray).get! 2 = d := rfl
  have k3 : (⟨#[a, b, d, e]⟩ : ByteArray).get! 3 = e := rfl
  have ks : (⟨#[a, b, d, e]⟩ : ByteArray).size = 4 := rfl
  have g2 : (a.toNat / 32 == 6) = false := beq_eq_false_iff_ne.2 h2
  have g3 : (a.toNat / 16 == 14) = false := beq_eq_false_iff_ne.2 h3
  have g4 : (a.toNat / 8 == 30) = true := beq_iff_eq.2 h4
  have g5 : (b.toNat / 64 == 2) = true := beq_iff_eq.2 h5
  have g6 : (d.toNat / 64 == 2) = true := beq_iff_eq.2 h6
  have g7 : (e.toNat / 64 == 2) = true := beq_iff_eq.2 h7
  have g8 : (decide (c ≥ 65536) && Utf8.valid (c : Int)) = true := by rw [hv, decide_eq_true h8]; rfl
  unfold Utf8.decode
  simp only [Nat.zero_add, k0, k1, k2, k3, ks, g2, g3, g4, g5, g6, g7, hc]
  rw [if_neg h1, if_neg (by decide), if_neg (by decide), if_pos (by decide)]
  rw [if_pos g8]

/-- Read again it is the rune, and its text's end. -/
theorem decode_encode {n : Nat} (h : good (n : Int)) : Utf8.decode (Utf8.encode (n : Int)) 0 = (n, (Utf8.encode (n : Int)).size) ∧ 1 ≤ (Utf8.encode (n : Int)).size := by
  have hv := valid_nat h
  rw [encode_nat h]
  unfold good at h
  by_cases h1 : n < 128
  · rw [if_pos h1]
    refine ⟨?_, by simp [ByteArray.size]⟩
    have e1 : (UInt8.ofNat n).toNat = n := by simp; omega
    rw [dec1 _ (by omega), e1]
    rfl
  rw [if_neg h1]
  by_cases h2 : n < 2048
  · rw [if_pos h2]
    refine ⟨?_, by simp [ByteArray.size]⟩
    have e1 : (UInt8.ofNat (192 + n / 64)).toNat = 192 + n / 64 := by simp; omega
    have e2 : (UInt8.ofNat (128 + n % 64)).toNat = 128 + n % 64 := by simp; omega
    rw [dec2 _ _ n (by omega) (by omega) (by omega) (by omega) (by omega)]
    rfl
  rw [if_neg h2]
  by_cases h3 : n < 65536
  · rw [if_pos h3]
    refine ⟨?_, by simp [ByteArray.size]⟩
    have e1 : (UInt8.ofNat (224 + n / 4096)).toNat = 224 + n / 4096 := by simp; omega
    have e2 : (UInt8.ofNat (128 + n / 64 % 64)).toNat = 128 + n / 64 % 64 := by simp; omega
    have e3 : (UInt8.ofNat (128 + n % 64)).toNat = 128 + n % 64 := by simp; omega
    rw [dec3 _ _ _ n (by omega) (by omega) (by omega) (by omega) (by omega) (by omega) (by omega) hv]
    rfl
  rw [if_neg h3]
  refine ⟨?_, by simp [ByteArray.size]⟩
  have e1 : (UInt8.ofNat (240 + n / 262144)).toNat = 240 + n / 262144 := by simp; omega
  have e2 : (UInt8.ofNat (128 + n / 4096 % 64)).toNat = 128 + n / 4096 % 64 := by simp; omega
  have e3 : (UInt8.ofNat (128 + n / 64 % 64)).toNat = 128 + n / 64 % 64 := by simp; omega
  have e4 : (UInt8.ofNat (128 + n % 64)).toNat = 128 + n % 64 := by simp; omega
  rw [dec4 _ _ _ _ n (by omega) (by omega) (by omega) (by omega) (by omega) (by omega) (by omega) (by omega) (by omega) hv]
  rfl

/-- []rune of a rune's text. -/
theorem runes_one {c : Int} (h : good c) : Conv.runesFrom (Utf8.encode c) (Utf8.encode c).size 0 #[] = #[.int .i32 c] := by
  obtain ⟨n, rfl⟩ : ∃ n : Nat, c = n := ⟨c.toNat, by unfold good at h; omega⟩
  obtain ⟨h1, h2⟩ := decode_encode h
  generalize Utf8.encode (n : Int) = s at h1 h2
  obtain ⟨m, hm⟩ : ∃ m, s.size = m + 1 := ⟨s.size - 1, by omega⟩
  rw [hm, Conv.runesFrom, if_pos (by omega), h1]
  simp only [Nat.zero_add]
  cases m with
  | zero => simp [Conv.runesFrom]
  | succ k => rw [Conv.runesFrom, if_neg (by omega)]; simp

theorem to_runes (w : World) {c : Int} (h : good c) : ∃ k w1, (convert 9 103 (.string (Utf8.encode c))).run Tryz.prog w = .ok (.slice (some ⟨w.heap.size, 0, none⟩) 1 k) w1 ∧ Kp [] w w1 ∧ w1.cell? ⟨w.heap.size, 0, none⟩ = some (.int .i32 c) ∧ (convert 103 9 (.slice (some ⟨w.heap.size, 0, none⟩) 1 k)).run Tryz.prog w1 = .ok (.string (Utf8.encode c)) w1 := by
  have hr := run_runes_of_string (P := Tryz.prog) w 9 103 21 (Utf8.encode c) Tryz.underlying9 Tryz.underlying103 Tryz.underlying21 (by rw [runes_one h]; simp)
  rw [runes_one h] at hr
  have hcell : ∀ L : Array Value, (w.drew.alloc (.cells (#[Value.int .i32 c] ++ L) 21)).cell? ⟨w.heap.size, 0, none⟩ = some (.int .i32 c) := fun L => by
    have hh : (w.drew.alloc (.cells (#[Value.int .i32 c] ++ L) 21)).heap[w.heap.size]? = some (.cells (#[Value.int .i32 c] ++ L) 21) := heap_new w.drew _
    rw [cell_of hh, Array.getElem?_append_left (by simp)]
    rfl
  refine ⟨_, _, hr, (Kp.refl _ _).drew.alloc _, ?_, ?_⟩
  · exact hcell _
  · rw [run_convert_runes (P := Tryz.prog) _ 103 9 21 ⟨w.heap.size, 0, none⟩ 1 _ [c] (by simp) Tryz.underlying103 Tryz.underlying21 Tryz.underlying9 ?_]
    · simp [runesBytes]
    · intro j hj
      simp at hj
      subst hj
      rw [Addr.add_lit]
      exact hcell _

theorem rune_good (n : Int) : good (rune n) := by
  unfold rune
  split
  · unfold good
    omega
  · rename_i h
    split
    · rename_i h2
      have := ins_good (n - 128).toNat (by omega)
      unfold good
      omega
    · unfold odd at h
      unfold good
      omega

theorem rune_self {n : Int} (h : (32 ≤ n ∧ n < 127) ∨ (160 ≤ n ∧ n < 55296)) : rune n = n := by
  unfold rune
  rw [if_neg (by unfold odd; omega), if_neg (by omega)]

end Go.Proofs.YtcfaejbbjmjgpaaGreatDoor

/-
  What a reference stands for, the place behind it, and a text with each one read: no program.
-/
namespace Go.Proofs.YtcfaejbbjmjgpaaGreatDoor
open Go.RowKit Utf
set_option linter.unusedVariables false

/-- A digit to the base b. -/
def isD (x b : Int) : Bool := isHex x && decide (hexv x < b)
/-- The place where the digits from p on end. -/
def dend (s : ByteArray) (b : Int) (p : Nat) : Nat := fs (fun i => !isD (bt s i) b) p s.size
/-- The number that k digits from p on make. -/
def uv (s : ByteArray) (b : Int) (p : Nat) : Nat → Int
  | 0 => 0
  | k + 1 => uv s b p k * b + hexv (bt s (p + k))
/-- So, but no greater than the least number that is too great. -/
def cap (u : Int) : Int := if u ≤ 1114112 then u else 1114112

/-- Ten or sixteen. -/
abbrev Tens (b : Int) : Prop := b = 10 ∨ b = 16

theorem uv_pos {s : ByteArray} {b : Int} (hb : Tens b) (p : Nat) : ∀ k, 0 ≤ uv s b p k
  | 0 => Int.le_refl _
  | k + 1 => by
    have h1 := uv_pos (s := s) hb p k
    have h2 := (hexv_range (bt s (p + k))).1
    rw [uv]
    rcases hb with rfl | rfl <;> omega

theorem cap_range {u : Int} (h : 0 ≤ u) : 0 ≤ cap u ∧ cap u ≤ 1114112 := by
  unfold cap
  split <;> omega

theorem cap_step {b u d : Int} (hb : Tens b) (hu : 0 ≤ u) (hd : 0 ≤ d) : cap (cap u * b + d) = cap (u * b + d) := by
  unfold cap
  rcases hb with rfl | rfl
  all_goals
    repeat' split
    all_goals omega

theorem num_far {m u : Int} (h1 : 1114111 < m) (h2 : 1114111 < u) : num m = num u := by
  rw [num_odd (Or.inr (Or.inl h1)), num_odd (Or.inr (Or.inl h2))]

theorem num_cap (u : Int) : num (cap u) = num u := by
  unfold cap
  split
  · rfl
  · exact num_far (by omega) (by omega)

/-- The document's number m, where u is the digits' own. -/
abbrev Near (m u : Int) : Prop := m = u ∧ u ≤ 17825807 ∨ (1114111 < m ∧ m ≤ 17825807 ∧ 1114111 < u)

theorem near_num {m u : Int} (h : Near m u) : num m = num u := by
  rcases h with ⟨h, _⟩ | ⟨h1, _, h2⟩
  · rw [h]
  · exact num_far h1 h2

theorem near_step {b m u d : Int} (hb : Tens b) (hu : 0 ≤ u) (hd : 0 ≤ d ∧ d ≤ 15) (h : Near m u) : Near (if m ≤ 1114111 then m * b + d else m) (u * b + d) := by
  unfold Near at h ⊢
  rcases hb with rfl | rfl
  all_goals
    split
    · rcases h with ⟨rfl, h⟩ | h
      · left; omega
      · omega
    · right; omega

theorem near_range {m u : Int} (h : Near m u) (hu : 0 ≤ u) : 0 ≤ m ∧ m ≤ 17825807 := by
  unfold Near at h
  omega

def AMP : ByteArray := ⟨#[38]⟩
def SEM : ByteArray := ⟨#[59]⟩
def HSH : ByteArray := ⟨#[38, 35]⟩
def XX : ByteArray := ⟨#[120]⟩

/-- Behind the two signs of a number at p stands an x. -/
def hx (s : ByteArray) (p : Nat) : Bool := fo s (p + 2) XX
/-- Where its digits begin. -/
def dfr (s : ByteArray) (p : Nat) : Nat := if hx s p then p + 3 else p + 2
/-- To which base. -/
def bas (s : ByteArray) (p : Nat) : Int := if hx s p then 16 else 10
theorem bas_tens (s : ByteArray) (p : Nat) : Tens (bas s p) := by
  unfold bas Tens
  split <;> simp
/-- Where they end. -/
def nend (s : ByteArray) (p : Nat) : Nat := dend s (bas s p) (dfr s p)
/-- A number stands at p. -/
def isN (s : ByteArray) (p : Nat) : Bool := st s p HSH && decide (¬ nend s p = dfr s p)
/-- The name that stands behind the sign at p. -/
def nmAt (s : ByteArray) (p : Nat) : ByteArray := found (s.extract (p + 1) s.size)
/-- A sign stands at q that makes of a name ahead of it a piece of something else. -/
def goes (s : ByteArray) (q : Nat) : Bool := decide (q < s.size) && (bt s q == 61 || isLet (bt s q) || isDig (bt s q))
/-- The name at p is left as it stands. -/
def left (s : ByteArray) (p : Nat) (attr : Bool) : Bool := attr && !(bt s (p + (nmAt s p).size) == 59) && goes s (p + 1 + (nmAt s p).size)
/-- What the number at p is. -/
def numAt (s : ByteArray) (p : Nat) : ByteArray := num (uv s (bas s p) (dfr s p) (nend s p - dfr s p))
/-- What stands for what is written at p. -/
def rT (s : ByteArray) (p : Nat) (attr : Bool) : ByteArray :=
  if isN s p then numAt s p else if (nmAt s p).size = 0 then AMP else if left s p attr then s.extract p (p + 1 + (nmAt s p).size) else mean (nmAt s p)
/-- And the place behind it. -/
def rE (s : ByteArray) (p : Nat) : Nat :=
  if isN s p then (if st s (nend s p) SEM then nend s p + 1 else nend s p) else p + 1 + (nmAt s p).size

theorem st_le {s : ByteArray} {p : Nat} {x : ByteArray} (h : st s p x = true) : p + x.size ≤ s.size := by
  unfold st at h
  exact (of_decide_eq_true h).1
theorem st_at {s : ByteArray} {p : Nat} {x : ByteArray} (h : st s p x = true) (j : Nat) (hj : j < x.size) : bt s (p + j) = bt x j := by
  unfold st at h
  exact (of_decide_eq_true h).2 j hj
theorem fo_le {s : ByteArray} {p : Nat} {x : ByteArray} (h : fo s p x = true) : p + x.size ≤ s.size := by
  unfold fo at h
  exact (of_decide_eq_true h).1

theorem dfr_le {s : ByteArray} {p : Nat} (h : st s p HSH = true) : p + 2 ≤ dfr s p ∧ dfr s p ≤ s.size := by
  have h1 := st_le h
  rw [show HSH.size = 2 from rfl] at h1
  unfold dfr
  cases hh : hx s p
  · simp
    omega
  · have h2 := fo_le hh
    rw [show XX.size = 1 from rfl] at h2
    simp
    omega

theorem dend_is (s : ByteArray) (b : Int) {p : Nat} (h : p ≤ s.size) : Fs (fun i => !isD (bt s i) b) p s.size (dend s b p) := fs_is _ h

theorem nend_le {s : ByteArray} {p : Nat} (h : st s p HSH = true) : dfr s p ≤ nend s p ∧ nend s p ≤ s.size := by
  have h1 := dend_is s (bas s p) (dfr_le h).2
  exact ⟨h1.lo, h1.hi⟩

theorem isN_st {s : ByteArray} {p : Nat} (h : isN s p = true) : st s p HSH = true := by
  unfold isN at h
  simp only [Bool.and_eq_true] at h
  exact h.1

theorem pre_size {x s : ByteArray} (h : pre x s = true) : x.size ≤ s.size := by
  unfold pre at h
  simp only [Bool.and_eq_true, decide_eq_true_eq] at h
  exact h.1

theorem nmAt_le {s : ByteArray} {p : Nat} (h : p < s.size) : p + 1 + (nmAt s p).size ≤ s.size ∧ (nmAt s p).size ≤ 14 := by
  obtain ⟨h1, h2, _⟩ := longest (s.extract (p + 1) s.size)
  have h3 := pre_size h1
  rw [ByteArray.size_extract] at h3
  unfold nmAt
  refine ⟨by omega, ?_⟩
  rcases h2 with h2 | h2
  · rw [h2]
    decide
  · exact (nm_size _ h2).2

theorem rE_gt {s : ByteArray} {p : Nat} (h : p < s.size) : p < rE s p ∧ rE s p ≤ s.size := by
  unfold rE
  cases hn : isN s p
  · have := (nmAt_le h).1
    simp
    omega
  · have h1 := isN_st hn
    have h2 := dfr_le h1
    have h3 := nend_le h1
    simp only [if_true]
    cases h4 : st s (nend s p) SEM
    · simp
      omega
    · have h5 := st_le h4
      rw [show SEM.size = 1 from rfl] at h5
      simp
      omega

/-- A name's beginning is no sign of a number. -/
theorem nm_first : ∀ x, x ∈ NM → bt x 0 ≠ 35 := by decide +kernel

theorem pre_bt {x s : ByteArray} (h : pre x s = true) {j : Nat} (hj : j < x.size) : bt x j = bt s j := by
  have h1 := pre_size h
  unfold pre at h
  simp only [Bool.and_eq_true, list_eq, decide_eq_true_eq] at h
  have h2 := h.2
  rw [← h2, bt_cut s 0 x.size j (by omega) h1, Nat.zero_add]

theorem nmAt_hash {s : ByteArray} {p : Nat} (h : st s p HSH = true) : nmAt s p = ⟨#[]⟩ := by
  have h0 := st_le h
  rw [show HSH.size = 2 from rfl] at h0
  have hb := st_at h 1 (by decide)
  rw [show bt HSH 1 = 35 by decide] at hb
  unfold nmAt
  obtain ⟨h1, h2, _⟩ := longest (s.extract (p + 1) s.size)
  rcases h2 with h2 | h2
  · exact h2
  · exfalso
    refine nm_first _ h2 ?_
    rw [pre_bt h1 (by have := (nm_size _ h2).1; omega), bt_cut s (p + 1) s.size 0 (by omega) (Nat.le_refl _)]
    exact hb

theorem fo_hash {s : ByteArray} {p : Nat} (h : st s p HSH = true) : fo s p ⟨#[38, 35, 120]⟩ = hx s p := by
  have h0 := st_le h
  rw [show HSH.size = 2 from rfl] at h0
  have e0 := st_at h 0 (by decide)
  have e1 := st_at h 1 (by decide)
  rw [show bt HSH 0 = 38 by decide] at e0
  rw [show bt HSH 1 = 35 by decide] at e1
  unfold hx fo
  rw [decide_eq_decide]
  rw [show (⟨#[38, 35, 120]⟩ : ByteArray).size = 3 from rfl, show XX.size = 1 from rfl]
  constructor
  · rintro ⟨h1, h2⟩
    refine ⟨by omega, fun j hj => ?_⟩
    obtain rfl : j = 0 := by omega
    have := h2 2 (by omega)
    rw [show bt ⟨#[38, 35, 120]⟩ 2 = 120 by decide] at this
    rw [show bt XX 0 = 120 by decide]
    exact this
  · rintro ⟨h1, h2⟩
    refine ⟨by omega, fun j hj => ?_⟩
    rcases (show j = 0 ∨ j = 1 ∨ j = 2 by omega) with rfl | rfl | rfl
    · rw [e0]
      decide
    · rw [e1]
      decide
    · have := h2 0 (by omega)
      rw [show bt XX 0 = 120 by decide] at this
      rw [show bt ⟨#[38, 35, 120]⟩ 2 = 120 by decide]
      exact this

theorem mean_size : ∀ x, x ∈ NM → 0 < (mean x).size ∧ (mean x).size ≤ 16 := by decide +kernel

theorem num_size (n : Int) : 0 < (num n).size ∧ (num n).size ≤ 16 := by
  unfold num
  have hg := rune_good n
  obtain ⟨m, hm⟩ : ∃ m : Nat, rune n = m := ⟨(rune n).toNat, by unfold good at hg; omega⟩
  rw [hm] at hg ⊢
  refine ⟨(decode_encode hg).2, ?_⟩
  rw [encode_nat hg]
  repeat' split
  all_goals simp [ByteArray.size]

theorem rT_size {s : ByteArray} {p : Nat} (h : p < s.size) (attr : Bool) : 0 < (rT s p attr).size ∧ (rT s p attr).size ≤ 16 := by
  unfold rT
  cases hn : isN s p
  · simp only [Bool.false_eq_true, if_false]
    by_cases h0 : (nmAt s p).size = 0
    · rw [if_pos h0]
      decide
    · rw [if_neg h0]
      have h1 := nmAt_le h
      have h2 : nmAt s p ∈ NM := by
        rcases (longest (s.extract (p + 1) s.size)).2.1 with h2 | h2
        · exfalso
          refine h0 ?_
          unfold nmAt
          rw [h2]
          rfl
        · exact h2
      cases left s p attr
      · exact mean_size _ h2
      · simp only [if_true, ByteArray.size_extract]
        omega
  · simp only [if_true]
    exact num_size _

/-- A text from p on with each reference read; k places at most are gone through. -/
def alls (s : ByteArray) (attr : Bool) : Nat → Nat → ByteArray
  | 0, _ => ⟨#[]⟩
  | k + 1, p => if p < s.size then (if bt s p = 38 then rT s p attr ++ alls s attr k (rE s p) else s.extract p (p + 1) ++ alls s attr k (p + 1)) else ⟨#[]⟩
/-- A text from p on with each reference read. -/
def allF (s : ByteArray) (attr : Bool) (p : Nat) : ByteArray := alls s attr (s.size - p) p

theorem alls_same (s : ByteArray) (attr : Bool) : ∀ k k' p, s.size - p ≤ k → s.size - p ≤ k' → alls s attr k p = alls s attr k' p
  | 0, 0, _, _, _ => rfl
  | 0, k' + 1, p, h, _ => by rw [alls, alls, if_neg (by omega)]
  | k + 1, 0, p, _, h => by rw [alls, alls, if_neg (by omega)]
  | k + 1, k' + 1, p, h, h' => by
    rw [alls, alls]
    by_cases hp : p < s.size
    · have := rE_gt hp
      rw [if_pos hp, if_pos hp, alls_same s attr k k' (rE s p) (by omega) (by omega), alls_same s attr k k' (p + 1) (by omega) (by omega)]
    · rw [if_neg hp, if_neg hp]

theorem allF_end {s : ByteArray} {p : Nat} (h : s.size ≤ p) (attr : Bool) : allF s attr p = ⟨#[]⟩ := by
  unfold allF
  rw [show s.size - p = 0 by omega, alls]

theorem allF_amp {s : ByteArray} {p : Nat} (h : p < s.size) (hb : bt s p = 38) (attr : Bool) : allF s attr p = rT s p attr ++ allF s attr (rE s p) := by
  unfold allF
  have := rE_gt h
  rw [show s.size - p = (s.size - p - 1) + 1 by omega, alls, if_pos h, if_pos hb, alls_same s attr (s.size - p - 1) (s.size - rE s p) _ (by omega) (by omega)]

theorem allF_other {s : ByteArray} {p : Nat} (h : p < s.size) (hb : ¬ bt s p = 38) (attr : Bool) : allF s attr p = s.extract p (p + 1) ++ allF s attr (p + 1) := by
  unfold allF
  rw [show s.size - p = (s.size - p - 1) + 1 by omega, alls, if_pos h, if_neg hb, alls_same s attr (s.size - p - 1) (s.size - (p + 1)) _ (by omega) (by omega)]

theorem cat_assoc (a b c : ByteArray) : a ++ b ++ c = a ++ (b ++ c) := ByteArray.append_assoc
theorem cat_nil (a : ByteArray) : a ++ ⟨#[]⟩ = a := ByteArray.append_empty
theorem nil_cat (a : ByteArray) : ⟨#[]⟩ ++ a = a := ByteArray.empty_append
theorem cat_size (a b : ByteArray) : (a ++ b).size = a.size + b.size := ByteArray.size_append

theorem cut_cut (s : ByteArray) {p q r : Nat} (h1 : p ≤ q) (h2 : q ≤ r) (h3 : r ≤ s.size) : s.extract p q ++ s.extract q r = s.extract p r := by
  refine ByteArray.ext ?_
  simp only [ByteArray.data_append, ByteArray.data_extract]
  rw [Array.extract_append_extract, Nat.min_eq_left (by omega), Nat.max_eq_right (by omega)]
theorem cut_none (s : ByteArray) (p : Nat) : s.extract p p = ⟨#[]⟩ := by
  refine ByteArray.ext ?_
  simp

/-- What has no such sign is left as it is. -/
theorem allF_skip (s : ByteArray) (attr : Bool) : ∀ k p, p + k ≤ s.size → (∀ j, p ≤ j → j < p + k → ¬ bt s j = 38) → allF s attr p = s.extract p (p + k) ++ allF s attr (p + k)
  | 0, p, _, _ => by rw [Nat.add_zero, cut_none, nil_cat]
  | k + 1, p, h, hb => by
    rw [allF_other (by omega) (hb p (Nat.le_refl _) (by omega)), allF_skip s attr k (p + 1) (by omega) (fun j h1 h2 => hb j (by omega) (by omega)), ← cat_assoc, cut_cut s (by omega) (by omega) (by omega), show p + 1 + k = p + (k + 1) by omega]

theorem allF_size (s : ByteArray) (attr : Bool) : ∀ k p, s.size - p ≤ k → (allF s attr p).size ≤ 16 * (s.size - p)
  | 0, p, h => by
    rw [allF_end (by omega)]
    exact Nat.zero_le _
  | k + 1, p, h => by
    by_cases hp : p < s.size
    · by_cases hb : bt s p = 38
      · have h1 := rE_gt hp
        have h2 := allF_size s attr k (rE s p) (by omega)
        have h3 := rT_size hp attr
        rw [allF_amp hp hb, cat_size]
        omega
      · have h2 := allF_size s attr k (p + 1) (by omega)
        rw [allF_other hp hb, cat_size, ByteArray.size_extract]
        omega
    · rw [allF_end (by omega)]
      exact Nat.zero_le _

/-- Of any number as a place: what Read tells. -/
def rAT (s : ByteArray) (a : Int) (attr : Bool) : ByteArray := if 0 ≤ a ∧ a < s.size ∧ bt s a.toNat = 38 then rT s a.toNat attr else ⟨#[]⟩
def rAE (s : ByteArray) (a : Int) : Int := if 0 ≤ a ∧ a < s.size ∧ bt s a.toNat = 38 then (rE s a.toNat : Int) else a

theorem rA_no {s : ByteArray} {a : Int} (h : ¬ (0 ≤ a ∧ a < s.size ∧ bt s a.toNat = 38)) (attr : Bool) : rAT s a attr = ⟨#[]⟩ ∧ rAE s a = a := by
  unfold rAT rAE
  rw [if_neg h, if_neg h]
  exact ⟨rfl, rfl⟩
theorem rA_yes {s : ByteArray} {p : Nat} (h : p < s.size) (hb : bt s p = 38) (attr : Bool) : rAT s p attr = rT s p attr ∧ rAE s p = (rE s p : Int) := by
  have h1 : 0 ≤ (p : Int) ∧ (p : Int) < s.size ∧ bt s (p : Int).toNat = 38 := ⟨by omega, by omega, by simpa using hb⟩
  unfold rAT rAE
  rw [if_pos h1, if_pos h1, Int.toNat_natCast]
  exact ⟨rfl, rfl⟩

end Go.Proofs.YtcfaejbbjmjgpaaGreatDoor

/-
  Digits of a number: the program's digit and digits, and the document's digits, of any text.
-/
namespace Go.Proofs.YtcfaejbbjmjgpaaGreatDoor
open Go.RowKit Utf

theorem dig_any (w : World) (x b : Int) (h : 0 ≤ x ∧ x < 256) : Calls Tryz.prog 115 #[.int .u8 x, .int .i64 b] w fun e w' => e = .returned (.tuple #[.int .i64 (hexv x), .bool (isD x b)]) ∧ w' = w := by
  obtain ⟨h1, h2⟩ := h
  have HH := hex_any w x
  cases hx : isHex x with
  | false =>
    rw [hx] at HH
    rw [show isD x b = false by simp [isD, hx]]
    clear hx
    go_enter Tryz.func115, Tryz.ntmps115
    go_wp2_with fail
    refine HH.mono ?_
    rintro e w1 ⟨rfl, rfl⟩
    clear HH
    go_wp2
    go_ret2
    exact ⟨rfl, rfl⟩
  | true =>
    rw [hx] at HH
    rw [show isD x b = decide (hexv x < b) by simp [isD, hx]]
    clear hx
    generalize hexv x = d at HH
    go_enter Tryz.func115, Tryz.ntmps115
    go_wp2_with fail
    refine HH.mono ?_
    rintro e w1 ⟨rfl, rfl⟩
    clear HH
    go_wp2
    go_ret2
    exact ⟨rfl, rfl⟩

theorem uv_next (s : ByteArray) (b : Int) {p q : Nat} (h : p ≤ q) : uv s b p (q + 1 - p) = uv s b p (q - p) * b + hexv (bt s q) := by
  rw [show q + 1 - p = (q - p) + 1 by omega, uv, show p + (q - p) = q by omega]

set_option maxHeartbeats 1000000 in
theorem digits_any (w : World) (s : ByteArray) (p : Nat) (b : Int) (hb : Tens b) (hp : p ≤ s.size) (hs : s.size ≤ 100000) : Calls Tryz.prog 111 #[.string s, .int .i64 p, .int .i64 b] w fun e w' => e = .returned (.tuple #[.int .i64 (cap (uv s b p (dend s b p - p))), .int .i64 (dend s b p : Int)]) ∧ w' = w := by
  have hb2 : 0 ≤ b ∧ b ≤ 16 := by rcases hb with rfl | rfl <;> omega
  go_enter Tryz.func111, Tryz.ntmps111
  go_wp2
  go_loopw [8, 9] (fun n i wr => ∃ (q : Nat) (m : Int), p ≤ q ∧ q ≤ s.size ∧ i = .int .i64 (q : Int) ∧ n = .int .i64 m ∧ wr = w ∧ Hid (m = cap (uv s b p (q - p))) ∧ Hid (∀ j, p ≤ j → j < q → isD (bt s j) b = true)) (fun _ i _ => s.size - (intOf i).toNat)
  case atStart => exact ⟨p, 0, Nat.le_refl _, hp, rfl, rfl, rfl, by rw [Nat.sub_self]; rfl, fun j h1 h2 => by omega⟩
  case round =>
    obtain ⟨q, m, hpq, hq, rfl, rfl, rfl, hm, hd⟩ := hrel
    have hm0 : 0 ≤ m ∧ m ≤ 1114112 := by rw [hm.out]; exact cap_range (uv_pos hb p _)
    obtain ⟨hm1, hm2⟩ := hm0
    by_cases hlt : q < s.size
    · have i1 := index_at s (q : Int) q rfl hlt
      have HC := dig_any wr (bt s q) b (bt_range s q)
      cases hx : isD (bt s q) b with
      | true =>
        have hd2 : Hid (∀ j, p ≤ j → j < q + 1 → isD (bt s j) b = true) := fun j h1 hj => by
          by_cases hjk : j = q
          · rw [hjk]; exact hx
          · exact hd.out j h1 (by omega)
        have hv := hexv_range (bt s q)
        have hn : Hid (cap (m * b + hexv (bt s q)) = cap (uv s b p (q + 1 - p))) := by
          show _ = _
          rw [hm.out, uv_next s b hpq]
          exact cap_step hb (uv_pos hb p _) hv.1
        rw [hx] at HC
        generalize bt s q = x at i1 HC hv hn
        generalize hexv x = d at HC hv hn
        obtain ⟨hv1, hv2⟩ := hv
        clear hx hd hm
        rcases hb with rfl | rfl
        · clear hb2
          by_cases hc : m * 10 + d ≤ 1114112
          · rw [show cap (m * 10 + d) = m * 10 + d by unfold cap; rw [if_pos hc]] at hn
            go_wp2_with fail
            refine HC.mono ?_
            rintro e w2 ⟨rfl, rfl⟩
            clear HC
            go_wp2
            go_roundw
            case rel => exact ⟨q + 1, m * 10 + d, by omega, by omega, by go_num, rfl, trivial, hn, hd2⟩
            case measure => simp [intOf]; omega
          · rw [show cap (m * 10 + d) = 1114112 by unfold cap; rw [if_neg hc]] at hn
            go_wp2_with fail
            refine HC.mono ?_
            rintro e w2 ⟨rfl, rfl⟩
            clear HC
            go_wp2
            go_roundw
            case rel => exact ⟨q + 1, 1114112, by omega, by omega, by go_num, rfl, trivial, hn, hd2⟩
            case measure => simp [intOf]; omega
        · clear hb2
          by_cases hc : m * 16 + d ≤ 1114112
          · rw [show cap (m * 16 + d) = m * 16 + d by unfold cap; rw [if_pos hc]] at hn
            go_wp2_with fail
            refine HC.mono ?_
            rintro e w2 ⟨rfl, rfl⟩
            clear HC
            go_wp2
            go_roundw
            case rel => exact ⟨q + 1, m * 16 + d, by omega, by omega, by go_num, rfl, trivial, hn, hd2⟩
            case measure => simp [intOf]; omega
          · rw [show cap (m * 16 + d) = 1114112 by unfold cap; rw [if_neg hc]] at hn
            go_wp2_with fail
            refine HC.mono ?_
            rintro e w2 ⟨rfl, rfl⟩
            clear HC
            go_wp2
            go_roundw
            case rel => exact ⟨q + 1, 1114112, by omega, by omega, by go_num, rfl, trivial, hn, hd2⟩
            case measure => simp [intOf]; omega
      | false =>
        have he : Hid (dend s b p = q) := fs_eq ⟨hpq, hq, fun j h1 h2 => by rw [hd.out j h1 h2]; rfl, fun _ => by rw [hx]; rfl⟩
        rw [hx] at HC
        generalize bt s q = x at i1 HC
        generalize hexv x = d at HC
        clear hx hd hb2
        go_wp2_with fail
        refine HC.mono ?_
        rintro e w2 ⟨rfl, rfl⟩
        clear HC
        go_wp2
        go_ret2
        rw [he.out, ← hm.out]
        exact ⟨rfl, rfl⟩
    · have he : Hid (dend s b p = q) := fs_eq ⟨hpq, hq, fun j h1 h2 => by rw [hd.out j h1 h2]; rfl, fun h => by omega⟩
      clear hd hb2
      go_wp2
      go_ret2
      rw [he.out, ← hm.out]
      exact ⟨rfl, rfl⟩

theorem isD_yes {x b : Int} (h : isD x b = true) : isHex x = true ∧ hexv x < b := by
  unfold isD at h
  simpa using h
theorem isD_no {x b : Int} (h : isD x b = false) : isHex x = false ∨ (isHex x = true ∧ ¬ hexv x < b) := by
  unfold isD at h
  cases hh : isHex x
  · exact Or.inl rfl
  · right
    rw [hh] at h
    exact ⟨rfl, by simpa using h⟩

set_option maxHeartbeats 1000000 in
theorem ref_digits_any (w : World) (s : ByteArray) (p : Nat) (b : Int) (hb : Tens b) (hp : p ≤ s.size) (hs : s.size ≤ 100000) : Calls Tryz.prog 69 #[.string s, .int .i64 p, .int .i64 b] w fun e w' => ∃ m, e = .returned (.tuple #[.int .i64 m, .int .i64 (dend s b p : Int)]) ∧ Near m (uv s b p (dend s b p - p)) ∧ w' = w := by
  have hb2 : 0 ≤ b ∧ b ≤ 16 := by rcases hb with rfl | rfl <;> omega
  go_enter Tryz.func69, Tryz.ntmps69
  go_wp2
  go_loopw [1, 8] (fun i n wr => ∃ (q : Nat) (m : Int), p ≤ q ∧ q ≤ s.size ∧ i = .int .i64 (q : Int) ∧ n = .int .i64 m ∧ wr = w ∧ Hid (Near m (uv s b p (q - p))) ∧ Hid (∀ j, p ≤ j → j < q → isD (bt s j) b = true)) (fun i _ _ => s.size - (intOf i).toNat)
  case atStart => exact ⟨p, 0, Nat.le_refl _, hp, rfl, rfl, rfl, by rw [Nat.sub_self]; exact Or.inl ⟨rfl, by rw [uv]; omega⟩, fun j h1 h2 => by omega⟩
  case round =>
    obtain ⟨q, m, hpq, hq, rfl, rfl, rfl, hm, hd⟩ := hrel
    obtain ⟨hm1, hm2⟩ := near_range hm.out (uv_pos hb p _)
    by_cases hlt : q < s.size
    · have i1 := index_at s (q : Int) q rfl hlt
      have HC := ref_hex_any wr (bt s q)
      obtain ⟨r1, r2⟩ := bt_range s q
      cases hx : isD (bt s q) b with
      | true =>
        have hd2 : Hid (∀ j, p ≤ j → j < q + 1 → isD (bt s j) b = true) := fun j h1 hj => by
          by_cases hjk : j = q
          · rw [hjk]; exact hx
          · exact hd.out j h1 (by omega)
        have hv := hexv_range (bt s q)
        have hn : Hid (Near (if m ≤ 1114111 then m * b + hexv (bt s q) else m) (uv s b p (q + 1 - p))) := by
          show Near _ _
          rw [uv_next s b hpq]
          exact near_step hb (uv_pos hb p _) hv hm.out
        obtain ⟨hh, hw⟩ := isD_yes hx
        rw [hh] at HC
        clear hx hh
        generalize bt s q = x at i1 HC hv hn hw r1 r2
        generalize hexv x = d at HC hv hn hw
        obtain ⟨hv1, hv2⟩ := hv
        clear hd hm hb2
        rcases hb with rfl | rfl
        · have hm3 : 0 ≤ m * 10 + d := by omega
          by_cases hc : m ≤ 1114111
          · rw [if_pos hc] at hn
            go_wp2_with fail
            refine HC.mono ?_
            rintro e w2 ⟨rfl, rfl⟩
            clear HC
            go_wp2
            go_roundw
            case rel => exact ⟨q + 1, m * 10 + d, by omega, by omega, by go_num, rfl, trivial, hn, hd2⟩
            case measure => simp [intOf]; omega
          · rw [if_neg hc] at hn
            go_wp2_with fail
            refine HC.mono ?_
            rintro e w2 ⟨rfl, rfl⟩
            clear HC
            go_wp2
            go_roundw
            case rel => exact ⟨q + 1, m, by omega, by omega, by go_num, rfl, trivial, hn, hd2⟩
            case measure => simp [intOf]; omega
        · have hm3 : 0 ≤ m * 16 + d := by omega
          by_cases hc : m ≤ 1114111
          · rw [if_pos hc] at hn
            go_wp2_with fail
            refine HC.mono ?_
            rintro e w2 ⟨rfl, rfl⟩
            clear HC
            go_wp2
            go_roundw
            case rel => exact ⟨q + 1, m * 16 + d, by omega, by omega, by go_num, rfl, trivial, hn, hd2⟩
            case measure => simp [intOf]; omega
          · rw [if_neg hc] at hn
            go_wp2_with fail
            refine HC.mono ?_
            rintro e w2 ⟨rfl, rfl⟩
            clear HC
            go_wp2
            go_roundw
            case rel => exact ⟨q + 1, m, by omega, by omega, by go_num, rfl, trivial, hn, hd2⟩
            case measure => simp [intOf]; omega
      | false =>
        have he : Hid (dend s b p = q) := fs_eq ⟨hpq, hq, fun j h1 h2 => by rw [hd.out j h1 h2]; rfl, fun _ => by rw [hx]; rfl⟩
        rcases isD_no hx with hh | ⟨hh, hw⟩
        · rw [hh] at HC
          clear hx hh
          generalize bt s q = x at i1 HC r1 r2
          generalize hexv x = d at HC
          clear hd hb2
          go_wp2_with fail
          refine HC.mono ?_
          rintro e w2 ⟨rfl, rfl⟩
          clear HC
          go_wp2
          go_ret2
          rw [he.out]
          exact ⟨m, rfl, hm.out, rfl⟩
        · rw [hh] at HC
          clear hx hh
          generalize bt s q = x at i1 HC r1 r2 hw
          generalize hexv x = d at HC hw
          clear hd hb2
          go_wp2_with fail
          refine HC.mono ?_
          rintro e w2 ⟨rfl, rfl⟩
          clear HC
          go_wp2
          go_ret2
          rw [he.out]
          exact ⟨m, rfl, hm.out, rfl⟩
    · have he : Hid (dend s b p = q) := fs_eq ⟨hpq, hq, fun j h1 h2 => by rw [hd.out j h1 h2]; rfl, fun h => by omega⟩
      clear hd hb2
      go_wp2
      go_ret2
      rw [he.out]
      exact ⟨m, rfl, hm.out, rfl⟩

end Go.Proofs.YtcfaejbbjmjgpaaGreatDoor

/-
  Within, from 0 on; ints that came in.
-/
namespace Go.Proofs.YtcfaejbbjmjgpaaGreatDoor
open Go.RowKit Utf
set_option linter.unusedVariables false

/-- Within, from 0 on. -/
theorem within_zero (w : World) (n : Int) (m : Nat) (hm : m ≤ 1099511627776) : Calls Tryz.prog 22 #[.int .i64 n, .int .i64 0, .int .i64 (m : Int)] w fun e w' => e = .returned (.int .i64 (wi n m : Int)) ∧ w' = w := by
  have h := within_any w n 0 m (by omega) hm
  rw [Nat.zero_add, Nat.sub_zero] at h
  exact h

theorem lit_cat (t x : ByteArray) (n : Nat) (h : t.size ≤ n) : (t ++ x).size ≤ n + x.size := by rw [cat_size]; omega


/-- Ints that came in: what stands at each place. -/
def Is (w : World) (ao : Option Addr) (n c : Nat) (F : Nat → Int) : Prop := n ≤ c ∧ ∀ i, i < n → ∃ b off, ao = some ⟨b, off, none⟩ ∧ w.cell? ⟨b, off + i, none⟩ = some (.int .i64 (F i))
theorem Is.kept {w w' : World} {ao : Option Addr} {n c : Nat} {F : Nat → Int} (h : Is w ao n c F) (k : Kp [] w w') : Is w' ao n c F :=
  ⟨h.1, fun i hi => by
    obtain ⟨b, off, h1, h2⟩ := h.2 i hi
    exact ⟨b, off, h1, by rw [k.cell (a := ⟨b, off + i, none⟩) (block_lt_of_cell h2) (by simp)]; exact h2⟩⟩

end Go.Proofs.YtcfaejbbjmjgpaaGreatDoor

/-
  The program's Named, of any text: contracts of what it calls, of meaning, and its own.
-/
namespace Go.Proofs.YtcfaejbbjmjgpaaGreatDoor
open Go.RowKit Utf

theorem hasPrefix_lite (w : World) (s x : ByteArray) : Calls Tryz.prog 120 #[.string s, .string x] w fun e w' => e = .returned (.bool (pre x s)) ∧ w' = w := by
  go_enter Tryz.func120, Tryz.ntmps120
  go_wp2
  all_goals go_ret
  · refine ⟨?_, rfl⟩
    rename_i h
    simp [pre, h]
  · refine ⟨?_, rfl⟩
    rename_i h
    simp [pre, h]

theorem hasPrefix_any (w : World) (s x : ByteArray) : Calls Tryz.prog 116 #[.string s, .string x] w fun e w' => e = .returned (.bool (pre x s)) ∧ w' = w := by
  have H := hasPrefix_lite w s x
  go_enter Tryz.func116, Tryz.ntmps116
  go_wp2_with fail
  refine H.mono ?_
  rintro e w1 ⟨rfl, rfl⟩
  go_wp2
  go_ret
  exact ⟨rfl, rfl⟩

/-- The text s ends with a semicolon. -/
def semi (s : ByteArray) : Bool := decide (1 ≤ s.size) && ((s.extract (s.size - 1) s.size).toList == [59])
/-- Without it. -/
def trim (s : ByteArray) : ByteArray := if semi s then s.extract 0 (s.size - 1) else s

theorem hasSuffix_semi (w : World) (s : ByteArray) (hs : s.size ≤ 1000) : Calls Tryz.prog 123 #[.string s, .string ⟨#[59]⟩] w fun e w' => e = .returned (.bool (semi s)) ∧ w' = w := by
  by_cases h : 1 ≤ s.size
  · have h2 : (1 : Int) ≤ s.size := by omega
    go_enter Tryz.func123, Tryz.ntmps123
    go_wp2
    all_goals go_ret
    refine ⟨?_, rfl⟩
    simp [semi, h]
  · have h2 : ¬ (1 : Int) ≤ s.size := by omega
    go_enter Tryz.func123, Tryz.ntmps123
    go_wp2
    all_goals go_ret
    refine ⟨?_, rfl⟩
    simp [semi, h]

theorem trim_lite (w : World) (s : ByteArray) (hs : s.size ≤ 1000) : Calls Tryz.prog 122 #[.string s, .string ⟨#[59]⟩] w fun e w' => e = .returned (.string (trim s)) ∧ w' = w := by
  have H := hasSuffix_semi w s hs
  cases hb : semi s
  · have ht : trim s = s := by simp [trim, hb]
    rw [hb] at H
    rw [ht]
    go_enter Tryz.func122, Tryz.ntmps122
    go_wp2_with fail
    refine H.mono ?_
    rintro e w1 ⟨rfl, rfl⟩
    go_wp2
    go_ret
    exact ⟨rfl, rfl⟩
  · have ht : trim s = s.extract 0 (s.size - 1) := by simp [trim, hb]
    rw [hb] at H
    rw [ht]
    have h1 : 1 ≤ s.size := by
      simp [semi] at hb
      omega
    go_enter Tryz.func122, Tryz.ntmps122
    go_wp2_with fail
    refine H.mono ?_
    rintro e w1 ⟨rfl, rfl⟩
    go_wp2
    go_ret
    refine ⟨?_, rfl⟩
    simp

theorem trim_any (w : World) (s : ByteArray) (hs : s.size ≤ 1000) : Calls Tryz.prog 121 #[.string s, .string ⟨#[59]⟩] w fun e w' => e = .returned (.string (trim s)) ∧ w' = w := by
  have H := trim_lite w s hs
  go_enter Tryz.func121, Tryz.ntmps121
  go_wp2_with fail
  refine H.mono ?_
  rintro e w1 ⟨rfl, rfl⟩
  go_wp2
  go_ret
  exact ⟨rfl, rfl⟩

theorem named_size : ∀ x, x ∈ (⟨#[]⟩ : ByteArray) :: NM → x.size ≤ 1000 := by decide +kernel

theorem meaning0 (w : World) (x : ByteArray) (H : Calls Tryz.prog 121 #[.string x, .string ⟨#[59]⟩] w fun e w' => e = .returned (.string ⟨#[65, 77, 80]⟩) ∧ w' = w) :
    Calls Tryz.prog 117 #[.string x] w fun e w' => e = .returned (.string ⟨#[38]⟩) ∧ w' = w := by
  go_enter Tryz.func117, Tryz.ntmps117
  go_wp2_with fail
  refine H.mono ?_
  rintro e w1 ⟨rfl, rfl⟩
  go_wp2
  go_ret
  exact ⟨rfl, rfl⟩

theorem meaning1 (w : World) (x : ByteArray) (H : Calls Tryz.prog 121 #[.string x, .string ⟨#[59]⟩] w fun e w' => e = .returned (.string ⟨#[67, 79, 80, 89]⟩) ∧ w' = w) :
    Calls Tryz.prog 117 #[.string x] w fun e w' => e = .returned (.string ⟨#[194, 169]⟩) ∧ w' = w := by
  go_enter Tryz.func117, Tryz.ntmps117
  go_wp2_with fail
  refine H.mono ?_
  rintro e w1 ⟨rfl, rfl⟩
  go_wp2
  go_ret
  exact ⟨rfl, rfl⟩

theorem meaning2 (w : World) (x : ByteArray) (H : Calls Tryz.prog 121 #[.string x, .string ⟨#[59]⟩] w fun e w' => e = .returned (.string ⟨#[71, 84]⟩) ∧ w' = w) :
    Calls Tryz.prog 117 #[.string x] w fun e w' => e = .returned (.string ⟨#[62]⟩) ∧ w' = w := by
  go_enter Tryz.func117, Tryz.ntmps117
  go_wp2_with fail
  refine H.mono ?_
  rintro e w1 ⟨rfl, rfl⟩
  go_wp2
  go_ret
  exact ⟨rfl, rfl⟩

theorem meaning3 (w : World) (x : ByteArray) (H : Calls Tryz.prog 121 #[.string x, .string ⟨#[59]⟩] w fun e w' => e = .returned (.string ⟨#[76, 84]⟩) ∧ w' = w) :
    Calls Tryz.prog 117 #[.string x] w fun e w' => e = .returned (.string ⟨#[60]⟩) ∧ w' = w := by
  go_enter Tryz.func117, Tryz.ntmps117
  go_wp2_with fail
  refine H.mono ?_
  rintro e w1 ⟨rfl, rfl⟩
  go_wp2
  go_ret
  exact ⟨rfl, rfl⟩

theorem meaning4 (w : World) (x : ByteArray) (H : Calls Tryz.prog 121 #[.string x, .string ⟨#[59]⟩] w fun e w' => e = .returned (.string ⟨#[78, 111, 116, 69, 113, 117, 97, 108, 84, 105, 108, 100, 101]⟩) ∧ w' = w) :
    Calls Tryz.prog 117 #[.string x] w fun e w' => e = .returned (.string ⟨#[226, 137, 130, 204, 184]⟩) ∧ w' = w := by
  go_enter Tryz.func117, Tryz.ntmps117
  go_wp2_with fail
  refine H.mono ?_
  rintro e w1 ⟨rfl, rfl⟩
  go_wp2
  go_ret
  exact ⟨rfl, rfl⟩

theorem meaning5 (w : World) (x : ByteArray) (H : Calls Tryz.prog 121 #[.string x, .string ⟨#[59]⟩] w fun e w' => e = .returned (.string ⟨#[81, 85, 79, 84]⟩) ∧ w' = w) :
    Calls Tryz.prog 117 #[.string x] w fun e w' => e = .returned (.string ⟨#[34]⟩) ∧ w' = w := by
  go_enter Tryz.func117, Tryz.ntmps117
  go_wp2_with fail
  refine H.mono ?_
  rintro e w1 ⟨rfl, rfl⟩
  go_wp2
  go_ret
  exact ⟨rfl, rfl⟩

theorem meaning6 (w : World) (x : ByteArray) (H : Calls Tryz.prog 121 #[.string x, .string ⟨#[59]⟩] w fun e w' => e = .returned (.string ⟨#[97, 109, 112]⟩) ∧ w' = w) :
    Calls Tryz.prog 117 #[.string x] w fun e w' => e = .returned (.string ⟨#[38]⟩) ∧ w' = w := by
  go_enter Tryz.func117, Tryz.ntmps117
  go_wp2_with fail
  refine H.mono ?_
  rintro e w1 ⟨rfl, rfl⟩
  go_wp2
  go_ret
  exact ⟨rfl, rfl⟩

theorem meaning7 (w : World) (x : ByteArray) (H : Calls Tryz.prog 121 #[.string x, .string ⟨#[59]⟩] w fun e w' => e = .returned (.string ⟨#[97, 112, 111, 115]⟩) ∧ w' = w) :
    Calls Tryz.prog 117 #[.string x] w fun e w' => e = .returned (.string ⟨#[39]⟩) ∧ w' = w := by
  go_enter Tryz.func117, Tryz.ntmps117
  go_wp2_with fail
  refine H.mono ?_
  rintro e w1 ⟨rfl, rfl⟩
  go_wp2
  go_ret
  exact ⟨rfl, rfl⟩

theorem meaning8 (w : World) (x : ByteArray) (H : Calls Tryz.prog 121 #[.string x, .string ⟨#[59]⟩] w fun e w' => e = .returned (.string ⟨#[99, 101, 110, 116]⟩) ∧ w' = w) :
    Calls Tryz.prog 117 #[.string x] w fun e w' => e = .returned (.string ⟨#[194, 162]⟩) ∧ w' = w := by
  go_enter Tryz.func117, Tryz.ntmps117
  go_wp2_with fail
  refine H.mono ?_
  rintro e w1 ⟨rfl, rfl⟩
  go_wp2
  go_ret
  exact ⟨rfl, rfl⟩

theorem meaning9 (w : World) (x : ByteArray) (H : Calls Tryz.prog 121 #[.string x, .string ⟨#[59]⟩] w fun e w' => e = .returned (.string ⟨#[99, 111, 112, 121]⟩) ∧ w' = w) :
    Calls Tryz.prog 117 #[.string x] w fun e w' => e = .returned (.string ⟨#[194, 169]⟩) ∧ w' = w := by
  go_enter Tryz.func117, Tryz.ntmps117
  go_wp2_with fail
  refine H.mono ?_
  rintro e w1 ⟨rfl, rfl⟩
  go_wp2
  go_ret
  exact ⟨rfl, rfl⟩

theorem meaning10 (w : World) (x : ByteArray) (H : Calls Tryz.prog 121 #[.string x, .string ⟨#[59]⟩] w fun e w' => e = .returned (.string ⟨#[100, 101, 103]⟩) ∧ w' = w) :
    Calls Tryz.prog 117 #[.string x] w fun e w' => e = .returned (.string ⟨#[194, 176]⟩) ∧ w' = w := by
  go_enter Tryz.func117, Tryz.ntmps117
  go_wp2_with fail
  refine H.mono ?_
  rintro e w1 ⟨rfl, rfl⟩
  go_wp2
  go_ret
  exact ⟨rfl, rfl⟩

theorem meaning11 (w : World) (x : ByteArray) (H : Calls Tryz.prog 121 #[.string x, .string ⟨#[59]⟩] w fun e w' => e = .returned (.string ⟨#[101, 97, 99, 117, 116, 101]⟩) ∧ w' = w) :
    Calls Tryz.prog 117 #[.string x] w fun e w' => e = .returned (.string ⟨#[195, 169]⟩) ∧ w' = w := by
  go_enter Tryz.func117, Tryz.ntmps117
  go_wp2_with fail
  refine H.mono ?_
  rintro e w1 ⟨rfl, rfl⟩
  go_wp2
  go_ret
  exact ⟨rfl, rfl⟩

theorem meaning12 (w : World) (x : ByteArray) (H : Calls Tryz.prog 121 #[.string x, .string ⟨#[59]⟩] w fun e w' => e = .returned (.string ⟨#[103, 116]⟩) ∧ w' = w) :
    Calls Tryz.prog 117 #[.string x] w fun e w' => e = .returned (.string ⟨#[62]⟩) ∧ w' = w := by
  go_enter Tryz.func117, Tryz.ntmps117
  go_wp2_with fail
  refine H.mono ?_
  rintro e w1 ⟨rfl, rfl⟩
  go_wp2
  go_ret
  exact ⟨rfl, rfl⟩

theorem meaning13 (w : World) (x : ByteArray) (H : Calls Tryz.prog 121 #[.string x, .string ⟨#[59]⟩] w fun e w' => e = .returned (.string ⟨#[104, 101, 108, 108, 105, 112]⟩) ∧ w' = w) :
    Calls Tryz.prog 117 #[.string x] w fun e w' => e = .returned (.string ⟨#[226, 128, 166]⟩) ∧ w' = w := by
  go_enter Tryz.func117, Tryz.ntmps117
  go_wp2_with fail
  refine H.mono ?_
  rintro e w1 ⟨rfl, rfl⟩
  go_wp2
  go_ret
  exact ⟨rfl, rfl⟩

theorem meaning14 (w : World) (x : ByteArray) (H : Calls Tryz.prog 121 #[.string x, .string ⟨#[59]⟩] w fun e w' => e = .returned (.string ⟨#[108, 97, 113, 117, 111]⟩) ∧ w' = w) :
    Calls Tryz.prog 117 #[.string x] w fun e w' => e = .returned (.string ⟨#[194, 171]⟩) ∧ w' = w := by
  go_enter Tryz.func117, Tryz.ntmps117
  go_wp2_with fail
  refine H.mono ?_
  rintro e w1 ⟨rfl, rfl⟩
  go_wp2
  go_ret
  exact ⟨rfl, rfl⟩

theorem meaning15 (w : World) (x : ByteArray) (H : Calls Tryz.prog 121 #[.string x, .string ⟨#[59]⟩] w fun e w' => e = .returned (.string ⟨#[108, 116]⟩) ∧ w' = w) :
    Calls Tryz.prog 117 #[.string x] w fun e w' => e = .returned (.string ⟨#[60]⟩) ∧ w' = w := by
  go_enter Tryz.func117, Tryz.ntmps117
  go_wp2_with fail
  refine H.mono ?_
  rintro e w1 ⟨rfl, rfl⟩
  go_wp2
  go_ret
  exact ⟨rfl, rfl⟩

theorem meaning16 (w : World) (x : ByteArray) (H : Calls Tryz.prog 121 #[.string x, .string ⟨#[59]⟩] w fun e w' => e = .returned (.string ⟨#[109, 100, 97, 115, 104]⟩) ∧ w' = w) :
    Calls Tryz.prog 117 #[.string x] w fun e w' => e = .returned (.string ⟨#[226, 128, 148]⟩) ∧ w' = w := by
  go_enter Tryz.func117, Tryz.ntmps117
  go_wp2_with fail
  refine H.mono ?_
  rintro e w1 ⟨rfl, rfl⟩
  go_wp2
  go_ret
  exact ⟨rfl, rfl⟩

theorem meaning17 (w : World) (x : ByteArray) (H : Calls Tryz.prog 121 #[.string x, .string ⟨#[59]⟩] w fun e w' => e = .returned (.string ⟨#[110, 98, 115, 112]⟩) ∧ w' = w) :
    Calls Tryz.prog 117 #[.string x] w fun e w' => e = .returned (.string ⟨#[194, 160]⟩) ∧ w' = w := by
  go_enter Tryz.func117, Tryz.ntmps117
  go_wp2_with fail
  refine H.mono ?_
  rintro e w1 ⟨rfl, rfl⟩
  go_wp2
  go_ret
  exact ⟨rfl, rfl⟩

theorem meaning18 (w : World) (x : ByteArray) (H : Calls Tryz.prog 121 #[.string x, .string ⟨#[59]⟩] w fun e w' => e = .returned (.string ⟨#[110, 100, 97, 115, 104]⟩) ∧ w' = w) :
    Calls Tryz.prog 117 #[.string x] w fun e w' => e = .returned (.string ⟨#[226, 128, 147]⟩) ∧ w' = w := by
  go_enter Tryz.func117, Tryz.ntmps117
  go_wp2_with fail
  refine H.mono ?_
  rintro e w1 ⟨rfl, rfl⟩
  go_wp2
  go_ret
  exact ⟨rfl, rfl⟩

theorem meaning19 (w : World) (x : ByteArray) (H : Calls Tryz.prog 121 #[.string x, .string ⟨#[59]⟩] w fun e w' => e = .returned (.string ⟨#[110, 111, 116]⟩) ∧ w' = w) :
    Calls Tryz.prog 117 #[.string x] w fun e w' => e = .returned (.string ⟨#[194, 172]⟩) ∧ w' = w := by
  go_enter Tryz.func117, Tryz.ntmps117
  go_wp2_with fail
  refine H.mono ?_
  rintro e w1 ⟨rfl, rfl⟩
  go_wp2
  go_ret
  exact ⟨rfl, rfl⟩

theorem meaning20 (w : World) (x : ByteArray) (H : Calls Tryz.prog 121 #[.string x, .string ⟨#[59]⟩] w fun e w' => e = .returned (.string ⟨#[110, 111, 116, 105, 110]⟩) ∧ w' = w) :
    Calls Tryz.prog 117 #[.string x] w fun e w' => e = .returned (.string ⟨#[226, 136, 137]⟩) ∧ w' = w := by
  go_enter Tryz.func117, Tryz.ntmps117
  go_wp2_with fail
  refine H.mono ?_
  rintro e w1 ⟨rfl, rfl⟩
  go_wp2
  go_ret
  exact ⟨rfl, rfl⟩

theorem meaning21 (w : World) (x : ByteArray) (H : Calls Tryz.prog 121 #[.string x, .string ⟨#[59]⟩] w fun e w' => e = .returned (.string ⟨#[111, 117, 109, 108]⟩) ∧ w' = w) :
    Calls Tryz.prog 117 #[.string x] w fun e w' => e = .returned (.string ⟨#[195, 182]⟩) ∧ w' = w := by
  go_enter Tryz.func117, Tryz.ntmps117
  go_wp2_with fail
  refine H.mono ?_
  rintro e w1 ⟨rfl, rfl⟩
  go_wp2
  go_ret
  exact ⟨rfl, rfl⟩

theorem meaning22 (w : World) (x : ByteArray) (H : Calls Tryz.prog 121 #[.string x, .string ⟨#[59]⟩] w fun e w' => e = .returned (.string ⟨#[113, 117, 111, 116]⟩) ∧ w' = w) :
    Calls Tryz.prog 117 #[.string x] w fun e w' => e = .returned (.string ⟨#[34]⟩) ∧ w' = w := by
  go_enter Tryz.func117, Tryz.ntmps117
  go_wp2_with fail
  refine H.mono ?_
  rintro e w1 ⟨rfl, rfl⟩
  go_wp2
  go_ret
  exact ⟨rfl, rfl⟩

theorem meaning23 (w : World) (x : ByteArray) (H : Calls Tryz.prog 121 #[.string x, .string ⟨#[59]⟩] w fun e w' => e = .returned (.string ⟨#[114, 97, 113, 117, 111]⟩) ∧ w' = w) :
    Calls Tryz.prog 117 #[.string x] w fun e w' => e = .returned (.string ⟨#[194, 187]⟩) ∧ w' = w := by
  go_enter Tryz.func117, Tryz.ntmps117
  go_wp2_with fail
  refine H.mono ?_
  rintro e w1 ⟨rfl, rfl⟩
  go_wp2
  go_ret
  exact ⟨rfl, rfl⟩

theorem meaning24 (w : World) (x : ByteArray) (H : Calls Tryz.prog 121 #[.string x, .string ⟨#[59]⟩] w fun e w' => e = .returned (.string ⟨#[114, 101, 103]⟩) ∧ w' = w) :
    Calls Tryz.prog 117 #[.string x] w fun e w' => e = .returned (.string ⟨#[194, 174]⟩) ∧ w' = w := by
  go_enter Tryz.func117, Tryz.ntmps117
  go_wp2_with fail
  refine H.mono ?_
  rintro e w1 ⟨rfl, rfl⟩
  go_wp2
  go_ret
  exact ⟨rfl, rfl⟩

theorem meaning25 (w : World) (x : ByteArray) (H : Calls Tryz.prog 121 #[.string x, .string ⟨#[59]⟩] w fun e w' => e = .returned (.string ⟨#[115, 122, 108, 105, 103]⟩) ∧ w' = w) :
    Calls Tryz.prog 117 #[.string x] w fun e w' => e = .returned (.string ⟨#[195, 159]⟩) ∧ w' = w := by
  go_enter Tryz.func117, Tryz.ntmps117
  go_wp2_with fail
  refine H.mono ?_
  rintro e w1 ⟨rfl, rfl⟩
  go_wp2
  go_ret
  exact ⟨rfl, rfl⟩

theorem meaning26 (w : World) (x : ByteArray) (H : Calls Tryz.prog 121 #[.string x, .string ⟨#[59]⟩] w fun e w' => e = .returned (.string ⟨#[116, 105, 109, 101, 115]⟩) ∧ w' = w) :
    Calls Tryz.prog 117 #[.string x] w fun e w' => e = .returned (.string ⟨#[195, 151]⟩) ∧ w' = w := by
  go_enter Tryz.func117, Tryz.ntmps117
  go_wp2_with fail
  refine H.mono ?_
  rintro e w1 ⟨rfl, rfl⟩
  go_wp2
  go_ret
  exact ⟨rfl, rfl⟩

theorem meaning27 (w : World) (x : ByteArray) (H : Calls Tryz.prog 121 #[.string x, .string ⟨#[59]⟩] w fun e w' => e = .returned (.string ⟨#[117, 117, 109, 108]⟩) ∧ w' = w) :
    Calls Tryz.prog 117 #[.string x] w fun e w' => e = .returned (.string ⟨#[195, 188]⟩) ∧ w' = w := by
  go_enter Tryz.func117, Tryz.ntmps117
  go_wp2_with fail
  refine H.mono ?_
  rintro e w1 ⟨rfl, rfl⟩
  go_wp2
  go_ret
  exact ⟨rfl, rfl⟩

theorem meaning28 (w : World) (x : ByteArray) (H : Calls Tryz.prog 121 #[.string x, .string ⟨#[59]⟩] w fun e w' => e = .returned (.string ⟨#[121, 101, 110]⟩) ∧ w' = w) :
    Calls Tryz.prog 117 #[.string x] w fun e w' => e = .returned (.string ⟨#[194, 165]⟩) ∧ w' = w := by
  go_enter Tryz.func117, Tryz.ntmps117
  go_wp2_with fail
  refine H.mono ?_
  rintro e w1 ⟨rfl, rfl⟩
  go_wp2
  go_ret
  exact ⟨rfl, rfl⟩

theorem meaning29 (w : World) (x : ByteArray) (H : Calls Tryz.prog 121 #[.string x, .string ⟨#[59]⟩] w fun e w' => e = .returned (.string ⟨#[]⟩) ∧ w' = w) :
    Calls Tryz.prog 117 #[.string x] w fun e w' => e = .returned (.string ⟨#[]⟩) ∧ w' = w := by
  go_enter Tryz.func117, Tryz.ntmps117
  go_wp2_with fail
  refine H.mono ?_
  rintro e w1 ⟨rfl, rfl⟩
  go_wp2
  go_ret
  exact ⟨rfl, rfl⟩

/-- meaning, of a name, or of none. -/
theorem meaning_any (w : World) (x : ByteArray) (hx : x ∈ (⟨#[]⟩ : ByteArray) :: NM) : Calls Tryz.prog 117 #[.string x] w fun e w' => e = .returned (.string (mean x)) ∧ w' = w := by
  have H := trim_any w x (named_size x hx)
  simp only [NM, List.mem_cons, List.not_mem_nil, or_false] at hx
  rcases hx with rfl | rfl | rfl | rfl | rfl | rfl | rfl | rfl | rfl | rfl | rfl | rfl | rfl | rfl | rfl | rfl | rfl | rfl | rfl | rfl | rfl | rfl | rfl | rfl | rfl | rfl | rfl | rfl | rfl | rfl | rfl | rfl | rfl | rfl | rfl | rfl | rfl | rfl | rfl | rfl | rfl | rfl | rfl | rfl | rfl | rfl | rfl | rfl | rfl | rfl | rfl | rfl
  · rw [show trim ⟨#[]⟩ = ⟨#[]⟩ by kernel_rfl] at H
    rw [show mean ⟨#[]⟩ = ⟨#[]⟩ by kernel_rfl]
    exact meaning29 w _ H
  · rw [show trim ⟨#[65, 77, 80]⟩ = ⟨#[65, 77, 80]⟩ by kernel_rfl] at H
    rw [show mean ⟨#[65, 77, 80]⟩ = ⟨#[38]⟩ by kernel_rfl]
    exact meaning0 w _ H
  · rw [show trim ⟨#[65, 77, 80, 59]⟩ = ⟨#[65, 77, 80]⟩ by kernel_rfl] at H
    rw [show mean ⟨#[65, 77, 80, 59]⟩ = ⟨#[38]⟩ by kernel_rfl]
    exact meaning0 w _ H
  · rw [show trim ⟨#[67, 79, 80, 89]⟩ = ⟨#[67, 79, 80, 89]⟩ by kernel_rfl] at H
    rw [show mean ⟨#[67, 79, 80, 89]⟩ = ⟨#[194, 169]⟩ by kernel_rfl]
    exact meaning1 w _ H
  · rw [show trim ⟨#[67, 79, 80, 89, 59]⟩ = ⟨#[67, 79, 80, 89]⟩ by kernel_rfl] at H
    rw [show mean ⟨#[67, 79, 80, 89, 59]⟩ = ⟨#[194, 169]⟩ by kernel_rfl]
    exact meaning1 w _ H
  · rw [show trim ⟨#[71, 84]⟩ = ⟨#[71, 84]⟩ by kernel_rfl] at H
    rw [show mean ⟨#[71, 84]⟩ = ⟨#[62]⟩ by kernel_rfl]
    exact meaning2 w _ H
  · rw [show trim ⟨#[71, 84, 59]⟩ = ⟨#[71, 84]⟩ by kernel_rfl] at H
    rw [show mean ⟨#[71, 84, 59]⟩ = ⟨#[62]⟩ by kernel_rfl]
    exact meaning2 w _ H
  · rw [show trim ⟨#[76, 84]⟩ = ⟨#[76, 84]⟩ by kernel_rfl] at H
    rw [show mean ⟨#[76, 84]⟩ = ⟨#[60]⟩ by kernel_rfl]
    exact meaning3 w _ H
  · rw [show trim ⟨#[76, 84, 59]⟩ = ⟨#[76, 84]⟩ by kernel_rfl] at H
    rw [show mean ⟨#[76, 84, 59]⟩ = ⟨#[60]⟩ by kernel_rfl]
    exact meaning3 w _ H
  · rw [show trim ⟨#[78, 111, 116, 69, 113, 117, 97, 108, 84, 105, 108, 100, 101, 59]⟩ = ⟨#[78, 111, 116, 69, 113, 117, 97, 108, 84, 105, 108, 100, 101]⟩ by kernel_rfl] at H
    rw [show mean ⟨#[78, 111, 116, 69, 113, 117, 97, 108, 84, 105, 108, 100, 101, 59]⟩ = ⟨#[226, 137, 130, 204, 184]⟩ by kernel_rfl]
    exact meaning4 w _ H
  · rw [show trim ⟨#[81, 85, 79, 84]⟩ = ⟨#[81, 85, 79, 84]⟩ by kernel_rfl] at H
    rw [show mean ⟨#[81, 85, 79, 84]⟩ = ⟨#[34]⟩ by kernel_rfl]
    exact meaning5 w _ H
  · rw [show trim ⟨#[81, 85, 79, 84, 59]⟩ = ⟨#[81, 85, 79, 84]⟩ by kernel_rfl] at H
    rw [show mean ⟨#[81, 85, 79, 84, 59]⟩ = ⟨#[34]⟩ by kernel_rfl]
    exact meaning5 w _ H
  · rw [show trim ⟨#[97, 109, 112]⟩ = ⟨#[97, 109, 112]⟩ by kernel_rfl] at H
    rw [show mean ⟨#[97, 109, 112]⟩ = ⟨#[38]⟩ by kernel_rfl]
    exact meaning6 w _ H
  · rw [show trim ⟨#[97, 109, 112, 59]⟩ = ⟨#[97, 109, 112]⟩ by kernel_rfl] at H
    rw [show mean ⟨#[97, 109, 112, 59]⟩ = ⟨#[38]⟩ by kernel_rfl]
    exact meaning6 w _ H
  · rw [show trim ⟨#[97, 112, 111, 115, 59]⟩ = ⟨#[97, 112, 111, 115]⟩ by kernel_rfl] at H
    rw [show mean ⟨#[97, 112, 111, 115, 59]⟩ = ⟨#[39]⟩ by kernel_rfl]
    exact meaning7 w _ H
  · rw [show trim ⟨#[99, 101, 110, 116, 59]⟩ = ⟨#[99, 101, 110, 116]⟩ by kernel_rfl] at H
    rw [show mean ⟨#[99, 101, 110, 116, 59]⟩ = ⟨#[194, 162]⟩ by kernel_rfl]
    exact meaning8 w _ H
  · rw [show trim ⟨#[99, 111, 112, 121]⟩ = ⟨#[99, 111, 112, 121]⟩ by kernel_rfl] at H
    rw [show mean ⟨#[99, 111, 112, 121]⟩ = ⟨#[194, 169]⟩ by kernel_rfl]
    exact meaning9 w _ H
  · rw [show trim ⟨#[99, 111, 112, 121, 59]⟩ = ⟨#[99, 111, 112, 121]⟩ by kernel_rfl] at H
    rw [show mean ⟨#[99, 111, 112, 121, 59]⟩ = ⟨#[194, 169]⟩ by kernel_rfl]
    exact meaning9 w _ H
  · rw [show trim ⟨#[100, 101, 103]⟩ = ⟨#[100, 101, 103]⟩ by kernel_rfl] at H
    rw [show mean ⟨#[100, 101, 103]⟩ = ⟨#[194, 176]⟩ by kernel_rfl]
    exact meaning10 w _ H
  · rw [show trim ⟨#[100, 101, 103, 59]⟩ = ⟨#[100, 101, 103]⟩ by kernel_rfl] at H
    rw [show mean ⟨#[100, 101, 103, 59]⟩ = ⟨#[194, 176]⟩ by kernel_rfl]
    exact meaning10 w _ H
  · rw [show trim ⟨#[101, 97, 99, 117, 116, 101]⟩ = ⟨#[101, 97, 99, 117, 116, 101]⟩ by kernel_rfl] at H
    rw [show mean ⟨#[101, 97, 99, 117, 116, 101]⟩ = ⟨#[195, 169]⟩ by kernel_rfl]
    exact meaning11 w _ H
  · rw [show trim ⟨#[101, 97, 99, 117, 116, 101, 59]⟩ = ⟨#[101, 97, 99, 117, 116, 101]⟩ by kernel_rfl] at H
    rw [show mean ⟨#[101, 97, 99, 117, 116, 101, 59]⟩ = ⟨#[195, 169]⟩ by kernel_rfl]
    exact meaning11 w _ H
  · rw [show trim ⟨#[103, 116]⟩ = ⟨#[103, 116]⟩ by kernel_rfl] at H
    rw [show mean ⟨#[103, 116]⟩ = ⟨#[62]⟩ by kernel_rfl]
    exact meaning12 w _ H
  · rw [show trim ⟨#[103, 116, 59]⟩ = ⟨#[103, 116]⟩ by kernel_rfl] at H
    rw [show mean ⟨#[103, 116, 59]⟩ = ⟨#[62]⟩ by kernel_rfl]
    exact meaning12 w _ H
  · rw [show trim ⟨#[104, 101, 108, 108, 105, 112, 59]⟩ = ⟨#[104, 101, 108, 108, 105, 112]⟩ by kernel_rfl] at H
    rw [show mean ⟨#[104, 101, 108, 108, 105, 112, 59]⟩ = ⟨#[226, 128, 166]⟩ by kernel_rfl]
    exact meaning13 w _ H
  · rw [show trim ⟨#[108, 97, 113, 117, 111]⟩ = ⟨#[108, 97, 113, 117, 111]⟩ by kernel_rfl] at H
    rw [show mean ⟨#[108, 97, 113, 117, 111]⟩ = ⟨#[194, 171]⟩ by kernel_rfl]
    exact meaning14 w _ H
  · rw [show trim ⟨#[108, 97, 113, 117, 111, 59]⟩ = ⟨#[108, 97, 113, 117, 111]⟩ by kernel_rfl] at H
    rw [show mean ⟨#[108, 97, 113, 117, 111, 59]⟩ = ⟨#[194, 171]⟩ by kernel_rfl]
    exact meaning14 w _ H
  · rw [show trim ⟨#[108, 116]⟩ = ⟨#[108, 116]⟩ by kernel_rfl] at H
    rw [show mean ⟨#[108, 116]⟩ = ⟨#[60]⟩ by kernel_rfl]
    exact meaning15 w _ H
  · rw [show trim ⟨#[108, 116, 59]⟩ = ⟨#[108, 116]⟩ by kernel_rfl] at H
    rw [show mean ⟨#[108, 116, 59]⟩ = ⟨#[60]⟩ by kernel_rfl]
    exact meaning15 w _ H
  · rw [show trim ⟨#[109, 100, 97, 115, 104, 59]⟩ = ⟨#[109, 100, 97, 115, 104]⟩ by kernel_rfl] at H
    rw [show mean ⟨#[109, 100, 97, 115, 104, 59]⟩ = ⟨#[226, 128, 148]⟩ by kernel_rfl]
    exact meaning16 w _ H
  · rw [show trim ⟨#[110, 98, 115, 112]⟩ = ⟨#[110, 98, 115, 112]⟩ by kernel_rfl] at H
    rw [show mean ⟨#[110, 98, 115, 112]⟩ = ⟨#[194, 160]⟩ by kernel_rfl]
    exact meaning17 w _ H
  · rw [show trim ⟨#[110, 98, 115, 112, 59]⟩ = ⟨#[110, 98, 115, 112]⟩ by kernel_rfl] at H
    rw [show mean ⟨#[110, 98, 115, 112, 59]⟩ = ⟨#[194, 160]⟩ by kernel_rfl]
    exact meaning17 w _ H
  · rw [show trim ⟨#[110, 100, 97, 115, 104, 59]⟩ = ⟨#[110, 100, 97, 115, 104]⟩ by kernel_rfl] at H
    rw [show mean ⟨#[110, 100, 97, 115, 104, 59]⟩ = ⟨#[226, 128, 147]⟩ by kernel_rfl]
    exact meaning18 w _ H
  · rw [show trim ⟨#[110, 111, 116]⟩ = ⟨#[110, 111, 116]⟩ by kernel_rfl] at H
    rw [show mean ⟨#[110, 111, 116]⟩ = ⟨#[194, 172]⟩ by kernel_rfl]
    exact meaning19 w _ H
  · rw [show trim ⟨#[110, 111, 116, 59]⟩ = ⟨#[110, 111, 116]⟩ by kernel_rfl] at H
    rw [show mean ⟨#[110, 111, 116, 59]⟩ = ⟨#[194, 172]⟩ by kernel_rfl]
    exact meaning19 w _ H
  · rw [show trim ⟨#[110, 111, 116, 105, 110, 59]⟩ = ⟨#[110, 111, 116, 105, 110]⟩ by kernel_rfl] at H
    rw [show mean ⟨#[110, 111, 116, 105, 110, 59]⟩ = ⟨#[226, 136, 137]⟩ by kernel_rfl]
    exact meaning20 w _ H
  · rw [show trim ⟨#[111, 117, 109, 108]⟩ = ⟨#[111, 117, 109, 108]⟩ by kernel_rfl] at H
    rw [show mean ⟨#[111, 117, 109, 108]⟩ = ⟨#[195, 182]⟩ by kernel_rfl]
    exact meaning21 w _ H
  · rw [show trim ⟨#[111, 117, 109, 108, 59]⟩ = ⟨#[111, 117, 109, 108]⟩ by kernel_rfl] at H
    rw [show mean ⟨#[111, 117, 109, 108, 59]⟩ = ⟨#[195, 182]⟩ by kernel_rfl]
    exact meaning21 w _ H
  · rw [show trim ⟨#[113, 117, 111, 116]⟩ = ⟨#[113, 117, 111, 116]⟩ by kernel_rfl] at H
    rw [show mean ⟨#[113, 117, 111, 116]⟩ = ⟨#[34]⟩ by kernel_rfl]
    exact meaning22 w _ H
  · rw [show trim ⟨#[113, 117, 111, 116, 59]⟩ = ⟨#[113, 117, 111, 116]⟩ by kernel_rfl] at H
    rw [show mean ⟨#[113, 117, 111, 116, 59]⟩ = ⟨#[34]⟩ by kernel_rfl]
    exact meaning22 w _ H
  · rw [show trim ⟨#[114, 97, 113, 117, 111]⟩ = ⟨#[114, 97, 113, 117, 111]⟩ by kernel_rfl] at H
    rw [show mean ⟨#[114, 97, 113, 117, 111]⟩ = ⟨#[194, 187]⟩ by kernel_rfl]
    exact meaning23 w _ H
  · rw [show trim ⟨#[114, 97, 113, 117, 111, 59]⟩ = ⟨#[114, 97, 113, 117, 111]⟩ by kernel_rfl] at H
    rw [show mean ⟨#[114, 97, 113, 117, 111, 59]⟩ = ⟨#[194, 187]⟩ by kernel_rfl]
    exact meaning23 w _ H
  · rw [show trim ⟨#[114, 101, 103]⟩ = ⟨#[114, 101, 103]⟩ by kernel_rfl] at H
    rw [show mean ⟨#[114, 101, 103]⟩ = ⟨#[194, 174]⟩ by kernel_rfl]
    exact meaning24 w _ H
  · rw [show trim ⟨#[114, 101, 103, 59]⟩ = ⟨#[114, 101, 103]⟩ by kernel_rfl] at H
    rw [show mean ⟨#[114, 101, 103, 59]⟩ = ⟨#[194, 174]⟩ by kernel_rfl]
    exact meaning24 w _ H
  · rw [show trim ⟨#[115, 122, 108, 105, 103]⟩ = ⟨#[115, 122, 108, 105, 103]⟩ by kernel_rfl] at H
    rw [show mean ⟨#[115, 122, 108, 105, 103]⟩ = ⟨#[195, 159]⟩ by kernel_rfl]
    exact meaning25 w _ H
  · rw [show trim ⟨#[115, 122, 108, 105, 103, 59]⟩ = ⟨#[115, 122, 108, 105, 103]⟩ by kernel_rfl] at H
    rw [show mean ⟨#[115, 122, 108, 105, 103, 59]⟩ = ⟨#[195, 159]⟩ by kernel_rfl]
    exact meaning25 w _ H
  · rw [show trim ⟨#[116, 105, 109, 101, 115]⟩ = ⟨#[116, 105, 109, 101, 115]⟩ by kernel_rfl] at H
    rw [show mean ⟨#[116, 105, 109, 101, 115]⟩ = ⟨#[195, 151]⟩ by kernel_rfl]
    exact meaning26 w _ H
  · rw [show trim ⟨#[116, 105, 109, 101, 115, 59]⟩ = ⟨#[116, 105, 109, 101, 115]⟩ by kernel_rfl] at H
    rw [show mean ⟨#[116, 105, 109, 101, 115, 59]⟩ = ⟨#[195, 151]⟩ by kernel_rfl]
    exact meaning26 w _ H
  · rw [show trim ⟨#[117, 117, 109, 108]⟩ = ⟨#[117, 117, 109, 108]⟩ by kernel_rfl] at H
    rw [show mean ⟨#[117, 117, 109, 108]⟩ = ⟨#[195, 188]⟩ by kernel_rfl]
    exact meaning27 w _ H
  · rw [show trim ⟨#[117, 117, 109, 108, 59]⟩ = ⟨#[117, 117, 109, 108]⟩ by kernel_rfl] at H
    rw [show mean ⟨#[117, 117, 109, 108, 59]⟩ = ⟨#[195, 188]⟩ by kernel_rfl]
    exact meaning27 w _ H
  · rw [show trim ⟨#[121, 101, 110]⟩ = ⟨#[121, 101, 110]⟩ by kernel_rfl] at H
    rw [show mean ⟨#[121, 101, 110]⟩ = ⟨#[194, 165]⟩ by kernel_rfl]
    exact meaning28 w _ H
  · rw [show trim ⟨#[121, 101, 110, 59]⟩ = ⟨#[121, 101, 110]⟩ by kernel_rfl] at H
    rw [show mean ⟨#[121, 101, 110, 59]⟩ = ⟨#[194, 165]⟩ by kernel_rfl]
    exact meaning28 w _ H

/-- The program's names lie where its variable leads. -/
def Nm (w : World) : Prop := ∃ ao c, w.cell? ⟨1, 0, none⟩ = some (.slice ao 51 c) ∧ Rb w ao 51 c (tx NM)

theorem Nm.kept {w w' : World} (h : Nm w) (k : Kp [] w w') : Nm w' := by
  obtain ⟨ao, c, h1, h2⟩ := h
  exact ⟨ao, c, by rw [k.cell (block_lt_of_cell h1) (by simp)]; exact h1, h2.kept k⟩

theorem found_mem (s : ByteArray) : found s ∈ (⟨#[]⟩ : ByteArray) :: NM := by
  rcases (longest s).2.1 with h | h
  · rw [h]
    exact List.mem_cons_self
  · exact List.mem_cons_of_mem _ h

theorem pn_step (s : ByteArray) (k : Nat) (hk : k < 51) (b : ByteArray) : pn s (NM.drop k) b = if less s (NM[k]'(by rw [nm_len]; exact hk)) then b else pn s (NM.drop (k + 1)) (if pre (NM[k]'(by rw [nm_len]; exact hk)) s then NM[k]'(by rw [nm_len]; exact hk) else b) := by
  rw [List.drop_eq_getElem_cons (by rw [nm_len]; exact hk), pn]

theorem gtr_less : ∀ (x y : List UInt8), (!(Op.bytesLess x y || x == y)) = Op.bytesLess y x
  | [], [] => rfl
  | [], b :: y => by simp [Op.bytesLess]
  | a :: x, [] => by simp [Op.bytesLess]
  | a :: x, b :: y => by
    have h := gtr_less x y
    by_cases h1 : a < b
    · have h2 : ¬ b < a := UInt8.lt_asymm h1
      have h3 : ¬ b = a := fun e => by subst e; exact h2 h1
      simp [Op.bytesLess, h1, h2, h3]
    · by_cases h2 : a = b
      · subst h2
        simpa [Op.bytesLess, h1] using h
      · have h3 : b < a := by
          rcases UInt8.lt_or_lt_of_ne h2 with h4 | h4
          · exact absurd h4 h1
          · exact h4
        simp [Op.bytesLess, h1, h2, h3]

set_option maxHeartbeats 1000000 in
theorem named_any (w : World) (hn : Nm w) (s : ByteArray) : Calls Tryz.prog 113 #[.string s] w fun e w' => e = .returned (.tuple #[.string (mean (found s)), .int .i64 ((found s).size : Int)]) ∧ w' = w := by
  obtain ⟨ao, c, hc, hr⟩ := hn
  have HM := meaning_any w (found s) (found_mem s)
  go_enter Tryz.func113, Tryz.ntmps113
  go_wp2
  go_loop [4, 9] (fun b i => ∃ (k : Nat) (x : ByteArray), k ≤ 51 ∧ i = .int .i64 k ∧ b = .string x ∧ pn s (NM.drop k) x = found s) (fun _ i => 51 - (intOf i).toNat)
  case atStart => exact ⟨0, ⟨#[]⟩, by omega, rfl, rfl, rfl⟩
  case round =>
    obtain ⟨k, b, hk, rfl, rfl, hp⟩ := hrel
    by_cases hlt : k < 51
    · obtain ⟨b1, o1, rfl, h1⟩ := hr.tx_at k (by rw [nm_len]; exact hlt)
      rw [pn_step s k hlt] at hp
      generalize NM[k]'(by rw [nm_len]; exact hlt) = x at h1 hp
      have HP := hasPrefix_any w s x
      have hg := gtr_less x.toList s.toList
      rw [show Op.bytesLess s.toList x.toList = less s x from rfl] at hg
      cases hl : less s x
      · rw [hl] at hp hg
        simp only [Bool.false_eq_true, if_false] at hp
        cases hq : pre x s
        · rw [hq] at HP hp
          simp only [Bool.false_eq_true, if_false] at hp
          go_wp2_with fail
          refine HP.mono ?_
          rintro e w1 ⟨rfl, rfl⟩
          go_wp2
          go_round
          case rel => exact ⟨k + 1, b, by omega, by go_num, rfl, hp⟩
          case measure => simp [intOf]; omega
        · rw [hq] at HP hp
          simp only [if_true] at hp
          go_wp2_with fail
          refine HP.mono ?_
          rintro e w1 ⟨rfl, rfl⟩
          go_wp2
          go_round
          case rel => exact ⟨k + 1, x, by omega, by go_num, rfl, hp⟩
          case measure => simp [intOf]; omega
      · rw [hl] at hp hg
        simp only [if_true] at hp
        subst hp
        go_wp2_with fail
        refine HM.mono ?_
        rintro e w1 ⟨rfl, rfl⟩
        go_wp2
        go_ret2
        exact ⟨rfl, rfl⟩
    · have hk2 : k = 51 := by omega
      rw [hk2, show NM.drop 51 = [] by kernel_rfl] at hp
      simp only [pn] at hp
      subst hp
      go_wp2_with fail
      refine HM.mono ?_
      rintro e w1 ⟨rfl, rfl⟩
      go_wp2
      go_ret2
      exact ⟨rfl, rfl⟩

end Go.Proofs.YtcfaejbbjmjgpaaGreatDoor
