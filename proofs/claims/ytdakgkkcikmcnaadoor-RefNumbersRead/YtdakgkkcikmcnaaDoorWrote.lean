/-
  A number that is written, in tens or sixteens, is read as it is: no program.
-/
import Derived.Test.YtdakgkkcikmcnaaDoorBare
import Derived.Test.YtdakgkkcikmcnaaDoorRefRead
namespace Go.Proofs.YtdakgkkcikmcnaaDoor
open Go.RowKit Utf
set_option linter.unusedVariables false

theorem uv_shift {s D : ByteArray} (b : Int) (f : Nat) : ∀ m, (∀ j, j < m → bt s (f + j) = bt D j) → uv s b f m = uv D b 0 m
  | 0, _ => rfl
  | m + 1, h => by rw [uv, uv, uv_shift b f m (fun j hj => h j (by omega)), h m (by omega), Nat.zero_add]

theorem uv_zero {s : ByteArray} {b : Int} {p i : Nat} (h : uv s b p i = 0) : ∀ k, uv s b p (i + k) = uv s b (p + i) k
  | 0 => h
  | k + 1 => by rw [← Nat.add_assoc, uv, uv, uv_zero h k, Nat.add_assoc]

/-- One digit more ahead. -/
theorem uv_cons {c D : ByteArray} (hc : c.size = 1) (b : Int) : ∀ m, uv (c ++ D) b 0 (m + 1) = hexv (bt c 0) * b ^ m + uv D b 0 m
  | 0 => by rw [uv, uv, uv, Nat.zero_add, bt_left _ _ (by omega), Int.pow_zero, Int.mul_one, Int.zero_mul]; omega
  | m + 1 => by
    have hb : bt (c ++ D) (0 + (m + 1)) = bt D (0 + m) := by
      have := bt_right c D m
      rw [hc] at this
      rw [Nat.zero_add, Nat.zero_add, Nat.add_comm m 1]
      exact this
    rw [uv, uv_cons hc b m, hb, uv, Int.add_mul, Int.pow_succ, Int.mul_assoc, Int.add_assoc]

/-- The digits of D, to the base b, make n together with k that is still to be written. -/
structure Wr (D : ByteArray) (b n k : Nat) : Prop where
  dig : ∀ j, j < D.size → isD (bt D j) (b : Int) = true
  val : ((k * b ^ D.size : Nat) : Int) + uv D (b : Int) 0 D.size = (n : Int)

theorem wr_new (b n : Nat) : Wr ⟨#[]⟩ b n n := ⟨fun j hj => absurd hj (Nat.not_lt_zero _), by
  rw [show ByteArray.size ⟨#[]⟩ = 0 from rfl, Nat.pow_zero, Nat.mul_one, uv]
  omega⟩

theorem wr_more {c D : ByteArray} {b n k : Nat} (h : Wr D b n k) (hc : c.size = 1) (hd : isD (bt c 0) (b : Int) = true) (hv : hexv (bt c 0) = ((k % b : Nat) : Int)) : Wr (c ++ D) b n (k / b) := by
  refine ⟨fun j hj => ?_, ?_⟩
  · rw [cat_size, hc] at hj
    cases j with
    | zero => rw [bt_left _ _ (by omega)]; exact hd
    | succ j =>
      have := bt_right c D j
      rw [hc, Nat.add_comm] at this
      rw [this]
      exact h.dig j (by omega)
  · rw [cat_size, hc, Nat.add_comm 1, uv_cons hc, hv, ← h.val]
    have e : k / b * b ^ (D.size + 1) + k % b * b ^ D.size = k * b ^ D.size := by
      rw [Nat.pow_succ, Nat.mul_comm (b ^ D.size) b, ← Nat.mul_assoc, ← Nat.add_mul, Nat.mul_comm (k / b) b, Nat.div_add_mod]
    rw [← e]
    push_cast
    omega

theorem wr_done {D : ByteArray} {b n : Nat} (h : Wr D b n 0) : uv D (b : Int) 0 D.size = (n : Int) := by
  have := h.val
  rw [Nat.zero_mul] at this
  omega

theorem wr_le {D : ByteArray} {b n k : Nat} (hb : Tens (b : Int)) (h : Wr D b n k) : k * b ^ D.size ≤ n := by
  have h1 := h.val
  have h2 := uv_pos (s := D) hb 0 D.size
  omega

/-- Where digits stand, they are read. -/
theorem read_digits {s : ByteArray} {f m : Nat} {b : Int} (h : st s 0 HSH = true) (hf : dfr s 0 = f) (hb : bas s 0 = b) (hm : 0 < m) (hd : ∀ j, j < m → isD (bt s (f + j)) b = true) (he : f + m < s.size) (hn : isD (bt s (f + m)) b = false) (attr : Bool) :
    rT s 0 attr = num (uv s b f m) ∧ rE s 0 = if bt s (f + m) = 59 then f + m + 1 else f + m := by
  have hne : nend s 0 = f + m := by
    unfold nend
    rw [hb, hf]
    refine fs_eq ⟨by omega, by omega, fun j h1 h2 => ?_, fun _ => by rw [hn]; rfl⟩
    have := hd (j - f) (by omega)
    rw [show f + (j - f) = j by omega] at this
    rw [this]
    rfl
  have hN : isN s 0 = true := isN_yes h (by rw [hne, hf]; omega)
  refine ⟨?_, ?_⟩
  · rw [rT_num hN]
    unfold numAt
    rw [hb, hf, hne, Nat.add_sub_cancel_left]
  · rw [rE_num hN, hne, st_sem, decide_eq_true he, Bool.true_and]
    by_cases h5 : bt s (f + m) = 59
    · rw [if_pos h5, if_pos (by simpa using h5)]
    · rw [if_neg h5, if_neg (by simpa using h5)]

theorem hash_of {P R : ByteArray} (h2 : 2 ≤ P.size) (e0 : bt P 0 = 38) (e1 : bt P 1 = 35) : st (P ++ R) 0 HSH = true := by
  refine st_true (by rw [show HSH.size = 2 from rfl, cat_size]; omega) fun j hj => ?_
  have hj2 : j < 2 := hj
  rw [Nat.zero_add, bt_left _ _ (by omega)]
  rcases (show j = 0 ∨ j = 1 by omega) with rfl | rfl
  · rw [e0]; decide
  · rw [e1]; decide

theorem hx_of {s : ByteArray} (h : 3 ≤ s.size) : hx s 0 = decide (low (bt s 2) = 120) := by
  unfold hx fo
  rw [show XX.size = 1 from rfl, decide_eq_decide]
  constructor
  · rintro ⟨_, h2⟩
    have := h2 0 (by omega)
    rw [show bt XX 0 = 120 by decide] at this
    exact this
  · intro h2
    refine ⟨by omega, fun j hj => ?_⟩
    obtain rfl : j = 0 := by omega
    rw [show bt XX 0 = 120 by decide]
    exact h2

theorem isD_ten {x : Int} (h : isD x 10 = true) : 48 ≤ x ∧ x ≤ 57 := by
  unfold isD isHex hexv at h
  simp only [Bool.and_eq_true, decide_eq_true_eq] at h
  obtain ⟨h1, h2⟩ := h
  split at h2
  · assumption
  · split at h2
    · omega
    · split at h2
      · omega
      · omega

/-- In tens. -/
theorem read_tens {D R : ByteArray} {n : Nat} (h : Wr D 10 n 0) (h0 : 0 < D.size) (hR : 0 < R.size) (hr : isD (bt R 0) 10 = false) (attr : Bool) :
    rT (⟨#[38, 35]⟩ ++ D ++ R) 0 attr = num n ∧ rE (⟨#[38, 35]⟩ ++ D ++ R) 0 = if bt R 0 = 59 then D.size + 3 else D.size + 2 := by
  have hz : (⟨#[38, 35]⟩ ++ D ++ R : ByteArray).size = 2 + D.size + R.size := by rw [cat_size, cat_size]; rfl
  have hp : (⟨#[38, 35]⟩ ++ D : ByteArray).size = 2 + D.size := by rw [cat_size]; rfl
  have hb : ∀ j, j < D.size → bt (⟨#[38, 35]⟩ ++ D ++ R) (2 + j) = bt D j := fun j hj => by
    rw [bt_left _ _ (by omega)]
    exact bt_right ⟨#[38, 35]⟩ D j
  have he : bt (⟨#[38, 35]⟩ ++ D ++ R) (2 + D.size) = bt R 0 := by
    have := bt_right (⟨#[38, 35]⟩ ++ D) R 0
    rw [hp, Nat.add_zero] at this
    exact this
  have hs : st (⟨#[38, 35]⟩ ++ D ++ R) 0 HSH = true := by
    rw [cat_assoc]
    exact hash_of (by decide) (by decide) (by decide)
  have hh : hx (⟨#[38, 35]⟩ ++ D ++ R) 0 = false := by
    rw [hx_of (by omega)]
    have h1 := isD_ten (h.dig 0 h0)
    have h2 := hb 0 h0
    rw [Nat.add_zero] at h2
    rw [h2]
    refine decide_eq_false fun h3 => ?_
    unfold low at h3
    rw [if_neg (by omega)] at h3
    omega
  have hf : dfr (⟨#[38, 35]⟩ ++ D ++ R) 0 = 2 := by unfold dfr; rw [hh]; rfl
  have hbs : bas (⟨#[38, 35]⟩ ++ D ++ R) 0 = 10 := by unfold bas; rw [hh]; rfl
  obtain ⟨g1, g2⟩ := read_digits hs hf hbs h0 (fun j hj => by rw [hb j hj]; exact h.dig j hj) (by omega) (by rw [he]; exact hr) attr
  rw [g1, g2, he, uv_shift 10 2 D.size hb]
  refine ⟨congrArg num (wr_done h), ?_⟩
  split <;> omega

/-- In sixteens: P is what stands ahead, z of its signs zeros. -/
theorem read_sixteens {P D R : ByteArray} {n z : Nat} (hP : P.size = 3 + z) (e0 : bt P 0 = 38) (e1 : bt P 1 = 35) (e2 : low (bt P 2) = 120) (e3 : ∀ j, j < z → bt P (3 + j) = 48) (e4 : uv P 16 3 z = 0) (h : Wr D 16 n 0) (h0 : 0 < D.size) (hR : 0 < R.size) (hr : isD (bt R 0) 16 = false) (attr : Bool) :
    rT (P ++ D ++ R) 0 attr = num n ∧ rE (P ++ D ++ R) 0 = if bt R 0 = 59 then D.size + z + 4 else D.size + z + 3 := by
  have hz : (P ++ D ++ R : ByteArray).size = P.size + D.size + R.size := by rw [cat_size, cat_size]
  have hp : (P ++ D : ByteArray).size = P.size + D.size := by rw [cat_size]
  have ha : ∀ j, j < P.size → bt (P ++ D ++ R) j = bt P j := fun j hj => by rw [bt_left _ _ (by omega), bt_left _ _ hj]
  have hb : ∀ j, j < D.size → bt (P ++ D ++ R) (3 + z + j) = bt D j := fun j hj => by
    rw [bt_left _ _ (by omega), ← hP]
    exact bt_right P D j
  have he : bt (P ++ D ++ R) (3 + (z + D.size)) = bt R 0 := by
    have := bt_right (P ++ D) R 0
    rw [hp, Nat.add_zero, hP, Nat.add_assoc] at this
    exact this
  have hs : st (P ++ D ++ R) 0 HSH = true := by
    rw [cat_assoc]
    exact hash_of (by omega) e0 e1
  have hh : hx (P ++ D ++ R) 0 = true := by
    rw [hx_of (by omega), ha 2 (by omega)]
    exact decide_eq_true e2
  have hf : dfr (P ++ D ++ R) 0 = 3 := by unfold dfr; rw [hh]; rfl
  have hbs : bas (P ++ D ++ R) 0 = 16 := by unfold bas; rw [hh]; rfl
  obtain ⟨g1, g2⟩ := read_digits hs hf hbs (m := z + D.size) (by omega) (fun j hj => by
    by_cases hj2 : j < z
    · rw [ha _ (by omega), e3 j hj2]
      decide
    · rw [show 3 + j = 3 + z + (j - z) by omega, hb _ (by omega)]
      exact h.dig _ (by omega)) (by omega) (by rw [he]; exact hr) attr
  have hu : uv (P ++ D ++ R) 16 3 z = 0 := by
    rw [← e4]
    refine (uv_shift (D := P.extract 3 P.size) 16 3 z fun j hj => ?_).trans (uv_shift (D := P.extract 3 P.size) 16 3 z fun j hj => ?_).symm
    · rw [ha _ (by omega), bt_cut P 3 P.size j (by omega) (Nat.le_refl _)]
    · rw [bt_cut P 3 P.size j (by omega) (Nat.le_refl _)]
  rw [g1, g2, he, uv_zero hu, uv_shift 16 (3 + z) D.size hb]
  refine ⟨congrArg num (wr_done h), ?_⟩
  split <;> omega

/-- A digit of a number in tens, as a text. -/
theorem ten_one (k : Nat) : (Utf8.encode (48 + ((k % 10 : Nat) : Int))).size = 1 ∧ bt (Utf8.encode (48 + ((k % 10 : Nat) : Int))) 0 = 48 + ((k % 10 : Nat) : Int) := by
  have hk : k % 10 < 10 := Nat.mod_lt _ (by omega)
  generalize k % 10 = r at hk
  rcases (show r = 0 ∨ r = 1 ∨ r = 2 ∨ r = 3 ∨ r = 4 ∨ r = 5 ∨ r = 6 ∨ r = 7 ∨ r = 8 ∨ r = 9 by omega) with rfl | rfl | rfl | rfl | rfl | rfl | rfl | rfl | rfl | rfl
  all_goals decide +kernel

theorem ten_isD (k : Nat) : isD (48 + ((k % 10 : Nat) : Int)) 10 = true ∧ hexv (48 + ((k % 10 : Nat) : Int)) = ((k % 10 : Nat) : Int) := by
  have hk : k % 10 < 10 := Nat.mod_lt _ (by omega)
  generalize k % 10 = r at hk
  have h1 : (48 : Int) ≤ 48 + (r : Int) ∧ 48 + (r : Int) ≤ 57 := by omega
  obtain ⟨g1, g2, _⟩ := hex_dig h1
  unfold isD
  rw [g1, g2]
  refine ⟨?_, by omega⟩
  simp
  omega

/-- The digits up to sixteen. -/
def SIXT : ByteArray := ⟨#[48, 49, 50, 51, 52, 53, 54, 55, 56, 57, 97, 98, 99, 100, 101, 102]⟩
theorem sixt_isD : ∀ r, r < 16 → isD (bt SIXT r) 16 = true ∧ hexv (bt SIXT r) = (r : Int) := by decide +kernel
theorem sixt_one {r : Nat} (h : r < 16) : (SIXT.extract r (r + 1)).size = 1 ∧ bt (SIXT.extract r (r + 1)) 0 = bt SIXT r :=
  ⟨one_size h, one_bt h⟩

theorem wr_ten {D : ByteArray} {n k : Nat} (h : Wr D 10 n k) : Wr (Utf8.encode (48 + ((k % 10 : Nat) : Int)) ++ D) 10 n (k / 10) := by
  obtain ⟨h1, h2⟩ := ten_one k
  obtain ⟨h3, h4⟩ := ten_isD k
  exact wr_more h h1 (by rw [h2]; exact h3) (by rw [h2]; exact h4)

theorem wr_sixt {D : ByteArray} {n k : Nat} (h : Wr D 16 n k) : Wr (SIXT.extract (k % 16) (k % 16 + 1) ++ D) 16 n (k / 16) := by
  have hk : k % 16 < 16 := Nat.mod_lt _ (by omega)
  obtain ⟨h1, h2⟩ := sixt_one hk
  obtain ⟨h3, h4⟩ := sixt_isD _ hk
  exact wr_more h h1 (by rw [h2]; exact h3) (by rw [h2]; exact h4)

/-- No more than seven digits in tens. -/
theorem wr_few10 {D : ByteArray} {n k : Nat} (h : Wr D 10 n k) (hn : n ≤ 1114112) (hk : 0 < k) : D.size ≤ 6 := by
  have h1 := wr_le (by left; rfl) h
  rcases Nat.lt_or_ge 6 D.size with h2 | h2
  · have h3 : 10 ^ 7 ≤ 10 ^ D.size := Nat.pow_le_pow_right (by omega) h2
    have h4 : 1 * 10 ^ D.size ≤ k * 10 ^ D.size := Nat.mul_le_mul_right _ hk
    omega
  · exact h2
theorem wr_few16 {D : ByteArray} {n k : Nat} (h : Wr D 16 n k) (hn : n ≤ 1114112) (hk : 0 < k) : D.size ≤ 6 := by
  have h1 := wr_le (by right; rfl) h
  rcases Nat.lt_or_ge 6 D.size with h2 | h2
  · have h3 : 16 ^ 7 ≤ 16 ^ D.size := Nat.pow_le_pow_right (by omega) h2
    have h4 : 1 * 16 ^ D.size ≤ k * 16 ^ D.size := Nat.mul_le_mul_right _ hk
    omega
  · exact h2

end Go.Proofs.YtdakgkkcikmcnaaDoor
