/-
  UTF-8 by itself: how bytes are read (dec), how runes are written (enc), how lines are made ready (lines), and what follows; no program is spoken of here.
-/
import Derived.WalkKit
namespace Go.Proofs.Ytfobbgmfbpoigaa.Utf

/-- What a lead byte asks: how many bytes follow, and the bounds of the first of them. -/
def firstOf (b : Int) : Option (Nat × Int × Int) :=
  if 194 ≤ b ∧ b ≤ 223 then some (1, 128, 191)
  else if b = 224 then some (2, 160, 191)
  else if b = 237 then some (2, 128, 159)
  else if 225 ≤ b ∧ b ≤ 239 then some (2, 128, 191)
  else if b = 240 then some (3, 144, 191)
  else if 241 ≤ b ∧ b ≤ 243 then some (3, 128, 191)
  else if b = 244 then some (3, 128, 143)
  else none

/-- What a lead byte itself brings. -/
def lead : Nat → Int → Int
  | 1, b => b % 32
  | 2, b => b % 16
  | _, b => b % 8

/-- The bytes that follow, as far as they are right: how many are lacking, the number, and what is left. -/
def more : Nat → Int → Int → Int → List Int → Nat × Int × List Int
  | 0, _, _, r, bs => (0, r, bs)
  | n + 1, _, _, r, [] => (n + 1, r, [])
  | n + 1, lo, hi, r, b :: bs => if lo ≤ b ∧ b ≤ hi then more n 128 191 (r * 64 + b % 64) bs else (n + 1, r, b :: bs)

theorem more_len : ∀ (n : Nat) (lo hi r : Int) (bs : List Int), (more n lo hi r bs).2.2.length ≤ bs.length
  | 0, _, _, _, _ => Nat.le_refl _
  | _ + 1, _, _, _, [] => Nat.le_refl _
  | n + 1, lo, hi, r, b :: bs => by
    rw [more]
    split
    · have := more_len n 128 191 (r * 64 + b % 64) bs
      simp only [List.length_cons]
      omega
    · exact Nat.le_refl _

/-- The first rune of some bytes, and what is left. -/
def step (b : Int) (bs : List Int) : Int × List Int :=
  if b < 128 then (b, bs) else
    match firstOf b with
    | none => (65533, bs)
    | some (n, lo, hi) =>
      let m := more n lo hi (lead n b) bs
      (if m.1 = 0 then m.2.1 else 65533, m.2.2)

theorem step_len (b : Int) (bs : List Int) : (step b bs).2.length ≤ bs.length := by
  unfold step
  split
  · exact Nat.le_refl _
  · split
    · exact Nat.le_refl _
    · exact more_len _ _ _ _ _

/-- Bytes, read rune by rune. -/
def decN : Nat → List Int → List Int
  | 0, _ => []
  | _ + 1, [] => []
  | n + 1, b :: bs => (step b bs).1 :: decN n (step b bs).2

theorem decN_any : ∀ (n m : Nat) (l : List Int), l.length ≤ n → l.length ≤ m → decN n l = decN m l
  | 0, 0, _, _, _ => rfl
  | 0, m + 1, l, h, _ => by
    obtain rfl : l = [] := List.eq_nil_of_length_eq_zero (by omega)
    rfl
  | n + 1, 0, l, _, h => by
    obtain rfl : l = [] := List.eq_nil_of_length_eq_zero (by omega)
    rfl
  | n + 1, m + 1, [], _, _ => rfl
  | n + 1, m + 1, b :: bs, h, k => by
    have hl := step_len b bs
    simp only [List.length_cons] at h k
    rw [decN, decN, decN_any n m _ (by omega) (by omega)]

/-- All of them: there are no more rounds than bytes. -/
def dec (l : List Int) : List Int := decN l.length l

theorem dec_nil : dec [] = [] := rfl
theorem dec_cons (b : Int) (bs : List Int) : dec (b :: bs) = (step b bs).1 :: dec (step b bs).2 := by
  have hl := step_len b bs
  show (step b bs).1 :: decN bs.length (step b bs).2 = _
  rw [dec, decN_any bs.length (step b bs).2.length _ hl (Nat.le_refl _)]

/-- A byte below 128 ends whatever stands ahead of it. -/
theorem more_append (c : Int) (hc : c < 128) (b : List Int) : ∀ (n : Nat) (lo hi r : Int) (a : List Int), 128 ≤ lo → more n lo hi r (a ++ c :: b) = ((more n lo hi r a).1, (more n lo hi r a).2.1, (more n lo hi r a).2.2 ++ c :: b)
  | 0, _, _, _, _, _ => rfl
  | n + 1, lo, hi, r, [], h => by
    rw [List.nil_append, more, more, if_neg (by omega)]
    rfl
  | n + 1, lo, hi, r, x :: a, _ => by
    rw [List.cons_append, more, more]
    split
    · exact more_append c hc b n 128 191 _ a (by omega)
    · rfl

theorem firstOf_low {b : Int} {n : Nat} {lo hi : Int} (h : firstOf b = some (n, lo, hi)) : 128 ≤ lo ∧ 1 ≤ n ∧ n ≤ 3 := by
  unfold firstOf at h
  split at h
  · simp at h; omega
  split at h
  · simp at h; omega
  split at h
  · simp at h; omega
  split at h
  · simp at h; omega
  split at h
  · simp at h; omega
  split at h
  · simp at h; omega
  split at h
  · simp at h; omega
  · cases h

theorem step_append (c : Int) (hc : c < 128) (b : List Int) (x : Int) (a : List Int) : step x (a ++ c :: b) = ((step x a).1, (step x a).2 ++ c :: b) := by
  unfold step
  split
  · rfl
  · cases hf : firstOf x with
    | none => rfl
    | some y =>
      obtain ⟨n, lo, hi⟩ := y
      simp only []
      rw [more_append c hc b n lo hi _ a (firstOf_low hf).1]

/-- Behind a byte below 128 reading begins anew. -/
theorem dec_join (c : Int) (hc : c < 128) (b : List Int) : ∀ (m : Nat) (a : List Int), a.length ≤ m → dec (a ++ c :: b) = dec a ++ c :: dec b
  | m, [], _ => by
    rw [List.nil_append, dec_cons, dec_nil]
    unfold step
    rw [if_pos hc]
    rfl
  | 0, x :: a, h => by simp at h
  | m + 1, x :: a, h => by
    have hl := step_len x a
    simp only [List.length_cons] at h
    rw [List.cons_append, dec_cons, step_append c hc, dec_cons, dec_join c hc b m _ (by omega)]
    rfl

theorem dec_len : ∀ (m : Nat) (a : List Int), a.length ≤ m → (dec a).length ≤ a.length
  | _, [], _ => by rw [dec_nil]; exact Nat.le_refl _
  | 0, x :: a, h => by simp at h
  | m + 1, x :: a, h => by
    have hl := step_len x a
    simp only [List.length_cons] at h
    have := dec_len m (step x a).2 (by omega)
    rw [dec_cons]
    simp only [List.length_cons]
    omega

/-- A rune. -/
def good (r : Int) : Prop := (0 ≤ r ∧ r < 55296) ∨ (57344 ≤ r ∧ r ≤ 1114111)

theorem more_bound : ∀ (n : Nat) (lo hi r : Int) (bs : List Int), 0 ≤ r → 128 ≤ lo → hi ≤ 191 → (more n lo hi r bs).1 = 0 → r * 64 ^ n ≤ (more n lo hi r bs).2.1 ∧ (more n lo hi r bs).2.1 < (r + 1) * 64 ^ n
  | 0, _, _, r, bs, h0, _, _, _ => by simp [more]; omega
  | n + 1, _, _, r, [], _, _, _, h => by simp [more] at h
  | n + 1, lo, hi, r, b :: bs, h0, h1, h2, h => by
    rw [more] at h ⊢
    split
    · rename_i hb
      rw [if_pos hb] at h
      have := more_bound n 128 191 (r * 64 + b % 64) bs (by omega) (by omega) (by omega) h
      have hp : (0 : Int) < 64 ^ n := Int.pow_pos (by omega)
      rw [Int.pow_succ]
      have e1 : r * (64 ^ n * 64) = (r * 64) * 64 ^ n := by rw [Int.mul_comm (64 ^ n) 64, Int.mul_assoc]
      have e2 : (r + 1) * (64 ^ n * 64) = (r * 64 + 64) * 64 ^ n := by rw [Int.mul_comm (64 ^ n) 64, ← Int.mul_assoc, Int.add_mul, Int.one_mul]
      rw [e1, e2]
      refine ⟨Int.le_trans ?_ this.1, Int.lt_of_lt_of_le this.2 ?_⟩
      · exact Int.mul_le_mul_of_nonneg_right (by omega) (Int.le_of_lt hp)
      · exact Int.mul_le_mul_of_nonneg_right (by omega) (Int.le_of_lt hp)
    · rename_i hb
      rw [if_neg hb] at h
      simp at h

theorem firstOf_none {b : Int} (h : firstOf b = none) : b < 194 ∨ 244 < b := by
  unfold firstOf at h
  split at h
  · cases h
  split at h
  · cases h
  split at h
  · cases h
  split at h
  · cases h
  split at h
  · cases h
  split at h
  · cases h
  split at h
  · cases h
  · omega

/-- The first of the bytes that follow. -/
theorem more_first {n : Nat} {lo hi r : Int} {bs : List Int} (h0 : 0 ≤ r) (h1 : 128 ≤ lo) (h2 : hi ≤ 191) (h : (more (n + 1) lo hi r bs).1 = 0) : (r * 64 + (lo - 128)) * 64 ^ n ≤ (more (n + 1) lo hi r bs).2.1 ∧ (more (n + 1) lo hi r bs).2.1 < (r * 64 + (hi - 127)) * 64 ^ n := by
  cases bs with
  | nil => simp [more] at h
  | cons b bs =>
    rw [more] at h ⊢
    split
    · rename_i hb
      rw [if_pos hb] at h
      have := more_bound n 128 191 (r * 64 + b % 64) bs (by omega) (by omega) (by omega) h
      have hp : (0 : Int) < 64 ^ n := Int.pow_pos (by omega)
      refine ⟨Int.le_trans ?_ this.1, Int.lt_of_lt_of_le this.2 ?_⟩
      · exact Int.mul_le_mul_of_nonneg_right (by omega) (Int.le_of_lt hp)
      · exact Int.mul_le_mul_of_nonneg_right (by omega) (Int.le_of_lt hp)
    · rename_i hb
      rw [if_neg hb] at h
      simp at h

/-- What is read is a rune. -/
theorem step_good (b : Int) (bs : List Int) (h0 : 0 ≤ b) : good (step b bs).1 := by
  unfold step
  split
  · left
    omega
  · cases hf : firstOf b with
    | none => right; simp
    | some y =>
      obtain ⟨n, lo, hi⟩ := y
      simp only []
      split
      · rename_i hm
        unfold firstOf at hf
        split at hf
        · simp only [Option.some.injEq, Prod.mk.injEq] at hf
          obtain ⟨rfl, rfl, rfl⟩ := hf
          have := more_first (n := 0) (by simp only [lead]; omega) (by omega) (by omega) hm
          simp only [lead, Nat.reduceAdd, Int.reducePow] at this ⊢
          left
          omega
        split at hf
        · simp only [Option.some.injEq, Prod.mk.injEq] at hf
          obtain ⟨rfl, rfl, rfl⟩ := hf
          have := more_first (n := 1) (by simp only [lead]; omega) (by omega) (by omega) hm
          simp only [lead, Nat.reduceAdd, Int.reducePow] at this ⊢
          left
          omega
        split at hf
        · simp only [Option.some.injEq, Prod.mk.injEq] at hf
          obtain ⟨rfl, rfl, rfl⟩ := hf
          have := more_first (n := 1) (by simp only [lead]; omega) (by omega) (by omega) hm
          simp only [lead, Nat.reduceAdd, Int.reducePow] at this ⊢
          left
          omega
        split at hf
        · simp only [Option.some.injEq, Prod.mk.injEq] at hf
          obtain ⟨rfl, rfl, rfl⟩ := hf
          have := more_first (n := 1) (by simp only [lead]; omega) (by omega) (by omega) hm
          simp only [lead, Nat.reduceAdd, Int.reducePow] at this ⊢
          unfold good
          omega
        split at hf
        · simp only [Option.some.injEq, Prod.mk.injEq] at hf
          obtain ⟨rfl, rfl, rfl⟩ := hf
          have := more_first (n := 2) (by simp only [lead]; omega) (by omega) (by omega) hm
          simp only [lead, Nat.reduceAdd, Int.reducePow] at this ⊢
          unfold good
          omega
        split at hf
        · simp only [Option.some.injEq, Prod.mk.injEq] at hf
          obtain ⟨rfl, rfl, rfl⟩ := hf
          have := more_first (n := 2) (by simp only [lead]; omega) (by omega) (by omega) hm
          simp only [lead, Nat.reduceAdd, Int.reducePow] at this ⊢
          unfold good
          omega
        split at hf
        · simp only [Option.some.injEq, Prod.mk.injEq] at hf
          obtain ⟨rfl, rfl, rfl⟩ := hf
          have := more_first (n := 2) (by simp only [lead]; omega) (by omega) (by omega) hm
          simp only [lead, Nat.reduceAdd, Int.reducePow] at this ⊢
          unfold good
          omega
        · cases hf
      · right; omega

theorem more_mem : ∀ (n : Nat) (lo hi r : Int) (bs : List Int) (x : Int), x ∈ (more n lo hi r bs).2.2 → x ∈ bs
  | 0, _, _, _, _, _, h => h
  | _ + 1, _, _, _, [], _, h => h
  | n + 1, lo, hi, r, b :: bs, x, h => by
    rw [more] at h
    split at h
    · exact List.mem_cons_of_mem _ (more_mem n _ _ _ bs x h)
    · exact h

theorem step_mem (b : Int) (bs : List Int) (x : Int) (h : x ∈ (step b bs).2) : x ∈ bs := by
  unfold step at h
  split at h
  · exact h
  · split at h
    · exact h
    · exact more_mem _ _ _ _ _ _ h

theorem dec_good : ∀ (m : Nat) (a : List Int), a.length ≤ m → (∀ x, x ∈ a → 0 ≤ x) → ∀ r, r ∈ dec a → good r
  | _, [], _, _, r, hr => by
    rw [dec_nil] at hr
    cases hr
  | 0, x :: a, h, _, _, _ => by simp at h
  | m + 1, x :: a, h, h0, r, hr => by
    have hl := step_len x a
    simp only [List.length_cons] at h
    rw [dec_cons] at hr
    rcases List.mem_cons.1 hr with rfl | hr
    · exact step_good x a (h0 x (by simp))
    · exact dec_good m (step x a).2 (by omega) (fun y hy => h0 y (List.mem_cons_of_mem _ (step_mem x a y hy))) r hr

/-- The bytes of a text. -/
def bytesOf (s : ByteArray) : List Int := s.data.toList.map (fun u => (u.toNat : Int))
/-- The bytes of a rune. -/
def enc (r : Int) : List Int := bytesOf (Utf8.encode r)
/-- The bytes of some runes. -/
def encs (l : List Int) : List Int := l.flatMap enc

theorem bytesOf_append (s t : ByteArray) : bytesOf (s ++ t) = bytesOf s ++ bytesOf t := by
  simp [bytesOf, ByteArray.data_append]

theorem bytesOf_range (s : ByteArray) : ∀ x, x ∈ bytesOf s → 0 ≤ x ∧ x < 256 := fun x hx => by
  obtain ⟨u, _, rfl⟩ := List.mem_map.1 hx
  have := u.toNat_lt
  omega

theorem valid_of_good {r : Int} (h : good r) : Utf8.valid r = true := by
  unfold Utf8.valid
  unfold good at h
  simp
  omega

theorem enc_good {r : Int} (h : good r) : enc r =
    if r < 128 then [r]
    else if r < 2048 then [192 + r / 64, 128 + r % 64]
    else if r < 65536 then [224 + r / 4096, 128 + r / 64 % 64, 128 + r % 64]
    else [240 + r / 262144, 128 + r / 4096 % 64, 128 + r / 64 % 64, 128 + r % 64] := by
  have hv := valid_of_good h
  unfold good at h
  obtain ⟨n, rfl⟩ : ∃ n : Nat, r = n := ⟨r.toNat, by omega⟩
  unfold enc Utf8.encode
  simp only [hv, if_true, Int.toNat_natCast]
  by_cases h1 : n < 128
  · rw [if_pos h1, if_pos (by omega)]
    simp [bytesOf]
    omega
  rw [if_neg h1, if_neg (show ¬ (n : Int) < 128 by omega)]
  by_cases h2 : n < 2048
  · rw [if_pos h2, if_pos (by omega)]
    simp [bytesOf]
    omega
  rw [if_neg h2, if_neg (show ¬ (n : Int) < 2048 by omega)]
  by_cases h3 : n < 65536
  · rw [if_pos h3, if_pos (by omega)]
    simp [bytesOf]
    omega
  rw [if_neg h3, if_neg (show ¬ (n : Int) < 65536 by omega)]
  simp [bytesOf]
  omega

theorem more1 {lo hi r b1 : Int} {bs : List Int} (h1 : lo ≤ b1 ∧ b1 ≤ hi) : more 1 lo hi r (b1 :: bs) = (0, r * 64 + b1 % 64, bs) := by
  rw [more, if_pos h1, more]
theorem more2 {lo hi r b1 b2 : Int} {bs : List Int} (h1 : lo ≤ b1 ∧ b1 ≤ hi) (h2 : 128 ≤ b2 ∧ b2 ≤ 191) : more 2 lo hi r (b1 :: b2 :: bs) = (0, (r * 64 + b1 % 64) * 64 + b2 % 64, bs) := by
  rw [more, if_pos h1, more1 h2]
theorem more3 {lo hi r b1 b2 b3 : Int} {bs : List Int} (h1 : lo ≤ b1 ∧ b1 ≤ hi) (h2 : 128 ≤ b2 ∧ b2 ≤ 191) (h3 : 128 ≤ b3 ∧ b3 ≤ 191) : more 3 lo hi r (b1 :: b2 :: b3 :: bs) = (0, ((r * 64 + b1 % 64) * 64 + b2 % 64) * 64 + b3 % 64, bs) := by
  rw [more, if_pos h1, more2 h2 h3]

/-- What is written of a rune is read as it. -/
theorem step_enc {r : Int} (h : good r) (bs : List Int) : ∃ b t, enc r = b :: t ∧ step b (t ++ bs) = (r, bs) := by
  rw [enc_good h]
  unfold good at h
  by_cases h1 : r < 128
  · rw [if_pos h1]
    exact ⟨r, [], rfl, by simp [step, h1]⟩
  rw [if_neg h1]
  by_cases h2 : r < 2048
  · rw [if_pos h2]
    refine ⟨_, _, rfl, ?_⟩
    unfold step
    rw [if_neg (by omega), show firstOf (192 + r / 64) = some (1, 128, 191) by unfold firstOf; rw [if_pos (by omega)]]
    simp only [List.cons_append, List.nil_append]
    rw [more1 (by omega)]
    simp only [lead, if_true, Prod.mk.injEq, and_true]
    omega
  rw [if_neg h2]
  by_cases h3 : r < 65536
  · rw [if_pos h3]
    refine ⟨_, _, rfl, ?_⟩
    obtain ⟨lo, hi, hf, hlo, hhi⟩ : ∃ lo hi, firstOf (224 + r / 4096) = some (2, lo, hi) ∧ lo ≤ 128 + r / 64 % 64 ∧ 128 + r / 64 % 64 ≤ hi := by
      unfold firstOf
      rw [if_neg (by omega)]
      by_cases e1 : 224 + r / 4096 = 224
      · rw [if_pos e1]
        exact ⟨_, _, rfl, by omega, by omega⟩
      rw [if_neg e1]
      by_cases e2 : 224 + r / 4096 = 237
      · rw [if_pos e2]
        exact ⟨_, _, rfl, by omega, by omega⟩
      rw [if_neg e2, if_pos (by omega)]
      exact ⟨_, _, rfl, by omega, by omega⟩
    unfold step
    rw [if_neg (by omega), hf]
    simp only [List.cons_append, List.nil_append]
    rw [more2 ⟨hlo, hhi⟩ (by omega)]
    simp only [lead, if_true, Prod.mk.injEq, and_true]
    omega
  rw [if_neg h3]
  refine ⟨_, _, rfl, ?_⟩
  obtain ⟨lo, hi, hf, hlo, hhi⟩ : ∃ lo hi, firstOf (240 + r / 262144) = some (3, lo, hi) ∧ lo ≤ 128 + r / 4096 % 64 ∧ 128 + r / 4096 % 64 ≤ hi := by
    unfold firstOf
    rw [if_neg (by omega), if_neg (by omega), if_neg (by omega), if_neg (by omega)]
    by_cases e1 : 240 + r / 262144 = 240
    · rw [if_pos e1]
      exact ⟨_, _, rfl, by omega, by omega⟩
    rw [if_neg e1]
    by_cases e2 : 241 ≤ 240 + r / 262144 ∧ 240 + r / 262144 ≤ 243
    · rw [if_pos e2]
      exact ⟨_, _, rfl, by omega, by omega⟩
    rw [if_neg e2, if_pos (by omega)]
    exact ⟨_, _, rfl, by omega, by omega⟩
  unfold step
  rw [if_neg (by omega), hf]
  simp only [List.cons_append, List.nil_append]
  rw [more3 ⟨hlo, hhi⟩ (by omega) (by omega)]
  simp only [lead, if_true, Prod.mk.injEq, and_true]
  omega

theorem dec_enc {r : Int} (h : good r) (bs : List Int) : dec (enc r ++ bs) = r :: dec bs := by
  obtain ⟨b, t, h1, h2⟩ := step_enc h bs
  rw [h1, List.cons_append, dec_cons, h2]

/-- What is encoded is decoded again. -/
theorem dec_encs : ∀ (l : List Int), (∀ r, r ∈ l → good r) → dec (encs l) = l
  | [], _ => dec_nil
  | r :: l, h => by
    rw [encs, List.flatMap_cons, dec_enc (h r (by simp))]
    rw [show l.flatMap enc = encs l from rfl, dec_encs l (fun x hx => h x (by simp [hx]))]

/-- What is written of a rune: itself, or bytes from 128 on. -/
theorem enc_mem {r : Int} (h : good r) {x : Int} (hx : x ∈ enc r) : x = r ∨ 128 ≤ x := by
  rw [enc_good h] at hx
  unfold good at h
  split at hx
  · simp at hx; omega
  split at hx
  · simp at hx; omega
  split at hx
  · simp at hx; omega
  · simp at hx; omega

theorem encs_mem {l : List Int} (h : ∀ r, r ∈ l → good r) {x : Int} (hx : x ∈ encs l) : x ∈ l ∨ 128 ≤ x := by
  obtain ⟨r, hr, hx⟩ := List.mem_flatMap.1 hx
  rcases enc_mem (h r hr) hx with rfl | h1
  · exact Or.inl hr
  · exact Or.inr h1

/-- Lines, made ready. -/
def lines : List Int → List Int
  | [] => []
  | r :: rs => if r = 13 then (if rs.head? = some 10 then lines rs else 10 :: lines rs) else if r = 0 then 65533 :: lines rs else r :: lines rs

theorem lines_good : ∀ (l : List Int), (∀ r, r ∈ l → good r) → ∀ r, r ∈ lines l → good r ∧ r ≠ 0 ∧ r ≠ 13
  | [], _, r, hr => by cases hr
  | x :: l, h, r, hr => by
    have ih := lines_good l (fun y hy => h y (by simp [hy])) r
    rw [lines] at hr
    split at hr
    · split at hr
      · exact ih hr
      · rcases List.mem_cons.1 hr with rfl | hr
        · exact ⟨Or.inl (by omega), by omega, by omega⟩
        · exact ih hr
    · split at hr
      · rcases List.mem_cons.1 hr with rfl | hr
        · exact ⟨Or.inr (by omega), by omega, by omega⟩
        · exact ih hr
      · rcases List.mem_cons.1 hr with rfl | hr
        · exact ⟨h _ (by simp), by omega, by omega⟩
        · exact ih hr

theorem lines_same : ∀ (l : List Int), (∀ r, r ∈ l → r ≠ 0 ∧ r ≠ 13) → lines l = l
  | [], _ => rfl
  | x :: l, h => by
    have := h x (by simp)
    rw [lines, if_neg this.2, if_neg this.1, lines_same l (fun y hy => h y (by simp [hy]))]

/-- Without a mark at the beginning. -/
def strip : List Int → List Int
  | 239 :: 187 :: 191 :: bs => bs
  | bs => bs

/-- Bytes, made ready, as runes. -/
def prep (b : List Int) : List Int := lines (dec (strip b))

theorem strip_mem (b : List Int) (x : Int) (h : x ∈ strip b) : x ∈ b := by
  unfold strip at h
  split at h
  · simp [h]
  · exact h

theorem prep_good (b : List Int) (h0 : ∀ x, x ∈ b → 0 ≤ x) : ∀ r, r ∈ prep b → good r ∧ r ≠ 0 ∧ r ≠ 13 :=
  lines_good _ (dec_good _ _ (Nat.le_refl _) (fun x hx => h0 x (strip_mem b x hx)))

/-- Made ready again it is the same, but for a mark. -/
theorem prep_again (b : List Int) (h0 : ∀ x, x ∈ b → 0 ≤ x) (hm : strip (encs (prep b)) = encs (prep b)) : prep (encs (prep b)) = prep b := by
  have hg := prep_good b h0
  have : prep (encs (prep b)) = lines (dec (encs (prep b))) := by
    show lines (dec (strip _)) = _
    rw [hm]
  rw [this, dec_encs _ (fun r hr => (hg r hr).1), lines_same _ (fun r hr => ⟨(hg r hr).2.1, (hg r hr).2.2⟩)]

theorem lines_cons (r : Int) (rs : List Int) : lines (r :: rs) = if r = 13 then (if rs.head? = some 10 then lines rs else 10 :: lines rs) else if r = 0 then 65533 :: lines rs else r :: lines rs := rfl

/-- Lines one behind the other, where no CR LF is torn. -/
theorem lines_append (x : List Int) (hx : x.head? ≠ some 10) : ∀ (a : List Int), lines (a ++ x) = lines a ++ lines x
  | [] => rfl
  | [r] => by
    rw [List.cons_append, List.nil_append, lines, lines, if_neg hx, lines]
    simp only [List.head?_nil, reduceCtorEq, if_false]
    split
    · rfl
    · split <;> rfl
  | r :: t :: a => by
    have ih := lines_append x hx (t :: a)
    have e1 : (t :: a ++ x).head? = (t :: a).head? := rfl
    rw [List.cons_append, lines_cons r (t :: a ++ x), ih, e1, lines_cons r (t :: a)]
    generalize lines (t :: a) = q
    generalize (t :: a).head? = hd
    split
    · split <;> rfl
    · split <;> rfl

/-- A line's end: LF, CR LF, CR. -/
def ends : Nat → List Int
  | 0 => [10]
  | 1 => [13, 10]
  | _ => [13]

theorem lines_ends (e : Nat) : lines (ends e) = [10] := by
  unfold ends
  split <;> simp [lines]

/-- A line of runes that are no NUL, LF or CR, with a sign behind it, and its end. -/
theorem lines_line (l : List Int) (h : ∀ r, r ∈ l → r ≠ 0 ∧ r ≠ 13) (e : Nat) : lines (l ++ [122] ++ ends e) = l ++ [122] ++ [10] := by
  rw [List.append_assoc, show l ++ ([122] ++ ends e) = (l ++ [122]) ++ ends e by simp]
  have hp : ∀ (l : List Int), (∀ r, r ∈ l → r ≠ 0 ∧ r ≠ 13) → ∀ x, lines (l ++ x) = l ++ lines x := by
    intro l
    induction l with
    | nil => intro _ x; rfl
    | cons r l ih =>
      intro h x
      have h1 := h r (by simp)
      rw [List.cons_append, lines, if_neg h1.2, if_neg h1.1, ih (fun y hy => h y (by simp [hy])), List.cons_append]
  rw [hp _ (fun r hr => by
    rcases List.mem_append.1 hr with h1 | h1
    · exact h r h1
    · simp at h1
      omega), lines_ends]

theorem encs_append (a b : List Int) : encs (a ++ b) = encs a ++ encs b := by simp [encs]
theorem encs_one (r : Int) : encs [r] = enc r := by simp [encs]
theorem encs_low {r : Int} (h : 0 ≤ r) (h1 : r < 128) (l : List Int) : encs (r :: l) = r :: encs l := by
  rw [encs, List.flatMap_cons, enc_good (Or.inl ⟨h, by omega⟩), if_pos h1]
  rfl

/-- Bytes that do not begin with a mark. -/
theorem strip_low {b : Int} (h : b ≠ 239) (bs : List Int) : strip (b :: bs) = b :: bs := by
  unfold strip
  split
  · rename_i h1
    simp only [List.cons.injEq] at h1
    exact absurd h1.1 h
  · rfl
theorem strip_mark (bs : List Int) : strip (239 :: 187 :: 191 :: bs) = bs := rfl

/-- What a range over a text tells is a rune. -/
theorem range_good (s : ByteArray) (i : Nat) : good ((Utf8.decode s i).1 : Int) := by
  have he : good (65533 : Int) := Or.inr (by omega)
  have hv : ∀ n : Nat, Utf8.valid (n : Int) = true → good (n : Int) := fun n h => by
    unfold Utf8.valid at h
    simp at h
    unfold good
    omega
  unfold Utf8.decode
  simp only [Utf8.runeError]
  split
  · left
    omega
  split
  · split
    · left
      have h1 : (s.get! i).toNat % 32 ≤ 31 := by omega
      simp only [Nat.add_zero]
      omega
    · exact he
  split
  · split
    · rename_i h
      simp only [Bool.and_eq_true] at h
      exact hv _ h.2
    · exact he
  split
  · split
    · rename_i h
      simp only [Bool.and_eq_true] at h
      exact hv _ h.2
    · exact he
  · exact he

end Go.Proofs.Ytfobbgmfbpoigaa.Utf
