/-
  References within a piece of a text that ends at its end or ahead of a less-than sign: they are read as in the whole text. No program.
-/
import Derived.Test.YtcfaejbbjmjgpaaGreatDoorGroundH
namespace Go.Proofs.YtcfaejbbjmjgpaaGreatDoor
open Go.RowKit Utf
set_option linter.unusedVariables false

/-- A piece of s, from p to e, that ends with s or ahead of a sign. -/
structure Pc (s : ByteArray) (p e : Nat) : Prop where
  le : p ≤ e
  hi : e ≤ s.size
  sg : e = s.size ∨ bt s e = 60

theorem Pc.size {s : ByteArray} {p e : Nat} (h : Pc s p e) : (s.extract p e).size = e - p := by
  have := h.hi
  rw [ByteArray.size_extract]
  omega
theorem Pc.same {s : ByteArray} {p e : Nat} (h : Pc s p e) {j : Nat} (hj : p + j < e) : bt (s.extract p e) j = bt s (p + j) := bt_cut s p e j hj h.hi
theorem Pc.sign {s : ByteArray} {p e : Nat} (h : Pc s p e) (he : e < s.size) : bt s e = 60 := by
  rcases h.sg with g | g
  · omega
  · exact g

/-- What has no such sign stands in both or in none. -/
theorem Pc.there {s : ByteArray} {p e : Nat} (h : Pc s p e) (x : ByteArray) (hx : ∀ i, i < x.size → ¬ bt x i = 60) {j : Nat} (hj : p + j ≤ e) : st (s.extract p e) j x = st s (p + j) x := by
  have hz := h.size
  have h1 := h.hi
  by_cases hf : p + j + x.size ≤ e
  · rw [Bool.eq_iff_iff]
    constructor
    · intro g
      exact st_true (by omega) fun i hi => by rw [Nat.add_assoc, ← h.same (by omega)]; exact st_at g i hi
    · intro g
      exact st_true (by omega) fun i hi => by rw [h.same (by omega), ← Nat.add_assoc]; exact st_at g i hi
  · rw [st_long (by omega)]
    by_cases he : e = s.size
    · rw [st_long (by omega)]
    · have := h.sign (by omega)
      rw [st_not (e - (p + j)) (by omega) (by rw [show p + j + (e - (p + j)) = e by omega, this]; exact fun g => hx _ (by omega) g.symm)]
theorem Pc.fold {s : ByteArray} {p e : Nat} (h : Pc s p e) (x : ByteArray) (hx : ∀ i, i < x.size → ¬ low (bt x i) = 60) {j : Nat} (hj : p + j ≤ e) : fo (s.extract p e) j x = fo s (p + j) x := by
  have hz := h.size
  have h1 := h.hi
  have hl : low 60 = 60 := by decide
  by_cases hf : p + j + x.size ≤ e
  · rw [Bool.eq_iff_iff]
    constructor
    · intro g
      exact fo_true (by omega) fun i hi => by rw [Nat.add_assoc, ← h.same (by omega)]; exact (of_decide_eq_true g).2 i hi
    · intro g
      exact fo_true (by omega) fun i hi => by rw [h.same (by omega), ← Nat.add_assoc]; exact (of_decide_eq_true g).2 i hi
  · rw [fo_long (by omega)]
    by_cases he : e = s.size
    · rw [fo_long (by omega)]
    · have := h.sign (by omega)
      rw [fo_not (e - (p + j)) (by omega) (by rw [show p + j + (e - (p + j)) = e by omega, this, hl]; exact fun g => hx _ (by omega) g.symm)]

theorem Pc.first {s : ByteArray} {p e : Nat} (h : Pc s p e) (f : Int → Bool) (hf : f 60 = true) {q : Nat} (hq : p + q ≤ e) : p + fs (fun i => f (bt (s.extract p e) i)) q (s.extract p e).size = fs (fun i => f (bt s i)) (p + q) s.size := by
  have hz := h.size
  have h1 := h.hi
  have hr := fs_is (fun i => f (bt (s.extract p e) i)) (p := q) (n := (s.extract p e).size) (by omega)
  generalize fs (fun i => f (bt (s.extract p e) i)) q (s.extract p e).size = r at hr
  have l1 := hr.lo
  have l2 := hr.hi
  refine (fs_eq ⟨by omega, by omega, fun j a b => ?_, fun hlt => ?_⟩).symm
  · have := hr.no (j - p) (by omega) (by omega)
    rw [h.same (by omega), show p + (j - p) = j by omega] at this
    exact this
  · by_cases hx : r < e - p
    · have := hr.at' (by omega)
      rw [h.same (by omega)] at this
      exact this
    · have he : p + r = e := by omega
      show f (bt s (p + r)) = true
      rw [he, h.sign (by omega)]
      exact hf

theorem isD_sign (b : Int) : (!isD 60 b) = true := by
  unfold isD
  rw [show isHex 60 = false by decide]
  rfl

theorem hsh_no : ∀ i, i < HSH.size → ¬ bt HSH i = 60 := by decide +kernel
theorem sem_no : ∀ i, i < SEM.size → ¬ bt SEM i = 60 := by decide +kernel
theorem xx_no : ∀ i, i < XX.size → ¬ low (bt XX i) = 60 := by decide +kernel
theorem nm_no : ∀ x, x ∈ NM → ∀ i, i < x.size → ¬ bt x i = 60 := by decide +kernel

theorem Pc.uvs {s : ByteArray} {p e : Nat} (h : Pc s p e) (b : Int) (q : Nat) : ∀ k, p + q + k ≤ e → uv (s.extract p e) b q k = uv s b (p + q) k
  | 0, _ => rfl
  | k + 1, hk => by
    show uv (s.extract p e) b q k * b + hexv (bt (s.extract p e) (q + k)) = uv s b (p + q) k * b + hexv (bt s (p + q + k))
    rw [Pc.uvs h b q k (by omega), h.same (by omega), Nat.add_assoc]

/-- The numbers. -/
theorem Pc.nums {s : ByteArray} {p e : Nat} (h : Pc s p e) {q : Nat} (hq : p + q < e) : isN (s.extract p e) q = isN s (p + q) ∧ (isN s (p + q) = true → numAt (s.extract p e) q = numAt s (p + q) ∧ p + nend (s.extract p e) q = nend s (p + q) ∧ nend s (p + q) ≤ e) := by
  have hz := h.size
  have e1 : st (s.extract p e) q HSH = st s (p + q) HSH := h.there HSH hsh_no (by omega)
  cases hh : st s (p + q) HSH with
  | false =>
    have g1 : isN s (p + q) = false := by unfold isN; rw [hh]; rfl
    have g2 : isN (s.extract p e) q = false := by unfold isN; rw [e1, hh]; rfl
    rw [g1, g2]
    exact ⟨rfl, fun g => by cases g⟩
  | true =>
    rw [hh] at e1
    have z2 : HSH.size = 2 := rfl
    have l1 := st_le e1
    have e2 : hx (s.extract p e) q = hx s (p + q) := by
      unfold hx
      rw [h.fold XX xx_no (by omega), Nat.add_assoc]
    have e3 : p + dfr (s.extract p e) q = dfr s (p + q) := by
      unfold dfr
      rw [e2]
      split <;> omega
    have e4 : bas (s.extract p e) q = bas s (p + q) := by unfold bas; rw [e2]
    have l2 := dfr_le e1
    have e5 : p + nend (s.extract p e) q = nend s (p + q) := by
      unfold nend dend
      rw [e4, ← e3]
      exact h.first (fun x => !isD x (bas s (p + q))) (isD_sign _) (by omega)
    have l3 := nend_le e1
    have e6 : isN (s.extract p e) q = isN s (p + q) := by
      unfold isN
      rw [e1, hh, Bool.true_and, Bool.true_and, decide_eq_decide]
      generalize nend (s.extract p e) q = n1 at e5 l3 ⊢
      generalize dfr (s.extract p e) q = n2 at e3 l2 l3 ⊢
      generalize nend s (p + q) = n3 at e5 ⊢
      generalize dfr s (p + q) = n4 at e3 ⊢
      omega
    refine ⟨e6, fun _ => ⟨?_, e5, by omega⟩⟩
    unfold numAt
    rw [e4, show nend s (p + q) - dfr s (p + q) = nend (s.extract p e) q - dfr (s.extract p e) q by omega, ← e3]
    rw [h.uvs _ _ _ (by omega)]

theorem found_ext {t u : ByteArray} (h : ∀ x, x ∈ NM → (pre x t = true ↔ pre x u = true)) : found t = found u := by
  obtain ⟨a1, a2, a3⟩ := longest t
  obtain ⟨b1, b2, b3⟩ := longest u
  have hn : ∀ v : ByteArray, pre ⟨#[]⟩ v = true := fun v => pre_of (Nat.zero_le _) fun j hj => absurd hj (Nat.not_lt_zero _)
  have hA : pre (found t) u = true := by
    rcases a2 with g | g
    · rw [g]; exact hn _
    · exact (h _ g).1 a1
  have z1 : (found t).size ≤ (found u).size := by
    rcases a2 with g | g
    · rw [g]; exact Nat.zero_le _
    · exact b3 _ g hA
  have z2 : (found u).size ≤ (found t).size := by
    rcases b2 with g | g
    · rw [g]; exact Nat.zero_le _
    · exact a3 _ g ((h _ g).2 b1)
  refine bt_ext (by omega) fun j hj => ?_
  rw [pre_bt hA hj, pre_bt b1 (by omega)]

theorem Pc.nam {s : ByteArray} {p e : Nat} (h : Pc s p e) {q : Nat} (hq : p + q < e) : nmAt (s.extract p e) q = nmAt s (p + q) := by
  have hz := h.size
  have h1 := h.hi
  unfold nmAt
  have zt : ((s.extract p e).extract (q + 1) (s.extract p e).size).size = e - (p + q + 1) := by rw [ByteArray.size_extract]; omega
  have zu : (s.extract (p + q + 1) s.size).size = s.size - (p + q + 1) := by rw [ByteArray.size_extract]; omega
  have hb : ∀ j, p + q + 1 + j < e → bt ((s.extract p e).extract (q + 1) (s.extract p e).size) j = bt s (p + q + 1 + j) := fun j hj => by
    rw [bt_cut _ _ _ _ (by omega) (Nat.le_refl _), h.same (by omega), show p + (q + 1 + j) = p + q + 1 + j by omega]
  have hc : ∀ j, p + q + 1 + j < s.size → bt (s.extract (p + q + 1) s.size) j = bt s (p + q + 1 + j) := fun j hj => bt_cut _ _ _ _ hj (Nat.le_refl _)
  refine found_ext fun x hx => ⟨fun g => ?_, fun g => ?_⟩
  · have hs := pre_size g
    exact pre_of (by omega) fun j hj => by rw [hc j (by omega), ← hb j (by omega)]; exact (pre_bt g hj).symm
  · have hs := pre_size g
    have hle : x.size ≤ e - (p + q + 1) := by
      by_cases hk : x.size ≤ e - (p + q + 1)
      · exact hk
      · exfalso
        have he : e < s.size := by omega
        have := pre_bt g (j := e - (p + q + 1)) (by omega)
        rw [hc _ (by omega), show p + q + 1 + (e - (p + q + 1)) = e by omega, h.sign he] at this
        exact nm_no x hx _ (by omega) this
    exact pre_of (by omega) fun j hj => by rw [hb j (by omega), ← hc j (by omega)]; exact (pre_bt g hj).symm

/-- What is read at a place of the piece is what is read there in the text. -/
theorem Pc.read {s : ByteArray} {p e : Nat} (h : Pc s p e) {q : Nat} (hq : p + q < e) : rT (s.extract p e) q false = rT s (p + q) false ∧ p + rE (s.extract p e) q = rE s (p + q) := by
  have hz := h.size
  obtain ⟨e1, e2⟩ := h.nums hq
  have e3 := h.nam hq
  unfold rT rE
  rw [e1, e3]
  cases hn : isN s (p + q) with
  | true =>
    obtain ⟨g1, g2, g3⟩ := e2 hn
    simp only [if_true]
    refine ⟨g1, ?_⟩
    rw [h.there SEM sem_no (by omega), g2]
    split <;> omega
  | false =>
    simp only [Bool.false_eq_true, if_false]
    refine ⟨?_, by omega⟩
    unfold left
    simp only [Bool.false_and, Bool.false_eq_true, if_false]

theorem Pc.fwd {s : ByteArray} {p e : Nat} (h : Pc s p e) {q : Nat} (hq : p + q < e) : p + q < rE s (p + q) ∧ rE s (p + q) ≤ e := by
  have hz := h.size
  have h1 := (h.read hq).2
  have h2 := rE_gt (s := s.extract p e) (p := q) (by omega)
  omega

/-- One step of reading the piece, in the text's own places. -/
theorem Pc.amp {s : ByteArray} {p e : Nat} (h : Pc s p e) {q : Nat} (hp : p ≤ q) (hq : q < e) (hb : bt s q = 38) : allF (s.extract p e) false (q - p) = rT s q false ++ allF (s.extract p e) false (rE s q - p) := by
  have hz := h.size
  obtain ⟨r1, r2⟩ := h.read (q := q - p) (by omega)
  rw [show p + (q - p) = q by omega] at r1 r2
  rw [allF_amp (by omega) (by rw [h.same (by omega), show p + (q - p) = q by omega]; exact hb), r1]
  rw [show rE s q - p = rE (s.extract p e) (q - p) by omega]
theorem Pc.other {s : ByteArray} {p e : Nat} (h : Pc s p e) {q : Nat} (hp : p ≤ q) (hq : q < e) (hb : ¬ bt s q = 38) : allF (s.extract p e) false (q - p) = s.extract q (q + 1) ++ allF (s.extract p e) false (q + 1 - p) := by
  have hz := h.size
  have h1 := h.hi
  rw [allF_other (by omega) (by rw [h.same (by omega), show p + (q - p) = q by omega]; exact hb), show q + 1 - p = q - p + 1 by omega]
  congr 1
  refine bt_ext (by rw [one_size (by omega), one_size (by omega)]) fun j hj => ?_
  rw [one_size (by omega)] at hj
  obtain rfl : j = 0 := by omega
  rw [one_bt (by omega), one_bt (by omega), h.same (by omega), show p + (q - p) = q by omega]

/-- What is read is not empty. -/
theorem all_some {t : ByteArray} (h : 0 < t.size) (attr : Bool) : 0 < (allF t attr 0).size := by
  by_cases hb : bt t 0 = 38
  · rw [allF_amp h hb, cat_size]
    have := (rT_size h attr).1
    omega
  · rw [allF_other h hb, cat_size, one_size h]
    omega

end Go.Proofs.YtcfaejbbjmjgpaaGreatDoor
