/-
  Bytes read as operations. No program.
-/
import Derived.Test.YtpjkpobdkmcedaaDoorEnc
import Derived.Test.YtpjkpobdkmcedaaDoorRbt
namespace Go.Proofs.YtpjkpobdkmcedaaDoor
open Go.RowKit Utf
set_option linter.unusedVariables false
set_option linter.unusedSimpArgs false

/-- A reader: what is left, and whether something was cut off. -/
abbrev St := List Int × Bool

/-- So many bytes. -/
def tk (n : Nat) (s : St) : List Int × St := if s.1.length < n then ([], ([], true)) else (s.1.take n, (s.1.drop n, s.2))

/-- Bytes as a number. -/
def nv (l : List Int) : Int := l.foldl (fun a c => a * 256 + c) 0

def rdN (n : Nat) (s : St) : Int × St := (nv (tk n s).1, (tk n s).2)
def rdT (s : St) : ByteArray × St := (strOfNums (tk (rdN 3 s).1.toNat (rdN 3 s).2).1, (tk (rdN 3 s).1.toNat (rdN 3 s).2).2)

/-- So many attributes. -/
def rdA : Nat → St → List Att × St
  | 0, s => ([], s)
  | c + 1, s => if s.2 then ([], s) else ((((rdT s).1, (rdT (rdT s).2).1) :: (rdA c (rdT (rdT s).2).2).1), (rdA c (rdT (rdT s).2).2).2)

def rdAs (s : St) : List Att × St := rdA (rdN 2 s).1.toNat (rdN 2 s).2

/-- The states, field by field. -/
def s1 (s : St) : St := (rdN 1 s).2
def s2 (s : St) : St := (rdN 4 (s1 s)).2
def s3 (s : St) : St := (rdN 4 (s2 s)).2
def s4 (s : St) : St := (rdN 4 (s3 s)).2
def s5 (s : St) : St := (rdN 1 (s4 s)).2
def s6 (s : St) : St := (rdN 1 (s5 s)).2
def s7 (s : St) : St := (rdT (s6 s)).2
def s8 (s : St) : St := (rdAs (s7 s)).2
def s9 (s : St) : St := (rdT (s8 s)).2

/-- An operation. -/
def rdO (s : St) : Ot := ⟨(rdN 1 s).1, (rdN 4 (s1 s)).1, (rdN 4 (s2 s)).1, (rdN 4 (s3 s)).1, (rdN 1 (s4 s)).1, (rdN 1 (s5 s)).1, (rdT (s6 s)).1, (rdAs (s7 s)).1, (rdT (s8 s)).1⟩

/-! What was not cut off. -/

theorem tk_no {n : Nat} {s : St} (h : (tk n s).2.2 = false) : s.2 = false ∧ s.1 = (tk n s).1 ++ (tk n s).2.1 ∧ (tk n s).1.length = n := by
  unfold tk at h ⊢
  split at h
  · cases h
  · rename_i hn
    rw [if_neg hn]
    exact ⟨h, (List.take_append_drop n s.1).symm, by simp; omega⟩

theorem tk_yes {n : Nat} {l r : List Int} {c : Bool} (h : l.length = n) : tk n (l ++ r, c) = (l, (r, c)) := by
  unfold tk
  rw [if_neg (by simp; omega)]
  subst h
  simp

theorem nv_snoc (l : List Int) (c : Int) : nv (l ++ [c]) = nv l * 256 + c := by
  unfold nv
  rw [List.foldl_append]
  rfl

/-- Bytes of a number, read one by one. -/
theorem nb_snoc (n : Int) : ∀ k, nb n (k + 1) = nb (n / 256) k ++ [n % 256]
  | 0 => by simp [nb]
  | k + 1 => by
    have ih := nb_snoc n k
    rw [nb, ih]
    simp only [nb, List.cons_append]
    congr 1
    rw [Int.pow_succ, Int.mul_comm, Int.ediv_ediv_of_nonneg (by decide)]

theorem nv_nb : ∀ (k : Nat) (n : Int), 0 ≤ n → n < 256 ^ k → nv (nb n k) = n
  | 0, n, h0, h1 => by
    simp at h1
    have : n = 0 := by omega
    subst this
    rfl
  | k + 1, n, h0, h1 => by
    rw [nb_snoc, nv_snoc, nv_nb k (n / 256) (by omega) (by rw [Int.pow_succ] at h1; omega)]
    omega

theorem snoc_ind {P : List Int → Prop} (h0 : P []) (h1 : ∀ l c, P l → P (l ++ [c])) (l : List Int) : P l := by
  have key : ∀ (n : Nat) (l : List Int), l.length = n → P l := by
    intro n
    induction n with
    | zero => intro l hl; rw [List.eq_nil_of_length_eq_zero hl]; exact h0
    | succ n ih =>
      intro l hl
      have hne : l ≠ [] := fun e => by rw [e] at hl; simp at hl
      rw [← List.dropLast_concat_getLast hne]
      exact h1 _ _ (ih _ (by simp; omega))
  exact key _ l rfl

theorem nv_range : ∀ (l : List Int), byt l → 0 ≤ nv l ∧ nv l < 256 ^ l.length := by
  refine snoc_ind (fun _ => by decide) (fun l c ih hb => ?_)
  · skip
    have h1 := ih (fun x hx => hb x (by simp [hx]))
    have h2 := hb c (by simp)
    rw [nv_snoc, List.length_append]
    simp only [List.length_singleton]
    rw [Int.pow_succ]
    omega

theorem nb_nv : ∀ (l : List Int), byt l → nb (nv l) l.length = l := by
  refine snoc_ind (fun _ => rfl) (fun l c ih hb => ?_)
  · skip
    have h1 := ih (fun x hx => hb x (by simp [hx]))
    have h2 := hb c (by simp)
    rw [nv_snoc, List.length_append]
    simp only [List.length_singleton]
    rw [nb_snoc, show (nv l * 256 + c) / 256 = nv l by omega, show (nv l * 256 + c) % 256 = c by omega, h1]

theorem rdN_no {n : Nat} {s : St} (h : (rdN n s).2.2 = false) (hb : byt s.1) : s.2 = false ∧ s.1 = nb (rdN n s).1 n ++ (rdN n s).2.1 ∧ (0 ≤ (rdN n s).1 ∧ (rdN n s).1 < 256 ^ n) ∧ byt (rdN n s).2.1 := by
  obtain ⟨h1, h2, h3⟩ := tk_no h
  have hb1 : byt (tk n s).1 := fun x hx => hb x (by rw [h2]; simp [hx])
  have hb2 : byt (tk n s).2.1 := fun x hx => hb x (by rw [h2]; simp [hx])
  have e1 := nb_nv _ hb1
  have e2 := nv_range _ hb1
  rw [h3] at e1 e2
  refine ⟨h1, ?_, e2, hb2⟩
  show s.1 = nb (nv (tk n s).1) n ++ (tk n s).2.1
  rw [e1]
  exact h2

theorem str_size (l : List Int) : (strOfNums l).size = l.length := by
  have : (strOfNums l).data.toList.length = l.length := by rw [strOfNums_data]; simp
  simpa using this

theorem rdT_no {s : St} (h : (rdT s).2.2 = false) (hb : byt s.1) : s.2 = false ∧ s.1 = tb (rdT s).1 ++ (rdT s).2.1 ∧ (rdT s).1.size ≤ 16777215 ∧ byt (rdT s).2.1 := by
  obtain ⟨h1, h2, h3⟩ := tk_no h
  obtain ⟨g1, g2, ⟨g3, g4⟩, g5⟩ := rdN_no h1 hb
  have hb1 : byt (tk (rdN 3 s).1.toNat (rdN 3 s).2).1 := fun x hx => g5 x (by rw [h2]; simp [hx])
  have hb2 : byt (tk (rdN 3 s).1.toNat (rdN 3 s).2).2.1 := fun x hx => g5 x (by rw [h2]; simp [hx])
  have hsz : ((rdT s).1.size : Int) = (rdN 3 s).1 := by
    show ((strOfNums _).size : Int) = _
    rw [str_size, h3]
    omega
  refine ⟨g1, ?_, by have : ((256 : Int) ^ 3) = 16777216 := by decide
                     omega, hb2⟩
  unfold tb
  rw [hsz, show bytesOf (rdT s).1 = (tk (rdN 3 s).1.toNat (rdN 3 s).2).1 from bytes_strs hb1, List.append_assoc]
  rw [g2]
  congr 1

theorem rdN_cut (n : Nat) (s : St) (h : (rdN n s).2.2 = false) : s.2 = false := (tk_no (n := n) (s := s) h).1
theorem rdT_cut (s : St) (h : (rdT s).2.2 = false) : s.2 = false := rdN_cut 3 s (tk_no (n := (rdN 3 s).1.toNat) (s := (rdN 3 s).2) h).1

theorem rdA_no : ∀ (c : Nat) (s : St), byt s.1 → (rdA c s).2.2 = false → s.2 = false ∧ s.1 = ab (rdA c s).1 ++ (rdA c s).2.1 ∧ (rdA c s).1.length = c ∧ fitA (rdA c s).1 ∧ byt (rdA c s).2.1
  | 0, s, hb, h => ⟨h, rfl, rfl, fun a ha => by simp [rdA] at ha, hb⟩
  | c + 1, s, hb, h => by
    unfold rdA at h ⊢
    by_cases hs : s.2 = true
    · rw [if_pos hs] at h
      rw [hs] at h
      cases h
    · rw [if_neg hs] at h ⊢
      have h0 : s.2 = false := by simpa using hs
      -- a reader that was cut off stays so
      have hc : (rdT (rdT s).2).2.2 = false := by
        cases hx : (rdT (rdT s).2).2.2 with
        | false => rfl
        | true =>
          exfalso
          cases c with
          | zero => rw [rdA] at h; rw [hx] at h; cases h
          | succ c => rw [rdA, if_pos hx, hx] at h; cases h
      have hc1 : (rdT s).2.2 = false := by
        cases hx : (rdT s).2.2 with
        | false => rfl
        | true =>
          exfalso
          have := rdT_cut _ hc
          rw [hx] at this
          cases this
      obtain ⟨a1, a2, a3, a4⟩ := rdT_no hc1 hb
      obtain ⟨b1, b2, b3, b4⟩ := rdT_no hc a4
      obtain ⟨d1, d2, d3, d4, d5⟩ := rdA_no c _ b4 h
      refine ⟨h0, ?_, by simp [d3], fun x hx => ?_, d5⟩
      · simp only [ab, List.append_assoc]
        rw [← d2, ← b2]
        exact a2
      · rcases List.mem_cons.1 hx with rfl | hx
        · exact ⟨a3, b3⟩
        · exact d4 x hx

theorem rdAs_no {s : St} (h : (rdAs s).2.2 = false) (hb : byt s.1) : s.2 = false ∧ s.1 = nb (rdAs s).1.length 2 ++ (ab (rdAs s).1 ++ (rdAs s).2.1) ∧ (rdAs s).1.length ≤ 65535 ∧ fitA (rdAs s).1 ∧ byt (rdAs s).2.1 := by
  have hc : (rdN 2 s).2.2 = false := by
    cases hx : (rdN 2 s).2.2 with
    | false => rfl
    | true =>
      exfalso
      unfold rdAs at h
      cases hn : (rdN 2 s).1.toNat with
      | zero => rw [hn, rdA, hx] at h; cases h
      | succ c => rw [hn, rdA, if_pos hx, hx] at h; cases h
  obtain ⟨g1, g2, ⟨g3, g4⟩, g5⟩ := rdN_no hc hb
  obtain ⟨d1, d2, d3, d4, d5⟩ := rdA_no _ _ g5 h
  have e : ((rdAs s).1.length : Int) = (rdN 2 s).1 := by
    have : (rdAs s).1.length = (rdN 2 s).1.toNat := d3
    omega
  refine ⟨g1, ?_, by have : ((256 : Int) ^ 2) = 65536 := by decide
                     omega, d4, d5⟩
  rw [e, g2]
  congr 1

theorem rdAs_cut (s : St) (h : (rdAs s).2.2 = false) : s.2 = false := by
  cases hx : s.2 with
  | false => rfl
  | true =>
    exfalso
    unfold rdAs at h
    have e : (rdN 2 s).2.2 = true := by
      cases hy : (rdN 2 s).2.2 with
      | true => rfl
      | false =>
        have := rdN_cut 2 s hy
        rw [hx] at this
        cases this
    cases hn : (rdN 2 s).1.toNat with
    | zero => rw [hn, rdA, e] at h; cases h
    | succ c => rw [hn, rdA, if_pos e, e] at h; cases h

theorem rdO_no {s : St} (h : (s9 s).2 = false) (hb : byt s.1) : s.2 = false ∧ s.1 = ob (rdO s) ++ (s9 s).1 ∧ fitO (rdO s) ∧ byt (s9 s).1 := by
  have dO : rdO s = ⟨(rdN 1 s).1, (rdN 4 (s1 s)).1, (rdN 4 (s2 s)).1, (rdN 4 (s3 s)).1, (rdN 1 (s4 s)).1, (rdN 1 (s5 s)).1, (rdT (s6 s)).1, (rdAs (s7 s)).1, (rdT (s8 s)).1⟩ := by unfold rdO; rfl
  have d1 : s1 s = (rdN 1 s).2 := by unfold s1; rfl
  have d2 : s2 s = (rdN 4 (s1 s)).2 := by unfold s2; rfl
  have d3 : s3 s = (rdN 4 (s2 s)).2 := by unfold s3; rfl
  have d4 : s4 s = (rdN 4 (s3 s)).2 := by unfold s4; rfl
  have d5 : s5 s = (rdN 1 (s4 s)).2 := by unfold s5; rfl
  have d6 : s6 s = (rdN 1 (s5 s)).2 := by unfold s6; rfl
  have d7 : s7 s = (rdT (s6 s)).2 := by unfold s7; rfl
  have d8 : s8 s = (rdAs (s7 s)).2 := by unfold s8; rfl
  have d9 : s9 s = (rdT (s8 s)).2 := by unfold s9; rfl
  rw [dO]
  clear dO
  generalize s9 s = t9 at h d9 ⊢
  generalize s8 s = t8 at d9 d8 ⊢
  generalize s7 s = t7 at d8 d7 ⊢
  generalize s6 s = t6 at d7 d6 ⊢
  generalize s5 s = t5 at d6 d5 ⊢
  generalize s4 s = t4 at d5 d4 ⊢
  generalize s3 s = t3 at d4 d3 ⊢
  generalize s2 s = t2 at d3 d2 ⊢
  generalize s1 s = t1 at d2 d1 ⊢
  rw [d9] at h
  have c8 := rdT_cut t8 h
  have u8 : (rdAs t7).2.2 = false := by rw [← d8]; exact c8
  have c7 := rdAs_cut t7 u8
  have u7 : (rdT t6).2.2 = false := by rw [← d7]; exact c7
  have c6 := rdT_cut t6 u7
  have u6 : (rdN 1 t5).2.2 = false := by rw [← d6]; exact c6
  have c5 := rdN_cut 1 t5 u6
  have u5 : (rdN 1 t4).2.2 = false := by rw [← d5]; exact c5
  have c4 := rdN_cut 1 t4 u5
  have u4 : (rdN 4 t3).2.2 = false := by rw [← d4]; exact c4
  have c3 := rdN_cut 4 t3 u4
  have u3 : (rdN 4 t2).2.2 = false := by rw [← d3]; exact c3
  have c2 := rdN_cut 4 t2 u3
  have u2 : (rdN 4 t1).2.2 = false := by rw [← d2]; exact c2
  have c1 := rdN_cut 4 t1 u2
  have u1 : (rdN 1 s).2.2 = false := by rw [← d1]; exact c1
  obtain ⟨z1, a1, _, b1⟩ := rdN_no u1 hb
  rw [← d1] at a1 b1
  obtain ⟨_, a2, _, b2⟩ := rdN_no u2 b1
  rw [← d2] at a2 b2
  obtain ⟨_, a3, _, b3⟩ := rdN_no u3 b2
  rw [← d3] at a3 b3
  obtain ⟨_, a4, _, b4⟩ := rdN_no u4 b3
  rw [← d4] at a4 b4
  obtain ⟨_, a5, _, b5⟩ := rdN_no u5 b4
  rw [← d5] at a5 b5
  obtain ⟨_, a6, _, b6⟩ := rdN_no u6 b5
  rw [← d6] at a6 b6
  obtain ⟨_, a7, f7, b7⟩ := rdT_no u7 b6
  rw [← d7] at a7 b7
  obtain ⟨_, a8, f8, g8, b8'⟩ := rdAs_no u8 b7
  rw [← d8] at a8 b8'
  obtain ⟨_, a9, f9, b9⟩ := rdT_no h b8'
  rw [← d9] at a9 b9
  refine ⟨z1, ?_, ⟨f7, f9, f8, g8⟩, b9⟩
  simp only [ob, List.append_assoc]
  rw [← a9, ← a8, ← a7, ← a6, ← a5, ← a4, ← a3, ← a2, ← a1]

theorem rdN_yes {k : Nat} {n : Int} (h0 : 0 ≤ n) (h1 : n < 256 ^ k) (r : List Int) (c : Bool) : rdN k (nb n k ++ r, c) = (n, (r, c)) := by
  unfold rdN
  rw [tk_yes (nb_len n k), nv_nb k n h0 h1]

theorem rdT_yes {x : ByteArray} (h : x.size ≤ 16777215) (r : List Int) (c : Bool) : rdT (tb x ++ r, c) = (x, (r, c)) := by
  have e : rdN 3 (tb x ++ r, c) = ((x.size : Int), (bytesOf x ++ r, c)) := by
    unfold tb
    rw [List.append_assoc]
    have p3 : ((256 : Int) ^ 3) = 16777216 := by decide
    exact rdN_yes (by omega) (by omega) _ _
  unfold rdT
  rw [e]
  simp only
  rw [tk_yes (by rw [bytes_len]; omega), strs_bytes]

theorem rdA_yes : ∀ (l : List Att), fitA l → ∀ (r : List Int), rdA l.length (ab l ++ r, false) = (l, (r, false))
  | [], _, r => rfl
  | a :: l, h, r => by
    have ha := h a (by simp)
    have ih := rdA_yes l (fun x hx => h x (by simp [hx])) r
    have e1 : rdT (tb a.1 ++ (tb a.2 ++ ab l) ++ r, false) = (a.1, (tb a.2 ++ (ab l ++ r), false)) := by
      rw [List.append_assoc, List.append_assoc]
      exact rdT_yes ha.1 _ _
    have e2 : rdT (tb a.2 ++ (ab l ++ r), false) = (a.2, (ab l ++ r, false)) := rdT_yes ha.2 _ _
    simp only [List.length_cons, ab]
    rw [rdA, if_neg (by simp)]
    rw [e1]
    simp only
    rw [e2]
    simp only
    rw [ih]

theorem rdAs_yes {l : List Att} (h : fitA l) (hl : l.length ≤ 65535) (r : List Int) : rdAs (nb l.length 2 ++ (ab l ++ r), false) = (l, (r, false)) := by
  have e : rdN 2 (nb l.length 2 ++ (ab l ++ r), false) = ((l.length : Int), (ab l ++ r, false)) := by
    have p2 : ((256 : Int) ^ 2) = 65536 := by decide
    exact rdN_yes (by omega) (by omega) _ _
  unfold rdAs
  rw [e]
  simp only [Int.toNat_natCast]
  exact rdA_yes l h r

/-- What is written is read again. -/
theorem rdO_yes {o : Ot} (hk : 0 ≤ o.kd ∧ o.kd ≤ 255) (hn : 0 ≤ o.nd ∧ o.nd ≤ 4294967295) (hp : 0 ≤ o.pa ∧ o.pa ≤ 4294967295) (hr : 0 ≤ o.rf ∧ o.rf ≤ 4294967295) (ht : 0 ≤ o.ty ∧ o.ty ≤ 255) (hs : 0 ≤ o.ns ∧ o.ns ≤ 255) (hf : fitO o) (r : List Int) :
    rdO (ob o ++ r, false) = o ∧ s9 (ob o ++ r, false) = (r, false) := by
  obtain ⟨f1, f2, f3, f4⟩ := hf
  have p1 : ((256 : Int) ^ 1) = 256 := by decide
  have p4 : ((256 : Int) ^ 4) = 4294967296 := by decide
  obtain ⟨o1, o2, o3, o4, o5, o6, o7, o8, o9⟩ := o
  simp only at hk hn hp hr ht hs f1 f2 f3 f4
  have e0 : (ob ⟨o1, o2, o3, o4, o5, o6, o7, o8, o9⟩ ++ r, false) = (nb o1 1 ++ (nb o2 4 ++ (nb o3 4 ++ (nb o4 4 ++ (nb o5 1 ++ (nb o6 1 ++ (tb o7 ++ (nb o8.length 2 ++ (ab o8 ++ (tb o9 ++ r))))))))), false) := by simp only [ob, List.append_assoc]
  rw [e0]
  have a1 := rdN_yes (k := 1) (n := o1) (by omega) (by omega) (nb o2 4 ++ (nb o3 4 ++ (nb o4 4 ++ (nb o5 1 ++ (nb o6 1 ++ (tb o7 ++ (nb o8.length 2 ++ (ab o8 ++ (tb o9 ++ r))))))))) false
  have a2 := rdN_yes (k := 4) (n := o2) (by omega) (by omega) (nb o3 4 ++ (nb o4 4 ++ (nb o5 1 ++ (nb o6 1 ++ (tb o7 ++ (nb o8.length 2 ++ (ab o8 ++ (tb o9 ++ r)))))))) false
  have a3 := rdN_yes (k := 4) (n := o3) (by omega) (by omega) (nb o4 4 ++ (nb o5 1 ++ (nb o6 1 ++ (tb o7 ++ (nb o8.length 2 ++ (ab o8 ++ (tb o9 ++ r))))))) false
  have a4 := rdN_yes (k := 4) (n := o4) (by omega) (by omega) (nb o5 1 ++ (nb o6 1 ++ (tb o7 ++ (nb o8.length 2 ++ (ab o8 ++ (tb o9 ++ r)))))) false
  have a5 := rdN_yes (k := 1) (n := o5) (by omega) (by omega) (nb o6 1 ++ (tb o7 ++ (nb o8.length 2 ++ (ab o8 ++ (tb o9 ++ r))))) false
  have a6 := rdN_yes (k := 1) (n := o6) (by omega) (by omega) (tb o7 ++ (nb o8.length 2 ++ (ab o8 ++ (tb o9 ++ r)))) false
  have a7 := rdT_yes f1 (nb o8.length 2 ++ (ab o8 ++ (tb o9 ++ r))) false
  have a8 := rdAs_yes f4 f3 (tb o9 ++ r)
  have a9 := rdT_yes f2 r false
  generalize (nb o1 1 ++ (nb o2 4 ++ (nb o3 4 ++ (nb o4 4 ++ (nb o5 1 ++ (nb o6 1 ++ (tb o7 ++ (nb o8.length 2 ++ (ab o8 ++ (tb o9 ++ r))))))))), false) = s at a1 ⊢
  have t1 : s1 s = _ := congrArg Prod.snd a1
  have t2 : s2 s = _ := (congrArg (fun x => (rdN 4 x).2) t1).trans (congrArg Prod.snd a2)
  have t3 : s3 s = _ := (congrArg (fun x => (rdN 4 x).2) t2).trans (congrArg Prod.snd a3)
  have t4 : s4 s = _ := (congrArg (fun x => (rdN 4 x).2) t3).trans (congrArg Prod.snd a4)
  have t5 : s5 s = _ := (congrArg (fun x => (rdN 1 x).2) t4).trans (congrArg Prod.snd a5)
  have t6 : s6 s = _ := (congrArg (fun x => (rdN 1 x).2) t5).trans (congrArg Prod.snd a6)
  have t7 : s7 s = _ := (congrArg (fun x => (rdT x).2) t6).trans (congrArg Prod.snd a7)
  have t8 : s8 s = _ := (congrArg (fun x => (rdAs x).2) t7).trans (congrArg Prod.snd a8)
  have t9 : s9 s = _ := (congrArg (fun x => (rdT x).2) t8).trans (congrArg Prod.snd a9)
  refine ⟨?_, t9⟩
  unfold rdO
  rw [t1, t2, t3, t4, t5, t6, t7, t8]
  simp only [a1, a2, a3, a4, a5, a6, a7, a8, a9]

end Go.Proofs.YtpjkpobdkmcedaaDoor
