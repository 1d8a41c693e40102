/-
  Joined: Marks End.
-/
import Derived.Test.YtcfaejbbjmjgpaaGreatDoorGroundG
import Derived.Test.YtcfaejbbjmjgpaaGreatDoorGroundB

/-
  Marks by themselves: where a sign ends something, what a comment, a doctype, a section and the rest are. No program.
-/
namespace Go.Proofs.YtcfaejbbjmjgpaaGreatDoor
open Go.RowKit Utf
set_option linter.unusedVariables false

def GT : ByteArray := ⟨#[62]⟩
def DGT : ByteArray := ⟨#[45, 62]⟩
def E1 : ByteArray := ⟨#[45, 45, 62]⟩
def E2 : ByteArray := ⟨#[45, 45, 33, 62]⟩
def E3 : ByteArray := ⟨#[93, 93, 62]⟩
def D3 : ByteArray := ⟨#[45, 45, 33]⟩
def D2 : ByteArray := ⟨#[45, 45]⟩
def D1 : ByteArray := ⟨#[45]⟩
def DT : ByteArray := ⟨#[9, 10, 12, 13, 32, 62]⟩
def EMP : ByteArray := ⟨#[60, 47, 62]⟩
def COM : ByteArray := ⟨#[60, 33, 45, 45]⟩
def DOC : ByteArray := ⟨#[60, 33, 100, 111, 99, 116, 121, 112, 101]⟩
def CDA : ByteArray := ⟨#[60, 33, 91, 67, 68, 65, 84, 65, 91]⟩

/-- How long the first of these signs is that stands at i; 0, if none does. -/
def pick (s : ByteArray) (i : Nat) : List ByteArray → Nat
  | [] => 0
  | x :: l => if st s i x then x.size else pick s i l

/-- None of them is empty. -/
def solid (l : List ByteArray) : Prop := ∀ x, x ∈ l → 0 < x.size

/-- The first place from p on where one of these signs stands; the end, if none does. -/
def eP (s : ByteArray) (l : List ByteArray) (p : Nat) : Nat := fs (fun i => decide (pick s i l ≠ 0)) p s.size
/-- The place behind it. -/
def eN (s : ByteArray) (l : List ByteArray) (p : Nat) : Nat := eP s l p + pick s (eP s l p) l

theorem pick_le (s : ByteArray) (i : Nat) : ∀ l : List ByteArray, pick s i l = 0 ∨ i + pick s i l ≤ s.size
  | [] => Or.inl rfl
  | x :: l => by
    rw [pick]
    cases h : st s i x with
    | true => exact Or.inr (st_le h)
    | false => exact pick_le s i l

theorem eP_is (s : ByteArray) (l : List ByteArray) {p : Nat} (h : p ≤ s.size) : Fs (fun i => decide (pick s i l ≠ 0)) p s.size (eP s l p) := fs_is _ h

theorem eN_le (s : ByteArray) (l : List ByteArray) {p : Nat} (h : p ≤ s.size) : eP s l p ≤ eN s l p ∧ eN s l p ≤ s.size := by
  have h1 := (eP_is s l h).hi
  unfold eN
  rcases pick_le s (eP s l p) l with h2 | h2 <;> omega

theorem eP_end {s : ByteArray} {l : List ByteArray} {p : Nat} (h : p ≤ s.size) (e : eP s l p = s.size) : eN s l p = s.size := by
  have h2 := eN_le s l h
  omega

theorem eP_at {s : ByteArray} {l : List ByteArray} {p : Nat} (h : p ≤ s.size) (e : eP s l p < s.size) : pick s (eP s l p) l ≠ 0 := by
  have := (eP_is s l h).at' e
  simpa using this

theorem pick_one (s : ByteArray) (i : Nat) (x : ByteArray) (hx : 0 < x.size) : decide (pick s i [x] ≠ 0) = st s i x := by
  rw [pick]
  cases st s i x with
  | true => exact decide_eq_true (fun h => by rw [if_pos rfl] at h; omega)
  | false => exact decide_eq_false (fun h => h rfl)

theorem eP_one (s : ByteArray) (x : ByteArray) (hx : 0 < x.size) (p : Nat) : eP s [x] p = findF s x p := fs_congr (fun i => pick_one s i x hx) _ _

theorem eN_one {s : ByteArray} (x : ByteArray) (hx : 0 < x.size) {p : Nat} (h : p ≤ s.size) : eN s [x] p = if findF s x p < s.size then findF s x p + x.size else s.size := by
  have e1 := eP_one s x hx p
  by_cases h1 : findF s x p < s.size
  · rw [if_pos h1]
    have h2 := eP_at h (l := [x]) (by omega)
    unfold eN
    rw [e1] at h2 ⊢
    have h3 := pick_one s (findF s x p) x hx
    rw [decide_eq_true h2] at h3
    rw [pick, ← h3]
    rfl
  · rw [if_neg h1]
    have h2 := (eP_is s [x] h).hi
    exact eP_end h (by omega)

/-- The first places up to k have none of them, and at k none of the first j has one. -/
theorem pick_snoc (s : ByteArray) (i : Nat) (x : ByteArray) : ∀ l : List ByteArray, (∀ y, y ∈ l → st s i y = false) → pick s i (l ++ [x]) = if st s i x then x.size else 0
  | [], _ => rfl
  | y :: l, h => by
    rw [List.cons_append, pick, h y (by simp), pick_snoc s i x l (fun z hz => h z (by simp [hz]))]
    rfl

theorem pick_none (s : ByteArray) (i : Nat) : ∀ l : List ByteArray, (∀ y, y ∈ l → st s i y = false) → pick s i l = 0
  | [], _ => rfl
  | y :: l, h => by
    rw [pick, h y (by simp), pick_none s i l (fun z hz => h z (by simp [hz]))]
    rfl

theorem pick_first (s : ByteArray) (i : Nat) : ∀ (l : List ByteArray) (j : Nat) (hj : j < l.length), (∀ k (hk : k < j), st s i (l[k]'(by omega)) = false) → st s i l[j] = true → pick s i l = l[j].size
  | [], j, hj, _, _ => by simp at hj
  | y :: l, 0, hj, _, h => by
    rw [pick]
    rw [List.getElem_cons_zero] at h ⊢
    rw [h]
    rfl
  | y :: l, j + 1, hj, hn, h => by
    have h0 := hn 0 (by omega)
    rw [List.getElem_cons_zero] at h0
    rw [pick, h0]
    simp only [List.getElem_cons_succ] at h ⊢
    exact pick_first s i l j (by simpa using hj) (fun k hk => by
      have := hn (k + 1) (by omega)
      rwa [List.getElem_cons_succ] at this) h

/-- Where the text of a comment ends that has no end: ahead of the first of these that its end is. -/
def cutL (s : ByteArray) (f : Nat) : List ByteArray → Nat
  | [] => s.size
  | x :: l => if f + x.size ≤ s.size ∧ st s (s.size - x.size) x = true then s.size - x.size else cutL s f l

theorem cutL_le (s : ByteArray) {f : Nat} (hf : f ≤ s.size) : ∀ l : List ByteArray, f ≤ cutL s f l ∧ cutL s f l ≤ s.size
  | [] => ⟨hf, Nat.le_refl _⟩
  | x :: l => by
    rw [cutL]
    split
    · rename_i h
      omega
    · exact cutL_le s hf l

theorem cutL_snoc (s : ByteArray) (f : Nat) (x : ByteArray) : ∀ l : List ByteArray, solid l → cutL s f (l ++ [x]) = if cutL s f l = s.size then cutL s f [x] else cutL s f l
  | [], _ => by rw [cutL, if_pos rfl]; rfl
  | y :: l, h => by
    rw [List.cons_append, cutL, cutL]
    by_cases hc : f + y.size ≤ s.size ∧ st s (s.size - y.size) y = true
    · rw [if_pos hc, if_pos hc]
      have := h y (by simp)
      rw [if_neg (by omega)]
    · rw [if_neg hc, if_neg hc]
      exact cutL_snoc s f x l (fun z hz => h z (by simp [hz]))

def DS : List ByteArray := [D3, D2, D1]
def ES : List ByteArray := [E1, E2]
theorem ds_solid : solid DS := by
  intro x hx
  simp only [DS, List.mem_cons, List.mem_nil_iff, or_false] at hx
  rcases hx with rfl | rfl | rfl <;> decide
theorem es_solid : solid ES := by
  intro x hx
  simp only [ES, List.mem_cons, List.mem_nil_iff, or_false] at hx
  rcases hx with rfl | rfl <;> decide

/-- A token without attributes: its Kind, Name and Text. -/
abbrev Mt := Int × ByteArray × ByteArray
def z3 : Mt := (0, ⟨#[]⟩, ⟨#[]⟩)

/-- A comment, from behind its beginning on. -/
def cF (s : ByteArray) (f : Nat) : Mt × Nat :=
  if st s f GT then ((5, ⟨#[]⟩, ⟨#[]⟩), f + 1)
  else if st s f DGT then ((5, ⟨#[]⟩, ⟨#[]⟩), f + 2)
  else if eP s ES f = s.size then ((5, ⟨#[]⟩, s.extract f (cutL s f DS)), s.size)
  else ((5, ⟨#[]⟩, s.extract f (eP s ES f)), eN s ES f)
/-- A doctype, from behind that word on. -/
def dF (s : ByteArray) (f : Nat) : Mt × Nat := ((1, lower (s.extract (skipF s f) (untilF s DT (skipF s f))), ⟨#[]⟩), eN s [GT] (untilF s DT (skipF s f)))
/-- A section. -/
def kF (s : ByteArray) (f : Nat) : Mt × Nat := if eP s [E3] f = f then (z3, eN s [E3] f) else ((4, ⟨#[]⟩, s.extract f (eP s [E3] f)), eN s [E3] f)
/-- Anything else. -/
def oF (s : ByteArray) (f : Nat) : Mt × Nat := ((5, ⟨#[]⟩, s.extract f (eP s [GT] f)), eN s [GT] f)

/-- One of them begins at p. -/
def begM (s : ByteArray) (p : Nat) : Bool := decide (p + 1 < s.size ∧ bt s p = 60 ∧ (bt s (p + 1) = 33 ∨ bt s (p + 1) = 63 ∨ (bt s (p + 1) = 47 ∧ p + 2 < s.size ∧ isLet (bt s (p + 2)) = false)))
/-- What begins at p. -/
def rdM (s : ByteArray) (p : Nat) (b : Bool) : Mt × Nat :=
  if st s p EMP then (z3, p + 3)
  else if st s p COM then cF s (p + 4)
  else if fo s p DOC then dF s (p + 9)
  else if b && st s p CDA then kF s (p + 9)
  else if bt s (p + 1) = 63 then oF s (p + 1)
  else oF s (p + 2)
/-- All of it. -/
def mkF (s : ByteArray) (a : Int) (b : Bool) : Mt × Int × Bool :=
  if 0 ≤ a ∧ begM s a.toNat = true then ((rdM s a.toNat b).1, ((rdM s a.toNat b).2 : Int), true) else (z3, a, false)

theorem mk_yes {s : ByteArray} {p : Nat} (h : begM s p = true) (b : Bool) : mkF s (p : Int) b = ((rdM s p b).1, ((rdM s p b).2 : Int), true) := by
  unfold mkF
  rw [Int.toNat_natCast, if_pos ⟨by omega, h⟩]
theorem mk_no {s : ByteArray} {p : Nat} (h : begM s p = false) (b : Bool) : mkF s (p : Int) b = (z3, (p : Int), false) := by
  unfold mkF
  rw [Int.toNat_natCast, if_neg (by rw [h]; simp)]
theorem mk_lo {s : ByteArray} {a : Int} (h : a < 0) (b : Bool) : mkF s a b = (z3, a, false) := by
  unfold mkF
  rw [if_neg (by omega)]
theorem mk_hi {s : ByteArray} {a : Int} (h : (s.size : Int) ≤ a + 1) (b : Bool) : mkF s a b = (z3, a, false) := by
  unfold mkF
  rw [if_neg]
  rintro ⟨h1, h2⟩
  have := (of_decide_eq_true h2).1
  omega

theorem begM_is {s : ByteArray} {p : Nat} (h : begM s p = true) : p + 1 < s.size ∧ bt s p = 60 ∧ (bt s (p + 1) = 33 ∨ bt s (p + 1) = 63 ∨ (bt s (p + 1) = 47 ∧ p + 2 < s.size ∧ isLet (bt s (p + 2)) = false)) := of_decide_eq_true h

theorem cut_end (s : ByteArray) (p q : Nat) (h : q ≤ s.size) : (s.extract p q).size = q - p := by rw [ByteArray.size_extract]; omega

/-- Where they end. -/
theorem cF_le {s : ByteArray} {f : Nat} (hf : f ≤ s.size) : f ≤ (cF s f).2 ∧ (cF s f).2 ≤ s.size := by
  unfold cF
  cases h1 : st s f GT with
  | true => exact ⟨by show f ≤ f + 1; omega, st_le h1⟩
  | false =>
    cases h2 : st s f DGT with
    | true => exact ⟨by show f ≤ f + 2; omega, st_le h2⟩
    | false =>
      have h4 := (eP_is s ES hf).lo
      have h5 := eN_le s ES hf
      simp only [Bool.false_eq_true, if_false]
      split
      · exact ⟨hf, Nat.le_refl _⟩
      · exact ⟨by show f ≤ eN s ES f; omega, h5.2⟩
theorem dF_le {s : ByteArray} {f : Nat} (hf : f ≤ s.size) : f ≤ (dF s f).2 ∧ (dF s f).2 ≤ s.size := by
  have h1 := skip_is s hf
  have h2 := until_is s DT h1.hi
  have h3 := (eP_is s [GT] h2.hi).lo
  have h4 := eN_le s [GT] h2.hi
  have h5 := h1.lo
  have h6 := h2.lo
  exact ⟨by show f ≤ eN _ _ _; omega, h4.2⟩
theorem kF_le {s : ByteArray} {f : Nat} (hf : f ≤ s.size) : f ≤ (kF s f).2 ∧ (kF s f).2 ≤ s.size := by
  have h3 := (eP_is s [E3] hf).lo
  have h4 := eN_le s [E3] hf
  unfold kF
  split
  · exact ⟨by show f ≤ eN _ _ _; omega, h4.2⟩
  · exact ⟨by show f ≤ eN _ _ _; omega, h4.2⟩
theorem oF_le {s : ByteArray} {f : Nat} (hf : f ≤ s.size) : f ≤ (oF s f).2 ∧ (oF s f).2 ≤ s.size := by
  have h3 := (eP_is s [GT] hf).lo
  have h4 := eN_le s [GT] hf
  exact ⟨by show f ≤ eN _ _ _; omega, h4.2⟩

end Go.Proofs.YtcfaejbbjmjgpaaGreatDoor

/-
  The program's end and cutOff, of any text.
-/
namespace Go.Proofs.YtcfaejbbjmjgpaaGreatDoor
open Go.RowKit Utf
set_option linter.unusedVariables false

set_option maxHeartbeats 1000000 in
set_option maxRecDepth 100000 in
theorem end_any (w : World) (s : ByteArray) (p : Nat) (hp : p ≤ s.size) (hs : s.size ≤ 100000) (l : List ByteArray) (hl : solid l) (hz : ∀ x, x ∈ l → x.size ≤ 100) (ao : Option Addr) (n c : Nat) (hr : Rb w ao n c (tx l)) (hn : n ≤ 100) :
    Calls Tryz.prog 99 #[.string s, .int .i64 (p : Int), .slice ao n c] w fun e w' => e = .returned (.tuple #[.int .i64 (eP s l p : Int), .int .i64 (eN s l p : Int)]) ∧ Kp [] w w' := by
  have hlen : n = l.length := by have := hr.len; rwa [tx_len] at this
  subst hlen
  go_enter Tryz.func99, Tryz.ntmps99
  go_wp2
  go_loopw [8] (fun i wr => ∃ k : Nat, p ≤ k ∧ k ≤ s.size ∧ i = .int .i64 k ∧ Kp [] w wr ∧ Hid (∀ j, p ≤ j → j < k → pick s j l = 0)) (fun i _ => s.size - (intOf i).toNat)
  case atStart => exact ⟨p, Nat.le_refl _, hp, rfl, Kp.refl _ _, fun j h1 h2 => by omega⟩
  case round =>
    obtain ⟨k, h1, h2, rfl, kp, hb⟩ := hrel
    by_cases hlt : k < s.size
    · go_wp2
      go_loopw [20] (fun i wy => ∃ m : Nat, m ≤ l.length ∧ i = .int .i64 m ∧ Kp [] w wy ∧ Hid (∀ j (hj : j < l.length), j < m → st s k l[j] = false)) (fun i _ => l.length - (intOf i).toNat)
      case atStart => exact ⟨0, Nat.zero_le _, rfl, kp, fun j hj h => by omega⟩
      case round =>
        obtain ⟨m, h3, rfl, ky, hc⟩ := hrel
        by_cases hlt2 : m < l.length
        · obtain ⟨b, o, rfl, hcell⟩ := (hr.kept ky).tx_at m (by omega)
          have HS := starts_any wr s (k : Int) (l[m]'(by omega)) hs
          rw [pl_of h2] at HS
          have hx1 := hz (l[m]'(by omega)) (List.getElem_mem _)
          have hx0 := hl (l[m]'(by omega)) (List.getElem_mem _)
          cases hx : st s k (l[m]'(by omega)) with
          | true =>
            have hp1 : pick s k l = (l[m]'(by omega)).size := pick_first s k l m (by omega) (fun j hj => hc.out j (by omega) hj) hx
            have he : eP s l p = k := fs_eq ⟨h1, h2, fun j g1 g2 => by rw [hb.out j g1 g2]; rfl, fun _ => decide_eq_true (by rw [hp1]; omega)⟩
            have he2 : Hid (eN s l p = k + (l[m]'(by omega)).size) := by
              show _ = _
              unfold eN
              rw [he, hp1]
            have he1 : Hid (eP s l p = k) := he
            rw [hx] at HS
            generalize (l[m]'(by omega)) = x at HS hcell hx1 hx0 he2
            clear hx hp1 he hb hc
            go_wp2_with fail
            refine HS.mono ?_
            rintro e w2 ⟨rfl, k2⟩
            clear HS
            go_wp2
            go_ret2
            refine ⟨?_, ky.trans k2 (fun z hz => by simp at hz)⟩
            rw [he1.out, he2.out]
            rfl
          | false =>
            have hc2 : Hid (∀ j (hj : j < l.length), j < m + 1 → st s k l[j] = false) := fun j hj g => by
              by_cases hjm : j = m
              · subst hjm; exact hx
              · exact hc.out j hj (by omega)
            rw [hx] at HS
            generalize (l[m]'(by omega)) = x at HS hcell hx1 hx0
            clear hx hb hc
            go_wp2_with fail
            refine HS.mono ?_
            rintro e w2 ⟨rfl, k2⟩
            clear HS
            go_wp2
            go_roundw
            case rel => exact ⟨m + 1, by omega, by go_num, ky.trans k2 (fun z hz => by simp at hz), hc2⟩
            case measure => simp [intOf]; omega
        · have hb2 : Hid (∀ j, p ≤ j → j < k + 1 → pick s j l = 0) := fun j g1 g2 => by
            by_cases hjk : j = k
            · subst hjk
              refine pick_none s j l fun y hy => ?_
              obtain ⟨i, hi, rfl⟩ := List.getElem_of_mem hy
              exact hc.out i hi (by omega)
            · exact hb.out j g1 (by omega)
          clear hb hc
          go_wp2
          go_roundw
          case rel => exact ⟨k + 1, by omega, by omega, by go_num, ky, hb2⟩
          case measure => simp [intOf]; omega
    · obtain rfl : k = s.size := by omega
      have he : eP s l p = s.size := fs_eq ⟨h1, h2, fun j g1 g2 => by rw [hb.out j g1 g2]; rfl, fun h => by omega⟩
      have he2 : Hid (eN s l p = s.size) := eP_end hp he
      have he1 : Hid (eP s l p = s.size) := he
      clear hb he
      go_wp2
      go_ret2
      refine ⟨?_, kp⟩
      rw [he1.out, he2.out]
      rfl

theorem ds_len : DS.length = 3 := rfl

set_option maxHeartbeats 1000000 in
set_option maxRecDepth 100000 in
theorem cutoff_any (w : World) (s : ByteArray) (f : Nat) (hf : f ≤ s.size) (hs : s.size ≤ 100000) :
    Calls Tryz.prog 100 #[.string s, .int .i64 (f : Int)] w fun e w' => e = .returned (.int .i64 (cutL s f DS : Int)) ∧ Kp [] w w' := by
  have HR : Rb (w.alloc (.cells (tx DS).toArray 9)) (some ⟨w.heap.size, 0, none⟩) 3 3 (tx DS) := rb_lit w 9 _ (tx DS) 3 rfl rfl (by omega)
  have k1 : Kp [] w (w.alloc (.cells (tx DS).toArray 9)) := (Kp.refl _ _).alloc _
  go_enter Tryz.func100, Tryz.ntmps100
  go_wp2
  rw [show #[Value.string { data := #[45, 45, 33] }, Value.string { data := #[45, 45] }, Value.string { data := #[45] }] = (tx DS).toArray from rfl]
  generalize w.alloc (.cells (tx DS).toArray 9) = w2 at HR k1 ⊢
  generalize some (⟨w.heap.size, 0, none⟩ : Addr) = ta at HR ⊢
  go_loopw [10] (fun i wr => ∃ m : Nat, m ≤ 3 ∧ i = .int .i64 m ∧ Kp [] w wr ∧ Rb wr ta 3 3 (tx DS) ∧ Hid (cutL s f DS = cutL s f (DS.drop m))) (fun i _ => 3 - (intOf i).toNat)
  case atStart => exact ⟨0, Nat.zero_le _, rfl, k1, HR, rfl⟩
  case round =>
    obtain ⟨m, h3, rfl, ky, rt, hc⟩ := hrel
    clear k1 HR
    by_cases hlt2 : m < 3
    · obtain ⟨b, o, rfl, hcell⟩ := rt.tx_at m (by rw [ds_len]; exact hlt2)
      have hx0 := ds_solid (DS[m]'(by rw [ds_len]; exact hlt2)) (List.getElem_mem _)
      have hst : cutL s f (DS.drop m) = if f + (DS[m]'(by rw [ds_len]; exact hlt2)).size ≤ s.size ∧ st s (s.size - (DS[m]'(by rw [ds_len]; exact hlt2)).size) (DS[m]'(by rw [ds_len]; exact hlt2)) = true then s.size - (DS[m]'(by rw [ds_len]; exact hlt2)).size else cutL s f (DS.drop (m + 1)) := by
        rw [List.drop_eq_getElem_cons (by rw [ds_len]; exact hlt2), cutL]
      have hx1 : (DS[m]'(by rw [ds_len]; exact hlt2)).size ≤ 3 := by
        rcases (show m = 0 ∨ m = 1 ∨ m = 2 by omega) with rfl | rfl | rfl 
        · show D3.size ≤ 3; decide
        · show D2.size ≤ 3; decide
        · show D1.size ≤ 3; decide
      generalize (DS[m]'(by rw [ds_len]; exact hlt2)) = x at hcell hst hx0 hx1
      by_cases hle : f + x.size ≤ s.size
      · have HS := starts_any wr s ((s.size : Int) - (x.size : Int)) x hs
        rw [show (s.size : Int) - (x.size : Int) = ((s.size - x.size : Nat) : Int) by omega, pl_of (by omega), show ((s.size - x.size : Nat) : Int) = (s.size : Int) - (x.size : Int) by omega] at HS
        have hge : (f : Int) ≤ (s.size : Int) - (x.size : Int) := by omega
        cases hx : st s (s.size - x.size) x with
        | true =>
          rw [if_pos ⟨hle, hx⟩] at hst
          have hd : Hid ((cutL s f DS : Int) = (s.size : Int) - (x.size : Int)) := by
            show _ = _
            rw [hc.out, hst]
            omega
          rw [hx] at HS
          clear hst hc hx
          go_wp2_with fail
          refine HS.mono ?_
          rintro e w3 ⟨rfl, k3⟩
          clear HS
          go_wp2
          go_ret
          exact ⟨by rw [hd.out]; rfl, ky.trans k3 (fun z hz => by simp at hz)⟩
        | false =>
          rw [if_neg (by rw [hx]; simp)] at hst
          have hd : Hid (cutL s f DS = cutL s f (DS.drop (m + 1))) := by
            show _ = _
            rw [hc.out, hst]
          rw [hx] at HS
          clear hst hc hx
          go_wp2_with fail
          refine HS.mono ?_
          rintro e w3 ⟨rfl, k3⟩
          clear HS
          go_wp2
          go_roundw
          case rel => exact ⟨m + 1, by omega, by go_num, ky.trans k3 (fun z hz => by simp at hz), rt.kept k3, hd⟩
          case measure => simp [intOf]; omega
      · rw [if_neg (by omega)] at hst
        have hd : Hid (cutL s f DS = cutL s f (DS.drop (m + 1))) := by
          show _ = _
          rw [hc.out, hst]
        have hge : ¬ (f : Int) ≤ (s.size : Int) - (x.size : Int) := by omega
        clear hst hc
        go_wp2
        go_roundw
        case rel => exact ⟨m + 1, by omega, by go_num, ky, rt, hd⟩
        case measure => simp [intOf]; omega
    · obtain rfl : m = 3 := by omega
      have hd : Hid (cutL s f DS = s.size) := by
        show _ = _
        rw [hc.out]
        rfl
      clear hc rt
      go_wp2
      go_ret
      exact ⟨by rw [hd.out]; rfl, ky⟩

end Go.Proofs.YtcfaejbbjmjgpaaGreatDoor
