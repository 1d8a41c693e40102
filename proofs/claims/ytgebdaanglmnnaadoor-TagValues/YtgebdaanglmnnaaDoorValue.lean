/-
  The tag that TagValues asks of, read step by step. No program.
-/
import Derived.Test.YtgebdaanglmnnaaDoorSigns
namespace Go.Proofs.YtgebdaanglmnnaaDoor
open Go.RowKit Utf
set_option linter.unusedVariables false

def PRE : ByteArray := ⟨#[60, 97, 32, 105, 100, 61]⟩
def POST : ByteArray := ⟨#[32, 73, 68, 61, 111, 116, 104, 101, 114, 32, 98, 61, 99, 62]⟩

/-- The text, byte by byte. -/
structure Asked (x w : ByteArray) (c : Int) : Prop where
  size : x.size = w.size + 22
  pre : ∀ i, i < PRE.size → bt x (0 + i) = bt PRE i
  q1 : bt x 6 = c
  val : ∀ i, i < w.size → bt x (7 + i) = bt w i
  q2 : bt x (7 + w.size) = c
  post : ∀ i, i < POST.size → bt x (8 + w.size + i) = bt POST i
  sign : c = 34 ∨ c = 39

theorem asked_of (w : ByteArray) (q : UInt8) (h : q = 34 ∨ q = 39) : Asked (PRE ++ ⟨#[q]⟩ ++ w ++ ⟨#[q]⟩ ++ POST) w (q.toNat : Int) := by
  have hq : bt ⟨#[q]⟩ 0 = (q.toNat : Int) := bt_at ⟨#[q]⟩ 0 (Nat.zero_lt_one)
  have z1 : (PRE ++ ⟨#[q]⟩).size = 7 := by rw [cat_size]; rfl
  have z2 : (PRE ++ ⟨#[q]⟩ ++ w).size = 7 + w.size := by rw [cat_size, z1]
  have z3 : (PRE ++ ⟨#[q]⟩ ++ w ++ ⟨#[q]⟩).size = 8 + w.size := by rw [cat_size, z2, show ByteArray.size ⟨#[q]⟩ = 1 from rfl]; omega
  have hp : PRE.size = 6 := rfl
  refine ⟨by rw [cat_size, z3, show POST.size = 14 from rfl]; omega, fun i hi => ?_, ?_, fun i hi => ?_, ?_, fun i hi => ?_, ?_⟩
  · rw [Nat.zero_add, bt_left _ _ (by omega), bt_left _ _ (by omega), bt_left _ _ (by omega), bt_left _ _ (by omega)]
  · rw [bt_left _ _ (by omega), bt_left _ _ (by omega), bt_left _ _ (by omega), show 6 = PRE.size + 0 from rfl, bt_right]
    exact hq
  · rw [bt_left _ _ (by omega), bt_left _ _ (by omega), show 7 + i = (PRE ++ ⟨#[q]⟩).size + i by rw [z1], bt_right]
  · rw [bt_left _ _ (by omega), show 7 + w.size = (PRE ++ ⟨#[q]⟩ ++ w).size + 0 by rw [z2, Nat.add_zero], bt_right]
    exact hq
  · rw [show 8 + w.size + i = (PRE ++ ⟨#[q]⟩ ++ w ++ ⟨#[q]⟩).size + i by rw [z3], bt_right]
  · rcases h with rfl | rfl
    · exact Or.inl rfl
    · exact Or.inr rfl

/-- The first place in a part that is known. -/
theorem fs_part {x R : ByteArray} {base a b : Nat} (P : Int → Bool) (hR : ∀ i, i < R.size → bt x (base + i) = bt R i) (hx : base + R.size ≤ x.size) (hb : b < R.size) (hab : a ≤ b) (h1 : ∀ i, i < b → a ≤ i → P (bt R i) = false) (h2 : P (bt R b) = true) : fs (fun j => P (bt x j)) (base + a) x.size = base + b := by
  refine fs_eq ⟨by omega, by omega, fun j g1 g2 => ?_, fun _ => ?_⟩
  · obtain ⟨i, rfl⟩ : ∃ i, j = base + i := ⟨j - base, by omega⟩
    show P (bt x (base + i)) = false
    rw [hR i (by omega)]
    exact h1 i (by omega) (by omega)
  · show P (bt x (base + b)) = true
    rw [hR b hb]
    exact h2

theorem cut_part {x R : ByteArray} {base a b : Nat} (hR : ∀ i, i < R.size → bt x (base + i) = bt R i) (hx : base + R.size ≤ x.size) (hb : b ≤ R.size) : x.extract (base + a) (base + b) = R.extract a b := by
  refine bt_ext (by rw [ByteArray.size_extract, ByteArray.size_extract]; omega) fun j hj => ?_
  rw [ByteArray.size_extract] at hj
  rw [bt_cut x _ _ j (by omega) (by omega), bt_cut R a b j (by omega) hb, Nat.add_assoc]
  exact hR _ (by omega)

theorem Asked.opn {x w : ByteArray} {c : Int} (h : Asked x w c) : Opn x 2 1 := by
  have hz := h.size
  refine ⟨by omega, ?_, ?_, Or.inl ⟨rfl, rfl⟩⟩
  · have := h.pre 0 (by decide)
    rw [Nat.zero_add] at this
    rw [this]; decide
  · have := h.pre 1 (by decide)
    rw [Nat.zero_add] at this
    rw [this]; decide

/-- The first attribute. -/
theorem Asked.one {x w : ByteArray} {c : Int} (h : Asked x w c) (hw : ∀ j, j < w.size → ¬ bt w j = 34 ∧ ¬ bt w j = 39) : aF x 3 = ((⟨#[105, 100]⟩, allF w true 0), 8 + w.size, 1) := by
  have hz := h.size
  have hp : PRE.size = 6 := rfl
  have hx : 0 + PRE.size ≤ x.size := by omega
  have u1 : untilF x NE 4 = 5 := fs_part (base := 0) (a := 4) (b := 5) (inS NE) h.pre hx (by decide) (by decide) (by decide +kernel) (by decide +kernel)
  have u2 : skipF x 5 = 5 := fs_part (base := 0) (a := 5) (b := 5) (fun z => !isSp z) h.pre hx (by decide) (by decide) (by decide +kernel) (by decide +kernel)
  have hc : (!isSp c) = true ∧ ¬ c = 62 := by rcases h.sign with rfl | rfl <;> decide
  have u3 : skipF x 6 = 6 := fs_eq ⟨Nat.le_refl _, by omega, fun j a b => by omega, fun _ => by show (!isSp (bt x 6)) = true; rw [h.q1]; exact hc.1⟩
  have e1 : st x 5 EQ = true := eq_is.2 ⟨by omega, by have := h.pre 5 (by decide); rw [Nat.zero_add] at this; rw [this]; decide⟩
  have hby : byF x c 7 = 7 + w.size := by
    refine fs_eq ⟨by omega, by omega, fun j a b => ?_, fun _ => decide_eq_true h.q2⟩
    obtain ⟨i, rfl⟩ : ∃ i, j = 7 + i := ⟨j - 7, by omega⟩
    refine decide_eq_false fun e => ?_
    rw [h.val i (by omega)] at e
    have := hw i (by omega)
    rcases h.sign with rfl | rfl
    · exact this.1 e
    · exact this.2 e
  have hcut : x.extract 7 (7 + w.size) = w := by
    refine bt_ext (by rw [ByteArray.size_extract]; omega) fun j hj => ?_
    rw [ByteArray.size_extract] at hj
    rw [bt_cut x 7 _ j (by omega) (by omega)]
    exact h.val j (by omega)
  have hv : vF x 6 = (allF w true 0, 8 + w.size, 1) := by
    rw [vF_quote (by omega) (by rw [h.q1]; exact h.sign), h.q1, show 6 + 1 = 7 from rfl, hby, if_neg (by omega), hcut, show 7 + w.size + 1 = 8 + w.size by omega]
  have hnm : lower (x.extract 3 5) = ⟨#[105, 100]⟩ := by
    have := cut_part (base := 0) (a := 3) (b := 5) h.pre hx (by decide)
    rw [Nat.zero_add, Nat.zero_add] at this
    rw [this]
    decide +kernel
  unfold aF
  rw [show 3 + 1 = 4 from rfl, u1, if_neg (by omega), u2, if_neg (by rw [e1]; simp), show 5 + 1 = 6 from rfl, u3, hv, if_neg (by show ¬ (1 : Int) = 0; decide), hnm]

/-- A bare attribute in a part that is known: the name from a to b, the value from b + 1 to d. -/
theorem bare_part {x R : ByteArray} {base a b d : Nat} (hR : ∀ i, i < R.size → bt x (base + i) = bt R i) (hx : base + R.size ≤ x.size) (nm vl : ByteArray)
    (hd : d < R.size) (hab : a + 1 ≤ b) (hbd : b + 1 < d)
    (n1 : ∀ i, i < b → a + 1 ≤ i → inS NE (bt R i) = false) (n2 : bt R b = 61)
    (v0 : isSp (bt R (b + 1)) = false) (v1 : ¬ bt R (b + 1) = 62) (v2 : ¬ bt R (b + 1) = 34) (v3 : ¬ bt R (b + 1) = 39)
    (v4 : ∀ i, i < d → b + 1 ≤ i → inS VE (bt R i) = false) (v5 : inS VE (bt R d) = true)
    (hnm : lower (R.extract a b) = nm) (hvl : allF (R.extract (b + 1) d) true 0 = vl) : aF x (base + a) = ((nm, vl), base + d, 1) := by
  have hbe : inS NE 61 = true := by decide +kernel
  have u1 : untilF x NE (base + a + 1) = base + b := fs_part (a := a + 1) (inS NE) hR hx (by omega) hab n1 (by rw [n2]; exact hbe)
  have u2 : skipF x (base + b) = base + b := fs_part (a := b) (fun z => !isSp z) hR hx (by omega) (Nat.le_refl _) (fun i g1 g2 => by omega) (by rw [n2]; decide)
  have u3 : skipF x (base + b + 1) = base + (b + 1) := fs_part (a := b + 1) (fun z => !isSp z) hR hx (by omega) (Nat.le_refl _) (fun i g1 g2 => by omega) (by rw [v0]; rfl)
  have u4 : untilF x VE (base + (b + 1)) = base + d := fs_part (a := b + 1) (inS VE) hR hx hd (by omega) v4 v5
  have e1 : st x (base + b) EQ = true := eq_is.2 ⟨by omega, by rw [hR b (by omega)]; exact n2⟩
  have hv : vF x (base + (b + 1)) = (vl, base + d, 1) := by
    have e := hR (b + 1) (by omega)
    rw [vF_bare (by omega) (fun g => v1 (by rw [← e]; exact g.2)) (fun g => v2 (by rw [← e]; exact g.2)) (fun g => v3 (by rw [← e]; exact g.2)), u4, if_neg (by omega), cut_part hR hx (by omega), hvl]
  unfold aF
  rw [u1, if_neg (by omega), u2, if_neg (by rw [e1]; simp), u3, hv, if_neg (by show ¬ (1 : Int) = 0; decide), cut_part hR hx (by omega), hnm]

/-- What the tag is. -/
theorem Asked.tag {x w v : ByteArray} {c : Int} (h : Asked x w c) (hw : ∀ j, j < w.size → ¬ bt w j = 34 ∧ ¬ bt w j = 39) (hv : allF w true 0 = v) :
    tagF x 0 = ((2, ⟨#[97]⟩, [(⟨#[105, 100]⟩, v), (⟨#[98]⟩, ⟨#[99]⟩)], false, ⟨#[]⟩), (x.size : Int), true) := by
  have hz := h.size
  have hp : PRE.size = 6 := rfl
  have ho : POST.size = 14 := rfl
  have hx : 0 + PRE.size ≤ x.size := by omega
  have hy : 8 + w.size + POST.size ≤ x.size := by omega
  have nm : nameF x 1 = 2 := fs_part (base := 0) (a := 1) (b := 2) enN h.pre hx (by decide) (by decide) (by decide +kernel) (by decide +kernel)
  have s1 : skipF x 2 = 3 := fs_part (base := 0) (a := 2) (b := 3) (fun z => !isSp z) h.pre hx (by decide) (by decide) (by decide +kernel) (by decide +kernel)
  have s2 : skipF x (8 + w.size) = 8 + w.size + 1 := fs_part (a := 0) (b := 1) (fun z => !isSp z) h.post hy (by decide) (by decide) (by decide +kernel) (by decide +kernel)
  have s3 : skipF x (8 + w.size + 9) = 8 + w.size + 10 := fs_part (a := 9) (b := 10) (fun z => !isSp z) h.post hy (by decide) (by decide) (by decide +kernel) (by decide +kernel)
  have s4 : skipF x (8 + w.size + 13) = 8 + w.size + 13 := fs_part (a := 13) (b := 13) (fun z => !isSp z) h.post hy (by decide) (by decide) (by decide +kernel) (by decide +kernel)
  have a1 := h.one hw
  rw [hv] at a1
  have a2 : aF x (8 + w.size + 1) = ((⟨#[105, 100]⟩, ⟨#[111, 116, 104, 101, 114]⟩), 8 + w.size + 9, 1) := bare_part (a := 1) (b := 3) (d := 9) h.post hy _ _ (by decide) (by decide) (by decide) (by decide +kernel) (by decide) (by decide) (by decide) (by decide) (by decide) (by decide +kernel) (by decide +kernel) (by decide +kernel) (by decide +kernel)
  have a3 : aF x (8 + w.size + 10) = ((⟨#[98]⟩, ⟨#[99]⟩), 8 + w.size + 13, 1) := bare_part (a := 10) (b := 11) (d := 13) h.post hy _ _ (by decide) (by decide) (by decide) (by decide +kernel) (by decide) (by decide) (by decide) (by decide) (by decide) (by decide +kernel) (by decide +kernel) (by decide +kernel) (by decide +kernel)
  have b1 : bt x 3 = 105 := by have := h.pre 3 (by decide); rw [Nat.zero_add] at this; rw [this]; decide
  have b2 : bt x (8 + w.size + 1) = 73 := by rw [h.post 1 (by decide)]; decide
  have b3 : bt x (8 + w.size + 10) = 98 := by rw [h.post 10 (by decide)]; decide
  have b4 : bt x (8 + w.size + 13) = 62 := by rw [h.post 13 (by decide)]; decide
  have hin : inF x 2 [] = ([(⟨#[105, 100]⟩, v), (⟨#[105, 100]⟩, ⟨#[111, 116, 104, 101, 114]⟩), (⟨#[98]⟩, ⟨#[99]⟩)], false, x.size) := by
    rw [in_attr (by omega) s1 (by omega) (by rw [b1]; decide) (by rw [b1]; decide), a1, if_neg (by show ¬ (1 : Int) = 0; decide), if_neg (by show ¬ (1 : Int) = 2; decide)]
    show inF x (8 + w.size) ([] ++ [_]) = _
    rw [in_attr (by omega) s2 (by omega) (by rw [b2]; decide) (by rw [b2]; decide), a2, if_neg (by show ¬ (1 : Int) = 0; decide), if_neg (by show ¬ (1 : Int) = 2; decide)]
    show inF x (8 + w.size + 9) (([] ++ [_]) ++ [_]) = _
    rw [in_attr (by omega) s3 (by omega) (by rw [b3]; decide) (by rw [b3]; decide), a3, if_neg (by show ¬ (1 : Int) = 0; decide), if_neg (by show ¬ (1 : Int) = 2; decide)]
    show inF x (8 + w.size + 13) ((([] ++ [_]) ++ [_]) ++ [_]) = _
    rw [in_gt (by omega) s4 (by omega) b4, show 8 + w.size + 13 + 1 = x.size by omega]
    rfl
  have hun : uniq [((⟨#[105, 100]⟩, v) : Att), (⟨#[105, 100]⟩, ⟨#[111, 116, 104, 101, 114]⟩), (⟨#[98]⟩, ⟨#[99]⟩)] = [(⟨#[105, 100]⟩, v), (⟨#[98]⟩, ⟨#[99]⟩)] := by
    have g1 : hasN [] (⟨#[105, 100]⟩ : ByteArray) = false := rfl
    have g2 : hasN [((⟨#[105, 100]⟩, v) : Att)] (⟨#[105, 100]⟩ : ByteArray) = true := by
      unfold hasN
      rw [getF_one, if_pos (eqs_refl _)]
      rfl
    have g3 : hasN [((⟨#[105, 100]⟩, v) : Att)] (⟨#[98]⟩ : ByteArray) = false := by
      unfold hasN
      rw [getF_one, if_neg (by show ¬ eqs ⟨#[105, 100]⟩ ⟨#[98]⟩ = true; decide +kernel)]
      rfl
    show add (add (add [] (⟨#[105, 100]⟩, v)) (⟨#[105, 100]⟩, ⟨#[111, 116, 104, 101, 114]⟩)) (⟨#[98]⟩, ⟨#[99]⟩) = _
    rw [show add [] ((⟨#[105, 100]⟩, v) : Att) = [(⟨#[105, 100]⟩, v)] from rfl]
    rw [show add [((⟨#[105, 100]⟩, v) : Att)] (⟨#[105, 100]⟩, ⟨#[111, 116, 104, 101, 114]⟩) = [(⟨#[105, 100]⟩, v)] by unfold add; rw [if_pos g2]]
    unfold add
    rw [if_neg (by rw [g3]; simp)]
    rfl
  have hnm : lower (x.extract 1 2) = ⟨#[97]⟩ := by
    have := cut_part (base := 0) (a := 1) (b := 2) h.pre hx (by decide)
    rw [Nat.zero_add, Nat.zero_add] at this
    rw [this]
    decide +kernel
  rw [h.opn.tag]
  unfold wholeF
  rw [nm, hin, if_neg (by show ¬ x.size = 0; omega), if_pos rfl, hnm, hun]

end Go.Proofs.YtgebdaanglmnnaaDoor
