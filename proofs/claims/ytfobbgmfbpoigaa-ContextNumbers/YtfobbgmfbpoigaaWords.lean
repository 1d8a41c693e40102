/-
  The names of chapter 6, as rows of bytes, and what it is to be among them: no program.
-/
import Derived.WalkKit
import Derived.KernelRfl
namespace Go.Proofs.Ytfobbgmfbpoigaa
open Go.RowKit
def VOID : List (List UInt8) := [[97, 114, 101, 97], [98, 97, 115, 101], [98, 114], [99, 111, 108], [101, 109, 98, 101, 100], [104, 114], [105, 109, 103], [105, 110, 112, 117, 116], [108, 105, 110, 107], [109, 101, 116, 97], [115, 111, 117, 114, 99, 101], [119, 98, 114]]
def FORM : List (List UInt8) := [[97], [98], [99, 111, 100, 101], [101, 109], [102, 111, 110, 116], [105], [110, 111, 98, 114], [115, 109, 97, 108, 108], [115, 116, 114, 111, 110, 103], [117]]
def HEAD : List (List UInt8) := [[104, 49], [104, 50], [104, 51], [104, 52], [104, 53], [104, 54]]
def BLOCK : List (List UInt8) := [[97, 100, 100, 114, 101, 115, 115], [97, 114, 116, 105, 99, 108, 101], [98, 108, 111, 99, 107, 113, 117, 111, 116, 101], [99, 101, 110, 116, 101, 114], [100, 105, 118], [100, 108], [109, 97, 105, 110], [110, 97, 118], [111, 108], [115, 101, 99, 116, 105, 111, 110], [117, 108]]
def BESIDE : List (List UInt8) := [[97, 112, 112, 108, 101, 116], [98, 111, 100, 121], [98, 117, 116, 116, 111, 110], [100, 100], [100, 116], [102, 111, 114, 109], [104, 101, 97, 100], [104, 116, 109, 108], [108, 105], [109, 97, 114, 113, 117, 101, 101], [111, 98, 106, 101, 99, 116], [112], [112, 108, 97, 105, 110, 116, 101, 120, 116], [112, 114, 101], [115, 99, 114, 105, 112, 116], [115, 116, 121, 108, 101], [116, 97, 98, 108, 101], [116, 98, 111, 100, 121], [116, 100], [116, 101, 109, 112, 108, 97, 116, 101], [116, 101, 120, 116, 97, 114, 101, 97], [116, 102, 111, 111, 116], [116, 104], [116, 104, 101, 97, 100], [116, 105, 116, 108, 101], [116, 114], [120, 109, 112]]
def IMPL : List (List UInt8) := [[100, 100], [100, 116], [108, 105], [112]]
def PARTS : List (List UInt8) := [[116, 98, 111, 100, 121], [116, 100], [116, 102, 111, 111, 116], [116, 104], [116, 104, 101, 97, 100], [116, 114]]
def BOUND : List (List UInt8) := [[97, 112, 112, 108, 101, 116], [104, 116, 109, 108], [109, 97, 114, 113, 117, 101, 101], [111, 98, 106, 101, 99, 116], [116, 97, 98, 108, 101], [116, 100], [116, 101, 109, 112, 108, 97, 116, 101], [116, 104]]
def POINT : List (List UInt8) := [[102, 111, 114, 101, 105, 103, 110, 79, 98, 106, 101, 99, 116], [100, 101, 115, 99], [116, 105, 116, 108, 101]]
def BREAK : List (List UInt8) := [[98], [98, 108, 111, 99, 107, 113, 117, 111, 116, 101], [98, 111, 100, 121], [98, 114], [99, 101, 110, 116, 101, 114], [99, 111, 100, 101], [100, 100], [100, 105, 118], [100, 108], [100, 116], [101, 109], [101, 109, 98, 101, 100], [104, 101, 97, 100], [104, 114], [105], [105, 109, 103], [108, 105], [109, 101, 116, 97], [110, 111, 98, 114], [111, 108], [112], [112, 114, 101], [115, 109, 97, 108, 108], [115, 116, 114, 111, 110, 103], [116, 97, 98, 108, 101], [117], [117, 108]]
def FROM : List (List UInt8) := [[102, 111, 114, 101, 105, 103, 110, 111, 98, 106, 101, 99, 116], [118, 105, 101, 119, 98, 111, 120], [99, 108, 105, 112, 112, 97, 116, 104], [108, 105, 110, 101, 97, 114, 103, 114, 97, 100, 105, 101, 110, 116], [116, 101, 120, 116, 112, 97, 116, 104], [112, 114, 101, 115, 101, 114, 118, 101, 97, 115, 112, 101, 99, 116, 114, 97, 116, 105, 111]]
def TO : List (List UInt8) := [[102, 111, 114, 101, 105, 103, 110, 79, 98, 106, 101, 99, 116], [118, 105, 101, 119, 66, 111, 120], [99, 108, 105, 112, 80, 97, 116, 104], [108, 105, 110, 101, 97, 114, 71, 114, 97, 100, 105, 101, 110, 116], [116, 101, 120, 116, 80, 97, 116, 104], [112, 114, 101, 115, 101, 114, 118, 101, 65, 115, 112, 101, 99, 116, 82, 97, 116, 105, 111]]

/-- The text s is one of these. -/
def has (L : List (List UInt8)) (s : ByteArray) : Bool := L.any fun x => s.toList == x

theorem has_append (L M : List (List UInt8)) (s : ByteArray) : has (L ++ M) s = (has L s || has M s) := by simp [has]

theorem has_iff (L : List (List UInt8)) (s : ByteArray) : has L s = true ↔ s.toList ∈ L := by
  rw [has, List.any_eq_true]
  constructor
  · rintro ⟨x, hx, he⟩
    rw [eq_of_beq he]
    exact hx
  · intro h
    exact ⟨_, h, by simp⟩

/-- No text is one of both. -/
theorem has_apart {L M : List (List UInt8)} (h : ∀ x, x ∈ L → x ∉ M) (s : ByteArray) (hs : has L s = true) : has M s = false := by
  cases hm : has M s
  · rfl
  · exact absurd ((has_iff M s).1 hm) (h _ ((has_iff L s).1 hs))

/-- The text of these bytes. -/
def txt (l : List UInt8) : ByteArray := ⟨l.toArray⟩

theorem toList_txt (l : List UInt8) : (txt l).toList = l := by simp [txt]

theorem txt_toList (s : ByteArray) : txt s.toList = s := by
  apply ByteArray.ext
  simp [txt, ByteArray.toList_eq]

theorem toList_inj {s t : ByteArray} (h : s.toList = t.toList) : s = t := by rw [← txt_toList s, h, txt_toList]

def SPECIAL : List (List UInt8) := BLOCK ++ (HEAD ++ (VOID ++ BESIDE))

def point (ns : Int) (s : ByteArray) : Bool := (ns == 2) && has POINT s
def bound (ns : Int) (s : ByteArray) : Bool := if ns = 1 then has BOUND s else point ns s
def special (ns : Int) (s : ByteArray) : Bool := if ns = 1 then has SPECIAL s else point ns s
def thorough (s : ByteArray) : Bool := has PARTS s || has IMPL s
def breakout (s : ByteArray) : Bool := has BREAK s || has HEAD s

/-- The first of these pairs whose left side is s: its right side; else s. -/
def fixIn (s : ByteArray) : List (List UInt8 × List UInt8) → ByteArray
  | [] => s
  | (a, b) :: r => if s.toList == a then txt b else fixIn s r

def fix (s : ByteArray) : ByteArray := fixIn s (FROM.zip TO)

def RCD : List (List UInt8) := [[116, 101, 120, 116, 97, 114, 101, 97], [116, 105, 116, 108, 101]]
def RWT : List (List UInt8) := [[115, 99, 114, 105, 112, 116], [115, 116, 121, 108, 101], [120, 109, 112]]
def NOS : List UInt8 := [110, 111, 115, 99, 114, 105, 112, 116]
def PLN : List UInt8 := [112, 108, 97, 105, 110, 116, 101, 120, 116]

/-- The mode behind a start of that name. -/
def raw (s : ByteArray) (b : Bool) : Int :=
  if has RCD s then 2 else if has RWT s then 3 else if s.toList == NOS then (if b then 3 else 1) else if s.toList == PLN then 4 else 1

theorem fixIn_not (s : ByteArray) : ∀ l : List (List UInt8 × List UInt8), s.toList ∉ l.map (·.1) → fixIn s l = s
  | [], _ => rfl
  | (a, b) :: r, h => by
    simp only [List.map_cons, List.mem_cons, not_or] at h
    rw [fixIn, if_neg (by simpa using h.1)]
    exact fixIn_not s r h.2

theorem fixIn_in (s : ByteArray) : ∀ l : List (List UInt8 × List UInt8), fixIn s l = s ∨ ∃ x, x ∈ l ∧ fixIn s l = txt x.2
  | [] => Or.inl rfl
  | (a, b) :: r => by
    rw [fixIn]
    split
    · exact Or.inr ⟨(a, b), by simp, rfl⟩
    · rcases fixIn_in s r with h | ⟨x, hx, h⟩
      · exact Or.inl h
      · exact Or.inr ⟨x, by simp [hx], h⟩

theorem to_stays : ∀ x, x ∈ FROM.zip TO → x.2 ∉ (FROM.zip TO).map (·.1) := by decide +kernel

/-- What is fixed stays. -/
theorem fix_fix (s : ByteArray) : fix (fix s) = fix s := by
  rcases fixIn_in s (FROM.zip TO) with h | ⟨x, hx, h⟩
  · show fix (fixIn s (FROM.zip TO)) = _
    rw [h]
  · show fix (fixIn s (FROM.zip TO)) = fixIn s (FROM.zip TO)
    rw [h]
    exact fixIn_not _ _ (by rw [toList_txt]; exact to_stays x hx)

theorem to_size : ∀ x, x ∈ FROM.zip TO → x.2.length ≤ 100 := by decide +kernel

theorem fix_size (s : ByteArray) (h : s.size ≤ 1000) : (fix s).size ≤ 1000 := by
  rcases fixIn_in s (FROM.zip TO) with h1 | ⟨x, hx, h1⟩
  · show (fixIn s (FROM.zip TO)).size ≤ _
    rw [h1]
    exact h
  · show (fixIn s (FROM.zip TO)).size ≤ _
    rw [h1]
    have h2 := to_size x hx
    show x.2.toArray.size ≤ _
    simp
    omega

theorem special_of (s : ByteArray) : (has BLOCK s || (has HEAD s || has VOID s)) = true → special 1 s = true := by
  intro h
  unfold special
  rw [if_pos rfl, SPECIAL, has_append, has_append, has_append]
  revert h
  cases has BLOCK s <;> cases has HEAD s <;> cases has VOID s <;> simp

theorem form_apart : ∀ x, x ∈ FORM → x ∉ SPECIAL := by decide +kernel
theorem rcd_apart : ∀ x, x ∈ RCD → x ∉ VOID := by decide +kernel
theorem rwt_apart : ∀ x, x ∈ RWT → x ∉ VOID := by decide +kernel
theorem nos_apart : ∀ x, x ∈ [NOS] → x ∉ VOID := by decide +kernel
theorem pln_apart : ∀ x, x ∈ [PLN] → x ∉ VOID := by decide +kernel

theorem form_not (s : ByteArray) (h : has FORM s = true) : special 1 s = false := by
  unfold special
  rw [if_pos rfl]
  exact has_apart form_apart s h

theorem raw_void (s : ByteArray) (h : has VOID s = true) : raw s true = 1 := by
  have h1 : has RCD s = false := by
    cases hm : has RCD s
    · rfl
    · exact absurd ((has_apart rcd_apart s hm).symm.trans h) (by decide)
  have h2 : has RWT s = false := by
    cases hm : has RWT s
    · rfl
    · exact absurd ((has_apart rwt_apart s hm).symm.trans h) (by decide)
  have h3 : has [NOS] s = false := by
    cases hm : has [NOS] s
    · rfl
    · exact absurd ((has_apart nos_apart s hm).symm.trans h) (by decide)
  have h4 : has [PLN] s = false := by
    cases hm : has [PLN] s
    · rfl
    · exact absurd ((has_apart pln_apart s hm).symm.trans h) (by decide)
  simp only [has, List.any_cons, List.any_nil, Bool.or_false] at h3 h4
  unfold raw
  rw [h1, h2, h3, h4]
  rfl

theorem rcd_nos : ∀ x, x ∈ RCD → x ∉ [NOS, PLN] := by decide +kernel
theorem rwt_nos : ∀ x, x ∈ RWT → x ∉ [NOS, PLN] := by decide +kernel

/-- All that NamesRaw asks of a text. -/
theorem raw_told (s : ByteArray) :
    (raw s true != raw s false) = (s.toList == NOS) ∧ 1 ≤ raw s true ∧ raw s true ≤ 4 ∧ 1 ≤ raw s false ∧ raw s false ≤ 4 ∧ (raw s true == 4) = (s.toList == PLN) := by
  cases h1 : has RCD s
  · cases h2 : has RWT s
    · cases h3 : s.toList == NOS
      · cases h4 : s.toList == PLN <;> simp [raw, h1, h2, h3, h4]
      · have h4 : (s.toList == PLN) = false := by
          rw [eq_of_beq h3]
          decide +kernel
        simp [raw, h1, h2, h3, h4]
    · have h3 := has_apart rwt_nos s h2
      simp only [has, List.any_cons, List.any_nil, Bool.or_false, Bool.or_eq_false_iff] at h3
      simp [raw, h1, h2, h3.1, h3.2]
  · have h3 := has_apart rcd_nos s h1
    simp only [has, List.any_cons, List.any_nil, Bool.or_false, Bool.or_eq_false_iff] at h3
    simp [raw, h1, h3.1, h3.2]

end Go.Proofs.Ytfobbgmfbpoigaa
