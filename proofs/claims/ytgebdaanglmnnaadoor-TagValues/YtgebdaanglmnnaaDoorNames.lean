/-
  Names of characters, as lists; what the program and the document find of them is the same: no program is spoken of here.
-/
import Derived.Test.YtgebdaanglmnnaaDoorBase
namespace Go.Proofs.YtgebdaanglmnnaaDoor
open Go.RowKit Utf

/-- The names, rising. -/
def NM : List ByteArray := [⟨#[65, 77, 80]⟩, ⟨#[65, 77, 80, 59]⟩, ⟨#[67, 79, 80, 89]⟩, ⟨#[67, 79, 80, 89, 59]⟩, ⟨#[71, 84]⟩, ⟨#[71, 84, 59]⟩, ⟨#[76, 84]⟩, ⟨#[76, 84, 59]⟩, ⟨#[78, 111, 116, 69, 113, 117, 97, 108, 84, 105, 108, 100, 101, 59]⟩, ⟨#[81, 85, 79, 84]⟩, ⟨#[81, 85, 79, 84, 59]⟩, ⟨#[97, 109, 112]⟩, ⟨#[97, 109, 112, 59]⟩, ⟨#[97, 112, 111, 115, 59]⟩, ⟨#[99, 101, 110, 116, 59]⟩, ⟨#[99, 111, 112, 121]⟩, ⟨#[99, 111, 112, 121, 59]⟩, ⟨#[100, 101, 103]⟩, ⟨#[100, 101, 103, 59]⟩, ⟨#[101, 97, 99, 117, 116, 101]⟩, ⟨#[101, 97, 99, 117, 116, 101, 59]⟩, ⟨#[103, 116]⟩, ⟨#[103, 116, 59]⟩, ⟨#[104, 101, 108, 108, 105, 112, 59]⟩, ⟨#[108, 97, 113, 117, 111]⟩, ⟨#[108, 97, 113, 117, 111, 59]⟩, ⟨#[108, 116]⟩, ⟨#[108, 116, 59]⟩, ⟨#[109, 100, 97, 115, 104, 59]⟩, ⟨#[110, 98, 115, 112]⟩, ⟨#[110, 98, 115, 112, 59]⟩, ⟨#[110, 100, 97, 115, 104, 59]⟩, ⟨#[110, 111, 116]⟩, ⟨#[110, 111, 116, 59]⟩, ⟨#[110, 111, 116, 105, 110, 59]⟩, ⟨#[111, 117, 109, 108]⟩, ⟨#[111, 117, 109, 108, 59]⟩, ⟨#[113, 117, 111, 116]⟩, ⟨#[113, 117, 111, 116, 59]⟩, ⟨#[114, 97, 113, 117, 111]⟩, ⟨#[114, 97, 113, 117, 111, 59]⟩, ⟨#[114, 101, 103]⟩, ⟨#[114, 101, 103, 59]⟩, ⟨#[115, 122, 108, 105, 103]⟩, ⟨#[115, 122, 108, 105, 103, 59]⟩, ⟨#[116, 105, 109, 101, 115]⟩, ⟨#[116, 105, 109, 101, 115, 59]⟩, ⟨#[117, 117, 109, 108]⟩, ⟨#[117, 117, 109, 108, 59]⟩, ⟨#[121, 101, 110]⟩, ⟨#[121, 101, 110, 59]⟩]
/-- What each stands for. -/
def MN : List ByteArray := [⟨#[38]⟩, ⟨#[38]⟩, ⟨#[194, 169]⟩, ⟨#[194, 169]⟩, ⟨#[62]⟩, ⟨#[62]⟩, ⟨#[60]⟩, ⟨#[60]⟩, ⟨#[226, 137, 130, 204, 184]⟩, ⟨#[34]⟩, ⟨#[34]⟩, ⟨#[38]⟩, ⟨#[38]⟩, ⟨#[39]⟩, ⟨#[194, 162]⟩, ⟨#[194, 169]⟩, ⟨#[194, 169]⟩, ⟨#[194, 176]⟩, ⟨#[194, 176]⟩, ⟨#[195, 169]⟩, ⟨#[195, 169]⟩, ⟨#[62]⟩, ⟨#[62]⟩, ⟨#[226, 128, 166]⟩, ⟨#[194, 171]⟩, ⟨#[194, 171]⟩, ⟨#[60]⟩, ⟨#[60]⟩, ⟨#[226, 128, 148]⟩, ⟨#[194, 160]⟩, ⟨#[194, 160]⟩, ⟨#[226, 128, 147]⟩, ⟨#[194, 172]⟩, ⟨#[194, 172]⟩, ⟨#[226, 136, 137]⟩, ⟨#[195, 182]⟩, ⟨#[195, 182]⟩, ⟨#[34]⟩, ⟨#[34]⟩, ⟨#[194, 187]⟩, ⟨#[194, 187]⟩, ⟨#[194, 174]⟩, ⟨#[194, 174]⟩, ⟨#[195, 159]⟩, ⟨#[195, 159]⟩, ⟨#[195, 151]⟩, ⟨#[195, 151]⟩, ⟨#[195, 188]⟩, ⟨#[195, 188]⟩, ⟨#[194, 165]⟩, ⟨#[194, 165]⟩]
/-- The document's table: each name, and what it stands for. -/
def TB : List ByteArray := [⟨#[65, 77, 80]⟩, ⟨#[38]⟩, ⟨#[65, 77, 80, 59]⟩, ⟨#[38]⟩, ⟨#[67, 79, 80, 89]⟩, ⟨#[194, 169]⟩, ⟨#[67, 79, 80, 89, 59]⟩, ⟨#[194, 169]⟩, ⟨#[71, 84]⟩, ⟨#[62]⟩, ⟨#[71, 84, 59]⟩, ⟨#[62]⟩, ⟨#[76, 84]⟩, ⟨#[60]⟩, ⟨#[76, 84, 59]⟩, ⟨#[60]⟩, ⟨#[78, 111, 116, 69, 113, 117, 97, 108, 84, 105, 108, 100, 101, 59]⟩, ⟨#[226, 137, 130, 204, 184]⟩, ⟨#[81, 85, 79, 84]⟩, ⟨#[34]⟩, ⟨#[81, 85, 79, 84, 59]⟩, ⟨#[34]⟩, ⟨#[97, 109, 112]⟩, ⟨#[38]⟩, ⟨#[97, 109, 112, 59]⟩, ⟨#[38]⟩, ⟨#[97, 112, 111, 115, 59]⟩, ⟨#[39]⟩, ⟨#[99, 101, 110, 116, 59]⟩, ⟨#[194, 162]⟩, ⟨#[99, 111, 112, 121]⟩, ⟨#[194, 169]⟩, ⟨#[99, 111, 112, 121, 59]⟩, ⟨#[194, 169]⟩, ⟨#[100, 101, 103]⟩, ⟨#[194, 176]⟩, ⟨#[100, 101, 103, 59]⟩, ⟨#[194, 176]⟩, ⟨#[101, 97, 99, 117, 116, 101]⟩, ⟨#[195, 169]⟩, ⟨#[101, 97, 99, 117, 116, 101, 59]⟩, ⟨#[195, 169]⟩, ⟨#[103, 116]⟩, ⟨#[62]⟩, ⟨#[103, 116, 59]⟩, ⟨#[62]⟩, ⟨#[104, 101, 108, 108, 105, 112, 59]⟩, ⟨#[226, 128, 166]⟩, ⟨#[108, 97, 113, 117, 111]⟩, ⟨#[194, 171]⟩, ⟨#[108, 97, 113, 117, 111, 59]⟩, ⟨#[194, 171]⟩, ⟨#[108, 116]⟩, ⟨#[60]⟩, ⟨#[108, 116, 59]⟩, ⟨#[60]⟩, ⟨#[109, 100, 97, 115, 104, 59]⟩, ⟨#[226, 128, 148]⟩, ⟨#[110, 98, 115, 112]⟩, ⟨#[194, 160]⟩, ⟨#[110, 98, 115, 112, 59]⟩, ⟨#[194, 160]⟩, ⟨#[110, 100, 97, 115, 104, 59]⟩, ⟨#[226, 128, 147]⟩, ⟨#[110, 111, 116]⟩, ⟨#[194, 172]⟩, ⟨#[110, 111, 116, 59]⟩, ⟨#[194, 172]⟩, ⟨#[110, 111, 116, 105, 110, 59]⟩, ⟨#[226, 136, 137]⟩, ⟨#[111, 117, 109, 108]⟩, ⟨#[195, 182]⟩, ⟨#[111, 117, 109, 108, 59]⟩, ⟨#[195, 182]⟩, ⟨#[113, 117, 111, 116]⟩, ⟨#[34]⟩, ⟨#[113, 117, 111, 116, 59]⟩, ⟨#[34]⟩, ⟨#[114, 97, 113, 117, 111]⟩, ⟨#[194, 187]⟩, ⟨#[114, 97, 113, 117, 111, 59]⟩, ⟨#[194, 187]⟩, ⟨#[114, 101, 103]⟩, ⟨#[194, 174]⟩, ⟨#[114, 101, 103, 59]⟩, ⟨#[194, 174]⟩, ⟨#[115, 122, 108, 105, 103]⟩, ⟨#[195, 159]⟩, ⟨#[115, 122, 108, 105, 103, 59]⟩, ⟨#[195, 159]⟩, ⟨#[116, 105, 109, 101, 115]⟩, ⟨#[195, 151]⟩, ⟨#[116, 105, 109, 101, 115, 59]⟩, ⟨#[195, 151]⟩, ⟨#[117, 117, 109, 108]⟩, ⟨#[195, 188]⟩, ⟨#[117, 117, 109, 108, 59]⟩, ⟨#[195, 188]⟩, ⟨#[121, 101, 110]⟩, ⟨#[194, 165]⟩, ⟨#[121, 101, 110, 59]⟩, ⟨#[194, 165]⟩]
/-- What stands for the numbers from 128 to 159. -/
def INS : List Int := [8364, 129, 8218, 402, 8222, 8230, 8224, 8225, 710, 8240, 352, 8249, 338, 141, 381, 143, 144, 8216, 8217, 8220, 8221, 8226, 8211, 8212, 732, 8482, 353, 8250, 339, 157, 382, 376]
/-- The document's list of these: 0 where a number stands for itself. -/
def INZ : List Int := [8364, 0, 8218, 402, 8222, 8230, 8224, 8225, 710, 8240, 352, 8249, 338, 0, 381, 0, 0, 8216, 8217, 8220, 8221, 8226, 8211, 8212, 732, 8482, 353, 8250, 339, 0, 382, 376]

/-- The text x is the beginning of s. -/
def pre (x s : ByteArray) : Bool := decide (x.size ≤ s.size) && ((s.extract 0 x.size).toList == x.toList)
/-- The text s stands ahead of x. -/
def less (s x : ByteArray) : Bool := Op.bytesLess s.toList x.toList

theorem pre_iff (x s : ByteArray) : pre x s = true ↔ x.data.toList <+: s.data.toList := by
  unfold pre
  rw [ByteArray.toList_eq, ByteArray.toList_eq, Bool.and_eq_true, decide_eq_true_eq, beq_iff_eq]
  have he : (s.extract 0 x.size).data.toList = s.data.toList.take x.size := by simp
  rw [he]
  have hl : x.size = x.data.toList.length := by simp
  constructor
  · rintro ⟨_, h⟩
    rw [← h]
    exact List.take_prefix _ _
  · intro h
    refine ⟨?_, ?_⟩
    · have := h.length_le
      simpa using this
    · rw [hl]
      exact (List.prefix_iff_eq_take.1 h).symm

theorem not_less_prefix : ∀ {x s : List UInt8}, x <+: s → Op.bytesLess s x = false
  | [], s, _ => by cases s <;> rfl
  | a :: x, [], h => by simp at h
  | a :: x, b :: s, h => by
    rw [List.cons_prefix_cons] at h
    obtain ⟨rfl, h⟩ := h
    simp [Op.bytesLess, not_less_prefix h]

theorem less_trans : ∀ {x y z : List UInt8}, Op.bytesLess x y = true → Op.bytesLess y z = true → Op.bytesLess x z = true
  | _, [], _, h, _ => by simp [Op.bytesLess] at h
  | _, _ :: _, [], _, h => by simp [Op.bytesLess] at h
  | [], _ :: _, _ :: _, _, _ => by simp [Op.bytesLess]
  | a :: x, b :: y, c :: z, h, k => by
    simp only [Op.bytesLess, Bool.or_eq_true, decide_eq_true_eq, Bool.and_eq_true, beq_iff_eq] at h k ⊢
    rcases h with h | ⟨rfl, h⟩
    · rcases k with k | ⟨rfl, k⟩
      · exact Or.inl (UInt8.lt_trans h k)
      · exact Or.inl h
    · rcases k with k | ⟨rfl, k⟩
      · exact Or.inl k
      · exact Or.inr ⟨rfl, less_trans h k⟩

theorem pre_not_less {x s : ByteArray} (h : pre x s = true) : less s x = false := by
  rw [pre_iff] at h
  unfold less
  rw [ByteArray.toList_eq, ByteArray.toList_eq]
  exact not_less_prefix h

theorem less_tr {x y z : ByteArray} (h : less x y = true) (k : less y z = true) : less x z = true := less_trans h k

/-- Of two texts that s begins with the one ahead is the shorter one. -/
theorem pre_less {x y s : ByteArray} (h : pre x s = true) (k : pre y s = true) (hl : less x y = true) : x.size < y.size := by
  rw [pre_iff] at h k
  have hl' := hl
  unfold less at hl'
  rw [ByteArray.toList_eq, ByteArray.toList_eq] at hl'
  rcases List.prefix_or_prefix_of_prefix h k with h1 | h1
  · have h2 := h1.length_le
    by_cases he : x.data.toList.length = y.data.toList.length
    · have := h1.eq_of_length he
      rw [this, not_less_prefix (List.prefix_refl _)] at hl'
      cases hl'
    · simp at he h2
      have e1 : x.size = x.data.size := rfl
      have e2 : y.size = y.data.size := rfl
      omega
  · rw [not_less_prefix h1] at hl'
    cases hl'

/-- The program's search, from some name on: what was found last stands in b. -/
def pn (s : ByteArray) : List ByteArray → ByteArray → ByteArray
  | [], b => b
  | x :: r, b => if less s x then b else pn s r (if pre x s then x else b)

/-- The document's. -/
def rn (s : ByteArray) : List (ByteArray × ByteArray) → ByteArray × Nat → ByteArray × Nat
  | [], p => p
  | x :: r, p => rn s r (if p.2 < x.1.size ∧ pre x.1 s = true then (x.2, x.1.size) else p)

/-- What a name stands for. -/
def mean (x : ByteArray) : ByteArray := ((NM.zip MN).lookup x).getD ⟨#[]⟩

theorem rn_none (s : ByteArray) : ∀ (l : List (ByteArray × ByteArray)) (p : ByteArray × Nat), (∀ x, x ∈ l → pre x.1 s = false) → rn s l p = p
  | [], _, _ => rfl
  | x :: r, p, h => by
    rw [rn, if_neg (by rw [h x (List.mem_cons_self)]; simp)]
    exact rn_none s r p (fun y hy => h y (List.mem_cons_of_mem _ hy))

theorem rn_pn (s : ByteArray) : ∀ (l : List (ByteArray × ByteArray)) (b : ByteArray), (l.map Prod.fst).Pairwise (fun x y => less x y = true) → (∀ x, x ∈ l → mean x.1 = x.2) → pre b s = true → (∀ x, x ∈ l → less b x.1 = true) →
    rn s l (mean b, b.size) = (mean (pn s (l.map Prod.fst) b), (pn s (l.map Prod.fst) b).size)
  | [], _, _, _, _, _ => rfl
  | x :: r, b, hs, hm, hb, hl => by
    rw [List.map_cons, List.pairwise_cons] at hs
    rw [List.map_cons, pn]
    by_cases h1 : less s x.1 = true
    · rw [if_pos h1, rn_none]
      intro y hy
      rcases List.mem_cons.1 hy with rfl | hy
      · cases hp : pre y.1 s
        · rfl
        · rw [pre_not_less hp] at h1
          cases h1
      · cases hp : pre y.1 s
        · rfl
        · have := less_tr h1 (hs.1 y.1 (List.mem_map_of_mem hy))
          rw [pre_not_less hp] at this
          cases this
    · rw [if_neg h1, rn]
      have hm' := fun y hy => hm y (List.mem_cons_of_mem x hy)
      by_cases h2 : pre x.1 s = true
      · have h3 := pre_less hb h2 (hl x List.mem_cons_self)
        rw [if_pos ⟨h3, h2⟩, if_pos h2, ← hm x List.mem_cons_self]
        exact rn_pn s r x.1 hs.2 hm' h2 (fun y hy => hs.1 y.1 (List.mem_map_of_mem hy))
      · rw [if_neg (fun h => h2 h.2), if_neg h2]
        exact rn_pn s r b hs.2 hm' hb (fun y hy => hl y (List.mem_cons_of_mem _ hy))

/-- What the search finds: a beginning of s, as long as any. -/
theorem pn_longest (s : ByteArray) : ∀ (l : List ByteArray) (b : ByteArray), l.Pairwise (fun x y => less x y = true) → pre b s = true → (∀ x, x ∈ l → less b x = true) →
    pre (pn s l b) s = true ∧ (pn s l b = b ∨ pn s l b ∈ l) ∧ b.size ≤ (pn s l b).size ∧ ∀ x, x ∈ l → pre x s = true → x.size ≤ (pn s l b).size
  | [], _, _, hb, _ => ⟨hb, Or.inl rfl, Nat.le_refl _, fun x hx => by cases hx⟩
  | x :: r, b, hs, hb, hl => by
    rw [List.pairwise_cons] at hs
    rw [pn]
    by_cases h1 : less s x = true
    · rw [if_pos h1]
      refine ⟨hb, Or.inl rfl, Nat.le_refl _, fun y hy hp => ?_⟩
      rcases List.mem_cons.1 hy with rfl | hy
      · rw [pre_not_less hp] at h1
        cases h1
      · have := less_tr h1 (hs.1 y hy)
        rw [pre_not_less hp] at this
        cases this
    · rw [if_neg h1]
      by_cases h2 : pre x s = true
      · rw [if_pos h2]
        have h3 := pre_less hb h2 (hl x List.mem_cons_self)
        obtain ⟨g1, g2, g3, g4⟩ := pn_longest s r x hs.2 h2 hs.1
        refine ⟨g1, Or.inr ?_, by omega, fun y hy hp => ?_⟩
        · rcases g2 with g2 | g2
          · rw [g2]
            exact List.mem_cons_self
          · exact List.mem_cons_of_mem _ g2
        · rcases List.mem_cons.1 hy with rfl | hy
          · exact g3
          · exact g4 y hy hp
      · rw [if_neg h2]
        obtain ⟨g1, g2, g3, g4⟩ := pn_longest s r b hs.2 hb (fun y hy => hl y (List.mem_cons_of_mem _ hy))
        refine ⟨g1, ?_, g3, fun y hy hp => ?_⟩
        · rcases g2 with g2 | g2
          · exact Or.inl g2
          · exact Or.inr (List.mem_cons_of_mem _ g2)
        · rcases List.mem_cons.1 hy with rfl | hy
          · exact absurd hp h2
          · exact g4 y hy hp

theorem nm_len : NM.length = 51 := by kernel_rfl
theorem mn_len : MN.length = 51 := by kernel_rfl
theorem tb_len : TB.length = 102 := by kernel_rfl
theorem ins_len : INS.length = 32 := by kernel_rfl
theorem inz_len : INZ.length = 32 := by kernel_rfl

theorem nm_rising : NM.Pairwise (fun x y => less x y = true) := by decide +kernel
theorem nm_empty : ∀ x, x ∈ NM → less ⟨#[]⟩ x = true := by decide +kernel
theorem nm_size : ∀ x, x ∈ NM → 2 ≤ x.size ∧ x.size ≤ 14 := by decide +kernel
theorem nm_mean : ∀ x, x ∈ NM.zip MN → mean x.1 = x.2 := by decide +kernel
theorem mean_some : ∀ x, x ∈ NM → mean x ≠ ⟨#[]⟩ := by decide +kernel
theorem zip_fst : (NM.zip MN).map Prod.fst = NM := by kernel_rfl
theorem tb_even : ∀ k, k < 51 → TB[2 * k]? = NM[k]? := by decide +kernel
theorem tb_odd : ∀ k, k < 51 → TB[2 * k + 1]? = MN[k]? := by decide +kernel
theorem ins_inz : ∀ k, k < 32 → INS[k]? = some (if INZ.getD k 0 = 0 then 128 + (k : Int) else INZ.getD k 0) := by decide +kernel
theorem ins_good : ∀ k, k < 32 → 128 ≤ INS.getD k 0 ∧ INS.getD k 0 < 55296 := by decide +kernel

/-- The name that is found of s. -/
def found (s : ByteArray) : ByteArray := pn s NM ⟨#[]⟩

theorem pre_empty (s : ByteArray) : pre ⟨#[]⟩ s = true := by
  rw [pre_iff]
  exact List.nil_prefix

theorem both (s : ByteArray) : rn s (NM.zip MN) (⟨#[]⟩, 0) = (mean (found s), (found s).size) := by
  have h := rn_pn s (NM.zip MN) ⟨#[]⟩ (by rw [zip_fst]; exact nm_rising) nm_mean (pre_empty s) (fun x hx => nm_empty x.1 (by rw [← zip_fst]; exact List.mem_map_of_mem hx))
  rw [zip_fst] at h
  exact h

theorem longest (s : ByteArray) : pre (found s) s = true ∧ (found s = ⟨#[]⟩ ∨ found s ∈ NM) ∧ ∀ x, x ∈ NM → pre x s = true → x.size ≤ (found s).size := by
  obtain ⟨h1, h2, _, h4⟩ := pn_longest s NM ⟨#[]⟩ nm_rising (pre_empty s) nm_empty
  exact ⟨h1, h2, h4⟩

end Go.Proofs.YtgebdaanglmnnaaDoor
