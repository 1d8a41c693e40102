/-
  Joined: FosP.
-/
import Derived.Test.YtpkppobkagdhkaaJ47

/-
  ReplayFosters: what its operations come to, by themselves. No program.
-/
namespace Go.Proofs.Ytpkppobkagdhkaa
open Go.RowKit Go.Maps Utf
set_option linter.unusedVariables false
set_option linter.unusedSimpArgs false

def fA : List Ot := [⟨1, 1, 0, 0, 3, 1, ⟨#[100, 105, 118]⟩, [], ⟨#[]⟩⟩, ⟨2, 1, 0, 0, 0, 0, ⟨#[]⟩, [], ⟨#[]⟩⟩, ⟨1, 2, 0, 0, 3, 1, ⟨#[116, 97, 98, 108, 101]⟩, [], ⟨#[]⟩⟩, ⟨1, 3, 0, 0, 3, 1, ⟨#[112]⟩, [], ⟨#[]⟩⟩, ⟨2, 3, 1, 0, 0, 0, ⟨#[]⟩, [], ⟨#[]⟩⟩]
def fH : Bool → List Ot
  | true => [⟨2, 2, 1, 0, 0, 0, ⟨#[]⟩, [], ⟨#[]⟩⟩]
  | false => []
def fT (W : ByteArray) : Bool → List Ot
  | true => [⟨6, 0, 3, 2, 0, 0, ⟨#[]⟩, [], W⟩]
  | false => [⟨1, 4, 0, 0, 5, 0, ⟨#[]⟩, [], W⟩, ⟨4, 4, 3, 2, 0, 0, ⟨#[]⟩, [], ⟨#[]⟩⟩]

/-- The tree that the operations make below the Document. -/
def fW (l : List UInt8) (h t : Bool) : Fo :=
  .cons (3, 1, ⟨#[100, 105, 118]⟩, [], ⟨#[]⟩) (if h = true then .cons (3, 1, ⟨#[112]⟩, [], ⟨#[]⟩) .nil (.cons (if t = true then 4 else 5, 0, ⟨#[]⟩, [], ⟨⟨119 :: l⟩⟩) .nil (.cons (3, 1, ⟨#[116, 97, 98, 108, 101]⟩, [], ⟨#[]⟩) .nil .nil))
    else .cons (3, 1, ⟨#[112]⟩, [], ⟨#[]⟩) (.cons (if t = true then 4 else 5, 0, ⟨#[]⟩, [], ⟨⟨119 :: l⟩⟩) .nil .nil) .nil) .nil

theorem fos1 (l : List UInt8) : (Py.playF Py.first (fA ++ fH true ++ fT ⟨⟨119 :: l⟩⟩ true)).2 = (7, 0) ∧ (Py.playF Py.first (fA ++ fH true ++ fT ⟨⟨119 :: l⟩⟩ true)).1.A.below 0 = fW l true true := ⟨by kernel_rfl, by kernel_rfl⟩
theorem fos2 (l : List UInt8) : (Py.playF Py.first (fA ++ fH true ++ fT ⟨⟨119 :: l⟩⟩ false)).2 = (8, 0) ∧ (Py.playF Py.first (fA ++ fH true ++ fT ⟨⟨119 :: l⟩⟩ false)).1.A.below 0 = fW l true false := ⟨by kernel_rfl, by kernel_rfl⟩
theorem fos3 (l : List UInt8) : (Py.playF Py.first (fA ++ fH false ++ fT ⟨⟨119 :: l⟩⟩ true)).2 = (6, 0) ∧ (Py.playF Py.first (fA ++ fH false ++ fT ⟨⟨119 :: l⟩⟩ true)).1.A.below 0 = fW l false true := ⟨by kernel_rfl, by kernel_rfl⟩
theorem fos4 (l : List UInt8) : (Py.playF Py.first (fA ++ fH false ++ fT ⟨⟨119 :: l⟩⟩ false)).2 = (7, 0) ∧ (Py.playF Py.first (fA ++ fH false ++ fT ⟨⟨119 :: l⟩⟩ false)).1.A.below 0 = fW l false false := ⟨by kernel_rfl, by kernel_rfl⟩

theorem fos_any (l : List UInt8) (h t : Bool) : (Py.playF Py.first (fA ++ fH h ++ fT ⟨⟨119 :: l⟩⟩ t)).2 = ((fA ++ fH h ++ fT ⟨⟨119 :: l⟩⟩ t).length, 0) ∧ (Py.playF Py.first (fA ++ fH h ++ fT ⟨⟨119 :: l⟩⟩ t)).1.A.below 0 = fW l h t := by
  cases h <;> cases t
  · exact fos4 l
  · exact fos3 l
  · exact fos2 l
  · exact fos1 l

/-- A letter ahead. -/
theorem w_cons (h : ByteArray) : (⟨#[119]⟩ : ByteArray) ++ h = ⟨⟨119 :: h.data.toList⟩⟩ := by
  apply ByteArray.ext
  rw [ByteArray.data_append]
  apply Array.ext'
  simp

theorem fos_tiny (l : List UInt8) (hl : l.length ≤ 9) (h t : Bool) : ∀ o, o ∈ fA ++ fH h ++ fT ⟨⟨119 :: l⟩⟩ t → tinyO o ∧ o.al = [] := by
  have hs : (⟨⟨119 :: l⟩⟩ : ByteArray).size ≤ 10 := by show l.length + 1 ≤ 10; omega
  intro o ho
  rcases List.mem_append.1 ho with ho | ho
  · rcases List.mem_append.1 ho with ho | ho
    · simp only [fA, List.mem_cons, List.not_mem_nil, or_false] at ho
      rcases ho with rfl | rfl | rfl | rfl | rfl
      all_goals exact ⟨tiny_no (by decide) (by decide) rfl, rfl⟩
    · cases h
      · cases ho
      · simp only [fH, List.mem_cons, List.not_mem_nil, or_false] at ho
        subst ho
        exact ⟨tiny_no (by decide) (by decide) rfl, rfl⟩
  · cases t
    · simp only [fT, List.mem_cons, List.not_mem_nil, or_false] at ho
      rcases ho with rfl | rfl
      · exact ⟨tiny_no (Nat.zero_le _) hs rfl, rfl⟩
      · exact ⟨tiny_no (by decide) (by decide) rfl, rfl⟩
    · simp only [fT, List.mem_cons, List.not_mem_nil, or_false] at ho
      subst ho
      exact ⟨tiny_no (Nat.zero_le _) hs rfl, rfl⟩

/-- The tree read, where the table has a parent. -/
theorem fos_read1 {w : World} {lb : Lb} {l : List UInt8} {t : Bool} {p : Pl} (nd : Nd Any w lb (fW l true t) p) : ∃ g o c g1 o1 c1 ak ck, p.2 = (some ⟨g, o, none⟩, 1, c) ∧ w.cell? ⟨g, o + 5, none⟩ = some (.slice (some ⟨g1, o1, none⟩) 3 c1) ∧ w.cell? ⟨g1, o1 + 2, none⟩ = some (.string ⟨#[112]⟩) ∧ w.cell? ⟨g1, o1 + 5, none⟩ = some (.slice ak 0 ck) ∧ w.cell? ⟨g1, o1 + 10, none⟩ = some (.string ⟨⟨119 :: l⟩⟩) ∧ w.cell? ⟨g1, o1 + 14, none⟩ = some (.string ⟨#[116, 97, 98, 108, 101]⟩) := by
  obtain ⟨pa, po, pn, pc⟩ := p
  obtain ⟨p1, g, o, _, e1, n1, c1⟩ := nd.kids.at (n := 0) rfl
  have h1 := nd.klen
  obtain ⟨pa1, po1, pn1, pc1⟩ := p1
  obtain ⟨_, _, _, _, _, d5⟩ := c1.cells
  obtain ⟨q0, g1, o1, _, e2, m0, k0⟩ := n1.kids.at (n := 0) rfl
  obtain ⟨q1, g2, o2, _, e3, m1, k1⟩ := n1.kids.at (n := 1) rfl
  obtain ⟨q2, g3, o3, _, e4, m2, k2⟩ := n1.kids.at (n := 2) rfl
  have h2 := n1.klen
  have h3 := m0.klen
  simp only at e1 h1 e2 e3 e4 h2
  rw [e2] at e3 e4
  simp only [Option.some.injEq, Addr.mk.injEq] at e3 e4
  obtain ⟨rfl, rfl, _⟩ := e3
  obtain ⟨rfl, rfl, _⟩ := e4
  obtain ⟨_, _, a2, _, _, a5⟩ := k0.cells
  obtain ⟨_, _, _, _, b4, _⟩ := k1.cells
  obtain ⟨_, _, f2, _, _, _⟩ := k2.cells
  have h1' : pn = 1 := h1
  have h2' : pn1 = 3 := h2
  have h3' : q0.2.2.1 = 0 := h3
  rw [h3'] at a5
  simp only [h2', e2] at d5
  refine ⟨g, o, pc, g1, o1, pc1, _, _, by rw [e1, h1'], d5, a2, a5, ?_, ?_⟩
  · rw [show o1 + 10 = o1 + 1 * 6 + 4 by omega]; exact b4
  · rw [show o1 + 14 = o1 + 2 * 6 + 2 by omega]; exact f2

/-- .. where it has none. -/
theorem fos_read2 {w : World} {lb : Lb} {l : List UInt8} {t : Bool} {p : Pl} (nd : Nd Any w lb (fW l false t) p) : ∃ g o c g1 o1 c1 g2 o2 c2, p.2 = (some ⟨g, o, none⟩, 1, c) ∧ w.cell? ⟨g, o + 5, none⟩ = some (.slice (some ⟨g1, o1, none⟩) 1 c1) ∧ w.cell? ⟨g1, o1 + 5, none⟩ = some (.slice (some ⟨g2, o2, none⟩) 1 c2) ∧ w.cell? ⟨g2, o2 + 4, none⟩ = some (.string ⟨⟨119 :: l⟩⟩) := by
  obtain ⟨pa, po, pn, pc⟩ := p
  obtain ⟨p1, g, o, _, e1, n1, c1⟩ := nd.kids.at (n := 0) rfl
  have h1 := nd.klen
  obtain ⟨pa1, po1, pn1, pc1⟩ := p1
  obtain ⟨_, _, _, _, _, d5⟩ := c1.cells
  obtain ⟨q0, g1, o1, _, e2, m0, k0⟩ := n1.kids.at (n := 0) rfl
  have h2 := n1.klen
  obtain ⟨qa, qo, qn, qc⟩ := q0
  obtain ⟨_, _, _, _, _, a5⟩ := k0.cells
  obtain ⟨r0, g2, o2, _, e3, _, j0⟩ := m0.kids.at (n := 0) rfl
  have h3 := m0.klen
  obtain ⟨_, _, _, _, b4, _⟩ := j0.cells
  simp only at e1 e2 e3
  have h1' : pn = 1 := h1
  have h2' : pn1 = 1 := h2
  have h3' : qn = 1 := h3
  simp only [h2', e2] at d5
  simp only [h3', e3] at a5
  exact ⟨g, o, pc, g1, o1, pc1, g2, o2, qc, by rw [e1, h1'], d5, a5, b4⟩

end Go.Proofs.Ytpkppobkagdhkaa
