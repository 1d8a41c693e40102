/-
  isRightElement, hasRightFields of the program.
-/
import Derived.Test.YtgnbafgglkncmaaRightB
namespace Go.Proofs.Ytgnbafgglkncmaa
open Go.RowKit
set_option linter.unusedVariables false

def elemF (l : Lb) : Bool := decide ((l.ns = 1 ∨ l.ns = 2) ∧ ¬ l.name = NON ∧ l.text = NON ∧ (uniq l.attrs).length = l.attrs.length)

def fieldsF (l : Lb) : Bool :=
  if l.kind = 1 ∨ l.kind = 6 then sameL l (l.kind, 0, NON, [], NON)
  else if l.kind = 2 then sameL l (l.kind, 0, l.name, [], NON)
  else if l.kind = 3 then elemF l
  else if l.kind = 4 then !decide (l.text = NON) && sameL l (l.kind, 0, NON, [], l.text)
  else if l.kind = 5 then sameL l (l.kind, 0, NON, [], l.text)
  else false

theorem len_nil_iff {α : Type} (l : List α) : l.length = 0 ↔ l = [] := by cases l <;> simp

theorem same_lb (l : Lb) (ns : Int) (name : ByteArray) (text : ByteArray) : sameL l (l.kind, ns, name, [], text) = decide (l.ns = ns ∧ l.name = name ∧ l.attrs.length = 0 ∧ l.text = text) := by
  unfold sameL
  obtain ⟨a, b, c, d, e⟩ := l
  simp [Lb.kind, Lb.ns, Lb.name, Lb.attrs, Lb.text]

theorem node_split (l : Lb) (k : Fo) : nodeF l k = (fieldsF l && kidsOkF l k) := by
  unfold nodeF selfF aloneF fieldsF kidsOkF
  have hs : k.len = 0 → standF k l true false = true := fun h => by rw [Fo.len_zero.1 h]; rfl
  have ht : ¬ l.kind = 3 → tmplF l = false := fun h => by unfold tmplF; simp [h]
  rw [Bool.eq_iff_iff]
  by_cases h3 : l.kind = 3
  · rw [if_pos h3, if_neg (by omega), if_neg (by omega), if_pos h3, if_neg (by omega)]
    unfold elemF
    rw [Bool.and_eq_true, Bool.and_eq_true, Bool.and_eq_true, Bool.and_eq_true]
    exact and_assoc
  rw [if_neg h3, ht h3]
  by_cases h4 : l.kind = 4
  · rw [if_pos h4, if_neg (by omega), if_neg (by omega), if_neg h3, if_pos h4, if_pos (by omega), same_lb]
    simp only [Bool.and_eq_true, decide_eq_true_eq, Bool.not_eq_true', decide_eq_false_iff_not, Bool.false_and]
    exact ⟨fun ⟨⟨⟨a, b, c, d, e⟩, _⟩, _⟩ => ⟨⟨d, a, b, c, trivial⟩, e⟩, fun ⟨⟨d, a, b, c, _⟩, e⟩ => ⟨⟨⟨a, b, c, d, e⟩, trivial⟩, hs e⟩⟩
  rw [if_neg h4]
  by_cases h5 : l.kind = 5
  · rw [if_pos h5, if_neg (by omega), if_neg (by omega), if_neg h3, if_neg h4, if_pos h5, if_pos (by omega), same_lb]
    simp only [Bool.and_eq_true, decide_eq_true_eq, Bool.not_eq_true', Bool.false_and]
    exact ⟨fun ⟨⟨⟨a, b, c, e⟩, _⟩, _⟩ => ⟨⟨a, b, c, trivial⟩, e⟩, fun ⟨⟨a, b, c, _⟩, e⟩ => ⟨⟨⟨a, b, c, e⟩, trivial⟩, hs e⟩⟩
  rw [if_neg h5]
  by_cases h2 : l.kind = 2
  · rw [if_pos h2, if_neg (by omega), if_pos h2, if_pos (by omega), same_lb]
    simp only [Bool.and_eq_true, decide_eq_true_eq, Bool.not_eq_true', Bool.false_and]
    exact ⟨fun ⟨⟨⟨a, b, c, e⟩, _⟩, _⟩ => ⟨⟨a, trivial, c, b⟩, e⟩, fun ⟨⟨a, _, c, b⟩, e⟩ => ⟨⟨⟨a, b, c, e⟩, trivial⟩, hs e⟩⟩
  rw [if_neg h2]
  by_cases h1 : l.kind = 1 ∨ l.kind = 6
  · rw [if_pos h1, if_pos h1, if_neg (by omega), same_lb]
    simp only [Bool.and_eq_true, decide_eq_true_eq, Bool.not_eq_true', Bool.false_and]
    exact ⟨fun ⟨⟨⟨a, b, c, d⟩, x⟩, y⟩ => ⟨⟨a, b, d, c⟩, x, y⟩, fun ⟨⟨a, b, d, c⟩, x, y⟩ => ⟨⟨⟨a, b, c, d⟩, x⟩, y⟩⟩
  · rw [if_neg h1, if_neg h1, if_neg h2, if_neg h3, if_neg h4, if_neg h5]
    simp

set_option maxRecDepth 100000 in
set_option maxHeartbeats 1000000 in
theorem elem_any (w : World) (b off : Nat) (l : Lb) (p : Pl) (hc : Cl w b off l p) (h1 : Rp w p.1.1 p.1.2.1 p.1.2.2 l.attrs) (hl : l.attrs.length ≤ 300) (hf : fits l.attrs) :
    Calls Try.prog 64 #[.pointer (some ⟨b, off, none⟩)] w fun e w' => e = .returned (.bool (elemF l)) ∧ Kp [] w w' := by
  obtain ⟨A, hA⟩ : ∃ A, elemF l = A := ⟨_, rfl⟩
  rw [hA]
  have HPL : Hid (p.1.2.1 = l.attrs.length) := h1.len
  have HU : Hid (∀ W, Kp [] w W → Calls Try.prog 75 #[.slice p.1.1 p.1.2.1 p.1.2.2] W fun e w' => ∃ ao' n' c', e = .returned (.slice ao' n' c') ∧ Mp W w' ao' n' c' (uniq l.attrs)) := fun W kW => uniq_any W l.attrs _ _ _ (h1.kept kW) (by have := HPL.out; omega) hf
  have HS : Hid (∀ W, Kp [] w W → W.cell? ⟨b, off + 3, none⟩ = some (.slice p.1.1 p.1.2.1 p.1.2.2)) := fun W kW => (hc.keep kW (by simp)).cells.2.2.2.1
  obtain ⟨c0, c1, c2, c3, c4, c5⟩ := hc.cells
  clear hc h1
  unfold elemF at hA
  by_cases e1 : l.ns = 1 ∨ l.ns = 2
  · by_cases e2 : l.name = NON
    · have q2 : (l.name.toList == NON.toList) = true := eqs_yes e2
      obtain rfl : false = A := by rw [← hA]; simp [e2]
      rw [show NON.toList = [] from by decide +kernel] at q2
      clear HU HS hA HPL
      by_cases e3 : l.ns = 1
      · have r1 : ((l.ns : Int) == 1) = true := int_eq_yes e3
        have r2 : ((l.ns : Int) != 1) = false := by simp [bne, r1]
        clear e1 e2 e3
        go_enter Try.func64, Try.ntmps64
        go_wp2
        go_ret
        exact ⟨rfl, Kp.refl _ _⟩
      · have r1 : ((l.ns : Int) == 1) = false := int_eq_no e3
        have r2 : ((l.ns : Int) != 1) = true := by simp [bne, r1]
        have r3 : ((l.ns : Int) == 2) = true := int_eq_yes (by omega)
        have r4 : ((l.ns : Int) != 2) = false := by simp [bne, r3]
        clear e1 e2 e3
        go_enter Try.func64, Try.ntmps64
        go_wp2
        go_ret
        exact ⟨rfl, Kp.refl _ _⟩
    · have q2 : (l.name.toList == NON.toList) = false := eqs_no e2
      rw [show NON.toList = [] from by decide +kernel] at q2
      by_cases e4 : l.text = NON
      · have q4 : (l.text.toList == NON.toList) = true := eqs_yes e4
        rw [show NON.toList = [] from by decide +kernel] at q4
        have q5 : (l.text.toList != []) = false := by simp only [bne, q4]; rfl
        have hA' : decide ((uniq l.attrs).length = l.attrs.length) = A := by rw [← hA]; simp [e1, e2, e4]
        clear hA
        have hA := hA'
        clear hA'
        by_cases e3 : l.ns = 1
        · have r1 : ((l.ns : Int) == 1) = true := int_eq_yes e3
          have r2 : ((l.ns : Int) != 1) = false := by simp [bne, r1]
          clear e1 e2 e3 e4
          go_enter Try.func64, Try.ntmps64
          go_wp2_with fail
          go_region_held3 (fun V => V.cell? ⟨b, off + 3, none⟩ = some (.slice p.1.1 p.1.2.1 p.1.2.2))
            (first
              | exact HS.out _ K1.out
              | exact HS.out _ (Kp.refl _ _).drew)
            (first | (go_at_call 75; refine (HU.out _ (Kp.refl _ _).drew).mono ?_; rintro e w1 ⟨ao1, n1, d1, rfl, M1⟩; have K1 : Hid (Kp [] w w1) := (Kp.refl _ _).drew.trans M1.kp (fun x hx => Or.inl hx)))
          have hl1 := M1.len
          have hA2 : Hid (((n1 : Int) == (p.1.2.1 : Int)) = A) := by
            show ((n1 : Int) == (p.1.2.1 : Int)) = A
            rw [← hA, hl1, HPL.out]
            by_cases hh : (uniq l.attrs).length = l.attrs.length
            · rw [int_eq_yes (by omega), decide_eq_true hh]
            · rw [int_eq_no (by omega), decide_eq_false hh]
          clear hl1 M1 HU HS hA HPL
          go_wp2
          go_ret
          exact ⟨by rw [← hA2.out]; rfl, K1.out⟩
        · have r1 : ((l.ns : Int) == 1) = false := int_eq_no e3
          have r2 : ((l.ns : Int) != 1) = true := by simp [bne, r1]
          have r3 : ((l.ns : Int) == 2) = true := int_eq_yes (by omega)
          have r4 : ((l.ns : Int) != 2) = false := by simp [bne, r3]
          clear e1 e2 e3 e4
          go_enter Try.func64, Try.ntmps64
          go_wp2_with fail
          go_region_held3 (fun V => V.cell? ⟨b, off + 3, none⟩ = some (.slice p.1.1 p.1.2.1 p.1.2.2))
            (first
              | exact HS.out _ K1.out
              | exact HS.out _ (Kp.refl _ _).drew)
            (first | (go_at_call 75; refine (HU.out _ (Kp.refl _ _).drew).mono ?_; rintro e w1 ⟨ao1, n1, d1, rfl, M1⟩; have K1 : Hid (Kp [] w w1) := (Kp.refl _ _).drew.trans M1.kp (fun x hx => Or.inl hx)))
          have hl1 := M1.len
          have hA2 : Hid (((n1 : Int) == (p.1.2.1 : Int)) = A) := by
            show ((n1 : Int) == (p.1.2.1 : Int)) = A
            rw [← hA, hl1, HPL.out]
            by_cases hh : (uniq l.attrs).length = l.attrs.length
            · rw [int_eq_yes (by omega), decide_eq_true hh]
            · rw [int_eq_no (by omega), decide_eq_false hh]
          clear hl1 M1 HU HS hA HPL
          go_wp2
          go_ret
          exact ⟨by rw [← hA2.out]; rfl, K1.out⟩
      · have q4 : (l.text.toList == NON.toList) = false := eqs_no e4
        rw [show NON.toList = [] from by decide +kernel] at q4
        have q5 : (l.text.toList != []) = true := by simp only [bne, q4]; rfl
        obtain rfl : false = A := by rw [← hA]; simp [e4]
        clear HU HS hA HPL
        by_cases e3 : l.ns = 1
        · have r1 : ((l.ns : Int) == 1) = true := int_eq_yes e3
          have r2 : ((l.ns : Int) != 1) = false := by simp [bne, r1]
          clear e1 e2 e3 e4
          go_enter Try.func64, Try.ntmps64
          go_wp2
          go_ret
          exact ⟨rfl, Kp.refl _ _⟩
        · have r1 : ((l.ns : Int) == 1) = false := int_eq_no e3
          have r2 : ((l.ns : Int) != 1) = true := by simp [bne, r1]
          have r3 : ((l.ns : Int) == 2) = true := int_eq_yes (by omega)
          have r4 : ((l.ns : Int) != 2) = false := by simp [bne, r3]
          clear e1 e2 e3 e4
          go_enter Try.func64, Try.ntmps64
          go_wp2
          go_ret
          exact ⟨rfl, Kp.refl _ _⟩
  · have r1 : ((l.ns : Int) == 1) = false := int_eq_no (by omega)
    have r2 : ((l.ns : Int) != 1) = true := by simp [bne, r1]
    have r3 : ((l.ns : Int) == 2) = false := int_eq_no (by omega)
    have r4 : ((l.ns : Int) != 2) = true := by simp [bne, r3]
    obtain rfl : false = A := by rw [← hA]; simp [e1]
    clear hA e1 HU HS HPL
    go_enter Try.func64, Try.ntmps64
    go_wp2
    go_ret
    exact ⟨rfl, Kp.refl _ _⟩

end Go.Proofs.Ytgnbafgglkncmaa
