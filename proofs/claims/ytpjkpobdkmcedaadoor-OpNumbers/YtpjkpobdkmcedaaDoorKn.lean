/-
  known: some of the chapter's runs.
-/
import Derived.Test.YtpjkpobdkmcedaaDoorTxt
import Derived.Test.YtpjkpobdkmcedaaDoorDecE
namespace Go.Proofs.YtpjkpobdkmcedaaDoor
open Go.RowKit Utf
set_option linter.unusedVariables false
set_option linter.unusedSimpArgs false

/-- Quirks, and a Detach with a Ref. -/
def oQ : Ot := ⟨11, 0, 0, 0, 0, 0, ⟨#[]⟩, [], ⟨#[]⟩⟩
def oD : Ot := ⟨7, 0, 0, 1, 0, 0, ⟨#[]⟩, [], ⟨#[]⟩⟩

theorem itb_0 : itb 0 = ⟨#[48]⟩ := by
  unfold itb Lib.itoa
  rw [if_neg (by omega)]
  show (⟨(Lib.decDigits 0).toArray⟩ : ByteArray) = _
  rw [Lib.decDigits_one (by omega)]
  rfl
theorem itb_11 : itb 11 = ⟨#[49, 49]⟩ := by
  unfold itb Lib.itoa
  rw [if_neg (by omega)]
  show (⟨(Lib.decDigits 11).toArray⟩ : ByteArray) = _
  rw [Lib.decDigits_two (by omega) (by omega)]
  rfl

theorem lnQ : lnO itb oQ = ⟨#[49, 49, 32, 48, 32, 48, 32, 48, 32, 48, 32, 48, 32, 32, 34, 34]⟩ := by
  unfold lnO hdF oQ
  simp only [itb_0, itb_11, atF]
  rfl

theorem at_nil (w : World) (o : Ot) (h : o.al = []) : At w (o, none, 0, 0) := (ar_nil w o h).rp

/-- Decode of nothing. -/
theorem decode_none (w : World) : Calls Tryd.prog 17 #[.slice none 0 0] w fun e w' => ∃ ao c, e = .returned (.tuple #[.slice ao 0 c, .int .i64 0]) ∧ Kp [] w w' := by
  refine (decode_any w none 0 0 [] ⟨rfl, Nat.le_refl _, fun j hj => by omega⟩ (fun x hx => by simp at hx) (by omega)).mono ?_
  intro e w' h
  rcases h with ⟨L, ao, n, c, rfl, M, h1, _⟩ | ⟨_, _, h1⟩
  · have hL : L = [] := by
      cases L with
      | nil => rfl
      | cons q l =>
        simp only [os, obs] at h1
        exact absurd (List.append_eq_nil_iff.1 h1.symm).1 (ob_ne _)
    have hn := M.len
    rw [hL] at hn
    simp only [List.length_nil] at hn
    subst hn
    exact ⟨ao, c, rfl, M.kp⟩
  · exact absurd rfl (h1 [] (fun o ho => by simp at ho))

set_option maxRecDepth 100000 in
set_option maxHeartbeats 1000000 in
theorem known_any (w : World) (hT : Tb w) : Calls Tryd.prog 14 #[] w fun e w' => e = .returned (.bool true) ∧ Kp [] w w' := by
  have HD := decode_none w
  have HT : Hid (∀ V, Kp [] w V → Calls Tryd.prog 10 #[ov oQ (none, 0, 0)] V fun e w' => e = .returned (.string ⟨#[49, 49, 32, 48, 32, 48, 32, 48, 32, 48, 32, 48, 32, 32, 34, 34]⟩) ∧ Kp [] V w') := fun V kV => by
    rw [← lnQ]
    exact text_any V (hT.kept kV) oQ (none, 0, 0) (at_nil V _ rfl) (by unfold in64 i64 oQ; simp) (by show (⟨#[]⟩ : ByteArray).size + (⟨#[]⟩ : ByteArray).size + 0 ≤ _; decide)
  have HR : Hid (∀ V, Kp [] w V → Calls Tryd.prog 8 #[ov oD (none, 0, 0)] V fun e w' => e = .returned (.bool false) ∧ Kp [] V w') := fun V kV => by
    have h := right_any V oD (none, 0, 0) (at_nil V _ rfl) (by simp)
    rw [show rightO oD = false by simp [rightO, rightK, oD, zr, inR]] at h
    exact h
  simp only [ov, oQ, oD] at HT HR
  clear hT
  go_enter Tryd.func14, Tryd.ntmps14
  go_wp2_with fail
  refine HD.mono ?_
  rintro e w1 ⟨ao, c, rfl, k1⟩
  clear HD
  have HT1 := HT.out w1 k1
  go_wp2_with fail
  refine HT1.mono ?_
  rintro e w2 ⟨rfl, k2⟩
  have k2' := k1.trans k2 (fun z hz => Or.inl hz)
  have HR1 := HR.out w2 k2'
  clear HT HT1 k2
  go_wp2_with fail
  refine HR1.mono ?_
  rintro e w3 ⟨rfl, k3⟩
  have kz := k2'.trans k3 (fun z hz => Or.inl hz)
  clear HR HR1 k3
  go_wp2
  go_ret
  exact ⟨rfl, kz⟩

end Go.Proofs.YtpjkpobdkmcedaaDoor
