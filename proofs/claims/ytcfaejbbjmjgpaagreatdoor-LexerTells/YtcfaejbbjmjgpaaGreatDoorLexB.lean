/-
  closes of the program.
-/
import Derived.Test.YtcfaejbbjmjgpaaGreatDoorLexA
import Derived.Deep.RegionHeld3
import Derived.BigQuiet
import Derived.Deep.QuietTactic
namespace Go.Proofs.YtcfaejbbjmjgpaaGreatDoor
open Go.RowKit Utf
set_option linter.unusedVariables false

theorem empty_is {x : ByteArray} (h : x.size = 0) : x.toList.isEmpty = true := by
  have : x = ⟨#[]⟩ := bt_ext h fun j hj => by omega
  exact empty_yes (eqs_iff.2 this)
theorem empty_not {x : ByteArray} (h : ¬ x.size = 0) : x.toList.isEmpty = false := by
  refine empty_no ?_
  cases hx : eqs x ⟨#[]⟩ with
  | false => rfl
  | true => rw [eqs_iff.1 hx] at h; exact absurd rfl h

set_option maxHeartbeats 1000000 in
set_option maxRecDepth 100000 in
theorem closes_any (w : World) (b : Nat) (s : ByteArray) (q : Nat) (md : Int) (fg : Bool) (last : ByteArray) (h : Lx w b s q md fg last) (p : Nat) (hp : p ≤ s.size) (hs : s.size ≤ 100000) :
    Calls Tryz.prog 39 #[.pointer (some ⟨b, 0, none⟩), .int .i64 (p : Int)] w fun e w' => e = .returned (.bool (clo s last p)) ∧ Kp [] w w' := by
  obtain ⟨V, hV⟩ : ∃ V, clo s last p = V := ⟨_, rfl⟩
  rw [hV]
  unfold clo at hV
  obtain ⟨⟨c0, c1, c2, c3, c4⟩, hf⟩ := h.facts
  by_cases h0 : last.size = 0
  · rw [decide_eq_false (by omega), Bool.false_and] at hV
    subst hV
    have he := empty_is h0
    clear h h0
    go_enter Tryz.func39, Tryz.ntmps39
    go_wp2
    go_ret
    exact ⟨rfl, Kp.refl _ _⟩
  rw [decide_eq_true (show 0 < last.size by omega), Bool.true_and] at hV
  have he := empty_not h0
  have H1 := starts_any w s p ⟨#[60, 47]⟩ hs
  rw [pl_of hp, show st s p ⟨#[60, 47]⟩ = st s p CLO from rfl] at H1
  cases h1 : st s p CLO with
  | false =>
    rw [h1] at H1 hV
    rw [Bool.false_and] at hV
    subst hV
    clear h h0 h1
    go_enter Tryz.func39, Tryz.ntmps39
    go_wp2_with fail
    refine H1.mono ?_
    rintro e w1 ⟨rfl, k1⟩
    clear H1
    go_wp2
    go_ret
    exact ⟨rfl, k1⟩
  | true =>
    rw [h1] at H1 hV
    rw [Bool.true_and] at hV
    obtain ⟨a1, _, _⟩ := clo_at h1
    have HN := fun W => name_any W s ((p : Int) + 2) hs
    have hpl : pl s.size ((p : Int) + 2) = p + 2 := by rw [show (p : Int) + 2 = ((p + 2 : Nat) : Int) by omega]; exact pl_of a1
    rw [hpl] at HN
    have HF := fun W => fold_any W s ((p : Int) + 2) last hs
    rw [hpl] at HF
    have hn := name_is s (p := p + 2) a1
    generalize nameF s (p + 2) = t at HN hn hV
    have l1 := hn.lo
    have l2 := hn.hi
    have b5 : IntKind.i64.wrap ((t : Int) - ((p : Int) + 2)) = (t : Int) - ((p : Int) + 2) := by rw [IntKind.wrap_i64]; omega
    have CC : Hid (∀ W, Kp [] w W → W.cell? ⟨b, 0, none⟩ = some (.string s) ∧ W.cell? ⟨b, 4, none⟩ = some (.string last)) := fun W kW => by
      obtain ⟨⟨d0, _, _, _, d4⟩, _⟩ := (h.kept kW (by simp)).facts
      exact ⟨d0, d4⟩
    clear h h0 h1 hn hpl
    go_enter Tryz.func39, Tryz.ntmps39
    go_wp2_with fail
    refine H1.mono ?_
    rintro e w1 ⟨rfl, k1⟩
    clear H1
    obtain ⟨d0, d4⟩ := CC.out _ k1
    go_wp2_with fail
    refine (HN _).mono ?_
    rintro e w2 ⟨rfl, rfl⟩
    clear HN
    by_cases g1 : t < s.size
    · rw [decide_eq_true g1, Bool.true_and] at hV
      have b1 : decide ((t : Int) < (s.size : Int)) = true := decide_eq_true (by omega)
      by_cases g2 : t = p + 2 + last.size
      · rw [decide_eq_true g2, Bool.true_and] at hV
        have b2 : ((t : Int) - ((p : Int) + 2) == (last.size : Int)) = true := by simp only [beq_iff_eq]; omega
        rw [hV] at HF
        clear g2 hV
        go_wp2_with fail
        go_region_held3 (fun w' => w'.cell? ⟨b, 0, none⟩ = some (.string s) ∧ w'.cell? ⟨b, 4, none⟩ = some (.string last))
          (first | with_reducible exact CC.out _ S1.out | exact CC.out _ k1.drew)
          (first | (go_at_call 60; refine (HF _).mono ?_; rintro e v1 ⟨rfl, kk⟩; have S1 : Hid (Kp [] w v1) := k1.drew.trans kk (fun x hx => by simp at hx); clear kk))
        have ky := S1.out
        clear S1 CC HF
        go_wp2
        go_ret
        exact ⟨rfl, ky⟩
      · rw [decide_eq_false g2, Bool.false_and] at hV
        subst hV
        have b2 : ((t : Int) - ((p : Int) + 2) == (last.size : Int)) = false := by simp only [beq_eq_false_iff_ne, ne_eq]; omega
        clear g2 HF
        go_wp2_with fail
        go_quiet (fail)
        go_wp2
        go_ret
        exact ⟨rfl, k1.drewN _⟩
    · rw [decide_eq_false g1, Bool.false_and] at hV
      subst hV
      have b1 : decide ((t : Int) < (s.size : Int)) = false := decide_eq_false (by omega)
      clear HF
      go_wp2_with fail
      go_quiet (fail)
      go_wp2
      go_ret
      exact ⟨rfl, k1.drewN _⟩

end Go.Proofs.YtcfaejbbjmjgpaaGreatDoor
