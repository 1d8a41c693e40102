/-
  known of the law: chapter 15's run.
-/
import Derived.Test.YtngbpbgohpblmaaCl
namespace Go.Proofs.Ytngbpbgohpblmaa
open Go.RowKit Go.Maps Utf
set_option linter.unusedVariables false
set_option linter.unusedSimpArgs false

theorem Mv.kp {tag tag' : Nat → Nat} {w w' : World} (m : Mv tag w tag' w') (h : ∀ x, x < w.heap.size → tag x = 0) : Kp [] w w' :=
  ⟨m.os, m.tape, m.output, m.size, fun x hx _ => m.block x hx (by rw [h x hx]; unfold isP; omega)⟩

theorem Rp.nil (w : World) : Rp w none 0 0 [] := Rp.of_own (e := 0) (m := 0) ⟨rfl, Or.inl ⟨rfl, rfl⟩⟩

namespace Ar
def K1 : Ar := (first.mkF 3 1 ⟨#[112]⟩ (_root_.Go.Proofs.Ytngbpbgohpblmaa.uniq []) ⟨#[]⟩).1
def K2 : Ar := (K1.appF 0 1).1
def K3 : Ar := (K2.wrF 1 ⟨#[97]⟩).1
def K4 : Ar := (K3.wrF 1 ⟨#[98]⟩).1
theorem k1a : (first.mkF 3 1 ⟨#[112]⟩ (_root_.Go.Proofs.Ytngbpbgohpblmaa.uniq []) ⟨#[]⟩).2 = (1, 0) := by kernel_rfl
theorem k2a : (K1.appF 0 1).2 = 0 := by kernel_rfl
theorem k3a : (K2.wrF 1 ⟨#[97]⟩).2 = 0 := by kernel_rfl
theorem k4a : (K3.wrF 1 ⟨#[98]⟩).2 = 0 := by kernel_rfl
theorem k4b : K4.n = 3 := by kernel_rfl
theorem k4c : (K4.kidF 1).length = 1 := by kernel_rfl
theorem k4d : (K4.appF 1 1).2 = 24 := by kernel_rfl
end Ar

set_option maxRecDepth 100000 in
set_option maxHeartbeats 1000000 in
theorem known_any (w : World) : Calls Try.prog 13 #[] w fun e w' => e = .returned (.bool true) ∧ Kp [] w w' := by
  have HN := Ps.new w (fun _ => 0)
  have HM : Hid (∀ V b tag, Ps tag V b false Ar.first 0 → Calls Try.prog 24 #[.pointer (some ⟨b, 0, none⟩), .int .i64 3, .int .i64 1, .string ⟨#[112]⟩, .slice none 0 0, .string ⟨#[]⟩] V fun e w' => e = .returned (.tuple #[.int .i64 1, .int .i64 0]) ∧ ∃ tag', Ps tag' w' b false Ar.K1 1 ∧ Mv tag V tag' w') := fun V b tag h => by
    have := h.mk' (by omega) 3 1 ⟨#[112]⟩ ⟨#[]⟩ [] none 0 0 (Rp.nil V) (by simp) (fun a ha => by cases ha) (by decide) (by decide)
    rw [Ar.k1a] at this
    exact this
  have HA : Hid (∀ V b tag, Ps tag V b false Ar.K1 1 → Calls Try.prog 23 #[.pointer (some ⟨b, 0, none⟩), .int .i64 0, .int .i64 1] V fun e w' => e = .returned (.int .i64 0) ∧ Ps tag w' b false Ar.K2 1 ∧ Mv tag V tag w') := fun V b tag h => by
    have := h.app 0 1
    rw [Ar.k2a] at this
    exact this
  have HW : Hid (∀ V b tag, Ps tag V b false Ar.K2 1 → Calls Try.prog 26 #[.pointer (some ⟨b, 0, none⟩), .int .i64 1, .string ⟨#[97]⟩] V fun e w' => e = .returned (.int .i64 0) ∧ ∃ tag', Ps tag' w' b false Ar.K3 2 ∧ Mv tag V tag' w') := fun V b tag h => by
    have := h.wr (by omega) 1 ⟨#[97]⟩ (by decide)
    rw [Ar.k3a] at this
    exact this
  have HX : Hid (∀ V b tag, Ps tag V b false Ar.K3 2 → Calls Try.prog 26 #[.pointer (some ⟨b, 0, none⟩), .int .i64 1, .string ⟨#[98]⟩] V fun e w' => e = .returned (.int .i64 0) ∧ ∃ tag', Ps tag' w' b false Ar.K4 3 ∧ Mv tag V tag' w') := fun V b tag h => by
    have := h.wr (by omega) 1 ⟨#[98]⟩ (by decide)
    rw [Ar.k4a] at this
    exact this
  have HK : Hid (∀ V b tag, Ps tag V b false Ar.K4 3 → Calls Try.prog 16 #[.pointer (some ⟨b, 0, none⟩), .int .i64 1] V fun e w' => ∃ ao c', e = .returned (.slice ao 1 c') ∧ Kp [] V w') := fun V b tag h => by
    refine (h.kids 1).mono ?_
    rintro e w' ⟨ao, n', c', rfl, M⟩
    have hl := M.rb.len
    rw [iv_len, Ar.k4c] at hl
    subst hl
    exact ⟨ao, c', rfl, M.2.1⟩
  have HL : Hid (∀ V b tag, Ps tag V b false Ar.K4 3 → Calls Try.prog 15 #[.pointer (some ⟨b, 0, none⟩)] V fun e w' => e = .returned (.int .i64 3) ∧ w' = V) := fun V b tag h => by
    have := h.len
    rw [Ar.k4b] at this
    exact this
  have HP : Hid (∀ V b tag, Ps tag V b false Ar.K4 3 → Calls Try.prog 23 #[.pointer (some ⟨b, 0, none⟩), .int .i64 1, .int .i64 1] V fun e w' => e = .returned (.int .i64 24) ∧ Mv tag V tag w') := fun V b tag h => by
    have := h.app 1 1
    rw [Ar.k4d] at this
    exact this.mono (fun e w' ⟨h1, _, h3⟩ => ⟨h1, h3⟩)
  go_enter Try.func13, Try.ntmps13
  go_wp2_with (first | (go_at_call 9; refine HN.mono ?_; rintro e w1 ⟨b, tag1, rfl, p1, m1, hb⟩) | (go_at_call 24; refine (HM.out _ _ _ p1).mono ?_; rintro e w2 ⟨rfl, tag2, p2, m2⟩) | (go_at_call 23; refine (HP.out _ _ _ p6).mono ?_; rintro e w7 ⟨rfl, m7⟩) | (go_at_call 23; refine (HA.out _ _ _ p2).mono ?_; rintro e w3 ⟨rfl, p3, m3⟩) | (go_at_call 26; refine (HX.out _ _ _ p4).mono ?_; rintro e w5 ⟨rfl, tag5, p5, m5⟩) | (go_at_call 26; refine (HW.out _ _ _ p3).mono ?_; rintro e w4 ⟨rfl, tag4, p4, m4⟩) | (go_at_call 16; refine (HK.out _ _ _ p5).mono ?_; rintro e w6 ⟨ao, c', rfl, k6⟩; have p6 := p5.kept k6) | (go_at_call 15; refine (HL.out _ _ _ p6).mono ?_; rintro e w9 ⟨rfl, hw⟩; have hw2 := hw.symm; clear hw; subst hw2))
  go_ret
  have m6 := Mv.of_kp (tag := tag5) (tag' := tag5) k6 (fun x hx => by simp at hx) (fun _ _ => rfl)
  exact ⟨rfl, ((((((m1.trans m2).trans m3).trans m4).trans m5).trans m6).trans m7).kp (fun _ _ => rfl)⟩

end Go.Proofs.Ytngbpbgohpblmaa
