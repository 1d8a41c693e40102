/-
  Imply, Thorough and Clear (popWhile, and what it is handed), Until.
-/
import Derived.Test.YtpadnfpifldoaaaLei
namespace Go.Proofs.Ytpadnfpifldoaaa.Ints
open Go.RowKit
set_option linter.unusedSimpArgs false

/-- How long the list in block q is, read off the memory. -/
def lenOf (q : Nat) (w : World) : Nat :=
  match w.cell? ⟨q, 0, none⟩ with
  | some (.pointer (some a)) => (match w.cell? a with
    | some v => slen v
    | _ => 0)
  | _ => 0

theorem lenOf_is {w0 w : World} {q : Nat} {zs : List It} (h : Li w0 w q zs) : lenOf q w = zs.length := by
  obtain ⟨p, v, bs, h⟩ := h
  obtain ⟨ao, c, hv, hc, _⟩ := h.px.out
  unfold lenOf
  rw [h.cell]
  simp only [hc]
  rw [← h.len]
  rfl

/-- The pile's last one, taken off. -/
theorem Lx.pop {w0 w w' : World} {q p : Nat} {v : Value} {bs : List (Option Addr)} {ys : List It} {x : It} (h : Lx w0 w q p v bs (ys ++ [x])) (t : TX w w' p v (bs.take (bs.length - 1))) : Li w0 w' q ys ∧ Ev w0 w w' := by
  have hlen := h.len
  simp only [List.length_append, List.length_cons, List.length_nil] at hlen
  exact h.turn t (by simp; omega) (fun i i1 i2 => by
      have := h.box i (by simp at i1; omega) (by simp; omega)
      rw [List.getElem_append_left i2] at this
      rw [List.getElem_take]
      exact this)

/-- The last one's address. -/
theorem Lx.last {w0 w : World} {q p : Nat} {v : Value} {bs : List (Option Addr)} {ys : List It} {x : It} (h : Lx w0 w q p v bs (ys ++ [x])) : ∃ b, bs[bs.length - 1]? = some b ∧ Bx w b x := by
  have hlen := h.len
  simp only [List.length_append, List.length_cons, List.length_nil] at hlen
  obtain ⟨b, hb1, hb2⟩ := h.get ys.length (by simp)
  rw [List.getElem_append_right (Nat.le_refl _)] at hb2
  simp only [Nat.sub_self, List.getElem_singleton] at hb2
  exact ⟨b, by rw [hlen]; exact hb1, hb2⟩

set_option maxHeartbeats 1000000 in
theorem while_imply (w0 w : World) (q : Nat) (zs : List It) (p : It → Bool) (hL : Li w0 w q zs) (hl : zs.length < 90000) (a : Nat)
    (G : Hid (∀ W b x, Ev w0 w W → Bx W b x → Calls Try.prog 58 #[.pointer b, .pointer (some ⟨a, 0, none⟩)] W fun e w' => e = .returned (.bool (p x)) ∧ Kp [] W w')) :
    Calls Try.prog 57 #[.pointer (some ⟨q, 0, none⟩), .func (.func 58) #[] #[.pointer (some ⟨a, 0, none⟩)]] w fun e w' => e = .returned (.tuple #[]) ∧ Li w0 w' q (popW p zs) ∧ Ev w0 w w' := by
  obtain ⟨A, hA⟩ : ∃ A, popW p zs = A := ⟨_, rfl⟩
  rw [hA]
  go_enter Try.func57, Try.ntmps57
  go_wp2
  go_loopw [] (fun wr => ∃ ys, ys.length < 90000 ∧ Li w0 wr q ys ∧ Ev w0 w wr ∧ popW p ys = A) (fun wr => lenOf q wr)
  case atStart => exact ⟨zs, hl, hL, Ev.refl _ _, hA⟩
  case round =>
    obtain ⟨ys, hy, hr, er, hp⟩ := hrel
    have HM : Hid (lenOf q wr = ys.length) := lenOf_is hr
    clear hA hL hl
    obtain ⟨pp, v, bs, hx⟩ := hr
    have hc := hx.cell
    rcases snoc_or ys with rfl | ⟨r, x, rfl⟩
    · have e0 : bs = [] := List.eq_nil_of_length_eq_zero (by rw [hx.len]; rfl)
      have HT := top_out wr pp v (by rw [← e0]; exact hx.px)
      have HF : Hid (Li w0 wr q A ∧ Ev w0 w wr) := by
        rw [popW_nil] at hp
        subst hp
        exact ⟨⟨pp, v, bs, hx⟩, er⟩
      clear hx e0 hp G HM
      go_wp2_with (first | (go_at_call 66; refine (HT).mono ?_; rintro e w9 ⟨rfl, hw⟩; have hw2 := hw.symm; clear hw; subst hw2))
      (try simp only [Exit.inBlock, Exit.then]); refine bodyPost_ret (results_none rfl _ _ _) rfl ?_
      exact ⟨rfl, HF.out⟩
    · obtain ⟨b, hb1, hb2⟩ := hx.last
      have hlen := hx.len
      simp only [List.length_append, List.length_cons, List.length_nil] at hlen hy
      have HT := top_in wr pp v bs hx.px (by omega) b hb1
      have HG := G.out wr b x er hb2
      rw [popW_snoc] at hp
      generalize hpx : p x = y at HG hp
      cases y
      · simp only [Bool.false_eq_true, if_false] at hp
        have HF : Hid (∀ w2, Kp [] wr w2 → Li w0 w2 q A ∧ Ev w0 w w2) := fun w2 k => by
          subst hp
          exact ⟨⟨pp, v, bs, hx.kept k⟩, er.back k⟩
        clear hx hp G HM hb1 hb2 hpx hlen
        go_wp2_with (first | (go_at_call 66; refine (HT).mono ?_; rintro e w9 ⟨rfl, hw⟩; have hw2 := hw.symm; clear hw; subst hw2) | (go_at_call 58; refine HG.mono ?_; rintro e w2 ⟨rfl, k2⟩))
        (try simp only [Exit.inBlock, Exit.then]); refine bodyPost_ret (results_none rfl _ _ _) rfl ?_
        exact ⟨rfl, HF.out _ k2⟩
      · simp only [if_true] at hp
        have HP : Hid (∀ w2, Kp [] wr w2 → w2.cell? ⟨q, 0, none⟩ = some (.pointer (some ⟨pp, 0, none⟩)) ∧ _) := fun w2 k => ⟨(hx.kept k).cell, pop_in w2 pp v bs (hx.kept k).px (by omega) b hb1⟩
        have HF : Hid (∀ w2 w3, Kp [] wr w2 → TX w2 w3 pp v (bs.take (bs.length - 1)) → Li w0 w3 q r ∧ Ev w0 w w3) := fun w2 w3 k t => by
          obtain ⟨r1, r2⟩ := (hx.kept k).pop t
          exact ⟨r1, (er.back k).trans r2⟩
        clear hx G hb1 hb2 hpx hlen
        go_wp2_with (first | (go_at_call 66; refine (HT).mono ?_; rintro e w9 ⟨rfl, hw⟩; have hw2 := hw.symm; clear hw; subst hw2) | (go_at_call 58; refine HG.mono ?_; rintro e w2 ⟨rfl, k2⟩; obtain ⟨c2, HP2⟩ := HP.out w2 k2))
        refine HP2.mono ?_
        rintro e w3 ⟨rfl, t⟩
        obtain ⟨r1, r2⟩ := HF.out w2 w3 k2 t
        clear HP2 HF HP
        go_wp2
        go_roundw
        case rel => exact ⟨r, by omega, r1, r2, hp⟩
        case measure =>
          rw [HM.out, lenOf_is r1]
          simp

set_option maxHeartbeats 1000000 in
theorem while_thor (w0 w : World) (q : Nat) (zs : List It) (p : It → Bool) (hL : Li w0 w q zs) (hl : zs.length < 90000)
    (G : Hid (∀ W b x, Ev w0 w W → Bx W b x → Calls Try.prog 60 #[.pointer b] W fun e w' => e = .returned (.bool (p x)) ∧ Kp [] W w')) :
    Calls Try.prog 57 #[.pointer (some ⟨q, 0, none⟩), .func (.func 60) #[] #[]] w fun e w' => e = .returned (.tuple #[]) ∧ Li w0 w' q (popW p zs) ∧ Ev w0 w w' := by
  obtain ⟨A, hA⟩ : ∃ A, popW p zs = A := ⟨_, rfl⟩
  rw [hA]
  go_enter Try.func57, Try.ntmps57
  go_wp2
  go_loopw [] (fun wr => ∃ ys, ys.length < 90000 ∧ Li w0 wr q ys ∧ Ev w0 w wr ∧ popW p ys = A) (fun wr => lenOf q wr)
  case atStart => exact ⟨zs, hl, hL, Ev.refl _ _, hA⟩
  case round =>
    obtain ⟨ys, hy, hr, er, hp⟩ := hrel
    have HM : Hid (lenOf q wr = ys.length) := lenOf_is hr
    clear hA hL hl
    obtain ⟨pp, v, bs, hx⟩ := hr
    have hc := hx.cell
    rcases snoc_or ys with rfl | ⟨r, x, rfl⟩
    · have e0 : bs = [] := List.eq_nil_of_length_eq_zero (by rw [hx.len]; rfl)
      have HT := top_out wr pp v (by rw [← e0]; exact hx.px)
      have HF : Hid (Li w0 wr q A ∧ Ev w0 w wr) := by
        rw [popW_nil] at hp
        subst hp
        exact ⟨⟨pp, v, bs, hx⟩, er⟩
      clear hx e0 hp G HM
      go_wp2_with (first | (go_at_call 66; refine (HT).mono ?_; rintro e w9 ⟨rfl, hw⟩; have hw2 := hw.symm; clear hw; subst hw2))
      (try simp only [Exit.inBlock, Exit.then]); refine bodyPost_ret (results_none rfl _ _ _) rfl ?_
      exact ⟨rfl, HF.out⟩
    · obtain ⟨b, hb1, hb2⟩ := hx.last
      have hlen := hx.len
      simp only [List.length_append, List.length_cons, List.length_nil] at hlen hy
      have HT := top_in wr pp v bs hx.px (by omega) b hb1
      have HG := G.out wr b x er hb2
      rw [popW_snoc] at hp
      generalize hpx : p x = y at HG hp
      cases y
      · simp only [Bool.false_eq_true, if_false] at hp
        have HF : Hid (∀ w2, Kp [] wr w2 → Li w0 w2 q A ∧ Ev w0 w w2) := fun w2 k => by
          subst hp
          exact ⟨⟨pp, v, bs, hx.kept k⟩, er.back k⟩
        clear hx hp G HM hb1 hb2 hpx hlen
        go_wp2_with (first | (go_at_call 66; refine (HT).mono ?_; rintro e w9 ⟨rfl, hw⟩; have hw2 := hw.symm; clear hw; subst hw2) | (go_at_call 60; refine HG.mono ?_; rintro e w2 ⟨rfl, k2⟩))
        (try simp only [Exit.inBlock, Exit.then]); refine bodyPost_ret (results_none rfl _ _ _) rfl ?_
        exact ⟨rfl, HF.out _ k2⟩
      · simp only [if_true] at hp
        have HP : Hid (∀ w2, Kp [] wr w2 → w2.cell? ⟨q, 0, none⟩ = some (.pointer (some ⟨pp, 0, none⟩)) ∧ _) := fun w2 k => ⟨(hx.kept k).cell, pop_in w2 pp v bs (hx.kept k).px (by omega) b hb1⟩
        have HF : Hid (∀ w2 w3, Kp [] wr w2 → TX w2 w3 pp v (bs.take (bs.length - 1)) → Li w0 w3 q r ∧ Ev w0 w w3) := fun w2 w3 k t => by
          obtain ⟨r1, r2⟩ := (hx.kept k).pop t
          exact ⟨r1, (er.back k).trans r2⟩
        clear hx G hb1 hb2 hpx hlen
        go_wp2_with (first | (go_at_call 66; refine (HT).mono ?_; rintro e w9 ⟨rfl, hw⟩; have hw2 := hw.symm; clear hw; subst hw2) | (go_at_call 60; refine HG.mono ?_; rintro e w2 ⟨rfl, k2⟩; obtain ⟨c2, HP2⟩ := HP.out w2 k2))
        refine HP2.mono ?_
        rintro e w3 ⟨rfl, t⟩
        obtain ⟨r1, r2⟩ := HF.out w2 w3 k2 t
        clear HP2 HF HP
        go_wp2
        go_roundw
        case rel => exact ⟨r, by omega, r1, r2, hp⟩
        case measure =>
          rw [HM.out, lenOf_is r1]
          simp

set_option maxHeartbeats 1000000 in
theorem while_clear (w0 w : World) (q : Nat) (zs : List It) (p : It → Bool) (hL : Li w0 w q zs) (hl : zs.length < 90000) (a : Nat)
    (G : Hid (∀ W b x, Ev w0 w W → Bx W b x → Calls Try.prog 62 #[.pointer b, .pointer (some ⟨a, 0, none⟩)] W fun e w' => e = .returned (.bool (p x)) ∧ Kp [] W w')) :
    Calls Try.prog 57 #[.pointer (some ⟨q, 0, none⟩), .func (.func 62) #[] #[.pointer (some ⟨a, 0, none⟩)]] w fun e w' => e = .returned (.tuple #[]) ∧ Li w0 w' q (popW p zs) ∧ Ev w0 w w' := by
  obtain ⟨A, hA⟩ : ∃ A, popW p zs = A := ⟨_, rfl⟩
  rw [hA]
  go_enter Try.func57, Try.ntmps57
  go_wp2
  go_loopw [] (fun wr => ∃ ys, ys.length < 90000 ∧ Li w0 wr q ys ∧ Ev w0 w wr ∧ popW p ys = A) (fun wr => lenOf q wr)
  case atStart => exact ⟨zs, hl, hL, Ev.refl _ _, hA⟩
  case round =>
    obtain ⟨ys, hy, hr, er, hp⟩ := hrel
    have HM : Hid (lenOf q wr = ys.length) := lenOf_is hr
    clear hA hL hl
    obtain ⟨pp, v, bs, hx⟩ := hr
    have hc := hx.cell
    rcases snoc_or ys with rfl | ⟨r, x, rfl⟩
    · have e0 : bs = [] := List.eq_nil_of_length_eq_zero (by rw [hx.len]; rfl)
      have HT := top_out wr pp v (by rw [← e0]; exact hx.px)
      have HF : Hid (Li w0 wr q A ∧ Ev w0 w wr) := by
        rw [popW_nil] at hp
        subst hp
        exact ⟨⟨pp, v, bs, hx⟩, er⟩
      clear hx e0 hp G HM
      go_wp2_with (first | (go_at_call 66; refine (HT).mono ?_; rintro e w9 ⟨rfl, hw⟩; have hw2 := hw.symm; clear hw; subst hw2))
      (try simp only [Exit.inBlock, Exit.then]); refine bodyPost_ret (results_none rfl _ _ _) rfl ?_
      exact ⟨rfl, HF.out⟩
    · obtain ⟨b, hb1, hb2⟩ := hx.last
      have hlen := hx.len
      simp only [List.length_append, List.length_cons, List.length_nil] at hlen hy
      have HT := top_in wr pp v bs hx.px (by omega) b hb1
      have HG := G.out wr b x er hb2
      rw [popW_snoc] at hp
      generalize hpx : p x = y at HG hp
      cases y
      · simp only [Bool.false_eq_true, if_false] at hp
        have HF : Hid (∀ w2, Kp [] wr w2 → Li w0 w2 q A ∧ Ev w0 w w2) := fun w2 k => by
          subst hp
          exact ⟨⟨pp, v, bs, hx.kept k⟩, er.back k⟩
        clear hx hp G HM hb1 hb2 hpx hlen
        go_wp2_with (first | (go_at_call 66; refine (HT).mono ?_; rintro e w9 ⟨rfl, hw⟩; have hw2 := hw.symm; clear hw; subst hw2) | (go_at_call 62; refine HG.mono ?_; rintro e w2 ⟨rfl, k2⟩))
        (try simp only [Exit.inBlock, Exit.then]); refine bodyPost_ret (results_none rfl _ _ _) rfl ?_
        exact ⟨rfl, HF.out _ k2⟩
      · simp only [if_true] at hp
        have HP : Hid (∀ w2, Kp [] wr w2 → w2.cell? ⟨q, 0, none⟩ = some (.pointer (some ⟨pp, 0, none⟩)) ∧ _) := fun w2 k => ⟨(hx.kept k).cell, pop_in w2 pp v bs (hx.kept k).px (by omega) b hb1⟩
        have HF : Hid (∀ w2 w3, Kp [] wr w2 → TX w2 w3 pp v (bs.take (bs.length - 1)) → Li w0 w3 q r ∧ Ev w0 w w3) := fun w2 w3 k t => by
          obtain ⟨r1, r2⟩ := (hx.kept k).pop t
          exact ⟨r1, (er.back k).trans r2⟩
        clear hx G hb1 hb2 hpx hlen
        go_wp2_with (first | (go_at_call 66; refine (HT).mono ?_; rintro e w9 ⟨rfl, hw⟩; have hw2 := hw.symm; clear hw; subst hw2) | (go_at_call 62; refine HG.mono ?_; rintro e w2 ⟨rfl, k2⟩; obtain ⟨c2, HP2⟩ := HP.out w2 k2))
        refine HP2.mono ?_
        rintro e w3 ⟨rfl, t⟩
        obtain ⟨r1, r2⟩ := HF.out w2 w3 k2 t
        clear HP2 HF HP
        go_wp2
        go_roundw
        case rel => exact ⟨r, by omega, r1, r2, hp⟩
        case measure =>
          rw [HM.out, lenOf_is r1]
          simp


end Go.Proofs.Ytpadnfpifldoaaa.Ints
