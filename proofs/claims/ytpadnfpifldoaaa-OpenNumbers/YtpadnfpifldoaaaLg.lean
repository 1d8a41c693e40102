/-
  What Imply, Thorough and Clear hand to popWhile; the three themselves; Until.
-/
import Derived.Test.YtpadnfpifldoaaaLf
namespace Go.Proofs.Ytpadnfpifldoaaa.Ints
open Go.RowKit
set_option linter.unusedSimpArgs false

set_option maxHeartbeats 1000000 in
theorem imply_goes (w : World) (b : Option Addr) (x : It) (a : Nat) (but : ByteArray) (hb : Bx w b x) (ha : w.cell? ⟨a, 0, none⟩ = some (.string but)) :
    Calls Try.prog 58 #[.pointer b, .pointer (some ⟨a, 0, none⟩)] w fun e w' => e = .returned (.bool (goI but x)) ∧ Kp [] w w' := by
  obtain ⟨h, ns, nm⟩ := x
  obtain ⟨g, rfl, c0, c1, c2, c3⟩ := hb.out
  have HM := fun W => impl_any W nm
  obtain ⟨A, hA⟩ : ∃ A, goI but (h, ns, nm) = A := ⟨_, rfl⟩
  rw [hA]
  unfold goI at hA
  simp only at hA
  generalize has IMPL nm = B at HM hA
  clear hb
  rcases Bool.eq_false_or_eq_true (ns == 1) with h1 | h1
  · rcases Bool.eq_false_or_eq_true (nm.toList == but.toList) with h2 | h2
    · have h3 : (nm.toList != but.toList) = false := by simp [bne, h2]
      rw [h1, h2] at hA
      simp only [Bool.not_true, Bool.and_false, Bool.false_and] at hA
      subst hA
      go_enter Try.func58, Try.ntmps58
      go_wp2_with fail
      go_quiet (fail)
      go_wp2
      go_ret
      exact ⟨rfl, (Kp.refl _ _).drewN _⟩
    · have h3 : (nm.toList != but.toList) = true := by simp [bne, h2]
      rw [h1, h2] at hA
      simp only [Bool.not_false, Bool.and_true, Bool.true_and] at hA
      subst hA
      go_enter Try.func58, Try.ntmps58
      go_wp2_with fail
      go_quiet (first | (go_at_call 59; refine Calls.quiet_of_same (HM _)))
      go_wp2
      go_ret
      exact ⟨rfl, (Kp.refl _ _).drewN _⟩
  · rw [h1] at hA
    simp only [Bool.false_and] at hA
    subst hA
    go_enter Try.func58, Try.ntmps58
    go_wp2_with fail
    go_quiet (fail)
    go_wp2
    go_ret
    exact ⟨rfl, (Kp.refl _ _).drewN _⟩

set_option maxHeartbeats 1000000 in
theorem thor_goes (w : World) (b : Option Addr) (x : It) (hb : Bx w b x) :
    Calls Try.prog 60 #[.pointer b] w fun e w' => e = .returned (.bool (goT x)) ∧ Kp [] w w' := by
  obtain ⟨h, ns, nm⟩ := x
  obtain ⟨g, rfl, c0, c1, c2, c3⟩ := hb.out
  have HM := thorough_any w nm
  obtain ⟨A, hA⟩ : ∃ A, goT (h, ns, nm) = A := ⟨_, rfl⟩
  rw [hA]
  unfold goT at hA
  simp only at hA
  generalize thorough nm = B at HM hA
  clear hb
  go_enter Try.func60, Try.ntmps60
  go_wp2_with (first | (go_at_call 61; refine HM.mono ?_; rintro e w2 ⟨rfl, rfl⟩))
  all_goals (go_ret; refine ⟨?_, Kp.refl _ _⟩)
  all_goals (clear HM; subst hA; simp [*])

set_option maxHeartbeats 1000000 in
theorem clear_goes (w : World) (b : Option Addr) (x : It) (a : Nat) (L : List ByteArray) (ao : Option Addr) (n c : Nat) (hb : Bx w b x) (hr : Rb w ao n c (tx L)) (hn : n ≤ 1000) (ha : w.cell? ⟨a, 0, none⟩ = some (.slice ao n c)) :
    Calls Try.prog 62 #[.pointer b, .pointer (some ⟨a, 0, none⟩)] w fun e w' => e = .returned (.bool (goC L x)) ∧ Kp [] w w' := by
  have H1 := isOf_any w b x L ao n c hb hr hn
  have H2 := is_any w b x ⟨#[104, 116, 109, 108]⟩ hb
  have H3 := is_any w b x ⟨#[116, 101, 109, 112, 108, 97, 116, 101]⟩ hb
  obtain ⟨A, hA⟩ : ∃ A, goC L x = A := ⟨_, rfl⟩
  rw [hA]
  have hH : isIn HTM x = (isIn [⟨#[104, 116, 109, 108]⟩] x || isIn [⟨#[116, 101, 109, 112, 108, 97, 116, 101]⟩] x) := by
    unfold isIn HTM
    simp only [List.any_cons, List.any_nil, Bool.or_false, Bool.and_or_distrib_left]
  unfold goC at hA
  rw [hH] at hA
  clear hH hb hr
  generalize isIn L x = I1 at H1 hA
  generalize isIn [⟨#[104, 116, 109, 108]⟩] x = I2 at H2 hA
  generalize isIn [⟨#[116, 101, 109, 112, 108, 97, 116, 101]⟩] x = I3 at H3 hA
  subst hA
  cases I1
  · cases I2
    · go_enter Try.func62, Try.ntmps62
      go_wp2_with fail
      refine H1.mono ?_
      rintro e w2 ⟨rfl, rfl⟩
      go_wp2_with fail
      refine H2.mono ?_
      rintro e w2 ⟨rfl, rfl⟩
      go_wp2_with fail
      refine H3.mono ?_
      rintro e w2 ⟨rfl, rfl⟩
      go_wp2
      go_ret
      exact ⟨by simp, Kp.refl _ _⟩
    · go_enter Try.func62, Try.ntmps62
      go_wp2_with fail
      refine H1.mono ?_
      rintro e w2 ⟨rfl, rfl⟩
      go_wp2_with fail
      refine H2.mono ?_
      rintro e w2 ⟨rfl, rfl⟩
      go_wp2
      go_ret
      exact ⟨by simp, Kp.refl _ _⟩
  · go_enter Try.func62, Try.ntmps62
    go_wp2_with fail
    refine H1.mono ?_
    rintro e w2 ⟨rfl, rfl⟩
    go_wp2
    go_ret
    exact ⟨by simp, Kp.refl _ _⟩

theorem hmf : ∀ (fn : Fn) (first cap : Array Value) (w : World), (Instr.makeFunc fn first cap).run Try.prog w = .ok (.func fn first cap) w := fun _ _ _ _ => rfl

theorem imply_list (w0 w : World) (q : Nat) (zs : List It) (but : ByteArray) (hL : Li w0 w q zs) (hl : zs.length < 90000) :
    Calls Try.prog 24 #[.pointer (some ⟨q, 0, none⟩), .string but] w fun e w' => e = .returned (.tuple #[]) ∧ Li w0 w' q (popW (goI but) zs) ∧ Ev w0 w w' := by
  have k1 : Kp [] w (w.alloc (.cells #[.string but] 9)) := (Kp.refl _ _).alloc _
  have hq : (w.alloc (.cells #[.string but] 9)).heap[w.heap.size]? = some (.cells #[.string but] 9 (0, 0)) := heap_new _ _
  have H := while_imply w0 (w.alloc (.cells #[.string but] 9)) q zs (goI but) (hL.kept k1) hl w.heap.size (fun W b x e hb => imply_goes W b x _ but hb (cell_of (e.cells _ _ _ hq not_pil_string) 0))
  have HF : Hid (∀ w', Ev w0 (w.alloc (.cells #[.string but] 9)) w' → Ev w0 w w') := fun w' e => (Ev.of_kp k1).trans e
  have hmf := hmf
  clear hL k1 hq
  go_enter Try.func24, Try.ntmps24
  go_wp2_with fail
  refine H.mono ?_
  rintro e w2 ⟨rfl, r1, r2⟩
  clear H
  go_wp2
  go_end0
  exact ⟨rfl, r1, HF.out _ r2⟩

theorem thor_list (w0 w : World) (q : Nat) (zs : List It) (hL : Li w0 w q zs) (hl : zs.length < 90000) :
    Calls Try.prog 25 #[.pointer (some ⟨q, 0, none⟩)] w fun e w' => e = .returned (.tuple #[]) ∧ Li w0 w' q (popW goT zs) ∧ Ev w0 w w' := by
  have H := while_thor w0 w q zs goT hL hl (fun W b x _ hb => thor_goes W b x hb)
  clear hL
  go_enter Try.func25, Try.ntmps25
  go_wp2_with fail
  refine H.mono ?_
  rintro e w2 ⟨rfl, r1, r2⟩
  clear H
  go_wp2
  go_end0
  exact ⟨rfl, r1, r2⟩

/-- A slice of texts that is kept, however piles are turned. -/
theorem rb_ev {w0 w w' : World} {g n c : Nat} {xs : List Value} (h : w.heap[g]? = some (.cells xs.toArray 9 (0, 0))) (hn : n = xs.length) (hc : n ≤ c) (e : Ev w0 w w') : Rb w' (some ⟨g, 0, none⟩) n c xs :=
  ⟨hn, hc, fun j _ => ⟨g, 0, rfl, by rw [cell_of (e.cells _ _ _ h not_pil_string)]; simp⟩⟩

theorem not_pil_strings : ¬ pil 72 := by unfold pil; decide

/-- Clear, of a list of names that lies in a block of its own. -/
theorem clear_list (w0 w : World) (q : Nat) (zs : List It) (L : List ByteArray) (g n : Nat) (hL : Li w0 w q zs) (hg : w.heap[g]? = some (.cells (tx L).toArray 9 (0, 0))) (hn : n = L.length) (hn1 : n ≤ 1000) (hl : zs.length < 90000) :
    Calls Try.prog 26 #[.pointer (some ⟨q, 0, none⟩), .slice (some ⟨g, 0, none⟩) n n] w fun e w' => e = .returned (.tuple #[]) ∧ Li w0 w' q (popW (goC L) zs) ∧ Ev w0 w w' := by
  have k1 : Kp [] w (w.alloc (.cells #[.slice (some ⟨g, 0, none⟩) n n] 72)) := (Kp.refl _ _).alloc _
  have hq : (w.alloc (.cells #[.slice (some ⟨g, 0, none⟩) n n] 72)).heap[w.heap.size]? = some (.cells #[.slice (some ⟨g, 0, none⟩) n n] 72 (0, 0)) := heap_new _ _
  have hg2 : (w.alloc (.cells #[.slice (some ⟨g, 0, none⟩) n n] 72)).heap[g]? = some (.cells (tx L).toArray 9 (0, 0)) := by rw [k1.block g (lt_of hg) (by simp)]; exact hg
  have H := while_clear w0 (w.alloc (.cells #[.slice (some ⟨g, 0, none⟩) n n] 72)) q zs (goC L) (hL.kept k1) hl w.heap.size (fun W b x e hb =>
    clear_goes W b x _ L _ n n hb (rb_ev hg2 (by rw [tx_len]; exact hn) (Nat.le_refl _) e) hn1 (cell_of (e.cells _ _ _ hq not_pil_strings) 0))
  have HF : Hid (∀ w', Ev w0 (w.alloc (.cells #[.slice (some ⟨g, 0, none⟩) n n] 72)) w' → Ev w0 w w') := fun w' e => (Ev.of_kp k1).trans e
  have hmf := hmf
  clear hL k1 hq hg hg2 hn
  go_enter Try.func26, Try.ntmps26
  go_wp2_with fail
  refine H.mono ?_
  rintro e w2 ⟨rfl, r1, r2⟩
  clear H
  go_wp2
  go_end0
  exact ⟨rfl, r1, HF.out _ r2⟩

set_option maxHeartbeats 1000000 in
/-- Until, of a list of names that lies in a block of its own. -/
theorem until_list (w0 w : World) (q : Nat) (zs : List It) (L : List ByteArray) (g n : Nat) (hL : Li w0 w q zs) (hg : w.heap[g]? = some (.cells (tx L).toArray 9 (0, 0))) (hn : n = L.length) (hn1 : n ≤ 1000) (hl : zs.length < 90000) :
    Calls Try.prog 22 #[.pointer (some ⟨q, 0, none⟩), .slice (some ⟨g, 0, none⟩) n n] w fun e w' => e = .returned (.int .i64 (untN L zs)) ∧ Li w0 w' q (unt L zs) ∧ Ev w0 w w' := by
  obtain ⟨A, hA⟩ : ∃ A, unt L zs = A := ⟨_, rfl⟩
  obtain ⟨N, hN⟩ : ∃ N, untN L zs = N := ⟨_, rfl⟩
  rw [hA, hN]
  have HG : Hid (∀ w', Ev w0 w w' → Rb w' (some ⟨g, 0, none⟩) n n (tx L)) := fun w' e => rb_ev hg (by rw [tx_len]; exact hn) (Nat.le_refl _) e
  clear hg hn
  go_enter Try.func22, Try.ntmps22
  go_wp2
  go_loopw [5] (fun i wr => ∃ ys, ∃ m : Nat, m + ys.length < 90000 ∧ i = .int .i64 m ∧ Li w0 wr q ys ∧ Ev w0 w wr ∧ unt L ys = A ∧ m + untN L ys = N) (fun _ wr => lenOf q wr)
  case atStart => exact ⟨zs, 0, by omega, rfl, hL, Ev.refl _ _, hA, by omega⟩
  case round =>
    obtain ⟨ys, m, hy, rfl, hr, er, hp, hm⟩ := hrel
    have HM : Hid (lenOf q wr = ys.length) := lenOf_is hr
    clear hA hL hl hN
    obtain ⟨pp, v, bs, hx⟩ := hr
    have hc := hx.cell
    rcases snoc_or ys with rfl | ⟨r, x, rfl⟩
    · have e0 : bs = [] := List.eq_nil_of_length_eq_zero (by rw [hx.len]; rfl)
      have HT := Ints.pop_out wr pp v (by rw [← e0]; exact hx.px)
      have HF : Hid (Li w0 wr q A ∧ Ev w0 w wr) := by
        rw [unt_nil] at hp
        subst hp
        exact ⟨⟨pp, v, bs, hx⟩, er⟩
      rw [untN_nil, Nat.add_zero] at hm
      subst hm
      clear hx e0 hp HG HM
      go_wp2_with (first | (go_at_call 56; refine (HT).mono ?_; rintro e w9 ⟨rfl, hw⟩; have hw2 := hw.symm; clear hw; subst hw2))
      go_ret
      exact ⟨rfl, HF.out⟩
    · obtain ⟨b, hb1, hb2⟩ := hx.last
      have hlen := hx.len
      simp only [List.length_append, List.length_cons, List.length_nil] at hlen hy
      have HT := pop_in wr pp v bs hx.px (by omega) b hb1
      have HF : Hid (∀ w3, TX wr w3 pp v (bs.take (bs.length - 1)) → (Calls Try.prog 54 #[.pointer b, .slice (some ⟨g, 0, none⟩) n n] w3 fun e w' => e = .returned (.bool (isIn L x)) ∧ w' = w3) ∧ Li w0 w3 q r ∧ Ev w0 w w3) := fun w3 t => by
        obtain ⟨r1, r2⟩ := hx.pop t
        exact ⟨isOf_any w3 b x L _ n n (hb2.ev r2) (HG.out w3 (er.trans r2)) hn1, r1, er.trans r2⟩
      rw [unt_snoc] at hp
      rw [untN_snoc] at hm
      generalize isIn L x = I at HF hp hm
      clear hx HG hb1 hb2 hlen
      cases I
      · simp only [Bool.false_eq_true, if_false] at hp hm
        go_wp2_with fail
        refine HT.mono ?_
        rintro e w3 ⟨rfl, t⟩
        obtain ⟨HI, r1, r2⟩ := HF.out w3 t
        clear HT HF t
        go_wp2_with (first | (go_at_call 54; refine (HI).mono ?_; rintro e w9 ⟨rfl, hw⟩; have hw2 := hw.symm; clear hw; subst hw2))
        go_roundw
        case rel => exact ⟨r, m + 1, by omega, by go_num, r1, r2, hp, by omega⟩
        case measure =>
          rw [HM.out, lenOf_is r1]
          simp
      · simp only [if_true] at hp hm
        subst hm
        go_wp2_with fail
        refine HT.mono ?_
        rintro e w3 ⟨rfl, t⟩
        obtain ⟨HI, r1, r2⟩ := HF.out w3 t
        clear HT HF t
        subst hp
        go_wp2_with (first | (go_at_call 54; refine (HI).mono ?_; rintro e w9 ⟨rfl, hw⟩; have hw2 := hw.symm; clear hw; subst hw2))
        go_ret
        exact ⟨rfl, r1, r2⟩

end Go.Proofs.Ytpadnfpifldoaaa.Ints
