/-
  ArenaPlaces: put ahead of another one, a node stands right ahead of it.
-/
import Derived.Test.YtngbpbgohpblmaaRefP
namespace Go.Proofs.Ytngbpbgohpblmaa
open Go.RowKit Go.Maps Utf
set_option linter.unusedVariables false
set_option linter.unusedSimpArgs false

namespace Ar
/-- Put ahead of r: where it stands, and where r does. -/
theorem put_place {a : Ar} (h : a.Ok) {p r x : Nat} (hu : a.up r = some p) : ((a.put p (a.place p r) x).kids p)[a.place p r]? = some x ∧ ((a.put p (a.place p r) x).kids p)[a.place p r + 1]? = some r ∧ ((a.put p (a.place p r) x).kids p).length = (a.kids p).length + 1 ∧ a.place p r + 1 < (a.kids p).length + 1 := by
  obtain ⟨m1, m2⟩ := place_lt h hu
  have e : (a.put p (a.place p r) x).kids p = (a.kids p).take (a.place p r) ++ x :: (a.kids p).drop (a.place p r) := by show (if p = p then _ else _) = _; rw [if_pos rfl]
  have hl : ((a.kids p).take (a.place p r)).length = a.place p r := by rw [List.length_take]; omega
  refine ⟨?_, ?_, ?_, by omega⟩
  · rw [e, List.getElem?_append_right (by omega), hl, Nat.sub_self]; rfl
  · rw [e, List.getElem?_append_right (by omega), hl, show a.place p r + 1 - a.place p r = 1 by omega, List.getElem?_cons_succ, List.getElem?_drop, Nat.add_zero]
    exact m2
  · rw [e, List.length_append, List.length_cons, hl, List.length_drop]; omega
end Ar

set_option maxRecDepth 100000 in
set_option maxHeartbeats 4000000 in
theorem places_any (w : World) (ao : Option Addr) (n c : Nat) (F : Nat → Aq) (hin : Ain w ao n c F) (zn zt : Int) :
    Calls Try.prog 8 #[.slice ao n c, .int .i64 zn, .int .i64 zt] w fun e w' => e = .returned (.bool true) ∧ Kp [] w w' := by
  have HPl := played_any w ao n c F hin
  clear hin
  go_enter Try.func8, Try.ntmps8
  go_upto_region 2 with (go_at_call 14; refine HPl.mono ?_; rintro e W1 ⟨b, d, tag, q, A, k, rfl, B, hk, v⟩)
  clear HPl
  have ful := B.ps.ful
  have ok := ful.toOk
  have hpos := ok.pos
  have hnl := B.n_lt
  obtain ⟨m, hm⟩ : ∃ m, A.n = m + 1 := ⟨A.n - 1, by omega⟩
  have HL := B.ps.len
  have hwr : IntKind.i64.wrap ((A.n : Int) - 1) = (m : Int) := by
    rw [hm]
    simp [IntKind.wrap, IntKind.bits, IntKind.signed]
    omega
  have j1 : ¬ (A.n : Int) < 1 := by omega
  have HWi : Hid (∀ z V, Calls Try.prog 19 #[.int .i64 z, .int .i64 0, .int .i64 (m : Int)] V fun e w' => e = .returned (.int .i64 (wi z m : Int)) ∧ w' = V) := fun z V => within_node V z m (by omega)
  have hN0 := wi_le zn m
  have hT0 := wi_le zt m
  have HB : Hid (Bo tag W1 b d q A k ∧ Bv (fun _ => 0) w tag W1) := ⟨B, v⟩
  have HOk : Hid (A.Ful) := ful
  have hM : Hid (A.n = m + 1) := hm
  have hNb : Hid (A.n < 2700) := hnl
  clear B v ful ok hm hpos hnl
  go_upto_region 5 with (first | (go_at_call 15; refine (HL).mono ?_; rintro e w9 ⟨rfl, hw⟩; have hw2 := hw.symm; clear hw; subst hw2) | (go_at_call 19; refine (HWi.out _ _).mono ?_; rintro e w9 ⟨rfl, hw⟩; have hw2 := hw.symm; clear hw; subst hw2))
  clear HL HWi hwr j1
  generalize wi zn m = N at *
  generalize wi zt m = R at *
  have hN : N < A.n := by have := hM.out; omega
  have hR : R < A.n := by have := hM.out; omega
  clear hM hN0 hT0
  have HDt := HB.out.1.ps.det (N : Int)
  cases hf : Ar.fix (A.lb N) with
  | true =>
    rw [Ar.detF_no hN hf] at HDt
    go_wp2_with (first | (go_at_call 21; refine HDt.mono ?_; rintro e W2 ⟨rfl, p2, m2⟩) | (go_at_call 13; refine (known_any _).mono ?_; rintro e W9 ⟨rfl, k9⟩))
    go_ret
    exact ⟨rfl, (HB.out.2.trans m2.bv).kp (fun _ _ => rfl) |>.trans k9 (fun x hx => Or.inl hx)⟩
  | false =>
    rw [Ar.detF_yes hN hf] at HDt
    have HF1 : Hid ((A.cut N).Ful) := HOk.out.cut hf
    have HBf : Hid (∀ V, Ps tag V b q (A.cut N) k → Calls Try.prog 28 #[.pointer (some ⟨b, 0, none⟩), .int .i64 (R : Int), .int .i64 (N : Int)] V fun e w' => e = .returned (.int .i64 ((A.cut N).befF (R : Int) (N : Int)).2) ∧ Ps tag w' b q ((A.cut N).befF (R : Int) (N : Int)).1 k ∧ Mv tag V tag w') := fun V pV => pV.bef _ _
    have hBy : Hid (((A.cut N).befF (R : Int) (N : Int)).2 = 0 → ∃ p, (A.cut N).up R = some p ∧ Ar.fix ((A.cut N).lb N) = false ∧ (A.cut N).up N = none ∧ ¬ (A.cut N).Wn R N ∧ ((A.cut N).befF (R : Int) (N : Int)).1 = (A.cut N).put p ((A.cut N).place p R) N) := fun e => Ar.befF_yes HF1.out.toOk (r := R) (x := N) hR hN e
    obtain ⟨ev, hev⟩ : ∃ z, ((A.cut N).befF (R : Int) (N : Int)).2 = z := ⟨_, rfl⟩
    have hevx : Hid (((A.cut N).befF (R : Int) (N : Int)).2 = ev) := hev
    rw [hev] at HBf hBy
    clear hev
    by_cases h0 : ev = 0
    · subst h0
      obtain ⟨P, hu, hf1, hu1, hw, eA⟩ := hBy.out rfl
      have hBe : Hid ((A.cut N).befF (R : Int) (N : Int) = ((A.cut N).put P ((A.cut N).place P R) N, 0)) := Prod.ext eA (hevx.out)
      rw [eA] at HBf
      clear hBy eA hevx
      go_upto_region 7 with (first | (go_at_call 21; refine HDt.mono ?_; rintro e W2 ⟨rfl, p2, m2⟩) | (go_at_call 28; refine (HBf.out _ p2).mono ?_; rintro e W3 ⟨rfl, p3, m3⟩))
      clear HDt
      have hP : P < A.n := (HF1.out.toOk.lt hu).2
      obtain ⟨i0, i1, i2, i3⟩ := Ar.put_place (x := N) HF1.out.toOk hu
      have hRN : R ≠ N := fun e => by rw [e, hu1] at hu; cases hu
      have hcut : ((A.cut N).put P ((A.cut N).place P R) N).cut N = A.cut N := Ar.put_cut HF1.out.toOk hu1
      have hupN : ((A.cut N).put P ((A.cut N).place P R) N).up N = some P := by show (if N = N then _ else _) = _; rw [if_pos rfl]
      have hupR : ((A.cut N).put P ((A.cut N).place P R) N).up R = some P := by show (if R = N then _ else _) = _; rw [if_neg hRN]; exact hu
      have hlb : ((A.cut N).put P ((A.cut N).place P R) N).lb N = A.lb N := rfl
      have hn2 : ((A.cut N).put P ((A.cut N).place P R) N).n = A.n := rfl
      have hkl1 : ((A.cut N).kids P).length ≤ A.n := Ar.pig _ _ (HF1.out.toOk.one P) (fun y hy => (HF1.out.toOk.kid_lt hy).1)
      generalize (A.cut N).place P R = ix at *
      generalize hA2 : (A.cut N).put P ix N = A2 at *
      clear hA2
      have f2 := p3.ful
      have hOT : Hid (∀ x, okT (A2.lb x) (A2.below x)) := fun x => f2.toOk.okT (by have := hNb.out; omega) (fun y => ⟨by have := (p3.sz.lbs y).2.2.len; omega, (p3.sz.lbs y).2.2.fits⟩) x
      have hone := f2.toOk.one P
      have HP := p3.pure 0 f2.toOk.pos
      rw [show ((0 : Nat) : Int) = 0 from rfl] at HP
      unfold wv at HP
      go_upto_region 8 with (go_at_call 20; refine HP.mono ?_; rintro e W4 ⟨p9, rfl, k4, n4⟩)
      clear HP
      obtain ⟨W5, hW5⟩ : ∃ W, W = W4.alloc (.cells #[.int .i64 (A2.lb 0).kind, .int .i64 (A2.lb 0).ns, .string (A2.lb 0).name, .slice p9.1.1 p9.1.2.1 p9.1.2.2, .string (A2.lb 0).text, .slice p9.2.1 p9.2.2.1 p9.2.2.2] 42) := ⟨_, rfl⟩
      have kW5 : Kp [] W4 W5 := by rw [hW5]; exact (Kp.refl _ _).alloc _
      have aW5 : At W5 W4.heap.size #[.int .i64 (A2.lb 0).kind, .int .i64 (A2.lb 0).ns, .string (A2.lb 0).name, .slice p9.1.1 p9.1.2.1 p9.1.2.2, .string (A2.lb 0).text, .slice p9.2.1 p9.2.2.1 p9.2.2.2] 42 := by rw [hW5]; exact At.new _ _ _
      rw [← hW5]
      clear hW5
      obtain ⟨g9, hg9⟩ : ∃ g, W4.heap.size = g := ⟨_, rfl⟩
      rw [hg9] at aW5 ⊢
      have lg9 : W4.heap.size ≤ g9 := by rw [← hg9]; exact Nat.le_refl _
      clear hg9
      have k35 : Kp [] W3 W5 := k4.trans kW5 (fun z hz => Or.inl hz)
      have HPN : Hid (Calls Try.prog 17 #[.pointer (some ⟨b, 0, none⟩), .int .i64 (N : Int)] W5 fun e w' => e = .returned (.tuple #[.int .i64 (P : Int), .bool true]) ∧ w' = W5) := by
        have := (p3.kept k35).par (N : Int)
        rw [Ar.parF_some (by omega) hupN] at this
        exact this
      have HPR : Hid (Calls Try.prog 17 #[.pointer (some ⟨b, 0, none⟩), .int .i64 (R : Int)] W5 fun e w' => e = .returned (.tuple #[.int .i64 (P : Int), .bool true]) ∧ w' = W5) := by
        have := (p3.kept k35).par (R : Int)
        rw [Ar.parF_some (by omega) hupR] at this
        exact this
      have HPN2 := HPN.out
      go_upto_region 9 with (go_at_call 17; refine (HPN2).mono ?_; rintro e w9 ⟨rfl, hw⟩; have hw2 := hw.symm; clear hw; subst hw2)
      clear HPN2 HPN
      have HPR2 := HPR.out
      go_upto_region 10 with (go_at_call 17; refine (HPR2).mono ?_; rintro e w9 ⟨rfl, hw⟩; have hw2 := hw.symm; clear hw; subst hw2)
      clear HPR2 HPR
      have HK := (p3.kept k35).kids (P : Int)
      rw [Ar.kidF_nat (show P < A2.n by omega)] at HK
      go_upto_region 13 with (go_at_call 16; refine HK.mono ?_; rintro e W6 ⟨ao6, n6, c6, rfl, M6⟩)
      clear HK
      have hn6 : n6 = ((A.cut N).kids P).length + 1 := by have := M6.rb.len; rw [iv_len, i2] at this; exact this
      subst hn6
      have k36 : Kp [] W3 W6 := k35.trans M6.2.1 (fun z hz => Or.inl hz)
      have aW5 := aW5.kept M6.2.1 (by simp)
      have s34 := k4.size
      have P6 : Ps (tg0 tag W3) W6 b q A2 k := p3.re k36 (fun x hx => tg0_lt hx)
      have v6 : Bv (fun _ => 0) w (tg0 tag W3) W6 := ((HB.out.2.trans m2.bv).trans m3.bv).trans (Bv.of_kp k36 (fun x hx => tg0_lt hx))
      have q9 : Nq (tg0 tag W3 g9) := tg0_nq (by omega)
      have n6 : Nd (fun y => Nq (tg0 tag W3 y)) W6 (A2.lb 0) (A2.below 0) p9 := ((n4.mono (fun y _ hy => tg0_nq hy)).kept kW5).kept M6.2.1
      have HKc : Hid (∀ i (hi : i < (A2.kids P).length) V, Kp [] W6 V → ∃ b7 o7, ao6 = some ⟨b7, o7, none⟩ ∧ V.cell? ⟨b7, o7 + i, none⟩ = some (.int .i64 ((A2.kids P)[i] : Int))) := fun i hi V kV => (M6.rka.kept kV).iv_at i hi
      generalize tg0 tag W3 = tag1 at *
      have H9 : Hid (∀ tag2 V, Bv tag1 W6 tag2 V → V.cell? ⟨g9, 0, none⟩ = some (.int .i64 (A2.lb 0).kind) ∧ V.cell? ⟨g9, 1, none⟩ = some (.int .i64 (A2.lb 0).ns) ∧ V.cell? ⟨g9, 2, none⟩ = some (.string (A2.lb 0).name) ∧ V.cell? ⟨g9, 3, none⟩ = some (.slice p9.1.1 p9.1.2.1 p9.1.2.2) ∧ V.cell? ⟨g9, 4, none⟩ = some (.string (A2.lb 0).text) ∧ V.cell? ⟨g9, 5, none⟩ = some (.slice p9.2.1 p9.2.2.1 p9.2.2.2)) := fun tag2 V vv => (aW5.bv vv q9).six
      have HN9 : Hid (∀ tag2 V, Bv tag1 W6 tag2 V → Nd Any V (A2.lb 0) (A2.below 0) p9) := fun tag2 V vv => (n6.keep vv.sm).any
      have HV6 : Hid (Bv (fun _ => 0) w tag1 W6) := v6
      have HP6 : Hid (Ps tag1 W6 b q A2 k) := P6
      clear aW5 q9 n6 n4 k4 kW5 k35 k36 s34 v6 M6 lg9 HB P6 p2 p3 m2 m3 HBf
      have hix : ix < (A2.kids P).length := by omega
      have hix1 : ix + 1 < (A2.kids P).length := by omega
      have eN : (A2.kids P)[ix] = N := by rw [List.getElem?_eq_getElem hix] at i0; exact Option.some.inj i0
      have eR : (A2.kids P)[ix + 1] = R := by rw [List.getElem?_eq_getElem hix1] at i1; exact Option.some.inj i1
      have hneN : Hid (∀ i (hi : i < (A2.kids P).length), i ≠ ix → (A2.kids P)[i] ≠ N) := fun i hi hne e => hne (by
        rw [← eN] at e
        exact (List.getElem_inj hone).1 e)
      have HeN : Hid ((A2.kids P)[ix] = N) := eN
      have HeR : Hid ((A2.kids P)[ix + 1] = R) := eR
      have hL : Hid ((A2.kids P).length = ((A.cut N).kids P).length + 1) := i2
      obtain ⟨m6, hm6⟩ : ∃ m6, ((A.cut N).kids P).length = m6 := ⟨_, rfl⟩
      rw [hm6] at hL hkl1 i3 ⊢
      have HM6 : Hid (((A.cut N).kids P).length = m6) := hm6
      have hm6b : m6 ≤ 2700 := by have := hNb.out; omega
      clear hm6 i0 i1 i2 eN eR hone hkl1
      go_wp2_with fail
      go_loopw [16, 17] (fun a z wr => ∃ i : Nat, z = .int .i64 (i : Int) ∧ i ≤ m6 + 1 ∧ a = .int .i64 (if ix < i then (ix : Int) else -1) ∧ wr = W6) (fun _ z _ => m6 + 1 - (intOf z).toNat)
      case atStart => exact ⟨0, rfl, by omega, by rw [if_neg (by omega)], rfl⟩
      case round =>
        obtain ⟨i, rfl, hi, rfl, hw6⟩ := hrel
        have hw7 := hw6.symm
        clear hw6
        subst hw7
        by_cases hlt : i < m6 + 1
        · have hik : i < (A2.kids P).length := by have := hL.out; omega
          obtain ⟨b7, o7, rfl, h7⟩ := HKc.out i hik _ (Kp.refl _ _)
          have c1 : (i : Int) < ((m6 + 1 : Nat) : Int) := by omega
          have c0 : (0 : Int) ≤ (i : Int) := by omega
          by_cases e : i = ix
          · subst e
            rw [HeN.out] at h7
            rw [if_neg (Nat.lt_irrefl _)]
            have H1 : Hid ((if i < i + 1 then (i : Int) else -1) = (i : Int)) := if_pos (Nat.lt_succ_self _)
            clear HKc
            go_wp2
            go_roundw
            case rel => exact ⟨i + 1, by go_num, by omega, by rw [H1.out], trivial⟩
            case measure => simp [intOf]; omega
          · have hb := hneN.out i hik e
            have hb2 : (((A2.kids P)[i] : Int) == (N : Int)) = false := beq_false_of_ne (by omega)
            have H10 : (if ix < i + 1 then (ix : Int) else -1) = if ix < i then (ix : Int) else -1 := by
              by_cases h1 : ix < i
              · rw [if_pos h1, if_pos (by omega)]
              · rw [if_neg h1, if_neg (by omega)]
            have H1 : Hid ((if ix < i + 1 then (ix : Int) else -1) = if ix < i then (ix : Int) else -1) := H10
            clear H10
            obtain ⟨va, hva⟩ : ∃ va, (if ix < i then (ix : Int) else -1) = va := ⟨_, rfl⟩
            rw [hva] at H1 ⊢
            clear hva
            generalize (A2.kids P)[i] = y at *
            clear HKc hb e
            go_wp2
            go_roundw
            case rel => exact ⟨i + 1, by go_num, by omega, by rw [H1.out], trivial⟩
            case measure => simp [intOf]; omega
        · obtain rfl : i = m6 + 1 := by omega
          rw [if_pos (by omega)]
          have hik : ix + 1 < (A2.kids P).length := by have := hL.out; omega
          obtain ⟨b7, o7, rfl, h7⟩ := HKc.out (ix + 1) hik _ (Kp.refl _ _)
          rw [HeR.out] at h7
          have c1 : ¬ (ix : Int) < 0 := by omega
          have c2 : (ix : Int) + 1 < ((m6 + 1 : Nat) : Int) := by omega
          have c3 : (0 : Int) ≤ (ix : Int) + 1 := by omega
          have c4 : ¬ ((m6 + 1 : Nat) : Int) ≤ (ix : Int) + 1 := by omega
          have hwr : IntKind.i64.wrap ((ix : Int) + 1) = (ix : Int) + 1 := by
            simp [IntKind.wrap, IntKind.bits, IntKind.signed]
            omega
          have hwr2 : IntKind.i64.wrap (((m6 + 1 : Nat) : Int) - 1) = (m6 : Int) := by
            simp [IntKind.wrap, IntKind.bits, IntKind.signed]
            omega
          have HDt := HP6.out.det (N : Int)
          rw [Ar.detF_yes (by omega) (by rw [hlb]; exact hf), hcut] at HDt
          have HK2 : Hid (∀ V, Ps tag1 V b q (A.cut N) k → Calls Try.prog 16 #[.pointer (some ⟨b, 0, none⟩), .int .i64 (P : Int)] V fun e w' => ∃ ao c', e = .returned (.slice ao m6 c') ∧ Kp [] V w') := fun V pV => by
            have := pV.kids (P : Int)
            rw [Ar.kidF_nat (show P < (A.cut N).n from hP)] at this
            refine this.mono ?_
            rintro e w' ⟨ao, n', c', rfl, M⟩
            have hl := M.rb.len
            rw [iv_len, HM6.out] at hl
            subst hl
            exact ⟨ao, c', rfl, M.2.1⟩
          have HBf2 : Hid (∀ V, Ps tag1 V b q (A.cut N) k → Calls Try.prog 28 #[.pointer (some ⟨b, 0, none⟩), .int .i64 (R : Int), .int .i64 (N : Int)] V fun e w' => e = .returned (.int .i64 0) ∧ Ps tag1 w' b q A2 k ∧ Mv tag1 V tag1 w') := fun V pV => by
            have := pV.bef (R : Int) (N : Int)
            rw [hBe.out] at this
            exact this
          have HPu : Hid (∀ V, Ps tag1 V b q A2 k → Calls Try.prog 20 #[.pointer (some ⟨b, 0, none⟩), .int .i64 0] V fun e w' => ∃ p, e = .returned (.tuple #[wv (A2.lb 0) p, .int .i64 0]) ∧ Kp [] V w' ∧ Nd Any w' (A2.lb 0) (A2.below 0) p) := fun V pV => by
            refine (pV.pure 0 pV.ful.toOk.pos).mono ?_
            rintro e w' ⟨p, rfl, k1, n1⟩
            exact ⟨p, rfl, k1, n1.any⟩
          unfold wv at HPu
          clear HKc hneN HeN HeR hL
          go_upto_region 24 with (first | (go_at_call 21; refine HDt.mono ?_; rintro e W7 ⟨rfl, p7, m7⟩) | (go_at_call 16; refine (HK2.out _ p7).mono ?_; rintro e W8 ⟨ao8, c8, rfl, k8⟩) | (go_at_call 28; refine (HBf2.out _ (p7.kept k8)).mono ?_; rintro e W9 ⟨rfl, p10, m9⟩) | (go_at_call 20; refine (HPu.out _ p10).mono ?_; rintro e W10 ⟨p18, rfl, k10, n10⟩))
          obtain ⟨W11, hW11⟩ : ∃ W, W = W10.alloc (.cells #[.int .i64 (A2.lb 0).kind, .int .i64 (A2.lb 0).ns, .string (A2.lb 0).name, .slice p18.1.1 p18.1.2.1 p18.1.2.2, .string (A2.lb 0).text, .slice p18.2.1 p18.2.2.1 p18.2.2.2] 42) := ⟨_, rfl⟩
          have kW11 : Kp [] W10 W11 := by rw [hW11]; exact (Kp.refl _ _).alloc _
          have aW11 : At W11 W10.heap.size #[.int .i64 (A2.lb 0).kind, .int .i64 (A2.lb 0).ns, .string (A2.lb 0).name, .slice p18.1.1 p18.1.2.1 p18.1.2.2, .string (A2.lb 0).text, .slice p18.2.1 p18.2.2.1 p18.2.2.2] 42 := by rw [hW11]; exact At.new _ _ _
          rw [← hW11]
          clear hW11
          obtain ⟨g18, hg18⟩ : ∃ g, W10.heap.size = g := ⟨_, rfl⟩
          rw [hg18] at aW11 ⊢
          have lg18 : W10.heap.size ≤ g18 := by rw [← hg18]; exact Nat.le_refl _
          clear hg18
          have v11 : Bv tag1 W6 tag1 W11 := (((m7.bv.trans (Bv.of_kp k8 (fun _ _ => rfl))).trans m9.bv).trans (Bv.of_kp k10 (fun _ _ => rfl))).trans (Bv.of_kp kW11 (fun _ _ => rfl))
          obtain ⟨x0, x1, x2, x3, x4, x5⟩ := aW11.six
          obtain ⟨y0, y1, y2, y3, y4, y5⟩ := H9.out _ _ v11
          have HT := ktree_any W11 _ _ _ _ p9 p18 (HN9.out _ _ v11) (n10.kept kW11) (hOT.out 0) (hOT.out 0)
          rw [(sameT_iff _ _ _ _).2 ⟨rfl, rfl⟩] at HT
          unfold wv at HT
          have H11 : Hid (Kp [] w W11) := (HV6.out.trans v11).kp (fun _ _ => rfl)
          clear aW11 n10 v11 k10 kW11 m7 k8 m9 p7 p10 h7
          go_wp2_with (first | (go_at_call 22; refine HT.mono ?_; rintro e W12 ⟨rfl, k12⟩) | (go_at_call 13; refine (known_any _).mono ?_; rintro e W9 ⟨rfl, k9⟩))
          go_ret
          exact ⟨rfl, (H11.out.trans k12 (fun x hx => Or.inl hx)).trans k9 (fun x hx => Or.inl hx)⟩
    · have hb0 : (ev != 0) = true := bne_iff_ne.2 h0
      go_wp2_with (first | (go_at_call 21; refine HDt.mono ?_; rintro e W2 ⟨rfl, p2, m2⟩) | (go_at_call 28; refine (HBf.out _ p2).mono ?_; rintro e W3 ⟨rfl, p3, m3⟩) | (go_at_call 13; refine (known_any _).mono ?_; rintro e W9 ⟨rfl, k9⟩))
      go_ret
      exact ⟨rfl, ((HB.out.2.trans m2.bv).trans m3.bv).kp (fun _ _ => rfl) |>.trans k9 (fun x hx => Or.inl hx)⟩

end Go.Proofs.Ytngbpbgohpblmaa
