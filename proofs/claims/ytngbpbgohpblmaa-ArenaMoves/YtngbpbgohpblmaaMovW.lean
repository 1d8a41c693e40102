/-
  ArenaMoves: what is detached and put at an end is there, with all below it.
-/
import Derived.Test.YtngbpbgohpblmaaRefP
namespace Go.Proofs.Ytngbpbgohpblmaa
open Go.RowKit Go.Maps Utf
set_option linter.unusedVariables false
set_option linter.unusedSimpArgs false

set_option maxRecDepth 100000 in
set_option maxHeartbeats 4000000 in
theorem moves_any (w : World) (ao : Option Addr) (n c : Nat) (F : Nat → Aq) (hin : Ain w ao n c F) (zn zt : Int) :
    Calls Try.prog 5 #[.slice ao n c, .int .i64 zn, .int .i64 zt] w fun e w' => e = .returned (.bool true) ∧ Kp [] w w' := by
  have HPl := played_any w ao n c F hin
  clear hin
  go_enter Try.func5, Try.ntmps5
  go_upto_region 2 with (go_at_call 14; refine HPl.mono ?_; rintro e W1 ⟨b, d, tag, q, A, k, rfl, B, hk, v⟩)
  clear HPl
  have ful := B.ps.ful
  have ok := ful.toOk
  have hpos := ok.pos
  have hnl := B.n_lt
  obtain ⟨m, hm⟩ : ∃ m, A.n = m + 1 := ⟨A.n - 1, by omega⟩
  have HL := B.ps.len
  have hwr : IntKind.i64.wrap ((A.n : Int) - 1) = (m : Int) := by
    rw [hm]
    simp [IntKind.wrap, IntKind.bits, IntKind.signed]
    omega
  have j1 : ¬ (A.n : Int) < 1 := by omega
  have HWi : Hid (∀ z V, Calls Try.prog 19 #[.int .i64 z, .int .i64 0, .int .i64 (m : Int)] V fun e w' => e = .returned (.int .i64 (wi z m : Int)) ∧ w' = V) := fun z V => within_node V z m (by omega)
  have hN0 := wi_le zn m
  have hT0 := wi_le zt m
  have HB : Hid (Bo tag W1 b d q A k ∧ Bv (fun _ => 0) w tag W1) := ⟨B, v⟩
  have HOk : Hid (A.Ful) := ful
  have HOT : Hid (∀ x, okT (A.lb x) (A.below x)) := B.okT
  have hM : Hid (A.n = m + 1) := hm
  clear B v ful ok hm hpos hnl
  go_upto_region 5 with (first | (go_at_call 15; refine (HL).mono ?_; rintro e w9 ⟨rfl, hw⟩; have hw2 := hw.symm; clear hw; subst hw2) | (go_at_call 19; refine (HWi.out _ _).mono ?_; rintro e w9 ⟨rfl, hw⟩; have hw2 := hw.symm; clear hw; subst hw2))
  clear HL HWi hwr j1
  generalize wi zn m = N at *
  generalize wi zt m = T at *
  have hN : N < A.n := by have := hM.out; omega
  have hT : T < A.n := by have := hM.out; omega
  clear hM hN0 hT0
  have HP := HB.out.1.ps.pure N hN
  unfold wv at HP
  go_upto_region 6 with (go_at_call 20; refine HP.mono ?_; rintro e W2 ⟨p8, rfl, k2, n2⟩)
  clear HP
  obtain ⟨W3, hW3⟩ : ∃ W, W = W2.alloc (.cells #[.int .i64 (A.lb N).kind, .int .i64 (A.lb N).ns, .string (A.lb N).name, .slice p8.1.1 p8.1.2.1 p8.1.2.2, .string (A.lb N).text, .slice p8.2.1 p8.2.2.1 p8.2.2.2] 42) := ⟨_, rfl⟩
  have kW3 : Kp [] W2 W3 := by rw [hW3]; exact (Kp.refl _ _).alloc _
  have aW3 : At W3 W2.heap.size #[.int .i64 (A.lb N).kind, .int .i64 (A.lb N).ns, .string (A.lb N).name, .slice p8.1.1 p8.1.2.1 p8.1.2.2, .string (A.lb N).text, .slice p8.2.1 p8.2.2.1 p8.2.2.2] 42 := by rw [hW3]; exact At.new _ _ _
  rw [← hW3]
  clear hW3
  have lg8 : W2.heap.size ≤ W2.heap.size := Nat.le_refl _
  obtain ⟨g8, hg8⟩ : ∃ g, W2.heap.size = g := ⟨_, rfl⟩
  rw [hg8] at aW3 ⊢
  replace lg8 : W2.heap.size ≤ g8 := by rw [← hg8]; exact Nat.le_refl _
  clear hg8
  have k13 : Kp [] W1 W3 := k2.trans kW3 (fun z hz => Or.inl hz)
  have HK := (HB.out.1.ps.kept k13).kids (T : Int)
  rw [Ar.kidF_nat hT] at HK
  go_upto_region 9 with (go_at_call 16; refine HK.mono ?_; rintro e W4 ⟨ao4, n4, c4, rfl, M4⟩)
  clear HK
  have hn4 : n4 = (A.kids T).length := by have := M4.rb.len; rwa [iv_len] at this
  subst hn4
  have k14 : Kp [] W1 W4 := k13.trans M4.2.1 (fun z hz => Or.inl hz)
  have aW3 := aW3.kept M4.2.1 (by simp)
  have k12 := k2.size
  have P4 : Ps (tg0 tag W1) W4 b q A k := HB.out.1.ps.re k14 (fun x hx => tg0_lt hx)
  have v4 : Bv (fun _ => 0) w (tg0 tag W1) W4 := HB.out.2.trans (Bv.of_kp k14 (fun x hx => tg0_lt hx))
  have q8 : Nq (tg0 tag W1 g8) := tg0_nq (by omega)
  have n4 : Nd (fun y => Nq (tg0 tag W1 y)) W4 (A.lb N) (A.below N) p8 := ((n2.mono (fun y _ hy => tg0_nq hy)).kept kW3).kept M4.2.1
  generalize tg0 tag W1 = tag1 at *
  have H8 : Hid (∀ tag2 V, Bv tag1 W4 tag2 V → V.cell? ⟨g8, 0, none⟩ = some (.int .i64 (A.lb N).kind) ∧ V.cell? ⟨g8, 1, none⟩ = some (.int .i64 (A.lb N).ns) ∧ V.cell? ⟨g8, 2, none⟩ = some (.string (A.lb N).name) ∧ V.cell? ⟨g8, 3, none⟩ = some (.slice p8.1.1 p8.1.2.1 p8.1.2.2) ∧ V.cell? ⟨g8, 4, none⟩ = some (.string (A.lb N).text) ∧ V.cell? ⟨g8, 5, none⟩ = some (.slice p8.2.1 p8.2.2.1 p8.2.2.2)) := fun tag2 V vv => (aW3.bv vv q8).six
  have HN8 : Hid (∀ tag2 V, Bv tag1 W4 tag2 V → Nd Any V (A.lb N) (A.below N) p8) := fun tag2 V vv => (n4.keep vv.sm).any
  have HV4 : Hid (Bv (fun _ => 0) w tag1 W4) := v4
  have HDt := P4.det (N : Int)
  clear aW3 q8 n4 n2 k2 kW3 k13 k14 k12 v4 M4 lg8 HB P4
  have HT : Hid (∀ V p', Nd Any V (A.lb N) (A.below N) p8 → Nd Any V (A.lb N) (A.below N) p' → Calls Try.prog 22 #[wv (A.lb N) p8, wv (A.lb N) p'] V fun e w' => e = .returned (.bool true) ∧ Kp [] V w') := fun V p' m1 m2 => by
    have := ktree_any V _ _ _ _ p8 p' m1 m2 (HOT.out N) (HOT.out N)
    rw [(sameT_iff _ _ _ _).2 ⟨rfl, rfl⟩] at this
    exact this
  unfold wv at HT
  cases hf : Ar.fix (A.lb N) with
  | true =>
    rw [Ar.detF_no hN hf] at HDt
    go_wp2_with (first | (go_at_call 21; refine HDt.mono ?_; rintro e W5 ⟨rfl, p5, m5⟩) | (go_at_call 13; refine (known_any _).mono ?_; rintro e W6 ⟨rfl, k6⟩))
    go_ret
    exact ⟨rfl, (HV4.out.trans m5.bv).kp (fun _ _ => rfl) |>.trans k6 (fun x hx => Or.inl hx)⟩
  | false =>
    rw [Ar.detF_yes hN hf] at HDt
    have hU1 := Ar.cut_up A N
    have hlc := Ar.cut_len A N T
    have HC1 : Hid ((A.cut N).below N = A.below N) := HOk.out.toOk.cut_below hN
    have HF1 : Hid ((A.cut N).Ful) := HOk.out.cut hf
    go_upto_region 11 with (go_at_call 21; refine HDt.mono ?_; rintro e W5 ⟨rfl, p5, m5⟩)
    clear HDt
    have HP := p5.pure N hN
    rw [HC1.out, show (A.cut N).lb N = A.lb N from rfl] at HP
    unfold wv at HP
    go_upto_region 12 with (go_at_call 20; refine HP.mono ?_; rintro e W6 ⟨p11, rfl, k6, n6⟩)
    clear HP
    obtain ⟨W7, hW7⟩ : ∃ W, W = W6.alloc (.cells #[.int .i64 (A.lb N).kind, .int .i64 (A.lb N).ns, .string (A.lb N).name, .slice p11.1.1 p11.1.2.1 p11.1.2.2, .string (A.lb N).text, .slice p11.2.1 p11.2.2.1 p11.2.2.2] 42) := ⟨_, rfl⟩
    have kW7 : Kp [] W6 W7 := by rw [hW7]; exact (Kp.refl _ _).alloc _
    have aW7 : At W7 W6.heap.size #[.int .i64 (A.lb N).kind, .int .i64 (A.lb N).ns, .string (A.lb N).name, .slice p11.1.1 p11.1.2.1 p11.1.2.2, .string (A.lb N).text, .slice p11.2.1 p11.2.2.1 p11.2.2.2] 42 := by rw [hW7]; exact At.new _ _ _
    rw [← hW7]
    clear hW7
    have lg11 : W6.heap.size ≤ W6.heap.size := Nat.le_refl _
    obtain ⟨g11, hg11⟩ : ∃ g, W6.heap.size = g := ⟨_, rfl⟩
    rw [hg11] at aW7 ⊢
    replace lg11 : W6.heap.size ≤ g11 := by rw [← hg11]; exact Nat.le_refl _
    clear hg11
    have k57 : Kp [] W5 W7 := k6.trans kW7 (fun z hz => Or.inl hz)
    have v7 : Bv tag1 W4 tag1 W7 := m5.bv.trans (Bv.of_kp k57 (fun _ _ => rfl))
    have HPa := (p5.kept k57).par (N : Int)
    rw [Ar.parF_none hU1] at HPa
    obtain ⟨x0, x1, x2, x3, x4, x5⟩ := aW7.six
    obtain ⟨y0, y1, y2, y3, y4, y5⟩ := H8.out _ _ v7
    have HT7 := HT.out W7 p11 (HN8.out _ _ v7) ((n6.any).kept kW7)
    go_upto_region 15 with (first | (go_at_call 17; refine (HPa).mono ?_; rintro e w9 ⟨rfl, hw⟩; have hw2 := hw.symm; clear hw; subst hw2) | (go_at_call 22; refine HT7.mono ?_; rintro e W8 ⟨rfl, k8⟩))
    clear HPa HT7 x0 x1 x2 x3 x4 x5 y0 y1 y2 y3 y4 y5
    have k58 : Kp [] W5 W8 := k57.trans k8 (fun z hz => Or.inl hz)
    have p8' := p5.kept k58
    have v8 : Bv tag1 W4 tag1 W8 := v7.trans (Bv.of_kp k8 (fun _ _ => rfl))
    have HAp := p8'.app (T : Int) (N : Int)
    have hAy := fun e => Ar.appF_yes HF1.out.toOk (p := T) (x := N) hT hN e
    clear aW7 n6 k6 kW7 k57 k8 k58 p5 m5 v7 lg11 p8'
    obtain ⟨ev, hev⟩ : ∃ z, ((A.cut N).appF (T : Int) (N : Int)).2 = z := ⟨_, rfl⟩
    rw [hev] at HAp hAy
    clear hev
    by_cases h0 : ev = 0
    · subst h0
      obtain ⟨eA, hw⟩ := hAy rfl
      rw [eA] at HAp
      go_upto_region 17 with (go_at_call 23; refine HAp.mono ?_; rintro e W9 ⟨rfl, p9, m9⟩)
      clear HAp hAy eA
      have v9 : Bv tag1 W4 tag1 W9 := v8.trans m9.bv
      have eb : ((A.cut N).put T ((A.cut N).kids T).length N).below N = A.below N := (HF1.out.toOk.put_below p9.ful.toOk hN hw).trans HC1.out
      have eu : ((A.cut N).put T ((A.cut N).kids T).length N).up N = some T := by show (if N = N then _ else _) = _; rw [if_pos rfl]
      have ek : ((A.cut N).put T ((A.cut N).kids T).length N).kids T = (A.cut N).kids T ++ [N] := by show (if T = T then _ else _) = _; rw [if_pos rfl, List.take_length, List.drop_length]
      have HP := p9.pure N hN
      rw [eb, show ((A.cut N).put T ((A.cut N).kids T).length N).lb N = A.lb N from rfl] at HP
      unfold wv at HP
      go_upto_region 18 with (go_at_call 20; refine HP.mono ?_; rintro e W10 ⟨p15, rfl, k10, n10⟩)
      clear HP
      obtain ⟨W11, hW11⟩ : ∃ W, W = W10.alloc (.cells #[.int .i64 (A.lb N).kind, .int .i64 (A.lb N).ns, .string (A.lb N).name, .slice p15.1.1 p15.1.2.1 p15.1.2.2, .string (A.lb N).text, .slice p15.2.1 p15.2.2.1 p15.2.2.2] 42) := ⟨_, rfl⟩
      have kW11 : Kp [] W10 W11 := by rw [hW11]; exact (Kp.refl _ _).alloc _
      have aW11 : At W11 W10.heap.size #[.int .i64 (A.lb N).kind, .int .i64 (A.lb N).ns, .string (A.lb N).name, .slice p15.1.1 p15.1.2.1 p15.1.2.2, .string (A.lb N).text, .slice p15.2.1 p15.2.2.1 p15.2.2.2] 42 := by rw [hW11]; exact At.new _ _ _
      rw [← hW11]
      clear hW11
      have lg15 : W10.heap.size ≤ W10.heap.size := Nat.le_refl _
      obtain ⟨g15, hg15⟩ : ∃ g, W10.heap.size = g := ⟨_, rfl⟩
      rw [hg15] at aW11 ⊢
      replace lg15 : W10.heap.size ≤ g15 := by rw [← hg15]; exact Nat.le_refl _
      clear hg15
      have k911 : Kp [] W9 W11 := k10.trans kW11 (fun z hz => Or.inl hz)
      have HPa := (p9.kept k911).par (N : Int)
      rw [Ar.parF_some (show N < ((A.cut N).put T ((A.cut N).kids T).length N).n from hN) eu] at HPa
      have HK := (p9.kept k911).kids (T : Int)
      rw [Ar.kidF_nat (show T < ((A.cut N).put T ((A.cut N).kids T).length N).n from hT), ek] at HK
      go_upto_region 20 with (first | (go_at_call 17; refine (HPa).mono ?_; rintro e w9 ⟨rfl, hw⟩; have hw2 := hw.symm; clear hw; subst hw2) | (go_at_call 16; refine HK.mono ?_; rintro e W12 ⟨ao12, n12, c12, rfl, M12⟩))
      clear HK HPa
      have v12 : Bv tag1 W4 tag1 W12 := (v9.trans (Bv.of_kp k911 (fun _ _ => rfl))).trans (Bv.of_kp M12.2.1 (fun _ _ => rfl))
      have hn12 : n12 = ((A.cut N).kids T ++ [N]).length := by have := M12.rb.len; rwa [iv_len] at this
      rw [List.length_append, List.length_singleton] at hn12
      have hla : ((A.cut N).kids T).length < ((A.cut N).kids T ++ [N]).length := by simp
      obtain ⟨b12, o12, rfl, h12⟩ := (M12.rka).iv_at ((A.cut N).kids T).length hla
      have e12 : ((A.cut N).kids T ++ [N])[((A.cut N).kids T).length] = N := by simp
      rw [e12] at h12
      clear hla e12
      obtain ⟨mm, hmm⟩ : ∃ mm, ((A.cut N).kids T).length = mm := ⟨_, rfl⟩
      rw [hmm] at hn12 h12 hlc
      have hmmb : mm ≤ 3000 := by rw [← hmm]; have := Ar.pig _ _ (HF1.out.toOk.one T) (fun y hy => (HF1.out.toOk.kid_lt hy).1); have := p9.sz.n; have : ((A.cut N).put T ((A.cut N).kids T).length N).n = A.n := rfl; have : (A.cut N).n = A.n := rfl; omega
      obtain ⟨x0, x1, x2, x3, x4, x5⟩ := (aW11.kept M12.2.1 (by simp)).six
      obtain ⟨y0, y1, y2, y3, y4, y5⟩ := H8.out _ _ v12
      have HT12 := HT.out W12 p15 (HN8.out _ _ v12) ((n10.any.kept kW11).kept M12.2.1)
      have hwr : IntKind.i64.wrap ((n12 : Int) - 1) = (mm : Int) := by
        rw [hn12]
        simp [IntKind.wrap, IntKind.bits, IntKind.signed]
        omega
      have i1 : (1 : Int) ≤ (n12 : Int) := by omega
      have i2 : (0 : Int) ≤ (mm : Int) := by omega
      have i3 : (mm : Int) < (n12 : Int) := by omega
      have H12 : Hid (Kp [] w W12) := (HV4.out.trans v12).kp (fun _ _ => rfl)
      obtain ⟨kl, hkl⟩ : ∃ kl, (A.kids T).length = kl := ⟨_, rfl⟩
      rw [hkl] at hlc ⊢
      have hkb : kl ≤ 3000 := by rw [← hkl]; have := Ar.pig _ _ (HOk.out.toOk.one T) (fun y hy => (HOk.out.toOk.kid_lt hy).1); have := p9.sz.n; have : ((A.cut N).put T ((A.cut N).kids T).length N).n = A.n := rfl; omega
      have hwr2 : IntKind.i64.wrap ((kl : Int) + 1) = (kl : Int) + 1 := by
        simp [IntKind.wrap, IntKind.bits, IntKind.signed]
        omega
      have i4 : (n12 : Int) ≤ (kl : Int) + 1 := by omega
      have i5 : ¬ (n12 : Int) < 1 := by omega
      clear hn12 hmm hkl M12 aW11 n10 k10 kW11 k911 p9 m9 v12 v9 v8 eb eu ek
      go_wp2_with (first | (go_at_call 22; refine HT12.mono ?_; rintro e W13 ⟨rfl, k13⟩; have h12 := cell_kept k13 h12) | (go_at_call 13; refine (known_any _).mono ?_; rintro e W14 ⟨rfl, k14⟩))
      go_ret
      exact ⟨rfl, (H12.out.trans k13 (fun x hx => Or.inl hx)).trans k14 (fun x hx => Or.inl hx)⟩
    · have hb0 : (ev != 0) = true := bne_iff_ne.2 h0
      clear hAy
      go_wp2_with (first | (go_at_call 23; refine HAp.mono ?_; rintro e W9 ⟨rfl, p9, m9⟩) | (go_at_call 13; refine (known_any _).mono ?_; rintro e W10 ⟨rfl, k10⟩))
      go_ret
      exact ⟨rfl, ((HV4.out.trans v8).trans m9.bv).kp (fun _ _ => rfl) |>.trans k10 (fun x hx => Or.inl hx)⟩

end Go.Proofs.Ytngbpbgohpblmaa
