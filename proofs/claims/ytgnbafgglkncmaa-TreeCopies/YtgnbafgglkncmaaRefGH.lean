/-
  Joined: RefG RefH.
-/
import Derived.Test.YtgnbafgglkncmaaRefEF

/-
  right and Right of the document.
-/
namespace Go.Proofs.Ytgnbafgglkncmaa
open Go.RowKit
set_option linter.unusedVariables false
set_option linter.unusedSimpArgs false

theorem cons_lab {l l' : Lb} {k k' r r' : Fo} (h : Fo.cons l k r = .cons l' k' r') : l = l' := by
  have z := (Fo.same_eq (q := sameL) (fun a b => by simp [sameL]) _).2 h
  rw [Fo.same_cons, Bool.and_eq_true, Bool.and_eq_true] at z
  exact of_decide_eq_true z.1.1

theorem wrap_nat {n : Nat} (h : n ≤ 1000000) : IntKind.i64.wrap (n : Int) = (n : Int) := by
  simp only [IntKind.wrap, IntKind.signed, IntKind.bits]
  simp
  omega

def CBelow (l : Lb) (k : Fo) : Prop := ∀ (w : World) (p : Pl), Nd Any w l k p → okT l k → Calls Try.prog 48 #[wv l p] w fun e w' => e = .returned (.bool (belowF l k)) ∧ Kp [] w w'

set_option maxRecDepth 100000 in
set_option maxHeartbeats 8000000 in
theorem ref_below_any (l : Lb) (k : Fo) : CBelow l k := by
  refine Fo.up (C := CBelow) (fun l k hall => ?_) l k
  intro w p h ho
  obtain ⟨B, hB⟩ : ∃ B, B = w.alloc (.cells (six l p).toArray 25) := ⟨_, rfl⟩
  have k0 : Kp [] w B := by rw [hB]; exact (Kp.refl _ _).alloc _
  have g1 : B.heap[w.heap.size]? = some (.cells (six l p).toArray 25 (0, 0)) := by rw [hB]; exact heap_new _ _
  have sB : B.heap.size = w.heap.size + 1 := by rw [hB]; simp
  have HW : Hid (w.alloc (.cells #[.int .i64 l.kind, .int .i64 l.ns, .string l.name, .slice p.1.1 p.1.2.1 p.1.2.2, .string l.text, .slice p.2.1 p.2.2.1 p.2.2.2] 25) = B) := hB.symm
  have hkl := h.klen
  have hm : p.2.2.1 ≤ 20000 := by have := Fo.len_le_cnt k; have := ho.2; omega
  have okl := ((Fo.each_cons ..).1 ho.1).1
  have HL0 := ref_alone_any B l p (h.kept k0).at'.rp okl.1 hm
  have HK : Hid (∀ (i : Nat), i < p.2.2.1 → ∃ (l1 : Lb) (k1 : Fo) (p1 : Pl) (b1 off1 : Nat), p.2.1 = some ⟨b1, off1, none⟩ ∧ (∀ V, Kp [] w V → Cl V b1 (off1 + i * 6) l1 p1) ∧ k.drop i = .cons l1 k1 (k.drop (i + 1)) ∧ ∀ V, Kp [] w V → Calls Try.prog 48 #[wv l1 p1] V fun e w' => e = .returned (.bool (belowF l1 k1)) ∧ Kp [] V w') := fun i hi => by
    obtain ⟨l1, k1, e1⟩ := Fo.at_lt (show i < k.len by omega)
    obtain ⟨p1, b1, off1, a1, a2, a3⟩ := h.kid (Kp.refl _ _) e1
    exact ⟨l1, k1, p1, b1, off1, a1, fun V kV => a3.keep kV (by simp), e1, fun V kV => all_at hall e1 V p1 (a2.kept kV) (ho.kid e1)⟩
  have HX : Hid (∀ W, Kp [] B W → W.cell? ⟨w.heap.size, 0, none⟩ = some (.int .i64 l.kind) ∧ W.cell? ⟨w.heap.size, 1, none⟩ = some (.int .i64 l.ns) ∧ W.cell? ⟨w.heap.size, 2, none⟩ = some (.string l.name) ∧ W.cell? ⟨w.heap.size, 5, none⟩ = some (.slice p.2.1 p.2.2.1 p.2.2.2)) := fun W kW => by
    have g := (kW.block _ (by omega) (by simp)).trans g1
    exact ⟨cell_of g 0, cell_of g 1, cell_of g 2, cell_of g 5⟩
  have HE : Hid (k.drop p.2.2.1 = .nil) := Fo.len_zero.1 (by rw [Fo.len_drop]; omega)
  have KB : Hid (Kp [] w B) := k0
  obtain ⟨A, hA⟩ : ∃ A, belowF l k = A := ⟨_, rfl⟩
  rw [hA]
  unfold belowF selfF at hA
  rw [← hkl] at hA
  clear h ho hall g1 hB k0 hkl sB okl
  obtain ⟨⟨pa, pn, pcap⟩, bo, m, d⟩ := p
  simp only [wv] at HW HX HK HE HL0 hA hm ⊢
  rw [← HW.out] at HL0
  cases hal : aloneF l m with
  | false =>
    rw [hal] at HL0 hA
    obtain rfl : false = A := hA
    clear HK HE HX hal
    go_enter Try.func48, Try.ntmps48
    go_wp2_with (go_at_call 67; refine HL0.mono ?_; rintro e w1 ⟨rfl, K1⟩; rw [HW.out] at K1)
    go_ret
    exact ⟨rfl, KB.out.trans K1 (fun x hx => Or.inl hx)⟩
  | true =>
    rw [hal] at HL0 hA
    clear hal
    by_cases h3 : l.kind = 3
    · have r3 : ((l.kind : Int) == 3) = true := int_eq_yes h3
      have h1 : ¬ l.kind = 1 := by omega
      have r1 : ((l.kind : Int) == 1) = false := int_eq_no h1
      have r1n : ((l.kind : Int) != 1) = true := by simp [bne, r1]
      by_cases hns : l.ns = 1
      · have rn : ((l.ns : Int) == 1) = true := int_eq_yes hns
        by_cases hnm : l.name = TMPL
        · have q3 : (l.name.toList == TMPL.toList) = true := eqs_yes hnm
          rw [show TMPL.toList = [116, 101, 109, 112, 108, 97, 116, 101] from by decide +kernel] at q3
          have ht : tmplF l = true := by simp [tmplF, h3, hns, hnm]
          by_cases hm0 : m = 0
          · have rm : ((m : Int) == 0) = true := int_eq_yes (by omega)
            obtain rfl : false = A := by rw [← hA, ht, hm0]; simp
            clear hA ht h1 h3 hns hnm hm0 HK HE
            go_enter Try.func48, Try.ntmps48
            go_wp2_with (go_at_call 67; refine HL0.mono ?_; rintro e w1 ⟨rfl, K1⟩; rw [HW.out] at K1; obtain ⟨z0, z1, z2, z5⟩ := HX.out _ K1)
            go_ret
            exact ⟨rfl, KB.out.trans K1 (fun x hx => Or.inl hx)⟩
          · have rm : ((m : Int) == 0) = false := int_eq_no (by omega)
            have HA0 : Hid (kidsF k l true false = A) := by
              show kidsF k l true false = A
              rw [← hA, ht]; simp [hm0]
            clear hA hm0
            have HP1 : Hid ((l.kind = 1) = False) := by show (l.kind = 1) = False; simp [h1]
            have HTT : Hid (tmplF l = true) := ht
            clear ht h1 h3 hns hnm
            go_enter Try.func48, Try.ntmps48
            go_wp2_with (go_at_call 67; refine HL0.mono ?_; rintro e w1 ⟨rfl, K1⟩; rw [HW.out] at K1; obtain ⟨z0, z1, z2, z5⟩ := HX.out _ K1)
            clear HL0 z0 z1 z2 z5
            go_loopw [4] (fun x4 wr => ∃ (i : Nat) (t : Bool), x4 = .int .i64 i ∧ i ≤ m ∧ kidsF (k.drop i) l (decide (i = 0)) t = A ∧ (∀ j l' k', j + 1 = i → k.drop j = .cons l' k' (k.drop (j + 1)) → t = decide (l'.kind = 4)) ∧ (i = 0 → t = false) ∧ Kp [] B wr) (fun x4 wr => m - (intOf x4).toNat)
            case atStart => exact ⟨0, false, rfl, Nat.zero_le _, by rw [Fo.drop_zero]; exact HA0.out, fun j _ _ hj => by omega, fun _ => rfl, K1⟩
            case round =>
              obtain ⟨i, t, rfl, hi, hk, htp, ht0, kr⟩ := hrel
              obtain ⟨c0, c1, c2, c5⟩ := HX.out _ kr
              have KR : Hid (Kp [] w wr) := KB.out.trans kr (fun x hx => Or.inl hx)
              by_cases hlt : i < m
              · obtain ⟨l1, k1, p1, b1, off1, rfl, hcl, e1, HC⟩ := HK.out i hlt
                obtain ⟨x0, x1, x2, x3, x4, x5⟩ := (hcl _ KR.out).cells
                rw [e1, kids_cons] at hk
                have KZ : Hid (Kp [] B wr) := kr
                have j1 : (0 : Int) ≤ (i : Int) := by omega
                have j2 : (i : Int) < (m : Int) := by omega
                obtain ⟨y0, _, _, y5⟩ := HX.out _ (kr.alloc (.cells #[.int .i64 l1.kind, .int .i64 l1.ns, .string l1.name, .slice p1.1.1 p1.1.2.1 p1.1.2.2, .string l1.text, .slice p1.2.1 p1.2.2.1 p1.2.2.2] 25))
                by_cases d1 : l1.kind = 1
                · have s1 : ((l1.kind : Int) == 1) = true := int_eq_yes d1
                  have s2 : ((l1.kind : Int) == 2) = false := int_eq_no (by omega)
                  have s4 : ((l1.kind : Int) == 4) = false := int_eq_no (by omega)
                  have s6 : ((l1.kind : Int) == 6) = false := int_eq_no (by omega)
                  obtain rfl : false = A := by rw [← hk]; simp [hereF, HP1.out, HTT.out, d1]
                  clear d1
                  clear hcl HC hk htp ht0 HK HE kr HX HA0 e1
                  go_wp2
                  go_ret
                  exact ⟨rfl, KR.out.alloc _⟩
                · have s1 : ((l1.kind : Int) == 1) = false := int_eq_no d1
                  by_cases d2 : l1.kind = 2
                  · have s2 : ((l1.kind : Int) == 2) = true := int_eq_yes d2
                    have s4 : ((l1.kind : Int) == 4) = false := int_eq_no (by omega)
                    have s6 : ((l1.kind : Int) == 6) = false := int_eq_no (by omega)
                    obtain rfl : false = A := by rw [← hk]; simp [hereF, HP1.out, HTT.out, d1, d2]
                    clear d1 d2
                    clear hcl HC hk htp ht0 HK HE kr HX HA0 e1
                    go_wp2
                    go_ret
                    exact ⟨rfl, KR.out.alloc _⟩
                  · have s2 : ((l1.kind : Int) == 2) = false := int_eq_no d2
                    by_cases d4 : l1.kind = 4
                    · have s4 : ((l1.kind : Int) == 4) = true := int_eq_yes d4
                      have s6 : ((l1.kind : Int) == 6) = false := int_eq_no (by omega)
                      by_cases i0 : i = 0
                      · have u1 : ((i : Int) == 0) = true := int_eq_yes (by omega)
                        have u2 : decide ((0 : Int) < (i : Int)) = false := decide_eq_false (by omega)
                        have u3 : decide (0 < i) = false := decide_eq_false (by omega)
                        have u4 : t = false := ht0 i0
                        obtain rfl : false = A := by rw [← hk]; simp [hereF, HP1.out, HTT.out, d1, d2, d4, i0, u4]
                        clear d1 d2 d4 i0 u4
                        clear hcl HC hk htp ht0 HK HE kr HX HA0 e1
                        go_wp2
                        go_ret
                        exact ⟨rfl, KR.out.alloc _⟩
                      · have u1 : ((i : Int) == 0) = false := int_eq_no (by omega)
                        have u2 : decide ((0 : Int) < (i : Int)) = true := decide_eq_true (by omega)
                        have u3 : decide (0 < i) = true := decide_eq_true (by omega)
                        obtain ⟨l2, k2, p2, b2, off2, eb, hcl2, e2, _⟩ := HK.out (i - 1) (by omega)
                        cases eb
                        obtain ⟨v0, _, _, _, _, _⟩ := (hcl2 _ (KR.out.alloc (.cells #[.int .i64 l1.kind, .int .i64 l1.ns, .string l1.name, .slice p1.1.1 p1.1.2.1 p1.1.2.2, .string l1.text, .slice p1.2.1 p1.2.2.1 p1.2.2.2] 25))).cells
                        have w9 : IntKind.i64.wrap ((i : Int) - 1) = ((i - 1 : Nat) : Int) := by rw [show ((i : Int) - 1) = ((i - 1 : Nat) : Int) by omega]; exact wrap_nat (by omega)
                        have j3 : (0 : Int) ≤ ((i - 1 : Nat) : Int) := by omega
                        have j4 : ((i - 1 : Nat) : Int) < (m : Int) := by omega
                        have tt : t = decide (l2.kind = 4) := htp (i - 1) l2 k2 (by omega) e2
                        clear hcl2 e2
                        by_cases m4 : l2.kind = 4
                        · have n4 : ((l2.kind : Int) == 4) = true := int_eq_yes m4
                          obtain rfl : false = A := by rw [← hk]; simp [hereF, HP1.out, HTT.out, d1, d2, d4, i0, tt, m4]
                          clear d1 d2 d4 i0 tt m4
                          clear hcl HC hk htp ht0 HK HE kr HX HA0 e1
                          go_wp2
                          go_ret
                          exact ⟨rfl, KR.out.alloc _⟩
                        · have n4 : ((l2.kind : Int) == 4) = false := int_eq_no m4
                          have hh : hereF l (decide (i = 0)) t l1 = true := by simp [hereF, HP1.out, HTT.out, d1, d2, d4, i0, tt, m4]
                          rw [hh, Bool.true_and] at hk
                          change (belowF l1 k1 && kidsF (k.drop (i + 1)) l false (decide (l1.kind = 4))) = A at hk
                          have HCC := HC _ (KR.out.alloc (.cells #[.int .i64 l1.kind, .int .i64 l1.ns, .string l1.name, .slice p1.1.1 p1.1.2.1 p1.1.2.2, .string l1.text, .slice p1.2.1 p1.2.2.1 p1.2.2.2] 25))
                          have HTP : Hid (∀ j l' k', j + 1 = i + 1 → k.drop j = .cons l' k' (k.drop (j + 1)) → decide (l1.kind = 4) = decide (l'.kind = 4)) := fun j l' k' hj h => by
                            obtain rfl : j = i := by omega
                            rw [cons_lab (e1.symm.trans h)]
                          generalize belowF l1 k1 = N at hk HCC
                          generalize decide (l1.kind = 4) = t4 at hk HTP
                          have HD : Hid ((N && kidsF (k.drop (i + 1)) l false t4) = A) := hk
                          clear hh d1 d2 d4 i0 tt m4
                          clear hcl HC hk htp ht0 HK HE kr HX HA0 e1
                          cases N with
                          | true =>
                            go_wp2_with (go_at_call 48; refine HCC.mono ?_; rintro e w2 ⟨rfl, K2⟩)
                            go_roundw
                            case rel => exact ⟨i + 1, t4, by go_num, by omega, by rw [show decide (i + 1 = 0) = false from decide_eq_false (by omega)]; exact HD.out, HTP.out, fun h => by omega, (KZ.out.alloc _).trans K2 (fun x hx => Or.inl hx)⟩
                            case measure => simp [intOf]; omega
                          | false =>
                            obtain rfl : false = A := HD.out
                            go_wp2_with (go_at_call 48; refine HCC.mono ?_; rintro e w2 ⟨rfl, K2⟩)
                            go_ret
                            exact ⟨rfl, (KR.out.alloc _).trans K2 (fun x hx => Or.inl hx)⟩
                    · have s4 : ((l1.kind : Int) == 4) = false := int_eq_no d4
                      by_cases d6 : l1.kind = 6
                      · have s6 : ((l1.kind : Int) == 6) = true := int_eq_yes d6
                        by_cases i0 : i = 0
                        · have u1 : ((i : Int) == 0) = true := int_eq_yes (by omega)
                          have u2 : decide ((0 : Int) < (i : Int)) = false := decide_eq_false (by omega)
                          have u3 : decide (0 < i) = false := decide_eq_false (by omega)
                          have u4 : t = false := ht0 i0
                          have hh : hereF l (decide (i = 0)) t l1 = true := by simp [hereF, HP1.out, HTT.out, d1, d2, d4, d6, i0, u4]
                          rw [hh, Bool.true_and] at hk
                          change (belowF l1 k1 && kidsF (k.drop (i + 1)) l false (decide (l1.kind = 4))) = A at hk
                          have HCC := HC _ (KR.out.alloc (.cells #[.int .i64 l1.kind, .int .i64 l1.ns, .string l1.name, .slice p1.1.1 p1.1.2.1 p1.1.2.2, .string l1.text, .slice p1.2.1 p1.2.2.1 p1.2.2.2] 25))
                          have HTP : Hid (∀ j l' k', j + 1 = i + 1 → k.drop j = .cons l' k' (k.drop (j + 1)) → decide (l1.kind = 4) = decide (l'.kind = 4)) := fun j l' k' hj h => by
                            obtain rfl : j = i := by omega
                            rw [cons_lab (e1.symm.trans h)]
                          generalize belowF l1 k1 = N at hk HCC
                          generalize decide (l1.kind = 4) = t4 at hk HTP
                          have HD : Hid ((N && kidsF (k.drop (i + 1)) l false t4) = A) := hk
                          clear hh d1 d2 d4 d6 i0 u4
                          clear hcl HC hk htp ht0 HK HE kr HX HA0 e1
                          cases N with
                          | true =>
                            go_wp2_with (go_at_call 48; refine HCC.mono ?_; rintro e w2 ⟨rfl, K2⟩)
                            go_roundw
                            case rel => exact ⟨i + 1, t4, by go_num, by omega, by rw [show decide (i + 1 = 0) = false from decide_eq_false (by omega)]; exact HD.out, HTP.out, fun h => by omega, (KZ.out.alloc _).trans K2 (fun x hx => Or.inl hx)⟩
                            case measure => simp [intOf]; omega
                          | false =>
                            obtain rfl : false = A := HD.out
                            go_wp2_with (go_at_call 48; refine HCC.mono ?_; rintro e w2 ⟨rfl, K2⟩)
                            go_ret
                            exact ⟨rfl, (KR.out.alloc _).trans K2 (fun x hx => Or.inl hx)⟩
                        · have u1 : ((i : Int) == 0) = false := int_eq_no (by omega)
                          have u2 : decide ((0 : Int) < (i : Int)) = true := decide_eq_true (by omega)
                          have u3 : decide (0 < i) = true := decide_eq_true (by omega)
                          obtain rfl : false = A := by rw [← hk]; simp [hereF, HP1.out, HTT.out, d1, d2, d4, d6, i0]
                          clear d1 d2 d4 d6 i0
                          clear hcl HC hk htp ht0 HK HE kr HX HA0 e1
                          go_wp2
                          go_ret
                          exact ⟨rfl, KR.out.alloc _⟩
                      · have s6 : ((l1.kind : Int) == 6) = false := int_eq_no d6
                        by_cases i0 : i = 0
                        · have u1 : ((i : Int) == 0) = true := int_eq_yes (by omega)
                          have u2 : decide ((0 : Int) < (i : Int)) = false := decide_eq_false (by omega)
                          have u3 : decide (0 < i) = false := decide_eq_false (by omega)
                          have u4 : t = false := ht0 i0
                          obtain rfl : false = A := by rw [← hk]; simp [hereF, HP1.out, HTT.out, d1, d2, d4, d6, i0, u4]
                          clear d1 d2 d4 d6 i0 u4
                          clear hcl HC hk htp ht0 HK HE kr HX HA0 e1
                          go_wp2
                          go_ret
                          exact ⟨rfl, KR.out.alloc _⟩
                        · have u1 : ((i : Int) == 0) = false := int_eq_no (by omega)
                          have u2 : decide ((0 : Int) < (i : Int)) = true := decide_eq_true (by omega)
                          have u3 : decide (0 < i) = true := decide_eq_true (by omega)
                          have hh : hereF l (decide (i = 0)) t l1 = true := by simp [hereF, HP1.out, HTT.out, d1, d2, d4, d6, i0]
                          rw [hh, Bool.true_and] at hk
                          change (belowF l1 k1 && kidsF (k.drop (i + 1)) l false (decide (l1.kind = 4))) = A at hk
                          have HCC := HC _ (KR.out.alloc (.cells #[.int .i64 l1.kind, .int .i64 l1.ns, .string l1.name, .slice p1.1.1 p1.1.2.1 p1.1.2.2, .string l1.text, .slice p1.2.1 p1.2.2.1 p1.2.2.2] 25))
                          have HTP : Hid (∀ j l' k', j + 1 = i + 1 → k.drop j = .cons l' k' (k.drop (j + 1)) → decide (l1.kind = 4) = decide (l'.kind = 4)) := fun j l' k' hj h => by
                            obtain rfl : j = i := by omega
                            rw [cons_lab (e1.symm.trans h)]
                          generalize belowF l1 k1 = N at hk HCC
                          generalize decide (l1.kind = 4) = t4 at hk HTP
                          have HD : Hid ((N && kidsF (k.drop (i + 1)) l false t4) = A) := hk
                          clear hh d1 d2 d4 d6 i0
                          clear hcl HC hk htp ht0 HK HE kr HX HA0 e1
                          cases N with
                          | true =>
                            go_wp2_with (go_at_call 48; refine HCC.mono ?_; rintro e w2 ⟨rfl, K2⟩)
                            go_roundw
                            case rel => exact ⟨i + 1, t4, by go_num, by omega, by rw [show decide (i + 1 = 0) = false from decide_eq_false (by omega)]; exact HD.out, HTP.out, fun h => by omega, (KZ.out.alloc _).trans K2 (fun x hx => Or.inl hx)⟩
                            case measure => simp [intOf]; omega
                          | false =>
                            obtain rfl : false = A := HD.out
                            go_wp2_with (go_at_call 48; refine HCC.mono ?_; rintro e w2 ⟨rfl, K2⟩)
                            go_ret
                            exact ⟨rfl, (KR.out.alloc _).trans K2 (fun x hx => Or.inl hx)⟩
              · obtain rfl : i = m := by omega
                rw [HE.out, kids_nil] at hk
                subst hk
                clear HK HE kr
                go_wp2
                go_ret
                exact ⟨rfl, KR.out⟩
        · have q3 : (l.name.toList == TMPL.toList) = false := eqs_no hnm
          rw [show TMPL.toList = [116, 101, 109, 112, 108, 97, 116, 101] from by decide +kernel] at q3
          have ht : tmplF l = false := by simp [tmplF, hnm]
          have HA0 : Hid (kidsF k l true false = A) := by
            show kidsF k l true false = A
            rw [← hA, ht]; simp
          clear hA
          have HP1 : Hid ((l.kind = 1) = False) := by show (l.kind = 1) = False; simp [h1]
          have HTT : Hid (tmplF l = false) := ht
          clear ht h1 h3 hns hnm
          go_enter Try.func48, Try.ntmps48
          go_wp2_with (go_at_call 67; refine HL0.mono ?_; rintro e w1 ⟨rfl, K1⟩; rw [HW.out] at K1; obtain ⟨z0, z1, z2, z5⟩ := HX.out _ K1)
          clear HL0 z0 z1 z2 z5
          go_loopw [4] (fun x4 wr => ∃ (i : Nat) (t : Bool), x4 = .int .i64 i ∧ i ≤ m ∧ kidsF (k.drop i) l (decide (i = 0)) t = A ∧ (∀ j l' k', j + 1 = i → k.drop j = .cons l' k' (k.drop (j + 1)) → t = decide (l'.kind = 4)) ∧ (i = 0 → t = false) ∧ Kp [] B wr) (fun x4 wr => m - (intOf x4).toNat)
          case atStart => exact ⟨0, false, rfl, Nat.zero_le _, by rw [Fo.drop_zero]; exact HA0.out, fun j _ _ hj => by omega, fun _ => rfl, K1⟩
          case round =>
            obtain ⟨i, t, rfl, hi, hk, htp, ht0, kr⟩ := hrel
            obtain ⟨c0, c1, c2, c5⟩ := HX.out _ kr
            have KR : Hid (Kp [] w wr) := KB.out.trans kr (fun x hx => Or.inl hx)
            by_cases hlt : i < m
            · obtain ⟨l1, k1, p1, b1, off1, rfl, hcl, e1, HC⟩ := HK.out i hlt
              obtain ⟨x0, x1, x2, x3, x4, x5⟩ := (hcl _ KR.out).cells
              rw [e1, kids_cons] at hk
              have KZ : Hid (Kp [] B wr) := kr
              have j1 : (0 : Int) ≤ (i : Int) := by omega
              have j2 : (i : Int) < (m : Int) := by omega
              obtain ⟨y0, _, _, y5⟩ := HX.out _ (kr.alloc (.cells #[.int .i64 l1.kind, .int .i64 l1.ns, .string l1.name, .slice p1.1.1 p1.1.2.1 p1.1.2.2, .string l1.text, .slice p1.2.1 p1.2.2.1 p1.2.2.2] 25))
              by_cases d1 : l1.kind = 1
              · have s1 : ((l1.kind : Int) == 1) = true := int_eq_yes d1
                have s2 : ((l1.kind : Int) == 2) = false := int_eq_no (by omega)
                have s4 : ((l1.kind : Int) == 4) = false := int_eq_no (by omega)
                have s6 : ((l1.kind : Int) == 6) = false := int_eq_no (by omega)
                obtain rfl : false = A := by rw [← hk]; simp [hereF, HP1.out, HTT.out, d1]
                clear d1
                clear hcl HC hk htp ht0 HK HE kr HX HA0 e1
                go_wp2
                go_ret
                exact ⟨rfl, KR.out.alloc _⟩
              · have s1 : ((l1.kind : Int) == 1) = false := int_eq_no d1
                by_cases d2 : l1.kind = 2
                · have s2 : ((l1.kind : Int) == 2) = true := int_eq_yes d2
                  have s4 : ((l1.kind : Int) == 4) = false := int_eq_no (by omega)
                  have s6 : ((l1.kind : Int) == 6) = false := int_eq_no (by omega)
                  obtain rfl : false = A := by rw [← hk]; simp [hereF, HP1.out, HTT.out, d1, d2]
                  clear d1 d2
                  clear hcl HC hk htp ht0 HK HE kr HX HA0 e1
                  go_wp2
                  go_ret
                  exact ⟨rfl, KR.out.alloc _⟩
                · have s2 : ((l1.kind : Int) == 2) = false := int_eq_no d2
                  by_cases d4 : l1.kind = 4
                  · have s4 : ((l1.kind : Int) == 4) = true := int_eq_yes d4
                    have s6 : ((l1.kind : Int) == 6) = false := int_eq_no (by omega)
                    by_cases i0 : i = 0
                    · have u1 : ((i : Int) == 0) = true := int_eq_yes (by omega)
                      have u2 : decide ((0 : Int) < (i : Int)) = false := decide_eq_false (by omega)
                      have u3 : decide (0 < i) = false := decide_eq_false (by omega)
                      have u4 : t = false := ht0 i0
                      have hh : hereF l (decide (i = 0)) t l1 = true := by simp [hereF, HP1.out, HTT.out, d1, d2, d4, i0, u4]
                      rw [hh, Bool.true_and] at hk
                      change (belowF l1 k1 && kidsF (k.drop (i + 1)) l false (decide (l1.kind = 4))) = A at hk
                      have HCC := HC _ (KR.out.alloc (.cells #[.int .i64 l1.kind, .int .i64 l1.ns, .string l1.name, .slice p1.1.1 p1.1.2.1 p1.1.2.2, .string l1.text, .slice p1.2.1 p1.2.2.1 p1.2.2.2] 25))
                      have HTP : Hid (∀ j l' k', j + 1 = i + 1 → k.drop j = .cons l' k' (k.drop (j + 1)) → decide (l1.kind = 4) = decide (l'.kind = 4)) := fun j l' k' hj h => by
                        obtain rfl : j = i := by omega
                        rw [cons_lab (e1.symm.trans h)]
                      generalize belowF l1 k1 = N at hk HCC
                      generalize decide (l1.kind = 4) = t4 at hk HTP
                      have HD : Hid ((N && kidsF (k.drop (i + 1)) l false t4) = A) := hk
                      clear hh d1 d2 d4 i0 u4
                      clear hcl HC hk htp ht0 HK HE kr HX HA0 e1
                      cases N with
                      | true =>
                        go_wp2_with (go_at_call 48; refine HCC.mono ?_; rintro e w2 ⟨rfl, K2⟩)
                        go_roundw
                        case rel => exact ⟨i + 1, t4, by go_num, by omega, by rw [show decide (i + 1 = 0) = false from decide_eq_false (by omega)]; exact HD.out, HTP.out, fun h => by omega, (KZ.out.alloc _).trans K2 (fun x hx => Or.inl hx)⟩
                        case measure => simp [intOf]; omega
                      | false =>
                        obtain rfl : false = A := HD.out
                        go_wp2_with (go_at_call 48; refine HCC.mono ?_; rintro e w2 ⟨rfl, K2⟩)
                        go_ret
                        exact ⟨rfl, (KR.out.alloc _).trans K2 (fun x hx => Or.inl hx)⟩
                    · have u1 : ((i : Int) == 0) = false := int_eq_no (by omega)
                      have u2 : decide ((0 : Int) < (i : Int)) = true := decide_eq_true (by omega)
                      have u3 : decide (0 < i) = true := decide_eq_true (by omega)
                      obtain ⟨l2, k2, p2, b2, off2, eb, hcl2, e2, _⟩ := HK.out (i - 1) (by omega)
                      cases eb
                      obtain ⟨v0, _, _, _, _, _⟩ := (hcl2 _ (KR.out.alloc (.cells #[.int .i64 l1.kind, .int .i64 l1.ns, .string l1.name, .slice p1.1.1 p1.1.2.1 p1.1.2.2, .string l1.text, .slice p1.2.1 p1.2.2.1 p1.2.2.2] 25))).cells
                      have w9 : IntKind.i64.wrap ((i : Int) - 1) = ((i - 1 : Nat) : Int) := by rw [show ((i : Int) - 1) = ((i - 1 : Nat) : Int) by omega]; exact wrap_nat (by omega)
                      have j3 : (0 : Int) ≤ ((i - 1 : Nat) : Int) := by omega
                      have j4 : ((i - 1 : Nat) : Int) < (m : Int) := by omega
                      have tt : t = decide (l2.kind = 4) := htp (i - 1) l2 k2 (by omega) e2
                      clear hcl2 e2
                      by_cases m4 : l2.kind = 4
                      · have n4 : ((l2.kind : Int) == 4) = true := int_eq_yes m4
                        obtain rfl : false = A := by rw [← hk]; simp [hereF, HP1.out, HTT.out, d1, d2, d4, i0, tt, m4]
                        clear d1 d2 d4 i0 tt m4
                        clear hcl HC hk htp ht0 HK HE kr HX HA0 e1
                        go_wp2
                        go_ret
                        exact ⟨rfl, KR.out.alloc _⟩
                      · have n4 : ((l2.kind : Int) == 4) = false := int_eq_no m4
                        have hh : hereF l (decide (i = 0)) t l1 = true := by simp [hereF, HP1.out, HTT.out, d1, d2, d4, i0, tt, m4]
                        rw [hh, Bool.true_and] at hk
                        change (belowF l1 k1 && kidsF (k.drop (i + 1)) l false (decide (l1.kind = 4))) = A at hk
                        have HCC := HC _ (KR.out.alloc (.cells #[.int .i64 l1.kind, .int .i64 l1.ns, .string l1.name, .slice p1.1.1 p1.1.2.1 p1.1.2.2, .string l1.text, .slice p1.2.1 p1.2.2.1 p1.2.2.2] 25))
                        have HTP : Hid (∀ j l' k', j + 1 = i + 1 → k.drop j = .cons l' k' (k.drop (j + 1)) → decide (l1.kind = 4) = decide (l'.kind = 4)) := fun j l' k' hj h => by
                          obtain rfl : j = i := by omega
                          rw [cons_lab (e1.symm.trans h)]
                        generalize belowF l1 k1 = N at hk HCC
                        generalize decide (l1.kind = 4) = t4 at hk HTP
                        have HD : Hid ((N && kidsF (k.drop (i + 1)) l false t4) = A) := hk
                        clear hh d1 d2 d4 i0 tt m4
                        clear hcl HC hk htp ht0 HK HE kr HX HA0 e1
                        cases N with
                        | true =>
                          go_wp2_with (go_at_call 48; refine HCC.mono ?_; rintro e w2 ⟨rfl, K2⟩)
                          go_roundw
                          case rel => exact ⟨i + 1, t4, by go_num, by omega, by rw [show decide (i + 1 = 0) = false from decide_eq_false (by omega)]; exact HD.out, HTP.out, fun h => by omega, (KZ.out.alloc _).trans K2 (fun x hx => Or.inl hx)⟩
                          case measure => simp [intOf]; omega
                        | false =>
                          obtain rfl : false = A := HD.out
                          go_wp2_with (go_at_call 48; refine HCC.mono ?_; rintro e w2 ⟨rfl, K2⟩)
                          go_ret
                          exact ⟨rfl, (KR.out.alloc _).trans K2 (fun x hx => Or.inl hx)⟩
                  · have s4 : ((l1.kind : Int) == 4) = false := int_eq_no d4
                    by_cases d6 : l1.kind = 6
                    · have s6 : ((l1.kind : Int) == 6) = true := int_eq_yes d6
                      obtain rfl : false = A := by rw [← hk]; simp [hereF, HP1.out, HTT.out, d1, d2, d4, d6]
                      clear d1 d2 d4 d6
                      clear hcl HC hk htp ht0 HK HE kr HX HA0 e1
                      go_wp2
                      go_ret
                      exact ⟨rfl, KR.out.alloc _⟩
                    · have s6 : ((l1.kind : Int) == 6) = false := int_eq_no d6
                      have hh : hereF l (decide (i = 0)) t l1 = true := by simp [hereF, HP1.out, HTT.out, d1, d2, d4, d6]
                      rw [hh, Bool.true_and] at hk
                      change (belowF l1 k1 && kidsF (k.drop (i + 1)) l false (decide (l1.kind = 4))) = A at hk
                      have HCC := HC _ (KR.out.alloc (.cells #[.int .i64 l1.kind, .int .i64 l1.ns, .string l1.name, .slice p1.1.1 p1.1.2.1 p1.1.2.2, .string l1.text, .slice p1.2.1 p1.2.2.1 p1.2.2.2] 25))
                      have HTP : Hid (∀ j l' k', j + 1 = i + 1 → k.drop j = .cons l' k' (k.drop (j + 1)) → decide (l1.kind = 4) = decide (l'.kind = 4)) := fun j l' k' hj h => by
                        obtain rfl : j = i := by omega
                        rw [cons_lab (e1.symm.trans h)]
                      generalize belowF l1 k1 = N at hk HCC
                      generalize decide (l1.kind = 4) = t4 at hk HTP
                      have HD : Hid ((N && kidsF (k.drop (i + 1)) l false t4) = A) := hk
                      clear hh d1 d2 d4 d6
                      clear hcl HC hk htp ht0 HK HE kr HX HA0 e1
                      cases N with
                      | true =>
                        go_wp2_with (go_at_call 48; refine HCC.mono ?_; rintro e w2 ⟨rfl, K2⟩)
                        go_roundw
                        case rel => exact ⟨i + 1, t4, by go_num, by omega, by rw [show decide (i + 1 = 0) = false from decide_eq_false (by omega)]; exact HD.out, HTP.out, fun h => by omega, (KZ.out.alloc _).trans K2 (fun x hx => Or.inl hx)⟩
                        case measure => simp [intOf]; omega
                      | false =>
                        obtain rfl : false = A := HD.out
                        go_wp2_with (go_at_call 48; refine HCC.mono ?_; rintro e w2 ⟨rfl, K2⟩)
                        go_ret
                        exact ⟨rfl, (KR.out.alloc _).trans K2 (fun x hx => Or.inl hx)⟩
            · obtain rfl : i = m := by omega
              rw [HE.out, kids_nil] at hk
              subst hk
              clear HK HE kr
              go_wp2
              go_ret
              exact ⟨rfl, KR.out⟩
      · have rn : ((l.ns : Int) == 1) = false := int_eq_no hns
        have ht : tmplF l = false := by simp [tmplF, hns]
        have HA0 : Hid (kidsF k l true false = A) := by
          show kidsF k l true false = A
          rw [← hA, ht]; simp
        clear hA
        have HP1 : Hid ((l.kind = 1) = False) := by show (l.kind = 1) = False; simp [h1]
        have HTT : Hid (tmplF l = false) := ht
        clear ht h1 h3 hns
        go_enter Try.func48, Try.ntmps48
        go_wp2_with (go_at_call 67; refine HL0.mono ?_; rintro e w1 ⟨rfl, K1⟩; rw [HW.out] at K1; obtain ⟨z0, z1, z2, z5⟩ := HX.out _ K1)
        clear HL0 z0 z1 z2 z5
        go_loopw [4] (fun x4 wr => ∃ (i : Nat) (t : Bool), x4 = .int .i64 i ∧ i ≤ m ∧ kidsF (k.drop i) l (decide (i = 0)) t = A ∧ (∀ j l' k', j + 1 = i → k.drop j = .cons l' k' (k.drop (j + 1)) → t = decide (l'.kind = 4)) ∧ (i = 0 → t = false) ∧ Kp [] B wr) (fun x4 wr => m - (intOf x4).toNat)
        case atStart => exact ⟨0, false, rfl, Nat.zero_le _, by rw [Fo.drop_zero]; exact HA0.out, fun j _ _ hj => by omega, fun _ => rfl, K1⟩
        case round =>
          obtain ⟨i, t, rfl, hi, hk, htp, ht0, kr⟩ := hrel
          obtain ⟨c0, c1, c2, c5⟩ := HX.out _ kr
          have KR : Hid (Kp [] w wr) := KB.out.trans kr (fun x hx => Or.inl hx)
          by_cases hlt : i < m
          · obtain ⟨l1, k1, p1, b1, off1, rfl, hcl, e1, HC⟩ := HK.out i hlt
            obtain ⟨x0, x1, x2, x3, x4, x5⟩ := (hcl _ KR.out).cells
            rw [e1, kids_cons] at hk
            have KZ : Hid (Kp [] B wr) := kr
            have j1 : (0 : Int) ≤ (i : Int) := by omega
            have j2 : (i : Int) < (m : Int) := by omega
            obtain ⟨y0, _, _, y5⟩ := HX.out _ (kr.alloc (.cells #[.int .i64 l1.kind, .int .i64 l1.ns, .string l1.name, .slice p1.1.1 p1.1.2.1 p1.1.2.2, .string l1.text, .slice p1.2.1 p1.2.2.1 p1.2.2.2] 25))
            by_cases d1 : l1.kind = 1
            · have s1 : ((l1.kind : Int) == 1) = true := int_eq_yes d1
              have s2 : ((l1.kind : Int) == 2) = false := int_eq_no (by omega)
              have s4 : ((l1.kind : Int) == 4) = false := int_eq_no (by omega)
              have s6 : ((l1.kind : Int) == 6) = false := int_eq_no (by omega)
              obtain rfl : false = A := by rw [← hk]; simp [hereF, HP1.out, HTT.out, d1]
              clear d1
              clear hcl HC hk htp ht0 HK HE kr HX HA0 e1
              go_wp2
              go_ret
              exact ⟨rfl, KR.out.alloc _⟩
            · have s1 : ((l1.kind : Int) == 1) = false := int_eq_no d1
              by_cases d2 : l1.kind = 2
              · have s2 : ((l1.kind : Int) == 2) = true := int_eq_yes d2
                have s4 : ((l1.kind : Int) == 4) = false := int_eq_no (by omega)
                have s6 : ((l1.kind : Int) == 6) = false := int_eq_no (by omega)
                obtain rfl : false = A := by rw [← hk]; simp [hereF, HP1.out, HTT.out, d1, d2]
                clear d1 d2
                clear hcl HC hk htp ht0 HK HE kr HX HA0 e1
                go_wp2
                go_ret
                exact ⟨rfl, KR.out.alloc _⟩
              · have s2 : ((l1.kind : Int) == 2) = false := int_eq_no d2
                by_cases d4 : l1.kind = 4
                · have s4 : ((l1.kind : Int) == 4) = true := int_eq_yes d4
                  have s6 : ((l1.kind : Int) == 6) = false := int_eq_no (by omega)
                  by_cases i0 : i = 0
                  · have u1 : ((i : Int) == 0) = true := int_eq_yes (by omega)
                    have u2 : decide ((0 : Int) < (i : Int)) = false := decide_eq_false (by omega)
                    have u3 : decide (0 < i) = false := decide_eq_false (by omega)
                    have u4 : t = false := ht0 i0
                    have hh : hereF l (decide (i = 0)) t l1 = true := by simp [hereF, HP1.out, HTT.out, d1, d2, d4, i0, u4]
                    rw [hh, Bool.true_and] at hk
                    change (belowF l1 k1 && kidsF (k.drop (i + 1)) l false (decide (l1.kind = 4))) = A at hk
                    have HCC := HC _ (KR.out.alloc (.cells #[.int .i64 l1.kind, .int .i64 l1.ns, .string l1.name, .slice p1.1.1 p1.1.2.1 p1.1.2.2, .string l1.text, .slice p1.2.1 p1.2.2.1 p1.2.2.2] 25))
                    have HTP : Hid (∀ j l' k', j + 1 = i + 1 → k.drop j = .cons l' k' (k.drop (j + 1)) → decide (l1.kind = 4) = decide (l'.kind = 4)) := fun j l' k' hj h => by
                      obtain rfl : j = i := by omega
                      rw [cons_lab (e1.symm.trans h)]
                    generalize belowF l1 k1 = N at hk HCC
                    generalize decide (l1.kind = 4) = t4 at hk HTP
                    have HD : Hid ((N && kidsF (k.drop (i + 1)) l false t4) = A) := hk
                    clear hh d1 d2 d4 i0 u4
                    clear hcl HC hk htp ht0 HK HE kr HX HA0 e1
                    cases N with
                    | true =>
                      go_wp2_with (go_at_call 48; refine HCC.mono ?_; rintro e w2 ⟨rfl, K2⟩)
                      go_roundw
                      case rel => exact ⟨i + 1, t4, by go_num, by omega, by rw [show decide (i + 1 = 0) = false from decide_eq_false (by omega)]; exact HD.out, HTP.out, fun h => by omega, (KZ.out.alloc _).trans K2 (fun x hx => Or.inl hx)⟩
                      case measure => simp [intOf]; omega
                    | false =>
                      obtain rfl : false = A := HD.out
                      go_wp2_with (go_at_call 48; refine HCC.mono ?_; rintro e w2 ⟨rfl, K2⟩)
                      go_ret
                      exact ⟨rfl, (KR.out.alloc _).trans K2 (fun x hx => Or.inl hx)⟩
                  · have u1 : ((i : Int) == 0) = false := int_eq_no (by omega)
                    have u2 : decide ((0 : Int) < (i : Int)) = true := decide_eq_true (by omega)
                    have u3 : decide (0 < i) = true := decide_eq_true (by omega)
                    obtain ⟨l2, k2, p2, b2, off2, eb, hcl2, e2, _⟩ := HK.out (i - 1) (by omega)
                    cases eb
                    obtain ⟨v0, _, _, _, _, _⟩ := (hcl2 _ (KR.out.alloc (.cells #[.int .i64 l1.kind, .int .i64 l1.ns, .string l1.name, .slice p1.1.1 p1.1.2.1 p1.1.2.2, .string l1.text, .slice p1.2.1 p1.2.2.1 p1.2.2.2] 25))).cells
                    have w9 : IntKind.i64.wrap ((i : Int) - 1) = ((i - 1 : Nat) : Int) := by rw [show ((i : Int) - 1) = ((i - 1 : Nat) : Int) by omega]; exact wrap_nat (by omega)
                    have j3 : (0 : Int) ≤ ((i - 1 : Nat) : Int) := by omega
                    have j4 : ((i - 1 : Nat) : Int) < (m : Int) := by omega
                    have tt : t = decide (l2.kind = 4) := htp (i - 1) l2 k2 (by omega) e2
                    clear hcl2 e2
                    by_cases m4 : l2.kind = 4
                    · have n4 : ((l2.kind : Int) == 4) = true := int_eq_yes m4
                      obtain rfl : false = A := by rw [← hk]; simp [hereF, HP1.out, HTT.out, d1, d2, d4, i0, tt, m4]
                      clear d1 d2 d4 i0 tt m4
                      clear hcl HC hk htp ht0 HK HE kr HX HA0 e1
                      go_wp2
                      go_ret
                      exact ⟨rfl, KR.out.alloc _⟩
                    · have n4 : ((l2.kind : Int) == 4) = false := int_eq_no m4
                      have hh : hereF l (decide (i = 0)) t l1 = true := by simp [hereF, HP1.out, HTT.out, d1, d2, d4, i0, tt, m4]
                      rw [hh, Bool.true_and] at hk
                      change (belowF l1 k1 && kidsF (k.drop (i + 1)) l false (decide (l1.kind = 4))) = A at hk
                      have HCC := HC _ (KR.out.alloc (.cells #[.int .i64 l1.kind, .int .i64 l1.ns, .string l1.name, .slice p1.1.1 p1.1.2.1 p1.1.2.2, .string l1.text, .slice p1.2.1 p1.2.2.1 p1.2.2.2] 25))
                      have HTP : Hid (∀ j l' k', j + 1 = i + 1 → k.drop j = .cons l' k' (k.drop (j + 1)) → decide (l1.kind = 4) = decide (l'.kind = 4)) := fun j l' k' hj h => by
                        obtain rfl : j = i := by omega
                        rw [cons_lab (e1.symm.trans h)]
                      generalize belowF l1 k1 = N at hk HCC
                      generalize decide (l1.kind = 4) = t4 at hk HTP
                      have HD : Hid ((N && kidsF (k.drop (i + 1)) l false t4) = A) := hk
                      clear hh d1 d2 d4 i0 tt m4
                      clear hcl HC hk htp ht0 HK HE kr HX HA0 e1
                      cases N with
                      | true =>
                        go_wp2_with (go_at_call 48; refine HCC.mono ?_; rintro e w2 ⟨rfl, K2⟩)
                        go_roundw
                        case rel => exact ⟨i + 1, t4, by go_num, by omega, by rw [show decide (i + 1 = 0) = false from decide_eq_false (by omega)]; exact HD.out, HTP.out, fun h => by omega, (KZ.out.alloc _).trans K2 (fun x hx => Or.inl hx)⟩
                        case measure => simp [intOf]; omega
                      | false =>
                        obtain rfl : false = A := HD.out
                        go_wp2_with (go_at_call 48; refine HCC.mono ?_; rintro e w2 ⟨rfl, K2⟩)
                        go_ret
                        exact ⟨rfl, (KR.out.alloc _).trans K2 (fun x hx => Or.inl hx)⟩
                · have s4 : ((l1.kind : Int) == 4) = false := int_eq_no d4
                  by_cases d6 : l1.kind = 6
                  · have s6 : ((l1.kind : Int) == 6) = true := int_eq_yes d6
                    obtain rfl : false = A := by rw [← hk]; simp [hereF, HP1.out, HTT.out, d1, d2, d4, d6]
                    clear d1 d2 d4 d6
                    clear hcl HC hk htp ht0 HK HE kr HX HA0 e1
                    go_wp2
                    go_ret
                    exact ⟨rfl, KR.out.alloc _⟩
                  · have s6 : ((l1.kind : Int) == 6) = false := int_eq_no d6
                    have hh : hereF l (decide (i = 0)) t l1 = true := by simp [hereF, HP1.out, HTT.out, d1, d2, d4, d6]
                    rw [hh, Bool.true_and] at hk
                    change (belowF l1 k1 && kidsF (k.drop (i + 1)) l false (decide (l1.kind = 4))) = A at hk
                    have HCC := HC _ (KR.out.alloc (.cells #[.int .i64 l1.kind, .int .i64 l1.ns, .string l1.name, .slice p1.1.1 p1.1.2.1 p1.1.2.2, .string l1.text, .slice p1.2.1 p1.2.2.1 p1.2.2.2] 25))
                    have HTP : Hid (∀ j l' k', j + 1 = i + 1 → k.drop j = .cons l' k' (k.drop (j + 1)) → decide (l1.kind = 4) = decide (l'.kind = 4)) := fun j l' k' hj h => by
                      obtain rfl : j = i := by omega
                      rw [cons_lab (e1.symm.trans h)]
                    generalize belowF l1 k1 = N at hk HCC
                    generalize decide (l1.kind = 4) = t4 at hk HTP
                    have HD : Hid ((N && kidsF (k.drop (i + 1)) l false t4) = A) := hk
                    clear hh d1 d2 d4 d6
                    clear hcl HC hk htp ht0 HK HE kr HX HA0 e1
                    cases N with
                    | true =>
                      go_wp2_with (go_at_call 48; refine HCC.mono ?_; rintro e w2 ⟨rfl, K2⟩)
                      go_roundw
                      case rel => exact ⟨i + 1, t4, by go_num, by omega, by rw [show decide (i + 1 = 0) = false from decide_eq_false (by omega)]; exact HD.out, HTP.out, fun h => by omega, (KZ.out.alloc _).trans K2 (fun x hx => Or.inl hx)⟩
                      case measure => simp [intOf]; omega
                    | false =>
                      obtain rfl : false = A := HD.out
                      go_wp2_with (go_at_call 48; refine HCC.mono ?_; rintro e w2 ⟨rfl, K2⟩)
                      go_ret
                      exact ⟨rfl, (KR.out.alloc _).trans K2 (fun x hx => Or.inl hx)⟩
          · obtain rfl : i = m := by omega
            rw [HE.out, kids_nil] at hk
            subst hk
            clear HK HE kr
            go_wp2
            go_ret
            exact ⟨rfl, KR.out⟩
    · have r3 : ((l.kind : Int) == 3) = false := int_eq_no h3
      have ht : tmplF l = false := by simp [tmplF, h3]
      have HA0 : Hid (kidsF k l true false = A) := by
        show kidsF k l true false = A
        rw [← hA, ht]; simp
      clear hA
      by_cases h1 : l.kind = 1
      · have r1 : ((l.kind : Int) == 1) = true := int_eq_yes h1
        have r1n : ((l.kind : Int) != 1) = false := by simp [bne, r1]
        have HP1 : Hid ((l.kind = 1) = True) := by show (l.kind = 1) = True; simp [h1]
        have HTT : Hid (tmplF l = false) := ht
        clear ht h1 h3
        go_enter Try.func48, Try.ntmps48
        go_wp2_with (go_at_call 67; refine HL0.mono ?_; rintro e w1 ⟨rfl, K1⟩; rw [HW.out] at K1; obtain ⟨z0, z1, z2, z5⟩ := HX.out _ K1)
        clear HL0 z0 z1 z2 z5
        go_loopw [4] (fun x4 wr => ∃ (i : Nat) (t : Bool), x4 = .int .i64 i ∧ i ≤ m ∧ kidsF (k.drop i) l (decide (i = 0)) t = A ∧ (∀ j l' k', j + 1 = i → k.drop j = .cons l' k' (k.drop (j + 1)) → t = decide (l'.kind = 4)) ∧ (i = 0 → t = false) ∧ Kp [] B wr) (fun x4 wr => m - (intOf x4).toNat)
        case atStart => exact ⟨0, false, rfl, Nat.zero_le _, by rw [Fo.drop_zero]; exact HA0.out, fun j _ _ hj => by omega, fun _ => rfl, K1⟩
        case round =>
          obtain ⟨i, t, rfl, hi, hk, htp, ht0, kr⟩ := hrel
          obtain ⟨c0, c1, c2, c5⟩ := HX.out _ kr
          have KR : Hid (Kp [] w wr) := KB.out.trans kr (fun x hx => Or.inl hx)
          by_cases hlt : i < m
          · obtain ⟨l1, k1, p1, b1, off1, rfl, hcl, e1, HC⟩ := HK.out i hlt
            obtain ⟨x0, x1, x2, x3, x4, x5⟩ := (hcl _ KR.out).cells
            rw [e1, kids_cons] at hk
            have KZ : Hid (Kp [] B wr) := kr
            have j1 : (0 : Int) ≤ (i : Int) := by omega
            have j2 : (i : Int) < (m : Int) := by omega
            obtain ⟨y0, _, _, y5⟩ := HX.out _ (kr.alloc (.cells #[.int .i64 l1.kind, .int .i64 l1.ns, .string l1.name, .slice p1.1.1 p1.1.2.1 p1.1.2.2, .string l1.text, .slice p1.2.1 p1.2.2.1 p1.2.2.2] 25))
            by_cases d1 : l1.kind = 1
            · have s1 : ((l1.kind : Int) == 1) = true := int_eq_yes d1
              have s2 : ((l1.kind : Int) == 2) = false := int_eq_no (by omega)
              have s4 : ((l1.kind : Int) == 4) = false := int_eq_no (by omega)
              have s6 : ((l1.kind : Int) == 6) = false := int_eq_no (by omega)
              obtain rfl : false = A := by rw [← hk]; simp [hereF, HP1.out, HTT.out, d1]
              clear d1
              clear hcl HC hk htp ht0 HK HE kr HX HA0 e1
              go_wp2
              go_ret
              exact ⟨rfl, KR.out.alloc _⟩
            · have s1 : ((l1.kind : Int) == 1) = false := int_eq_no d1
              by_cases d2 : l1.kind = 2
              · have s2 : ((l1.kind : Int) == 2) = true := int_eq_yes d2
                have s4 : ((l1.kind : Int) == 4) = false := int_eq_no (by omega)
                have s6 : ((l1.kind : Int) == 6) = false := int_eq_no (by omega)
                have hh : hereF l (decide (i = 0)) t l1 = true := by simp [hereF, HP1.out, HTT.out, d1, d2]
                rw [hh, Bool.true_and] at hk
                change (belowF l1 k1 && kidsF (k.drop (i + 1)) l false (decide (l1.kind = 4))) = A at hk
                have HCC := HC _ (KR.out.alloc (.cells #[.int .i64 l1.kind, .int .i64 l1.ns, .string l1.name, .slice p1.1.1 p1.1.2.1 p1.1.2.2, .string l1.text, .slice p1.2.1 p1.2.2.1 p1.2.2.2] 25))
                have HTP : Hid (∀ j l' k', j + 1 = i + 1 → k.drop j = .cons l' k' (k.drop (j + 1)) → decide (l1.kind = 4) = decide (l'.kind = 4)) := fun j l' k' hj h => by
                  obtain rfl : j = i := by omega
                  rw [cons_lab (e1.symm.trans h)]
                generalize belowF l1 k1 = N at hk HCC
                generalize decide (l1.kind = 4) = t4 at hk HTP
                have HD : Hid ((N && kidsF (k.drop (i + 1)) l false t4) = A) := hk
                clear hh d1 d2
                clear hcl HC hk htp ht0 HK HE kr HX HA0 e1
                cases N with
                | true =>
                  go_wp2_with (go_at_call 48; refine HCC.mono ?_; rintro e w2 ⟨rfl, K2⟩)
                  go_roundw
                  case rel => exact ⟨i + 1, t4, by go_num, by omega, by rw [show decide (i + 1 = 0) = false from decide_eq_false (by omega)]; exact HD.out, HTP.out, fun h => by omega, (KZ.out.alloc _).trans K2 (fun x hx => Or.inl hx)⟩
                  case measure => simp [intOf]; omega
                | false =>
                  obtain rfl : false = A := HD.out
                  go_wp2_with (go_at_call 48; refine HCC.mono ?_; rintro e w2 ⟨rfl, K2⟩)
                  go_ret
                  exact ⟨rfl, (KR.out.alloc _).trans K2 (fun x hx => Or.inl hx)⟩
              · have s2 : ((l1.kind : Int) == 2) = false := int_eq_no d2
                by_cases d4 : l1.kind = 4
                · have s4 : ((l1.kind : Int) == 4) = true := int_eq_yes d4
                  have s6 : ((l1.kind : Int) == 6) = false := int_eq_no (by omega)
                  obtain rfl : false = A := by rw [← hk]; simp [hereF, HP1.out, HTT.out, d1, d2, d4]
                  clear d1 d2 d4
                  clear hcl HC hk htp ht0 HK HE kr HX HA0 e1
                  go_wp2
                  go_ret
                  exact ⟨rfl, KR.out.alloc _⟩
                · have s4 : ((l1.kind : Int) == 4) = false := int_eq_no d4
                  by_cases d6 : l1.kind = 6
                  · have s6 : ((l1.kind : Int) == 6) = true := int_eq_yes d6
                    obtain rfl : false = A := by rw [← hk]; simp [hereF, HP1.out, HTT.out, d1, d2, d4, d6]
                    clear d1 d2 d4 d6
                    clear hcl HC hk htp ht0 HK HE kr HX HA0 e1
                    go_wp2
                    go_ret
                    exact ⟨rfl, KR.out.alloc _⟩
                  · have s6 : ((l1.kind : Int) == 6) = false := int_eq_no d6
                    have hh : hereF l (decide (i = 0)) t l1 = true := by simp [hereF, HP1.out, HTT.out, d1, d2, d4, d6]
                    rw [hh, Bool.true_and] at hk
                    change (belowF l1 k1 && kidsF (k.drop (i + 1)) l false (decide (l1.kind = 4))) = A at hk
                    have HCC := HC _ (KR.out.alloc (.cells #[.int .i64 l1.kind, .int .i64 l1.ns, .string l1.name, .slice p1.1.1 p1.1.2.1 p1.1.2.2, .string l1.text, .slice p1.2.1 p1.2.2.1 p1.2.2.2] 25))
                    have HTP : Hid (∀ j l' k', j + 1 = i + 1 → k.drop j = .cons l' k' (k.drop (j + 1)) → decide (l1.kind = 4) = decide (l'.kind = 4)) := fun j l' k' hj h => by
                      obtain rfl : j = i := by omega
                      rw [cons_lab (e1.symm.trans h)]
                    generalize belowF l1 k1 = N at hk HCC
                    generalize decide (l1.kind = 4) = t4 at hk HTP
                    have HD : Hid ((N && kidsF (k.drop (i + 1)) l false t4) = A) := hk
                    clear hh d1 d2 d4 d6
                    clear hcl HC hk htp ht0 HK HE kr HX HA0 e1
                    cases N with
                    | true =>
                      go_wp2_with (go_at_call 48; refine HCC.mono ?_; rintro e w2 ⟨rfl, K2⟩)
                      go_roundw
                      case rel => exact ⟨i + 1, t4, by go_num, by omega, by rw [show decide (i + 1 = 0) = false from decide_eq_false (by omega)]; exact HD.out, HTP.out, fun h => by omega, (KZ.out.alloc _).trans K2 (fun x hx => Or.inl hx)⟩
                      case measure => simp [intOf]; omega
                    | false =>
                      obtain rfl : false = A := HD.out
                      go_wp2_with (go_at_call 48; refine HCC.mono ?_; rintro e w2 ⟨rfl, K2⟩)
                      go_ret
                      exact ⟨rfl, (KR.out.alloc _).trans K2 (fun x hx => Or.inl hx)⟩
          · obtain rfl : i = m := by omega
            rw [HE.out, kids_nil] at hk
            subst hk
            clear HK HE kr
            go_wp2
            go_ret
            exact ⟨rfl, KR.out⟩
      · have r1 : ((l.kind : Int) == 1) = false := int_eq_no h1
        have r1n : ((l.kind : Int) != 1) = true := by simp [bne, r1]
        have HP1 : Hid ((l.kind = 1) = False) := by show (l.kind = 1) = False; simp [h1]
        have HTT : Hid (tmplF l = false) := ht
        clear ht h1 h3
        go_enter Try.func48, Try.ntmps48
        go_wp2_with (go_at_call 67; refine HL0.mono ?_; rintro e w1 ⟨rfl, K1⟩; rw [HW.out] at K1; obtain ⟨z0, z1, z2, z5⟩ := HX.out _ K1)
        clear HL0 z0 z1 z2 z5
        go_loopw [4] (fun x4 wr => ∃ (i : Nat) (t : Bool), x4 = .int .i64 i ∧ i ≤ m ∧ kidsF (k.drop i) l (decide (i = 0)) t = A ∧ (∀ j l' k', j + 1 = i → k.drop j = .cons l' k' (k.drop (j + 1)) → t = decide (l'.kind = 4)) ∧ (i = 0 → t = false) ∧ Kp [] B wr) (fun x4 wr => m - (intOf x4).toNat)
        case atStart => exact ⟨0, false, rfl, Nat.zero_le _, by rw [Fo.drop_zero]; exact HA0.out, fun j _ _ hj => by omega, fun _ => rfl, K1⟩
        case round =>
          obtain ⟨i, t, rfl, hi, hk, htp, ht0, kr⟩ := hrel
          obtain ⟨c0, c1, c2, c5⟩ := HX.out _ kr
          have KR : Hid (Kp [] w wr) := KB.out.trans kr (fun x hx => Or.inl hx)
          by_cases hlt : i < m
          · obtain ⟨l1, k1, p1, b1, off1, rfl, hcl, e1, HC⟩ := HK.out i hlt
            obtain ⟨x0, x1, x2, x3, x4, x5⟩ := (hcl _ KR.out).cells
            rw [e1, kids_cons] at hk
            have KZ : Hid (Kp [] B wr) := kr
            have j1 : (0 : Int) ≤ (i : Int) := by omega
            have j2 : (i : Int) < (m : Int) := by omega
            obtain ⟨y0, _, _, y5⟩ := HX.out _ (kr.alloc (.cells #[.int .i64 l1.kind, .int .i64 l1.ns, .string l1.name, .slice p1.1.1 p1.1.2.1 p1.1.2.2, .string l1.text, .slice p1.2.1 p1.2.2.1 p1.2.2.2] 25))
            by_cases d1 : l1.kind = 1
            · have s1 : ((l1.kind : Int) == 1) = true := int_eq_yes d1
              have s2 : ((l1.kind : Int) == 2) = false := int_eq_no (by omega)
              have s4 : ((l1.kind : Int) == 4) = false := int_eq_no (by omega)
              have s6 : ((l1.kind : Int) == 6) = false := int_eq_no (by omega)
              obtain rfl : false = A := by rw [← hk]; simp [hereF, HP1.out, HTT.out, d1]
              clear d1
              clear hcl HC hk htp ht0 HK HE kr HX HA0 e1
              go_wp2
              go_ret
              exact ⟨rfl, KR.out.alloc _⟩
            · have s1 : ((l1.kind : Int) == 1) = false := int_eq_no d1
              by_cases d2 : l1.kind = 2
              · have s2 : ((l1.kind : Int) == 2) = true := int_eq_yes d2
                have s4 : ((l1.kind : Int) == 4) = false := int_eq_no (by omega)
                have s6 : ((l1.kind : Int) == 6) = false := int_eq_no (by omega)
                obtain rfl : false = A := by rw [← hk]; simp [hereF, HP1.out, HTT.out, d1, d2]
                clear d1 d2
                clear hcl HC hk htp ht0 HK HE kr HX HA0 e1
                go_wp2
                go_ret
                exact ⟨rfl, KR.out.alloc _⟩
              · have s2 : ((l1.kind : Int) == 2) = false := int_eq_no d2
                by_cases d4 : l1.kind = 4
                · have s4 : ((l1.kind : Int) == 4) = true := int_eq_yes d4
                  have s6 : ((l1.kind : Int) == 6) = false := int_eq_no (by omega)
                  by_cases i0 : i = 0
                  · have u1 : ((i : Int) == 0) = true := int_eq_yes (by omega)
                    have u2 : decide ((0 : Int) < (i : Int)) = false := decide_eq_false (by omega)
                    have u3 : decide (0 < i) = false := decide_eq_false (by omega)
                    have u4 : t = false := ht0 i0
                    have hh : hereF l (decide (i = 0)) t l1 = true := by simp [hereF, HP1.out, HTT.out, d1, d2, d4, i0, u4]
                    rw [hh, Bool.true_and] at hk
                    change (belowF l1 k1 && kidsF (k.drop (i + 1)) l false (decide (l1.kind = 4))) = A at hk
                    have HCC := HC _ (KR.out.alloc (.cells #[.int .i64 l1.kind, .int .i64 l1.ns, .string l1.name, .slice p1.1.1 p1.1.2.1 p1.1.2.2, .string l1.text, .slice p1.2.1 p1.2.2.1 p1.2.2.2] 25))
                    have HTP : Hid (∀ j l' k', j + 1 = i + 1 → k.drop j = .cons l' k' (k.drop (j + 1)) → decide (l1.kind = 4) = decide (l'.kind = 4)) := fun j l' k' hj h => by
                      obtain rfl : j = i := by omega
                      rw [cons_lab (e1.symm.trans h)]
                    generalize belowF l1 k1 = N at hk HCC
                    generalize decide (l1.kind = 4) = t4 at hk HTP
                    have HD : Hid ((N && kidsF (k.drop (i + 1)) l false t4) = A) := hk
                    clear hh d1 d2 d4 i0 u4
                    clear hcl HC hk htp ht0 HK HE kr HX HA0 e1
                    cases N with
                    | true =>
                      go_wp2_with (go_at_call 48; refine HCC.mono ?_; rintro e w2 ⟨rfl, K2⟩)
                      go_roundw
                      case rel => exact ⟨i + 1, t4, by go_num, by omega, by rw [show decide (i + 1 = 0) = false from decide_eq_false (by omega)]; exact HD.out, HTP.out, fun h => by omega, (KZ.out.alloc _).trans K2 (fun x hx => Or.inl hx)⟩
                      case measure => simp [intOf]; omega
                    | false =>
                      obtain rfl : false = A := HD.out
                      go_wp2_with (go_at_call 48; refine HCC.mono ?_; rintro e w2 ⟨rfl, K2⟩)
                      go_ret
                      exact ⟨rfl, (KR.out.alloc _).trans K2 (fun x hx => Or.inl hx)⟩
                  · have u1 : ((i : Int) == 0) = false := int_eq_no (by omega)
                    have u2 : decide ((0 : Int) < (i : Int)) = true := decide_eq_true (by omega)
                    have u3 : decide (0 < i) = true := decide_eq_true (by omega)
                    obtain ⟨l2, k2, p2, b2, off2, eb, hcl2, e2, _⟩ := HK.out (i - 1) (by omega)
                    cases eb
                    obtain ⟨v0, _, _, _, _, _⟩ := (hcl2 _ (KR.out.alloc (.cells #[.int .i64 l1.kind, .int .i64 l1.ns, .string l1.name, .slice p1.1.1 p1.1.2.1 p1.1.2.2, .string l1.text, .slice p1.2.1 p1.2.2.1 p1.2.2.2] 25))).cells
                    have w9 : IntKind.i64.wrap ((i : Int) - 1) = ((i - 1 : Nat) : Int) := by rw [show ((i : Int) - 1) = ((i - 1 : Nat) : Int) by omega]; exact wrap_nat (by omega)
                    have j3 : (0 : Int) ≤ ((i - 1 : Nat) : Int) := by omega
                    have j4 : ((i - 1 : Nat) : Int) < (m : Int) := by omega
                    have tt : t = decide (l2.kind = 4) := htp (i - 1) l2 k2 (by omega) e2
                    clear hcl2 e2
                    by_cases m4 : l2.kind = 4
                    · have n4 : ((l2.kind : Int) == 4) = true := int_eq_yes m4
                      obtain rfl : false = A := by rw [← hk]; simp [hereF, HP1.out, HTT.out, d1, d2, d4, i0, tt, m4]
                      clear d1 d2 d4 i0 tt m4
                      clear hcl HC hk htp ht0 HK HE kr HX HA0 e1
                      go_wp2
                      go_ret
                      exact ⟨rfl, KR.out.alloc _⟩
                    · have n4 : ((l2.kind : Int) == 4) = false := int_eq_no m4
                      have hh : hereF l (decide (i = 0)) t l1 = true := by simp [hereF, HP1.out, HTT.out, d1, d2, d4, i0, tt, m4]
                      rw [hh, Bool.true_and] at hk
                      change (belowF l1 k1 && kidsF (k.drop (i + 1)) l false (decide (l1.kind = 4))) = A at hk
                      have HCC := HC _ (KR.out.alloc (.cells #[.int .i64 l1.kind, .int .i64 l1.ns, .string l1.name, .slice p1.1.1 p1.1.2.1 p1.1.2.2, .string l1.text, .slice p1.2.1 p1.2.2.1 p1.2.2.2] 25))
                      have HTP : Hid (∀ j l' k', j + 1 = i + 1 → k.drop j = .cons l' k' (k.drop (j + 1)) → decide (l1.kind = 4) = decide (l'.kind = 4)) := fun j l' k' hj h => by
                        obtain rfl : j = i := by omega
                        rw [cons_lab (e1.symm.trans h)]
                      generalize belowF l1 k1 = N at hk HCC
                      generalize decide (l1.kind = 4) = t4 at hk HTP
                      have HD : Hid ((N && kidsF (k.drop (i + 1)) l false t4) = A) := hk
                      clear hh d1 d2 d4 i0 tt m4
                      clear hcl HC hk htp ht0 HK HE kr HX HA0 e1
                      cases N with
                      | true =>
                        go_wp2_with (go_at_call 48; refine HCC.mono ?_; rintro e w2 ⟨rfl, K2⟩)
                        go_roundw
                        case rel => exact ⟨i + 1, t4, by go_num, by omega, by rw [show decide (i + 1 = 0) = false from decide_eq_false (by omega)]; exact HD.out, HTP.out, fun h => by omega, (KZ.out.alloc _).trans K2 (fun x hx => Or.inl hx)⟩
                        case measure => simp [intOf]; omega
                      | false =>
                        obtain rfl : false = A := HD.out
                        go_wp2_with (go_at_call 48; refine HCC.mono ?_; rintro e w2 ⟨rfl, K2⟩)
                        go_ret
                        exact ⟨rfl, (KR.out.alloc _).trans K2 (fun x hx => Or.inl hx)⟩
                · have s4 : ((l1.kind : Int) == 4) = false := int_eq_no d4
                  by_cases d6 : l1.kind = 6
                  · have s6 : ((l1.kind : Int) == 6) = true := int_eq_yes d6
                    obtain rfl : false = A := by rw [← hk]; simp [hereF, HP1.out, HTT.out, d1, d2, d4, d6]
                    clear d1 d2 d4 d6
                    clear hcl HC hk htp ht0 HK HE kr HX HA0 e1
                    go_wp2
                    go_ret
                    exact ⟨rfl, KR.out.alloc _⟩
                  · have s6 : ((l1.kind : Int) == 6) = false := int_eq_no d6
                    have hh : hereF l (decide (i = 0)) t l1 = true := by simp [hereF, HP1.out, HTT.out, d1, d2, d4, d6]
                    rw [hh, Bool.true_and] at hk
                    change (belowF l1 k1 && kidsF (k.drop (i + 1)) l false (decide (l1.kind = 4))) = A at hk
                    have HCC := HC _ (KR.out.alloc (.cells #[.int .i64 l1.kind, .int .i64 l1.ns, .string l1.name, .slice p1.1.1 p1.1.2.1 p1.1.2.2, .string l1.text, .slice p1.2.1 p1.2.2.1 p1.2.2.2] 25))
                    have HTP : Hid (∀ j l' k', j + 1 = i + 1 → k.drop j = .cons l' k' (k.drop (j + 1)) → decide (l1.kind = 4) = decide (l'.kind = 4)) := fun j l' k' hj h => by
                      obtain rfl : j = i := by omega
                      rw [cons_lab (e1.symm.trans h)]
                    generalize belowF l1 k1 = N at hk HCC
                    generalize decide (l1.kind = 4) = t4 at hk HTP
                    have HD : Hid ((N && kidsF (k.drop (i + 1)) l false t4) = A) := hk
                    clear hh d1 d2 d4 d6
                    clear hcl HC hk htp ht0 HK HE kr HX HA0 e1
                    cases N with
                    | true =>
                      go_wp2_with (go_at_call 48; refine HCC.mono ?_; rintro e w2 ⟨rfl, K2⟩)
                      go_roundw
                      case rel => exact ⟨i + 1, t4, by go_num, by omega, by rw [show decide (i + 1 = 0) = false from decide_eq_false (by omega)]; exact HD.out, HTP.out, fun h => by omega, (KZ.out.alloc _).trans K2 (fun x hx => Or.inl hx)⟩
                      case measure => simp [intOf]; omega
                    | false =>
                      obtain rfl : false = A := HD.out
                      go_wp2_with (go_at_call 48; refine HCC.mono ?_; rintro e w2 ⟨rfl, K2⟩)
                      go_ret
                      exact ⟨rfl, (KR.out.alloc _).trans K2 (fun x hx => Or.inl hx)⟩
          · obtain rfl : i = m := by omega
            rw [HE.out, kids_nil] at hk
            subst hk
            clear HK HE kr
            go_wp2
            go_ret
            exact ⟨rfl, KR.out⟩

end Go.Proofs.Ytgnbafgglkncmaa

/-
  Right of the document.
-/
namespace Go.Proofs.Ytgnbafgglkncmaa
open Go.RowKit
set_option linter.unusedVariables false

set_option maxRecDepth 100000 in
set_option maxHeartbeats 1000000 in
theorem ref_right_any (w : World) (l : Lb) (k : Fo) (p : Pl) (h : Nd Any w l k p) (ho : okT l k) :
    Calls Try.prog 22 #[wv l p] w fun e w' => e = .returned (.bool (rightF l k)) ∧ Kp [] w w' := by
  have k0 : Kp [] w (w.alloc (.cells (six l p).toArray 25)) := (Kp.refl _ _).alloc _
  have HC := ref_below_any l k _ p (h.kept k0) ho
  clear h ho
  simp only [six, wv] at HC k0 ⊢
  unfold rightF
  by_cases h1 : l.kind = 1
  · have r1 : ((l.kind : Int) == 1) = true := int_eq_yes h1
    rw [decide_eq_true h1, Bool.true_and]
    clear h1
    go_enter Try.func22, Try.ntmps22
    go_wp2_with (go_at_call 48; refine HC.mono ?_; rintro e w1 ⟨rfl, k1⟩)
    go_ret
    exact ⟨rfl, k0.trans k1 (fun x hx => Or.inl hx)⟩
  · have r1 : ((l.kind : Int) == 1) = false := int_eq_no h1
    rw [decide_eq_false h1, Bool.false_and]
    clear h1 HC
    go_enter Try.func22, Try.ntmps22
    go_wp2
    go_ret
    exact ⟨rfl, k0⟩

end Go.Proofs.Ytgnbafgglkncmaa
