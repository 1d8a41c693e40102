/-
  The walk of LexerPlays: whatever it is given, it answers true, and leaves what was there as it was.
-/
import Derived.Test.YtcfaejbbjmjgpaaGreatDoorAllW
import Derived.Test.YtcfaejbbjmjgpaaGreatDoorMarkd
import Derived.Test.YtcfaejbbjmjgpaaGreatDoorAskIn
import Derived.Deep.RegionWith
import Derived.Deep.DeepCutAuto
namespace Go.Proofs.YtcfaejbbjmjgpaaGreatDoor
open Go.RowKit Utf
set_option linter.unusedVariables false

theorem lforeign_any (w : World) (b : Nat) (s : ByteArray) (p : Nat) (md : Int) (fg : Bool) (last : ByteArray) (h : Lx w b s p md fg last) (f : Bool) : Calls Tryz.prog 14 #[.pointer (some ⟨b, 0, none⟩), .bool f] w fun e w' => e = .returned (.tuple #[]) ∧ Kp [b] w w' ∧ Lx w' b s p md f last := by
  obtain ⟨⟨c0, c1, c2, c3, c4⟩, hf⟩ := h.facts
  have L1 := h.setForeign f
  have k1 : Kp [b] w (w.setCell ⟨b, 3, none⟩ (.bool f)) := (Kp.refl _ _).setCell (Or.inl (by simp)) _
  clear h
  go_enter Tryz.func14, Tryz.ntmps14
  go_wp2
  go_end0
  exact ⟨rfl, k1, L1⟩

def PEND : ByteArray := ⟨#[60, 33, 91, 67, 68, 65, 84, 65, 91, 113, 93, 93, 62, 60, 33, 45, 45, 122, 45, 45, 62]⟩

set_option maxHeartbeats 2000000 in
set_option maxRecDepth 100000 in
theorem lplays_any (w : World) (hn : Nm w) (hi : In w) (s0 : ByteArray) (ao : Option Addr) (n c : Nat) (F : Nat → Int) (hl : Is w ao n c F) (bo : Option Addr) (m d : Nat) (K N : Nat → Int) (G : Nat → Bool) (ha : As w bo m d K N G) : Calls Tryz.prog 5 #[.string s0, .slice ao n c, .slice bo m d] w fun e w' => e = .returned (.bool true) ∧ Kp [] w w' := by
  have hsz := cut_size s0 60
  have HS := fun W => cut_any W s0 60 (by omega)
  generalize (if 60 < s0.size then s0.extract 0 60 else s0) = s1 at HS hsz
  have HM : Hid (∀ W, Kp [] w W → Calls Tryz.prog 9 #[.slice ao n c, .int .i64 15] W fun e w' => ∃ t bo m d, e = .returned (.slice bo m d) ∧ t.size ≤ 40 * 15 ∧ Rb w' bo m d (b8 (bytesOf t)) ∧ Kp [] W w') := fun W (kk : Kp [] w W) => markup_any W ao n c F (hl.kept kk) 15 (by omega)
  have HK : Hid (∀ W, Kp [] w W → _) := fun W (kk : Kp [] w W) => known_any W (hn.kept kk) (hi.kept kk)
  clear hl
  go_enter Tryz.func5, Tryz.ntmps5
  go_wp2_with fail
  go_cut [0] (fun v wc => ∃ s : ByteArray, v = .string s ∧ s.size ≤ 800 ∧ Kp [] w wc)
  case first =>
    have D0 : Hid (Kp [] w w.drew) := (Kp.refl [] w).drew
    go_region_with (first
      | (go_at_call 9; refine (HM.out _ D0.out).mono ?_; rintro e v1 ⟨t, eo, em, ed, rfl, ht, R, k1⟩; have hcv := conv_text R; have i7 : ¬ 9223372036854775807 < t.size + s1.size := (by omega); have i8 : ¬ 9223372036854775807 < (t ++ s1).size + 21 := (by rw [cat_size]; omega); have kz : Hid (Kp [] w v1) := D0.out.trans k1 (fun z hz => by simp at hz); clear R k1)
      | (go_at_call 8; refine (HS _).mono ?_; rintro e v2 ⟨rfl, rfl⟩))
    all_goals
      have hfin : ((t ++ s1) ++ PEND).size ≤ 800 := by rw [cat_size, cat_size, show PEND.size = 21 from rfl]; omega
      go_wp2_with fail
      go_meet
      case rel => exact ⟨_, rfl, hfin, kz.out⟩
  case rest =>
    obtain ⟨s, rfl, hs, k0⟩ := hcut
    have HN1 := fun W => new_any W s
    have HN2 := fun W => rnew_any W s
    clear HS HM
    go_wp2_with fail
    refine (HN1 _).mono ?_
    rintro e w1 ⟨rfl, rfl⟩
    go_wp2_with fail
    refine (HN2 _).mono ?_
    rintro e w2 ⟨rfl, rfl⟩
    clear HN1 HN2
    have L0 := Lx.new wc s 0 1 false ⟨#[]⟩
    have k1 := k0.alloc (.cells #[.string s, .int .i64 ((0 : Nat) : Int), .int .i64 1, .bool false, .string ⟨#[]⟩] 54)
    have hb1 : Hid (w.heap.size ≤ wc.heap.size) := k0.size
    generalize wc.alloc (.cells #[.string s, .int .i64 ((0 : Nat) : Int), .int .i64 1, .bool false, .string ⟨#[]⟩] 54) = W1 at L0 k1 ⊢
    generalize wc.heap.size = b1 at L0 hb1 ⊢
    have Y0 := Ly.new W1 s 0 1 false ⟨#[]⟩
    have L1 := L0.kept ((Kp.refl [] W1).alloc (.cells #[.string s, .int .i64 ((0 : Nat) : Int), .int .i64 1, .string ⟨#[]⟩, .bool false] 40)) (by simp)
    have k2 := k1.alloc (.cells #[.string s, .int .i64 ((0 : Nat) : Int), .int .i64 1, .string ⟨#[]⟩, .bool false] 40)
    have hb2 : Hid (w.heap.size ≤ W1.heap.size) := k1.size
    have hne : b1 ≠ W1.heap.size := by have := L0.lt; omega
    generalize W1.alloc (.cells #[.string s, .int .i64 ((0 : Nat) : Int), .int .i64 1, .string ⟨#[]⟩, .bool false] 40) = W2 at Y0 L1 k2 ⊢
    generalize W1.heap.size = b2 at Y0 hb2 hne ⊢
    clear L0 k1 k0
    go_wp2_with fail
    go_loopw [9] (fun i wr => ∃ (k p : Nat) (md : Int) (fg : Bool) (ln : ByteArray), i = .int .i64 (k : Int) ∧ k ≤ m ∧ k ≤ 60 ∧ p ≤ s.size ∧ Kp [] w wr ∧ Lx wr b1 s p md fg ln ∧ Ly wr b2 s p md fg ln ∧ Hid (mdOk md ∧ nmOk ln ∧ ln.size ≤ s.size)) (fun i _ => 60 - (intOf i).toNat)
    case atStart => exact ⟨0, 0, 1, false, ⟨#[]⟩, rfl, by omega, by omega, Nat.zero_le _, k2, L1, Y0, one_ok, none_ok, Nat.zero_le _⟩
    case round =>
      obtain ⟨k, p, md, fg, ln, rfl, q1, q2, q3, kr, Lr, Yr, hI⟩ := hrel
      clear L1 Y0 k2
      by_cases hlt : k < m ∧ k < 60
      · obtain ⟨hk1, hk2⟩ := hlt
        obtain ⟨hm, hnm, hlz⟩ := hI.out
        obtain ⟨ab, aoff, rfl, a0, a1, a2⟩ := (ha.kept kr).2 k hk1
        have AK : Hid (∀ V, Kp [] w V → V.cell? ⟨ab, aoff + k * 3 + 1, none⟩ = some (.int .i64 (N k)) ∧ V.cell? ⟨ab, aoff + k * 3 + 2, none⟩ = some (.bool (G k))) := fun V kV => by
          obtain ⟨b', o', e1, _, x1, x2⟩ := (ha.kept kV).2 k hk1
          simp only [Option.some.injEq, Addr.mk.injEq, and_true] at e1
          obtain ⟨rfl, rfl⟩ := e1
          exact ⟨x1, x2⟩
        have fin1 : ∀ V V', Kp [] w V → Kp [b1] V V' → Kp [] w V' := fun V V' h1 h2 => h1.trans h2 (fun z hz => Or.inr (by have := hb1.out; simp at hz; omega))
        have fin2 : ∀ V V', Kp [] w V → Kp [b2] V V' → Kp [] w V' := fun V V' h1 h2 => h1.trans h2 (fun z hz => Or.inr (by have := hb2.out; simp at hz; omega))
        have c1 : (k : Int) < (m : Int) := by omega
        have c2 : (k : Int) < 60 := by omega
        by_cases h2 : K k = 2
        · rw [h2] at a0
          have HS1 := set_any wr b1 s p md fg ln Lr (N k)
          go_wp2_with fail
          refine HS1.mono ?_
          rintro e w3 ⟨rfl, k3, L3⟩
          clear HS1 a0
          have Y3 := Yr.kept k3 (by simpa using hne.symm)
          have kw3 := fin1 _ _ kr k3
          obtain ⟨x1, x2⟩ := AK.out _ kw3
          have HS2 := rset_any w3 b2 s p md fg ln Y3 (N k)
          clear a1 a2
          go_wp2_with fail
          refine HS2.mono ?_
          rintro e w4 ⟨rfl, k4, Y4⟩
          clear HS2 x1 x2
          have L4 := L3.kept k4 (by simpa using hne)
          have kw4 := fin2 _ _ kw3 k4
          have hZ : Hid (mdOk (modeF (N k)) ∧ nmOk ln ∧ ln.size ≤ s.size) := ⟨modeF_ok _, hnm, hlz⟩
          generalize modeF (N k) = mm at L4 Y4 hZ
          clear L3 Y3 k3 k4 kw3 Lr Yr kr hI hm hnm hlz AK fin1 fin2 h2
          have HA : Hid (∀ W, Kp [] w4 W → _) := fun W (kW : Kp [] w4 W) => at_any W b1 s p mm fg ln (L4.kept kW (by simp))
          have CC : Hid (∀ W, Kp [] w4 W → W.cell? ⟨b2, 1, none⟩ = some (.int .i64 (p : Int))) := fun W kW => by
            obtain ⟨⟨_, d1, _, _, _⟩, _⟩ := (Y4.kept kW (by simp)).facts
            exact d1
          have hqq : ((p : Int) != (p : Int)) = false := by simp
          obtain ⟨⟨y0, y1, y2, y3, y4⟩, yf⟩ := Y4.facts
          go_wp2_with fail
          go_region_held3 (fun w' => w'.cell? ⟨b2, 1, none⟩ = some (.int .i64 (p : Int)))
            (first | exact CC.out _ (Kp.refl [] w4).drew)
            (first | (go_at_call 18; refine (HA.out _ (Kp.refl [] w4).drew).mono ?_; rintro e v9 ⟨rfl, rfl⟩))
          all_goals
            have L5 := L4.kept (Kp.refl [] w4).drew (by simp)
            have Y5 := Y4.kept (Kp.refl [] w4).drew (by simp)
            have kw5 := kw4.drew
            clear HA CC y0 y1 y2 y3 y4 yf L4 Y4 kw4
            go_wp2
            go_roundw
            case rel => exact ⟨k + 1, p, _, _, _, by go_num, by omega, by omega, q3, kw5, L5, Y5, hZ.out⟩
            case measure => simp [intOf]; omega
        · have b2' : (K k == 2) = false := by simpa using h2
          by_cases h3 : K k = 3
          · rw [h3] at a0
            have HS1 := lforeign_any wr b1 s p md fg ln Lr (G k)
            clear h2 b2'
            go_wp2_with fail
            refine HS1.mono ?_
            rintro e w3 ⟨rfl, k3, L3⟩
            clear HS1 a0
            have Y3 := Yr.kept k3 (by simpa using hne.symm)
            have kw3 := fin1 _ _ kr k3
            obtain ⟨x1, x2⟩ := AK.out _ kw3
            have Y4 := Y3.setForeign (G k)
            have L4 : Lx (w3.setCell ⟨b2, 4, none⟩ (.bool (G k))) b1 s p md (G k) ln := At.other L3 hne.symm 4 _
            have kw4 : Kp [] w (w3.setCell ⟨b2, 4, none⟩ (.bool (G k))) := kw3.setCell (Or.inr hb2.out) _
            obtain ⟨⟨y0, y1, y2, y3, y4⟩, yf⟩ := Y3.facts
            have hZ : Hid (mdOk md ∧ nmOk ln ∧ ln.size ≤ s.size) := ⟨hm, hnm, hlz⟩
            clear a1 a2 L3 Y3 k3 kw3 Lr Yr kr hI hm hnm hlz AK fin1 fin2 h3
            go_wp2_with fail
            clear x1 x2 y0 y1 y2 y3 y4 yf
            generalize w3.setCell ⟨b2, 4, none⟩ (.bool (G k)) = w4 at L4 Y4 kw4 ⊢
            generalize G k = gg at L4 Y4
            have HA : Hid (∀ W, Kp [] w4 W → _) := fun W (kW : Kp [] w4 W) => at_any W b1 s p md gg ln (L4.kept kW (by simp))
            have CC : Hid (∀ W, Kp [] w4 W → W.cell? ⟨b2, 1, none⟩ = some (.int .i64 (p : Int))) := fun W kW => by
              obtain ⟨⟨_, d1, _, _, _⟩, _⟩ := (Y4.kept kW (by simp)).facts
              exact d1
            have hqq : ((p : Int) != (p : Int)) = false := by simp
            obtain ⟨⟨y0, y1, y2, y3, y4⟩, yf⟩ := Y4.facts
            go_wp2_with fail
            go_region_held3 (fun w' => w'.cell? ⟨b2, 1, none⟩ = some (.int .i64 (p : Int)))
              (first | exact CC.out _ (Kp.refl [] w4).drew)
              (first | (go_at_call 18; refine (HA.out _ (Kp.refl [] w4).drew).mono ?_; rintro e v9 ⟨rfl, rfl⟩))
            all_goals
              have L5 := L4.kept (Kp.refl [] w4).drew (by simp)
              have Y5 := Y4.kept (Kp.refl [] w4).drew (by simp)
              have kw5 := kw4.drew
              clear HA CC y0 y1 y2 y3 y4 yf L4 Y4 kw4
              go_wp2
              go_roundw
              case rel => exact ⟨k + 1, p, _, _, _, by go_num, by omega, by omega, q3, kw5, L5, Y5, hZ.out⟩
              case measure => simp [intOf]; omega
          · have b3' : (K k == 3) = false := by simpa using h3
            have E : Ev w wr b1 := ⟨kr, hb1.out, hn, hi⟩
            have HX := next_any w wr b1 E s p md fg ln Lr q3 (by omega) hm hnm
            have HY := fun W (YW : Ly W b2 s p md fg ln) => rnext_any W b2 s p md fg ln YW q3 (by omega) hm hnm (by omega)
            obtain ⟨htd, hm2, hl2⟩ := next_told (s := s) (fg := fg) q3 hm hnm
            have hlz2 := nextF_last (s := s) (md := md) (fg := fg) (p := p) hlz hnm
            obtain ⟨T, hT⟩ : ∃ T, nextF s md fg ln p = T := ⟨_, rfl⟩
            rw [hT] at HX HY htd hm2 hl2 hlz2
            obtain ⟨⟨tk, tx', tl, tb, ty⟩, te, tm, tn⟩ := T
            unfold tv at HX HY
            simp only [] at HX HY htd hm2 hl2 hlz2
            have hlen := htd.len
            have hhi := htd.hi
            simp only at hlen
            have hZ : Hid (mdOk tm ∧ nmOk tn ∧ tn.size ≤ s.size) := ⟨hm2, hl2, hlz2⟩
            clear hT htd hm2 hl2 hlz2 E
            generalize K k = kk at a0 b2' b3' h2 h3
            clear h2 h3
            go_wp2_with fail
            refine HX.mono ?_
            rintro e w3 ⟨e1, m1, d1, rfl, N1⟩
            clear HX a0 a1 a2
            have Y3 := Yr.kept N1.kp (by simpa using hne.symm)
            have kw3 := fin1 _ _ kr N1.kp
            go_wp2_with fail
            refine (HY _ Y3).mono ?_
            rintro e w4 ⟨e2, m2, d2, rfl, N2⟩
            clear HY
            have L4 := N1.lx.kept N2.kp (by simpa using hne)
            have Y4 := N2.ly
            have kw4 := fin2 _ _ kw3 N2.kp
            have R1 := Rp.of_own (N1.own.keep N2.kp (fun x hx => by have := own_apart (by decide) N1.own Y3 x hx; simpa using this))
            have R2 := Rp.of_own N2.own
            have z1 := R1.len
            have z2 := R2.len
            have HT := book_tsame_any w4 tk tk tx' tx' ty ty tl tl tb tb e1 e2 m1 d1 m2 d2 R1 R2 (by omega) (by omega)
            rw [decide_eq_true rfl] at HT
            unfold tv at HT
            clear R1 R2 z1 z2 N1 N2 Y3 kw3 Lr Yr kr hI hm hnm hlz AK fin1 fin2 hlen
            go_wp2_with fail
            refine HT.mono ?_
            rintro e w5 ⟨rfl, k5⟩
            clear HT
            replace L4 := L4.kept k5 (by simp)
            replace Y4 := Y4.kept k5 (by simp)
            replace kw4 := kw4.trans k5 (fun z hz => by simp at hz)
            clear k5
            generalize w5 = w4 at L4 Y4 kw4 ⊢
            have HA : Hid (∀ W, Kp [] w4 W → _) := fun W (kW : Kp [] w4 W) => at_any W b1 s te tm fg tn (L4.kept kW (by simp))
            have CC : Hid (∀ W, Kp [] w4 W → W.cell? ⟨b2, 1, none⟩ = some (.int .i64 (te : Int))) := fun W kW => by
              obtain ⟨⟨_, d1, _, _, _⟩, _⟩ := (Y4.kept kW (by simp)).facts
              exact d1
            have hqq : ((te : Int) != (te : Int)) = false := by simp
            obtain ⟨⟨y0, y1, y2, y3, y4⟩, yf⟩ := Y4.facts
            go_wp2_with fail
            go_region_held3 (fun w' => w'.cell? ⟨b2, 1, none⟩ = some (.int .i64 (te : Int)))
              (first | exact CC.out _ (Kp.refl [] w4).drew)
              (first | (go_at_call 18; refine (HA.out _ (Kp.refl [] w4).drew).mono ?_; rintro e v9 ⟨rfl, rfl⟩))
            all_goals
              have L5 := L4.kept (Kp.refl [] w4).drew (by simp)
              have Y5 := Y4.kept (Kp.refl [] w4).drew (by simp)
              have kw5 := kw4.drew
              clear HA CC y0 y1 y2 y3 y4 yf L4 Y4 kw4
              go_wp2
              go_roundw
              case rel => exact ⟨k + 1, te, _, _, _, by go_num, by omega, by omega, hhi, kw5, L5, Y5, hZ.out⟩
              case measure => simp [intOf]; omega
      · have HKz := HK.out _ kr
        clear HK Lr Yr hI
        by_cases h1 : k < m
        · have c1 : (k : Int) < (m : Int) := by omega
          have c2 : ¬ (k : Int) < 60 := by omega
          go_wp2_with fail
          refine (from_back HKz kr).mono ?_
          rintro e w6 ⟨rfl, k6⟩
          clear HKz
          go_wp2
          go_ret
          exact ⟨rfl, k6⟩
        · have c1 : ¬ (k : Int) < (m : Int) := by omega
          go_wp2_with fail
          refine (from_back HKz kr).mono ?_
          rintro e w6 ⟨rfl, k6⟩
          clear HKz
          go_wp2
          go_ret
          exact ⟨rfl, k6⟩

end Go.Proofs.YtcfaejbbjmjgpaaGreatDoor
