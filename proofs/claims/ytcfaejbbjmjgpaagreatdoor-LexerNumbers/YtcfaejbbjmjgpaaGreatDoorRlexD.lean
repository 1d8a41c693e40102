/-
  The document's lexer: text.
-/
import Derived.Test.YtcfaejbbjmjgpaaGreatDoorRlexC
import Derived.Deep.RegionWith
import Derived.Deep.CutRange
namespace Go.Proofs.YtcfaejbbjmjgpaaGreatDoor
open Go.RowKit Utf
set_option linter.unusedVariables false

/-- Once the result is laid, beside the lexer. -/
theorem laid_ly {w W : World} {b g0 : Nat} {s : ByteArray} {p : Nat} {md : Int} {fg : Bool} {last : ByteArray} (k : Kp [b] w W) (r : At W g0 ZT 44) (hg : w.heap.size ≤ g0) (L : Ly W b s p md fg last) (hb : g0 ≠ b) (v0 v1 v2 v3 v4 : Value) :
    (put5 W g0 v0 v1 v2 v3 v4).cell? ⟨g0, 0, none⟩ = some v0 ∧ (put5 W g0 v0 v1 v2 v3 v4).cell? ⟨g0, 1, none⟩ = some v1 ∧ (put5 W g0 v0 v1 v2 v3 v4).cell? ⟨g0, 2, none⟩ = some v2 ∧ (put5 W g0 v0 v1 v2 v3 v4).cell? ⟨g0, 3, none⟩ = some v3 ∧ (put5 W g0 v0 v1 v2 v3 v4).cell? ⟨g0, 4, none⟩ = some v4 ∧ Kp [b] w (put5 W g0 v0 v1 v2 v3 v4) ∧ Ly (put5 W g0 v0 v1 v2 v3 v4) b s p md fg last :=
  ⟨(r.put5 v0 v1 v2 v3 v4).cell 0, (r.put5 v0 v1 v2 v3 v4).cell 1, (r.put5 v0 v1 v2 v3 v4).cell 2, (r.put5 v0 v1 v2 v3 v4).cell 3, (r.put5 v0 v1 v2 v3 v4).cell 4, k.put5 (Or.inr hg) _ _ _ _ _, past5 L hb _ _ _ _ _⟩

set_option maxHeartbeats 4000000 in
set_option maxRecDepth 100000 in
theorem rtext_any (w : World) (b : Nat) (s : ByteArray) (p : Nat) (md : Int) (fg : Bool) (last : ByteArray) (h : Ly w b s p md fg last) (hp : p < s.size) (hs : s.size ≤ 4000) :
    Calls Tryz.prog 30 #[.pointer (some ⟨b, 0, none⟩)] w fun e w' => e = .returned (tv 4 ⟨#[]⟩ none 0 0 false (tT s 1 p (tE s 1 last p))) ∧ Kp [b] w w' ∧ Ly w' b s (tE s 1 last p) md fg last := by
  have he := tE_is s 1 last hp
  have hpc := tE_pc s 1 last hp
  obtain ⟨en, hen⟩ : ∃ en, tE s 1 last p = en := ⟨_, rfl⟩
  rw [hen] at he hpc ⊢
  have hE : Hid (Fs (enF s 1 last) (p + 1) s.size en) := he
  have hPc : Hid (Pc s p en) := hpc
  have he1 := he.lo
  have he2 := he.hi
  obtain ⟨A, hA⟩ : ∃ A, tT s 1 p en = A := ⟨_, rfl⟩
  have hA2 : Hid (allF (s.extract p en) false (p - p) = A) := by
    show _ = _
    rw [Nat.sub_self]
    exact hA
  have hAz : A.size ≤ 64000 := by
    have h1 := allF_size (s.extract p en) false (s.extract p en).size 0 (by omega)
    have h2 := cut_le s p en
    have h3 : allF (s.extract p en) false 0 = A := hA
    rw [h3] at h1
    omega
  rw [hA]
  obtain ⟨g0, hg0⟩ : ∃ g0, w.heap.size = g0 := ⟨_, rfl⟩
  obtain ⟨gt, hgt⟩ : ∃ gt, g0 + 1 = gt := ⟨_, rfl⟩
  have hlt := h.lt
  have hbg : g0 ≠ b := by omega
  have hbt : gt ≠ b := by omega
  have hgg : g0 ≠ gt := by omega
  have hgw : Hid (w.heap.size ≤ g0) := by show _ ≤ _; omega
  have hgv : Hid (w.heap.size ≤ gt) := by show _ ≤ _; omega
  have k0 : Kp [] w ((w.alloc (.cells ZT 44)).alloc (.cells #[.int .i64 4, .string ⟨#[]⟩, .slice none 0 0, .bool false, .string ⟨#[]⟩] 44)) := ((Kp.refl _ _).alloc _).alloc _
  have A0 : At ((w.alloc (.cells ZT 44)).alloc (.cells #[.int .i64 4, .string ⟨#[]⟩, .slice none 0 0, .bool false, .string ⟨#[]⟩] 44)) g0 ZT 44 := by
    rw [← hg0]
    exact (At.new w ZT 44).kept ((Kp.refl [] _).alloc _) (by simp)
  have T0 : At ((w.alloc (.cells ZT 44)).alloc (.cells #[.int .i64 4, .string ⟨#[]⟩, .slice none 0 0, .bool false, .string ⟨#[]⟩] 44)) gt #[.int .i64 4, .string ⟨#[]⟩, .slice none 0 0, .bool false, .string ⟨#[]⟩] 44 := by
    rw [← hgt, ← hg0]
    exact heap_new' _ _ _ (by simp)
  have L0 := h.kept k0 (by simp)
  have k0 := Kp.mono1 (b := b) k0
  unfold tv
  clear h hA he hpc
  go_enter Tryz.func30, Tryz.ntmps30
  go_wp2_with fail
  generalize (w.alloc (.cells ZT 44)).alloc (.cells #[.int .i64 4, .string ⟨#[]⟩, .slice none 0 0, .bool false, .string ⟨#[]⟩] 44) = W1 at k0 A0 T0 L0 ⊢
  clear hg0 hgt
  go_loopw [4] (fun fv wr => ∃ (q : Nat) (acc : ByteArray), p ≤ q ∧ q ≤ en ∧ fv = .bool (decide (q = p)) ∧ Kp [b] w wr ∧ Ly wr b s q md fg last ∧ At wr g0 ZT 44 ∧ At wr gt #[.int .i64 4, .string ⟨#[]⟩, .slice none 0 0, .bool false, .string acc] 44 ∧ Hid (acc ++ allF (s.extract p en) false (q - p) = A)) (fun _ wr => s.size - placeOf b wr)
  case atStart => exact ⟨p, ⟨#[]⟩, Nat.le_refl _, by omega, by simp, k0, L0, A0, T0, by show _ = _; rw [nil_cat]; exact hA2.out⟩
  case round =>
    obtain ⟨q, acc, q1, q2, rfl, kr, Lr, Ar, Tr, hI⟩ := hrel
    clear k0 L0 A0 T0 hA2
    have hacc : acc.size ≤ 64000 := by
      have := congrArg ByteArray.size hI.out
      rw [cat_size] at this
      omega
    obtain ⟨⟨c0, c1, c2, c3, c4⟩, hf⟩ := Lr.facts
    go_wp2_with fail
    go_cut [4, 41] from 8 to 97 (fun f t wc => f = .bool (decide (q = p)) ∧ t = .bool (decide (q < en)) ∧ Kp [] wr wc)
    case first =>
      by_cases hlt : q < s.size
      · have b1 : decide ((q : Int) < (s.size : Int)) = true := decide_eq_true (by omega)
        have i0 := index_at s (q : Int) q rfl hlt
        by_cases hqp : q = p
        · rw [show decide (q = p) = true from decide_eq_true hqp]
          have hqe : q < en := by omega
          have hR : Hid (decide (q < en) = true) := decide_eq_true hqe
          have hQ : Hid (decide (q = p) = true) := decide_eq_true hqp
          clear hqp
          go_quiet (fail)
          have kd := (Kp.refl [] wr).drewN nq
          go_wp2_with fail
          go_meet
          case rel => exact ⟨by rw [hQ.out], by rw [hR.out], kd⟩
        · rw [show decide (q = p) = false from decide_eq_false hqp]
          have hQ : Hid (decide (q = p) = false) := decide_eq_false hqp
          by_cases h60 : bt s q = 60
          · have b60 : (bt s q != 60) = false := by simp [h60]
            rw [h60] at i0
            have HM : Hid (∀ W, Kp [] wr W → Calls Tryz.prog 29 #[.pointer (some ⟨b, 0, none⟩), .int .i64 (q : Int)] W fun e w' => e = .returned (.bool (bgs s q)) ∧ Kp [] W w') := fun W kW => marks_any W b s q md fg last (Lr.kept kW (by simp)) q hlt hs
            have hB : bgs s q = decide (q = en) := by
              have e0 : enF s 1 last q = bgs s q := by unfold enF; rw [if_pos rfl]
              rw [← e0]
              by_cases g : q = en
              · rw [decide_eq_true g, g]
                exact hE.out.at' (by omega)
              · rw [decide_eq_false g]
                exact hE.out.no q (by omega) (by omega)
            have hR : Hid ((!(bgs s q)) = decide (q < en)) := by
              show _ = _
              rw [hB]
              by_cases g : q = en
              · rw [decide_eq_true g, decide_eq_false (by omega)]; rfl
              · rw [decide_eq_false g, decide_eq_true (by omega)]; rfl
            have CC : Hid (∀ W, Kp [] wr W → W.cell? ⟨b, 0, none⟩ = some (.string s) ∧ W.cell? ⟨b, 1, none⟩ = some (.int .i64 (q : Int))) := fun W kW => by
              obtain ⟨⟨d0, d1, _, _, _⟩, _⟩ := (Lr.kept kW (by simp)).facts
              exact ⟨d0, d1⟩
            generalize bgs s q = B at HM hR
            clear hB
            go_region_held3 (fun w' => w'.cell? ⟨b, 0, none⟩ = some (.string s) ∧ w'.cell? ⟨b, 1, none⟩ = some (.int .i64 (q : Int)))
              (first | with_reducible exact CC.out _ S1.out | exact CC.out _ (Kp.refl [] wr).drew)
              (first | (go_at_call 29; refine (HM.out _ (Kp.refl [] wr).drew).mono ?_; rintro e v1 ⟨rfl, kk⟩; have S1 : Hid (Kp [] wr v1) := (Kp.refl [] wr).drew.trans kk (fun x hx => by simp at hx); clear kk))
            have kd := S1.out
            go_wp2_with fail
            go_meet
            case rel => exact ⟨by rw [hQ.out], by rw [← hR.out], kd⟩
          · have b60 : (bt s q != 60) = true := by simpa using h60
            have hqe : q < en := by
              rcases Nat.lt_or_ge q en with g | g
              · exact g
              · exfalso
                have g2 : q = en := by omega
                have := hE.out.at' (by omega)
                rw [← g2] at this
                exact h60 (enF_sign this)
            have hR : Hid (decide (q < en) = true) := decide_eq_true hqe
            generalize bt s q = x at i0 b60 h60
            clear h60
            go_quiet (fail)
            have kd := (Kp.refl [] wr).drewN nq
            go_wp2_with fail
            go_meet
            case rel => exact ⟨by rw [hQ.out], by rw [hR.out], kd⟩
      · have b1 : decide ((q : Int) < (s.size : Int)) = false := decide_eq_false (by omega)
        have hR : Hid (decide (q < en) = false) := decide_eq_false (by omega)
        go_quiet (fail)
        have kd := (Kp.refl [] wr).drewN nq
        go_wp2_with fail
        go_meet
        case rel => exact ⟨rfl, by rw [hR.out], kd⟩
    case rest =>
      obtain ⟨rfl, rfl, kd⟩ := hcut
      clear c0 c1 c2 c3 c4 hf
      generalize (Value.bool (decide (q = p))) = fv
      by_cases hqe : q < en
      · rw [show decide (q < en) = true from decide_eq_true hqe]
        have hlt : q < s.size := by omega
        have i0 := index_at s (q : Int) q rfl hlt
        generalize wc = V at kd ⊢
        have kV := kr.trans kd (fun z hz => by simp at hz)
        have LV := Lr.kept kd (by simp)
        have AV := Ar.kept kd (by simp)
        have TV := Tr.kept kd (by simp)
        have pr := Lr.place
        clear Lr Ar Tr kr kd
        try clear c0 c1 c2 c3 c4 hf
        obtain ⟨⟨c0, c1, c2, c3, c4⟩, hf⟩ := LV.facts
        by_cases h38 : bt s q = 38
        · rw [h38] at i0
          go_wp2_with fail
          go_quiet (fail)
          have kd := (Kp.refl [] V).drewN nq
          generalize V.drewN nq = U at kd ⊢
          have kU := kV.trans kd (fun z hz => by simp at hz)
          have LU := LV.kept kd (by simp)
          have AU := AV.kept kd (by simp)
          have TU := TV.kept kd (by simp)
          clear LV AV TV kV kd c0 c1 c2 c3 c4 hf
          obtain ⟨⟨c0, c1, c2, c3, c4⟩, hf⟩ := LU.facts
          have HR := fun W => ref_read_any W s (q : Int) false (by omega)
          obtain ⟨ra, rb⟩ := rA_yes hlt h38 false
          rw [ra, rb] at HR
          have hfw := hPc.out.fwd (q := q - p) (by omega)
          rw [show p + (q - p) = q by omega] at hfw
          have hst := hPc.out.amp (q := q) q1 hqe h38
          have hJ : Hid ((acc ++ rT s q false) ++ allF (s.extract p en) false (rE s q - p) = A) := by
            show _ = _
            rw [cat_assoc, ← hst]
            exact hI.out
          have hxz := (rT_size hlt false).2
          generalize rT s q false = x at HR hJ hxz
          generalize rE s q = e' at HR hfw hJ
          have CC : Hid (∀ W, Kp [] U W → W.cell? ⟨b, 0, none⟩ = some (.string s) ∧ W.cell? ⟨b, 1, none⟩ = some (.int .i64 (q : Int))) := fun W kW => by
            obtain ⟨⟨d0, d1, _, _, _⟩, _⟩ := (LU.kept kW (by simp)).facts
            exact ⟨d0, d1⟩
          clear ra rb hst hI i0
          go_wp2_with fail
          go_region_held3 (fun w' => w'.cell? ⟨b, 0, none⟩ = some (.string s) ∧ w'.cell? ⟨b, 1, none⟩ = some (.int .i64 (q : Int)))
            (first | with_reducible exact CC.out _ S1.out | exact CC.out _ (Kp.refl [] U).drew)
            (first | (go_at_call 45; refine (HR _).mono ?_; rintro e v2 ⟨rfl, kk⟩; have S1 : Hid (Kp [] U v2) := (Kp.refl [] U).drew.trans kk (fun x hx => by simp at hx); clear kk))
          have kd := S1.out
          clear S1 CC HR c0 c1 c2 c3 c4 hf
          have kX := kU.trans kd (fun z hz => by simp at hz)
          have LX := LU.kept kd (by simp)
          have AX := AU.kept kd (by simp)
          have TX := TU.kept kd (by simp)
          clear LU AU TU kU kd
          obtain ⟨x0, x1, x2, x3, x4⟩ := TX.cells5
          have xf := fun j => TX.free j
          have i7 : ¬ 9223372036854775807 < acc.size + x.size := by omega
          have TY := TX.set 4 (.string (acc ++ x))
          have LY : Ly (v2.setCell ⟨gt, 4, none⟩ (.string (acc ++ x))) b s q md fg last := At.other LX hbt 4 _
          have AY := AX.other hgg.symm 4 (.string (acc ++ x))
          have kY := kX.setCell (p := ⟨gt, 4, none⟩) (Or.inr hgv.out) (.string (acc ++ x))
          obtain ⟨⟨c0, c1, c2, c3, c4⟩, hf⟩ := LY.facts
          have TZ := TY.other hbt.symm 1 (.int .i64 (e' : Int))
          have LZ := LY.setAt e'
          have AZ := AY.other hbg.symm 1 (.int .i64 (e' : Int))
          have kZ := kY.setCell (p := ⟨b, 1, none⟩) (Or.inl (by simp)) (.int .i64 (e' : Int))
          have pz := LZ.place
          have hTZ : Hid _ := TZ
          clear TX LX AX kX TY LY AY kY TZ
          go_wp2
          go_roundw
          case rel => exact ⟨e', acc ++ x, by omega, hfw.2, by rw [decide_eq_false (by omega)], kZ, LZ, AZ, hTZ.out, hJ.out⟩
          case measure => rw [pr, pz]; omega
        · have b38 : (bt s q == 38) = false := by simpa using h38
          have hst := hPc.out.other (q := q) q1 hqe h38
          have hJ : Hid ((acc ++ s.extract q (q + 1)) ++ allF (s.extract p en) false (q + 1 - p) = A) := by
            show _ = _
            rw [cat_assoc, ← hst]
            exact hI.out
          generalize bt s q = xx at i0 b38
          clear hst hI h38
          go_wp2_with fail
          go_quiet (fail)
          have kd := (Kp.refl [] V).drewN nq
          generalize V.drewN nq = U at kd ⊢
          have kU := kV.trans kd (fun z hz => by simp at hz)
          have LU := LV.kept kd (by simp)
          have AU := AV.kept kd (by simp)
          have TU := TV.kept kd (by simp)
          clear LV AV TV kV kd c0 c1 c2 c3 c4 hf i0
          obtain ⟨⟨c0, c1, c2, c3, c4⟩, hf⟩ := LU.facts
          obtain ⟨x0, x1, x2, x3, x4⟩ := TU.cells5
          have xf := fun j => TU.free j
          have i1 : (0 : Int) ≤ (q : Int) := by omega
          have i2 : (q : Int) + 1 ≤ (s.size : Int) := by omega
          have i3 : IntKind.i64.wrap ((q : Int) + 1) = (q : Int) + 1 := by rw [IntKind.wrap_i64]; omega
          have i7 : ¬ 9223372036854775807 < acc.size + (s.extract q (q + 1)).size := by rw [one_size hlt]; omega
          have i4 : (q : Int) ≤ (q : Int) + 1 := by omega
          have Z : Hid (Kp [b] w U ∧ Ly U b s q md fg last ∧ At U g0 ZT 44 ∧ At U gt #[.int .i64 4, .string ⟨#[]⟩, .slice none 0 0, .bool false, .string acc] 44) := ⟨kU, LU, AU, TU⟩
          clear kU LU AU TU c2 c3 c4 x0 x1 x2 x3 b38 hf
          go_wp2_with fail
          go_region_with (fail)
          all_goals
            obtain ⟨kU, LU, AU, TU⟩ := Z.out
            have TY := (TU.set 4 (.string (acc ++ s.extract q (q + 1)))).kept (Kp.refl [] _).drew (by simp)
            have LY : Ly (U.setCell ⟨gt, 4, none⟩ (.string (acc ++ s.extract q (q + 1)))).drew b s q md fg last := At.kept (At.other LU hbt 4 _) (Kp.refl [] _).drew (by simp)
            have AY := (AU.other hgg.symm 4 (.string (acc ++ s.extract q (q + 1)))).kept (Kp.refl [] _).drew (by simp)
            have kY := (kU.setCell (p := ⟨gt, 4, none⟩) (Or.inr hgv.out) (.string (acc ++ s.extract q (q + 1)))).drew
            clear kU LU AU TU c0 c1 x4 xf
            generalize (U.setCell ⟨gt, 4, none⟩ (.string (acc ++ s.extract q (q + 1)))).drew = U2 at TY LY AY kY ⊢
            obtain ⟨⟨c0, c1, c2, c3, c4⟩, hf⟩ := LY.facts
            have TZ := TY.other hbt.symm 1 (.int .i64 ((q : Int) + 1))
            have LZ : Ly (U2.setCell ⟨b, 1, none⟩ (.int .i64 ((q : Int) + 1))) b s (q + 1) md fg last := LY.setAt (q + 1)
            have AZ := AY.other hbg.symm 1 (.int .i64 ((q : Int) + 1))
            have kZ := kY.setCell (p := ⟨b, 1, none⟩) (Or.inl (by simp)) (.int .i64 ((q : Int) + 1))
            have pz := LZ.place
            have hTZ : Hid _ := TZ
            clear TY LY AY kY TZ
            go_wp2
            go_roundw
            case rel => exact ⟨q + 1, acc ++ s.extract q (q + 1), by omega, by omega, by rw [decide_eq_false (by omega)], kZ, LZ, AZ, hTZ.out, hJ.out⟩
            case measure => rw [pr, pz]; omega
      · rw [show decide (q < en) = false from decide_eq_false hqe]
        obtain rfl : q = en := by omega
        generalize wc = v1 at kd ⊢
        have hfin : Hid (acc = A) := by
          show _ = _
          have := hI.out
          rw [allF_end (by rw [hPc.out.size]; omega), cat_nil] at this
          exact this
        have kV := kr.trans kd (fun z hz => by simp at hz)
        have LV := Lr.kept kd (by simp)
        have AV := Ar.kept kd (by simp)
        have TV := Tr.kept kd (by simp)
        have D : Hid _ := laid_ly kV AV hgw.out LV hbg (.int .i64 4) (.string ⟨#[]⟩) (.slice none 0 0) (.bool false) (.string acc)
        obtain ⟨y0, y1, y2, y3, y4⟩ := AV.cells5
        have yf := fun j => AV.free j
        obtain ⟨x0, x1, x2, x3, x4⟩ := TV.cells5
        clear kV LV AV TV Lr Ar Tr kr kd hI hE hPc
        go_wp2
        obtain ⟨d0, d1, d2, d3, d4, kz, Lz⟩ := D.out
        unfold put5 at d0 d1 d2 d3 d4 kz Lz
        try simp only [Exit.inBlock, Exit.then]
        refine bodyPost_ret (v := .agg #[.int .i64 4, .string ⟨#[]⟩, .slice none 0 0, .bool false, .string acc]) (by simp [results, go_sem, d0, d1, d2, d3, d4]) rfl ⟨by rw [hfin.out], kz, Lz⟩

end Go.Proofs.YtcfaejbbjmjgpaaGreatDoor
