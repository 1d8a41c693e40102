/-
  ends, meaning and text of the program.
-/
import Derived.Test.YtcfaejbbjmjgpaaGreatDoorLexC
namespace Go.Proofs.YtcfaejbbjmjgpaaGreatDoor
open Go.RowKit Utf
set_option linter.unusedVariables false

set_option maxHeartbeats 1000000 in
set_option maxRecDepth 100000 in
theorem lends_any (w0 w : World) (b : Nat) (E : Ev w0 w b) (s : ByteArray) (q : Nat) (md : Int) (fg : Bool) (last : ByteArray) (h : Lx w b s q md fg last) (p : Nat) (hp : p < s.size) (hs : s.size ≤ 4000) (hm : mdOk md) :
    Calls Tryz.prog 40 #[.pointer (some ⟨b, 0, none⟩), .int .i64 (p : Int)] w fun e w' => e = .returned (.bool (enF s md last p)) ∧ Kp [] w w' := by
  have HB := begins_any w0 w b E s q md fg last h p hp hs
  have HC := closes_any w b s q md fg last h p (by omega) (by omega)
  obtain ⟨⟨c0, c1, c2, c3, c4⟩, hf⟩ := h.facts
  unfold enF
  clear h E
  rcases (show md = 1 ∨ md = 2 ∨ md = 3 ∨ md = 4 by omega) with rfl | rfl | rfl | rfl
  · rw [if_pos rfl]
    generalize bgs s p = B at HB ⊢
    go_enter Tryz.func40, Tryz.ntmps40
    go_wp2_with fail
    refine HB.mono ?_
    rintro e w1 ⟨rfl, k1⟩
    clear HB HC
    go_wp2
    go_ret
    exact ⟨rfl, k1⟩
  · rw [if_neg (by decide), if_pos (by decide)]
    generalize clo s last p = B at HC ⊢
    go_enter Tryz.func40, Tryz.ntmps40
    go_wp2_with fail
    refine HC.mono ?_
    rintro e w1 ⟨rfl, k1⟩
    clear HB HC
    go_wp2
    go_ret
    exact ⟨rfl, k1⟩
  · rw [if_neg (by decide), if_pos (by decide)]
    generalize clo s last p = B at HC ⊢
    go_enter Tryz.func40, Tryz.ntmps40
    go_wp2_with fail
    refine HC.mono ?_
    rintro e w1 ⟨rfl, k1⟩
    clear HB HC
    go_wp2
    go_ret
    exact ⟨rfl, k1⟩
  · rw [if_neg (by decide), if_neg (by decide)]
    clear HB HC
    go_enter Tryz.func40, Tryz.ntmps40
    go_wp2
    go_ret
    exact ⟨rfl, Kp.refl _ _⟩

set_option maxHeartbeats 1000000 in
set_option maxRecDepth 100000 in
theorem lmean_any (w0 w : World) (b : Nat) (E : Ev w0 w b) (s : ByteArray) (q : Nat) (md : Int) (fg : Bool) (last : ByteArray) (h : Lx w b s q md fg last) (y : ByteArray) (hs : y.size ≤ 20000) (hm : mdOk md) :
    Calls Tryz.prog 41 #[.pointer (some ⟨b, 0, none⟩), .string y] w fun e w' => e = .returned (.string (if md = 1 ∨ md = 2 then allF y false 0 else y)) ∧ Kp [] w w' := by
  have HA := all_any w E.names E.runes y false hs
  have HC := clone_any w y (by omega)
  obtain ⟨⟨c0, c1, c2, c3, c4⟩, hf⟩ := h.facts
  clear h E
  rcases (show md = 1 ∨ md = 2 ∨ md = 3 ∨ md = 4 by omega) with rfl | rfl | rfl | rfl
  · rw [if_pos (by decide)]
    go_enter Tryz.func41, Tryz.ntmps41
    go_wp2_with fail
    refine HA.mono ?_
    rintro e w1 ⟨rfl, k1⟩
    clear HA HC
    go_wp2
    go_ret
    exact ⟨rfl, k1⟩
  · rw [if_pos (by decide)]
    go_enter Tryz.func41, Tryz.ntmps41
    go_wp2_with fail
    refine HA.mono ?_
    rintro e w1 ⟨rfl, k1⟩
    clear HA HC
    go_wp2
    go_ret
    exact ⟨rfl, k1⟩
  · rw [if_neg (by decide)]
    go_enter Tryz.func41, Tryz.ntmps41
    go_wp2_with fail
    refine HC.mono ?_
    rintro e w1 ⟨rfl, k1⟩
    clear HA HC
    go_wp2
    go_ret
    exact ⟨rfl, k1⟩
  · rw [if_neg (by decide)]
    go_enter Tryz.func41, Tryz.ntmps41
    go_wp2_with fail
    refine HC.mono ?_
    rintro e w1 ⟨rfl, k1⟩
    clear HA HC
    go_wp2
    go_ret
    exact ⟨rfl, k1⟩

/-- Another block, past five stores. -/
theorem past5 {w : World} {g f : Nat} {cur : Array Value} {e : TypeId} (h : At w g cur e) (hf : f ≠ g) (v0 v1 v2 v3 v4 : Value) : At (put5 w f v0 v1 v2 v3 v4) g cur e :=
  ((((h.other hf 0 v0).other hf 1 v1).other hf 2 v2).other hf 3 v3).other hf 4 v4

/-- The place that a lexer's block tells. -/
def placeOf (b : Nat) (w : World) : Nat := (intOf ((w.cell? ⟨b, 1, none⟩).getD (.int .i64 0))).toNat
theorem Lx.place {w : World} {b : Nat} {s : ByteArray} {p : Nat} {md : Int} {fg : Bool} {last : ByteArray} (h : Lx w b s p md fg last) : placeOf b w = p := by
  obtain ⟨⟨c0, c1, c2, c3, c4⟩, hf⟩ := h.facts
  unfold placeOf
  rw [c1]
  simp [intOf]

/-- Once the result is laid, beside the lexer. -/
theorem laid_lx {w W : World} {b g0 : Nat} {s : ByteArray} {p : Nat} {md : Int} {fg : Bool} {last : ByteArray} (k : Kp [b] w W) (r : At W g0 ZT 44) (hg : w.heap.size ≤ g0) (L : Lx W b s p md fg last) (hb : g0 ≠ b) (v0 v1 v2 v3 v4 : Value) :
    (put5 W g0 v0 v1 v2 v3 v4).cell? ⟨g0, 0, none⟩ = some v0 ∧ (put5 W g0 v0 v1 v2 v3 v4).cell? ⟨g0, 1, none⟩ = some v1 ∧ (put5 W g0 v0 v1 v2 v3 v4).cell? ⟨g0, 2, none⟩ = some v2 ∧ (put5 W g0 v0 v1 v2 v3 v4).cell? ⟨g0, 3, none⟩ = some v3 ∧ (put5 W g0 v0 v1 v2 v3 v4).cell? ⟨g0, 4, none⟩ = some v4 ∧ Kp [b] w (put5 W g0 v0 v1 v2 v3 v4) ∧ Lx (put5 W g0 v0 v1 v2 v3 v4) b s p md fg last :=
  ⟨(r.put5 v0 v1 v2 v3 v4).cell 0, (r.put5 v0 v1 v2 v3 v4).cell 1, (r.put5 v0 v1 v2 v3 v4).cell 2, (r.put5 v0 v1 v2 v3 v4).cell 3, (r.put5 v0 v1 v2 v3 v4).cell 4, k.put5 (Or.inr hg) _ _ _ _ _, past5 L hb _ _ _ _ _⟩

set_option maxHeartbeats 1000000 in
set_option maxRecDepth 100000 in
theorem text_any (w0 w : World) (b : Nat) (E : Ev w0 w b) (s : ByteArray) (p : Nat) (md : Int) (fg : Bool) (last : ByteArray) (h : Lx w b s p md fg last) (hp : p < s.size) (hs : s.size ≤ 4000) (hm : mdOk md) :
    Calls Tryz.prog 27 #[.pointer (some ⟨b, 0, none⟩)] w fun e w' => e = .returned (tv 4 ⟨#[]⟩ none 0 0 false (tT s md p (tE s md last p))) ∧ Kp [b] w w' ∧ Lx w' b s (tE s md last p) md fg last := by
  have he := tE_is s md last hp
  have hT : Hid (∀ e, tT s md p e = if md = 1 ∨ md = 2 then allF (s.extract p e) false 0 else s.extract p e) := fun e => rfl
  obtain ⟨g0, hg0⟩ : ∃ g0, w.heap.size = g0 := ⟨_, rfl⟩
  have hbg : g0 ≠ b := by have := h.lt; omega
  have k0 : Kp [b] w (w.alloc (.cells ZT 44)) := (Kp.refl _ _).alloc _
  have A0 := At.new w ZT 44
  have L0 := h.kept ((Kp.refl [] w).alloc (.cells ZT 44)) (by simp)
  rw [hg0] at A0
  have A1 : At ((w.alloc (.cells ZT 44)).setCell ⟨b, 1, none⟩ (.int .i64 ((p : Int) + 1))) g0 ZT 44 := A0.other hbg.symm 1 _
  have L1 : Lx ((w.alloc (.cells ZT 44)).setCell ⟨b, 1, none⟩ (.int .i64 ((p : Int) + 1))) b s (p + 1) md fg last := L0.setAt (p + 1)
  have k1 : Kp [b] w ((w.alloc (.cells ZT 44)).setCell ⟨b, 1, none⟩ (.int .i64 ((p : Int) + 1))) := k0.setCell (Or.inl (by simp)) _
  obtain ⟨⟨c0, c1, c2, c3, c4⟩, hf⟩ := L0.facts
  unfold tv
  go_enter Tryz.func27, Tryz.ntmps27
  go_wp2_with fail
  clear c0 c1 c2 c3 c4 hf L0 A0 k0
  generalize (w.alloc (.cells ZT 44)).setCell ⟨b, 1, none⟩ (.int .i64 ((p : Int) + 1)) = W1 at A1 L1 k1 ⊢
  have hgw : Hid (w.heap.size ≤ g0) := by show _ ≤ _; omega
  obtain ⟨en, hen⟩ : ∃ en, tE s md last p = en := ⟨_, rfl⟩
  rw [hen] at he
  have hen : Hid (tE s md last p = en) := hen
  have hE : Hid (Fs (enF s md last) (p + 1) s.size en) := he
  have he1 := he.lo
  have he2 := he.hi
  skip
  clear hg0 h he
  go_loopw [] (fun wr => ∃ q : Nat, p + 1 ≤ q ∧ q ≤ en ∧ Kp [b] w wr ∧ Lx wr b s q md fg last ∧ At wr g0 ZT 44) (fun wr => s.size - placeOf b wr)
  case atStart => exact ⟨p + 1, Nat.le_refl _, he1, k1, L1, A1⟩
  case round =>
    obtain ⟨q, q1, q2, kr, Lr, Ar⟩ := hrel
    clear k1 L1 A1
    obtain ⟨⟨c0, c1, c2, c3, c4⟩, hf⟩ := Lr.facts
    by_cases hlt : q < s.size
    · have b1 : decide ((q : Int) < (s.size : Int)) = true := decide_eq_true (by omega)
      have HE : Hid (∀ W, Kp [] wr W → Calls Tryz.prog 40 #[.pointer (some ⟨b, 0, none⟩), .int .i64 (q : Int)] W fun e w' => e = .returned (.bool (enF s md last q)) ∧ Kp [] W w') := fun W kW => lends_any w0 W b ((E.step kr).more kW) s q md fg last (Lr.kept kW (by simp)) q hlt hs hm
      have CC : Hid (∀ W, Kp [] wr W → W.cell? ⟨b, 0, none⟩ = some (.string s) ∧ W.cell? ⟨b, 1, none⟩ = some (.int .i64 (q : Int))) := fun W kW => by
        obtain ⟨⟨d0, d1, _, _, _⟩, _⟩ := (Lr.kept kW (by simp)).facts
        exact ⟨d0, d1⟩
      have hB : Hid (enF s md last q = decide (q = en)) := by
        by_cases g : q = en
        · rw [decide_eq_true g, g]
          exact hE.out.at' (by omega)
        · rw [decide_eq_false g]
          exact hE.out.no q q1 (by omega)
      obtain ⟨B, hB2⟩ : ∃ B, enF s md last q = B := ⟨_, rfl⟩
      rw [hB2] at HE hB
      go_wp2_with fail
      go_region_held3 (fun w' => w'.cell? ⟨b, 0, none⟩ = some (.string s) ∧ w'.cell? ⟨b, 1, none⟩ = some (.int .i64 (q : Int)))
        (first | with_reducible exact CC.out _ S1.out | exact CC.out _ (Kp.refl [] wr).drew)
        (first | (go_at_call 40; refine (HE.out _ (Kp.refl [] wr).drew).mono ?_; rintro e v1 ⟨rfl, kk⟩; have S1 : Hid (Kp [] wr v1) := (Kp.refl [] wr).drew.trans kk (fun x hx => by simp at hx); clear kk))
      have k2 := S1.out
      clear S1 CC HE c0 c1 c2 c3 c4 hf hB2
      cases B with
      | true =>
        obtain rfl : q = en := of_decide_eq_true hB.out.symm
        have kV : Kp [b] w v1 := kr.trans k2 (fun x hx => by simp at hx)
        have LV := Lr.kept k2 (by simp)
        have AV := Ar.kept k2 (by simp)
        clear Lr Ar kr k2 hB
        have HM : Hid (∀ W, Kp [] v1 W → Calls Tryz.prog 41 #[.pointer (some ⟨b, 0, none⟩), .string (s.extract p q)] W fun e w' => e = .returned (.string (tT s md p q)) ∧ Kp [] W w') := fun W kW => by rw [hT.out]; exact lmean_any w0 W b ((E.step kV).more kW) s q md fg last (LV.kept kW (by simp)) _ (by rw [ByteArray.size_extract]; omega) hm
        have CC : Hid (∀ W, Kp [] v1 W → W.cell? ⟨b, 0, none⟩ = some (.string s) ∧ W.cell? ⟨b, 1, none⟩ = some (.int .i64 (q : Int))) := fun W kW => by
          obtain ⟨⟨d0, d1, _, _, _⟩, _⟩ := (LV.kept kW (by simp)).facts
          exact ⟨d0, d1⟩
        have C5 : Hid (∀ (W : World) (u0 u1 u2 u3 u4 : Value), Kp [] v1 W → (((((W.setCell ⟨g0, 0, none⟩ u0).setCell ⟨g0, 1, none⟩ u1).setCell ⟨g0, 2, none⟩ u2).setCell ⟨g0, 3, none⟩ u3).setCell ⟨g0, 4, none⟩ u4).cell? ⟨b, 0, none⟩ = some (.string s) ∧ (((((W.setCell ⟨g0, 0, none⟩ u0).setCell ⟨g0, 1, none⟩ u1).setCell ⟨g0, 2, none⟩ u2).setCell ⟨g0, 3, none⟩ u3).setCell ⟨g0, 4, none⟩ u4).cell? ⟨b, 1, none⟩ = some (.int .i64 (q : Int))) := fun W u0 u1 u2 u3 u4 kW => by
          have L5 : Lx (put5 W g0 u0 u1 u2 u3 u4) b s q md fg last := past5 (LV.kept kW (by simp)) hbg _ _ _ _ _
          obtain ⟨⟨d0, d1, _, _, _⟩, _⟩ := L5.facts
          exact ⟨d0, d1⟩
        have AZ : Hid (∀ W, Kp [] v1 W → At W g0 ZT 44) := fun W kW => AV.kept kW (by simp)
        have DZ : Hid (∀ W, Kp [] v1 W → Hid _) := fun W kW => (laid_lx (kV.trans kW (fun x hx => by simp at hx)) (AV.kept kW (by simp)) hgw.out (LV.kept kW (by simp)) hbg (.int .i64 4) (.string ⟨#[]⟩) (.slice none 0 0) (.bool false) (.string (tT s md p q)))
        have i1 : (0 : Int) ≤ (p : Int) := by omega
        have i2 : (p : Int) ≤ (q : Int) := by omega
        have i3 : (q : Int) ≤ (s.size : Int) := by omega
        obtain ⟨⟨c0, c1, c2, c3, c4⟩, hf⟩ := LV.facts
        clear LV AV
        go_wp2_with fail
        go_region_held3 (fun w' => w'.cell? ⟨b, 0, none⟩ = some (.string s) ∧ w'.cell? ⟨b, 1, none⟩ = some (.int .i64 (q : Int)))
          (first | with_reducible exact CC.out _ S1.out | with_reducible exact C5.out _ _ _ _ _ _ S1.out | exact CC.out _ (Kp.refl [] v1).drew)
          (first | (go_at_call 41; refine (HM.out _ (Kp.refl [] v1).drew).mono ?_; rintro e v2 ⟨rfl, kk⟩; have S1 : Hid (Kp [] v1 v2) := (Kp.refl [] v1).drew.trans kk (fun x hx => by simp at hx); clear kk; have ZZ := AZ.out _ S1.out; obtain ⟨x0, x1, x2, x3, x4⟩ := ZZ.cells5; have xf := fun j => ZZ.free j; clear ZZ))
        have D := DZ.out _ S1.out
        clear x0 x1 x2 x3 x4 xf S1 CC C5 AZ DZ HM
        go_wp2
        obtain ⟨d0, d1, d2, d3, d4, kz, Lz⟩ := D.out
        unfold put5 at d0 d1 d2 d3 d4 kz Lz
        try simp only [Exit.inBlock, Exit.then]
        refine bodyPost_ret (v := .agg #[.int .i64 4, .string ⟨#[]⟩, .slice none 0 0, .bool false, .string (tT s md p q)]) (by simp [results, go_sem, d0, d1, d2, d3, d4]) rfl ⟨by rw [hen.out], kz, by rw [hen.out]; exact Lz⟩
      | false =>
        have hq : ¬ q = en := of_decide_eq_false hB.out.symm
        have kV : Kp [b] w v1 := kr.trans k2 (fun x hx => by simp at hx)
        have LV := Lr.kept k2 (by simp)
        have AV := Ar.kept k2 (by simp)
        obtain ⟨⟨c0, c1, c2, c3, c4⟩, hf⟩ := LV.facts
        have kZ := kV.setCell (p := ⟨b, 1, none⟩) (Or.inl (by simp)) (.int .i64 ((q : Int) + 1))
        have LZ : Lx (v1.setCell ⟨b, 1, none⟩ (.int .i64 ((q : Int) + 1))) b s (q + 1) md fg last := LV.setAt (q + 1)
        have AZ := AV.other hbg.symm 1 (.int .i64 ((q : Int) + 1))
        have pr := Lr.place
        have pz := LZ.place
        clear Lr Ar kr k2 hB LV AV kV
        go_wp2
        go_roundw
        case rel => exact ⟨q + 1, by omega, by omega, kZ, LZ, AZ⟩
        case measure => rw [pr, pz]; omega
    · obtain rfl : q = en := by omega
      have b1 : decide ((q : Int) < (s.size : Int)) = false := decide_eq_false (by omega)
      go_wp2_with fail
      go_quiet (fail)
      have kV := kr.drewN nq
      have LV : Lx (wr.drewN nq) b s q md fg last := Lr.kept ((Kp.refl [] wr).drewN nq) (by simp)
      have AV : At (wr.drewN nq) g0 ZT 44 := Ar.kept ((Kp.refl [] wr).drewN nq) (by simp)
      clear Lr Ar kr c0 c1 c2 c3 c4 hf
      generalize wr.drewN nq = v1 at kV LV AV ⊢
      have HM : Hid (∀ W, Kp [] v1 W → Calls Tryz.prog 41 #[.pointer (some ⟨b, 0, none⟩), .string (s.extract p q)] W fun e w' => e = .returned (.string (tT s md p q)) ∧ Kp [] W w') := fun W kW => by rw [hT.out]; exact lmean_any w0 W b ((E.step kV).more kW) s q md fg last (LV.kept kW (by simp)) _ (by rw [ByteArray.size_extract]; omega) hm
      have CC : Hid (∀ W, Kp [] v1 W → W.cell? ⟨b, 0, none⟩ = some (.string s) ∧ W.cell? ⟨b, 1, none⟩ = some (.int .i64 (q : Int))) := fun W kW => by
        obtain ⟨⟨d0, d1, _, _, _⟩, _⟩ := (LV.kept kW (by simp)).facts
        exact ⟨d0, d1⟩
      have C5 : Hid (∀ (W : World) (u0 u1 u2 u3 u4 : Value), Kp [] v1 W → (((((W.setCell ⟨g0, 0, none⟩ u0).setCell ⟨g0, 1, none⟩ u1).setCell ⟨g0, 2, none⟩ u2).setCell ⟨g0, 3, none⟩ u3).setCell ⟨g0, 4, none⟩ u4).cell? ⟨b, 0, none⟩ = some (.string s) ∧ (((((W.setCell ⟨g0, 0, none⟩ u0).setCell ⟨g0, 1, none⟩ u1).setCell ⟨g0, 2, none⟩ u2).setCell ⟨g0, 3, none⟩ u3).setCell ⟨g0, 4, none⟩ u4).cell? ⟨b, 1, none⟩ = some (.int .i64 (q : Int))) := fun W u0 u1 u2 u3 u4 kW => by
        have L5 : Lx (put5 W g0 u0 u1 u2 u3 u4) b s q md fg last := past5 (LV.kept kW (by simp)) hbg _ _ _ _ _
        obtain ⟨⟨d0, d1, _, _, _⟩, _⟩ := L5.facts
        exact ⟨d0, d1⟩
      have AZ : Hid (∀ W, Kp [] v1 W → At W g0 ZT 44) := fun W kW => AV.kept kW (by simp)
      have DZ : Hid (∀ W, Kp [] v1 W → Hid _) := fun W kW => (laid_lx (kV.trans kW (fun x hx => by simp at hx)) (AV.kept kW (by simp)) hgw.out (LV.kept kW (by simp)) hbg (.int .i64 4) (.string ⟨#[]⟩) (.slice none 0 0) (.bool false) (.string (tT s md p q)))
      have i1 : (0 : Int) ≤ (p : Int) := by omega
      have i2 : (p : Int) ≤ (q : Int) := by omega
      have i3 : (q : Int) ≤ (s.size : Int) := by omega
      obtain ⟨⟨c0, c1, c2, c3, c4⟩, hf⟩ := LV.facts
      clear LV AV
      go_wp2_with fail
      go_region_held3 (fun w' => w'.cell? ⟨b, 0, none⟩ = some (.string s) ∧ w'.cell? ⟨b, 1, none⟩ = some (.int .i64 (q : Int)))
        (first | with_reducible exact CC.out _ S1.out | with_reducible exact C5.out _ _ _ _ _ _ S1.out | exact CC.out _ (Kp.refl [] v1).drew)
        (first | (go_at_call 41; refine (HM.out _ (Kp.refl [] v1).drew).mono ?_; rintro e v2 ⟨rfl, kk⟩; have S1 : Hid (Kp [] v1 v2) := (Kp.refl [] v1).drew.trans kk (fun x hx => by simp at hx); clear kk; have ZZ := AZ.out _ S1.out; obtain ⟨x0, x1, x2, x3, x4⟩ := ZZ.cells5; have xf := fun j => ZZ.free j; clear ZZ))
      have D := DZ.out _ S1.out
      clear x0 x1 x2 x3 x4 xf S1 CC C5 AZ DZ HM
      go_wp2
      obtain ⟨d0, d1, d2, d3, d4, kz, Lz⟩ := D.out
      unfold put5 at d0 d1 d2 d3 d4 kz Lz
      try simp only [Exit.inBlock, Exit.then]
      refine bodyPost_ret (v := .agg #[.int .i64 4, .string ⟨#[]⟩, .slice none 0 0, .bool false, .string (tT s md p q)]) (by simp [results, go_sem, d0, d1, d2, d3, d4]) rfl ⟨by rw [hen.out], kz, by rw [hen.out]; exact Lz⟩

end Go.Proofs.YtcfaejbbjmjgpaaGreatDoor
