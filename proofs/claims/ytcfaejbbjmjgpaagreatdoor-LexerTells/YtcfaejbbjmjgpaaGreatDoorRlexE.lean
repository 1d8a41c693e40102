/-
  The document's lexer: raw.
-/
import Derived.Test.YtcfaejbbjmjgpaaGreatDoorRlexX
namespace Go.Proofs.YtcfaejbbjmjgpaaGreatDoor
open Go.RowKit Utf
set_option linter.unusedVariables false

set_option maxHeartbeats 2000000 in
set_option maxRecDepth 100000 in
theorem rraw_any (w : World) (b : Nat) (s : ByteArray) (p : Nat) (md : Int) (fg : Bool) (last : ByteArray) (h : Ly w b s p md fg last) (hp : p < s.size) (hs : s.size ≤ 4000) (hm : md = 2 ∨ md = 3) (hl : nmOk last) (hz : last.size ≤ 4000) :
    Calls Tryz.prog 28 #[.pointer (some ⟨b, 0, none⟩)] w fun e w' => ∃ ao n c, e = .returned (tv (nextF s md fg last p).1.1 (nextF s md fg last p).1.2.1 ao n c (nextF s md fg last p).1.2.2.2.1 (nextF s md fg last p).1.2.2.2.2) ∧ Nyt w w' b ao n c (nextF s md fg last p).1.2.2.1 s (nextF s md fg last p).2.1 (nextF s md fg last p).2.2.1 fg (nextF s md fg last p).2.2.2 := by
  obtain ⟨g0, hg0⟩ : ∃ g0, w.heap.size = g0 := ⟨_, rfl⟩
  have hlt := h.lt
  have hbg : g0 ≠ b := by omega
  have hgw : Hid (w.heap.size ≤ g0) := by show _ ≤ _; omega
  have k0 : Kp [b] w (w.alloc (.cells ZT 44)) := (Kp.refl _ _).alloc _
  have A0 : At (w.alloc (.cells ZT 44)) g0 ZT 44 := by rw [← hg0]; exact At.new w ZT 44
  have L0 := h.kept ((Kp.refl [] w).alloc (.cells ZT 44)) (by simp)
  have HC := rends_any _ b s p md fg last L0 p (by omega) hs hl hz
  obtain ⟨⟨c0, c1, c2, c3, c4⟩, hf⟩ := L0.facts
  unfold tv
  clear h
  cases hc : clo s last p with
  | true =>
    rw [hc] at HC
    rw [nextF_clo hp hm hc]
    have hb : ¬ (begF s (p : Int)).1 = 0 := by rw [clo_beg hl hc]; show ¬ (3 : Int) = 0; decide
    obtain ⟨T, hT⟩ : ∃ T, tgF s last p = T := ⟨_, rfl⟩
    rw [hT]
    obtain ⟨⟨vk, vx, vl, vb, vy⟩, ve, vn⟩ := T
    simp only []
    go_enter Tryz.func28, Tryz.ntmps28
    go_wp2_with fail
    generalize w.alloc (.cells ZT 44) = W1 at k0 A0 L0 HC c0 c1 c2 c3 c4 hf ⊢
    refine HC.mono ?_
    rintro e v1 ⟨rfl, k1⟩
    have L1 := L0.kept k1 (by simp)
    have A1 := A0.kept k1 (by simp)
    have K1 := k0.trans k1 (fun z hz => by simp at hz)
    obtain ⟨⟨o0, o1, o2, o3, o4⟩, of'⟩ := L1.facts
    have L2 := L1.setMode 1
    have A2 := A1.other hbg.symm 2 (.int .i64 1)
    have K2 := K1.setCell (p := ⟨b, 2, none⟩) (Or.inl (by simp)) (.int .i64 1)
    have HX := rtag_any _ b s p 1 fg last L2 hp hs hb
    rw [hT] at HX
    unfold tv at HX
    simp only [] at HX
    clear HC hg0 c0 c1 c2 c3 c4 hf L1 A1 K1 L0 A0 k0 k1 hb
    go_wp2_with fail
    clear o0 o1 o2 o3 o4 of'
    generalize v1.setCell ⟨b, 2, none⟩ (.int .i64 1) = W2 at L2 A2 K2 HX ⊢
    refine HX.mono ?_
    rintro e v3 ⟨ao, n, c, rfl, N1⟩
    have zg := A2.lt
    have N2 := N1.back K2
    have AU := A2.kept N1.kp (by simpa using hbg)
    have D : Hid _ := nyt_fin N2 AU hgw.out hbg (fun z hz => by have := N1.nw z hz; omega) (.int .i64 vk) (.string vx) (.slice ao n c) (.bool vb) (.string vy)
    obtain ⟨y0, y1, y2, y3, y4⟩ := AU.cells5
    have yf := fun j => AU.free j
    clear HX N1 N2 AU L2 A2 K2
    go_wp2
    obtain ⟨d0, d1, d2, d3, d4, N⟩ := D.out
    unfold put5 at d0 d1 d2 d3 d4 N
    refine bodyPost_ret (v := .agg #[.int .i64 vk, .string vx, .slice ao n c, .bool vb, .string vy]) (by simp [results, go_sem, d0, d1, d2, d3, d4]) rfl ⟨ao, n, c, rfl, N⟩
  | false =>
    rw [hc] at HC
    rw [nextF_text hp (by omega) (by rw [hc]; simp)]
    unfold txT
    simp only []
    have he := tE_is s md last hp
    obtain ⟨en, hen⟩ : ∃ en, tE s md last p = en := ⟨_, rfl⟩
    rw [hen] at he ⊢
    have hE : Hid (∀ j, p ≤ j → j < s.size → j ≤ en → clo s last j = decide (j = en)) := fun j g1 g2 g3 => by
      have e0 : enF s md last j = clo s last j := by unfold enF; rw [if_neg (by omega), if_pos hm]
      by_cases gp : j = p
      · rw [gp, hc, decide_eq_false (by have := he.lo; omega)]
      by_cases g : j = en
      · rw [decide_eq_true g, g, ← (show enF s md last en = clo s last en by unfold enF; rw [if_neg (by omega), if_pos hm])]
        exact he.at' (by omega)
      · rw [decide_eq_false g, ← e0]
        exact he.no j (by omega) (by omega)
    have he1 := he.lo
    have he2 := he.hi
    obtain ⟨X, hX⟩ : ∃ X, tT s md p en = X := ⟨_, rfl⟩
    rw [hX]
    have hX3 : Hid (tT s md p en = X) := hX
    clear hX
    have hX := hX3
    clear hX3
    go_enter Tryz.func28, Tryz.ntmps28
    go_wp2_with fail
    generalize w.alloc (.cells ZT 44) = W1 at k0 A0 L0 HC c0 c1 c2 c3 c4 hf ⊢
    refine HC.mono ?_
    rintro e v1 ⟨rfl, k1⟩
    have L1 := L0.kept k1 (by simp)
    have A1 := A0.kept k1 (by simp)
    have K1 := k0.trans k1 (fun z hz => by simp at hz)
    clear HC c0 c1 c2 c3 c4 hf L0 A0 k0 k1 hc he hen
    obtain ⟨⟨c0, c1, c2, c3, c4⟩, hf⟩ := L1.facts
    go_wp2_with fail
    try clear hg0
    go_loopw [3] (fun i wr => ∃ q : Nat, p ≤ q ∧ q ≤ en ∧ i = .int .i64 (q : Int) ∧ Kp [] v1 wr) (fun i _ => s.size - (intOf i).toNat)
    case atStart => exact ⟨p, Nat.le_refl _, by omega, rfl, Kp.refl _ _⟩
    case round =>
      obtain ⟨q, q1, q2, rfl, kr⟩ := hrel
      clear c0 c1 c2 c3 c4 hf
      have Lr := L1.kept kr (by simp)
      obtain ⟨⟨c0, c1, c2, c3, c4⟩, hf⟩ := Lr.facts
      by_cases hlt2 : q < s.size
      · have hB := hE.out q q1 hlt2 q2
        have HD := rends_any wr b s p md fg last Lr q (by omega) hs hl hz
        rw [hB] at HD
        have b1 : decide ((q : Int) < (s.size : Int)) = true := decide_eq_true (by omega)
        clear hB
        by_cases hqe : q = en
        · rw [decide_eq_true hqe] at HD
          subst hqe
          go_wp2_with fail
          refine HD.mono ?_
          rintro e v2 ⟨rfl, k2⟩
          clear HD c0 c1 c2 c3 c4 hf Lr
          have kV := kr.trans k2 (fun z hz => by simp at hz)
          clear k2 kr
          have LV := L1.kept kV (by simp)
          have AV := A1.kept kV (by simp)
          have KV := K1.trans kV (fun z hz => by simp at hz)
          have CC : Hid (∀ W, Kp [] v2 W → W.cell? ⟨b, 0, none⟩ = some (.string s) ∧ W.cell? ⟨b, 1, none⟩ = some (.int .i64 (p : Int))) := fun W kW => by
            obtain ⟨⟨d0, d1, _, _, _⟩, _⟩ := (LV.kept kW (by simp)).facts
            exact ⟨d0, d1⟩
          have K3 : Hid (∀ o, Kp [] v2 (v2.alloc o).drew) := fun o => ((Kp.refl [] v2).alloc o).drew
          have K4 : Hid (∀ o, Kp [] v2 (v2.drew.alloc o)) := fun o => (Kp.refl [] v2).drew.alloc o
          have i1 : (0 : Int) ≤ (p : Int) := by omega
          have i2 : (p : Int) ≤ (q : Int) := by omega
          have i3 : (q : Int) ≤ (s.size : Int) := by omega
          try clear c0 c1 c2 c3 c4 hf
          obtain ⟨⟨c0, c1, c2, c3, c4⟩, hf⟩ := LV.facts
          go_wp2_with fail
          go_region_held3 (fun w' => w'.cell? ⟨b, 0, none⟩ = some (.string s) ∧ w'.cell? ⟨b, 1, none⟩ = some (.int .i64 (p : Int)))
            (first | with_reducible exact CC.out _ (Kp.refl [] v2).drew | with_reducible exact CC.out _ (K3.out _) | with_reducible exact CC.out _ (K4.out _) | exact CC.out _ ((Kp.refl [] v2).drew.alloc _))
            (fail)
          clear CC K3 K4
          have kA : Kp [] v2 (v2.alloc (.cells #[.int .i64 4, .string ⟨#[]⟩, .slice none 0 0, .bool false, .string (s.extract p q)] 44)).drew := ((Kp.refl [] v2).alloc _).drew
          have TU : At (v2.alloc (.cells #[.int .i64 4, .string ⟨#[]⟩, .slice none 0 0, .bool false, .string (s.extract p q)] 44)).drew v2.heap.size #[.int .i64 4, .string ⟨#[]⟩, .slice none 0 0, .bool false, .string (s.extract p q)] 44 := (At.new _ _ _).kept (Kp.refl [] _).drew (by simp)
          have LU := LV.kept kA (by simp)
          have AU := AV.kept kA (by simp)
          have kU := KV.trans kA (fun z hz => by simp at hz)
          have zg := AV.lt
          have zb := LV.lt
          have zw := KV.size
          have hyz : (s.extract p q).size ≤ 20000 := by have := cut_le s p q; omega
          clear LV AV KV kV kA c0 c1 c2 c3 c4 hf
          generalize (v2.alloc (.cells #[.int .i64 4, .string ⟨#[]⟩, .slice none 0 0, .bool false, .string (s.extract p q)] 44)).drew = U at TU LU AU kU ⊢
          generalize v2.heap.size = gt at TU zg zb zw ⊢
          have hgg : gt ≠ g0 := by omega
          have hbt : gt ≠ b := by omega
          have hgv : Hid (w.heap.size ≤ gt) := zw
          obtain ⟨⟨c0, c1, c2, c3, c4⟩, hf⟩ := LU.facts
          obtain ⟨t0, t1, t2, t3, t4⟩ := TU.cells5
          have tf := fun j => TU.free j
          rcases hm with rfl | rfl
          · have hX2 : Hid (allF (s.extract p q) false 0 = X) := by
              have := hX.out
              unfold tT at this
              rw [if_pos (Or.inr rfl)] at this
              exact this
            have HA := ref_alls_any U (s.extract p q) false hyz
            rw [hX2.out] at HA
            generalize s.extract p q = y at HA TU t4
            go_wp2_with fail
            refine HA.mono ?_
            rintro e v3 ⟨rfl, k3⟩
            clear HA c0 c1 c2 c3 c4 hf t0 t1 t2 t3 t4 tf
            have TX := TU.kept k3 (by simp)
            have LX := LU.kept k3 (by simp)
            have AX := AU.kept k3 (by simp)
            have kX := kU.trans k3 (fun z hz => by simp at hz)
            clear TU LU AU kU k3
            obtain ⟨t0, t1, t2, t3, t4⟩ := TX.cells5
            have tf := fun j => TX.free j
            have TY := TX.set 4 (.string X)
            have LY : Ly (v3.setCell ⟨gt, 4, none⟩ (.string X)) b s p 2 fg last := At.other LX hbt 4 _
            have AY := AX.other hgg 4 (.string X)
            have kY := kX.setCell (p := ⟨gt, 4, none⟩) (Or.inr hgv.out) (.string X)
            obtain ⟨⟨c0, c1, c2, c3, c4⟩, hf⟩ := LY.facts
            have TZ : At ((v3.setCell ⟨gt, 4, none⟩ (.string X)).setCell ⟨b, 1, none⟩ (.int .i64 (q : Int))) gt #[.int .i64 4, .string ⟨#[]⟩, .slice none 0 0, .bool false, .string X] 44 := TY.other hbt.symm 1 (.int .i64 (q : Int))
            have LZ := LY.setAt q
            have AZ := AY.other hbg.symm 1 (.int .i64 (q : Int))
            have kZ := kY.setCell (p := ⟨b, 1, none⟩) (Or.inl (by simp)) (.int .i64 (q : Int))
            have D : Hid _ := nyt_fin (nyt_none kZ LZ) AZ hgw.out hbg (fun z hz => by simp [blk] at hz) (.int .i64 4) (.string ⟨#[]⟩) (.slice none 0 0) (.bool false) (.string X)
            obtain ⟨y0, y1, y2, y3, y4⟩ := AZ.cells5
            have yf := fun j => AZ.free j
            obtain ⟨z0, z1, z2, z3, z4⟩ := TZ.cells5
            clear TX LX AX kX TY LY AY kY TZ LZ AZ kZ
            go_wp2
            obtain ⟨d0, d1, d2, d3, d4, N⟩ := D.out
            unfold put5 at d0 d1 d2 d3 d4 N
            try simp only [Exit.inBlock, Exit.then]
            refine bodyPost_ret (v := .agg #[.int .i64 4, .string ⟨#[]⟩, .slice none 0 0, .bool false, .string X]) (by simp [results, go_sem, d0, d1, d2, d3, d4]) rfl ⟨none, 0, 0, rfl, N⟩
          · have hX2 : s.extract p q = X := by
              have := hX.out
              unfold tT at this
              rw [if_neg (by decide)] at this
              exact this
            rw [hX2] at TU t4 ⊢
            have TZ := TU.other hbt.symm 1 (.int .i64 (q : Int))
            have LZ := LU.setAt q
            have AZ := AU.other hbg.symm 1 (.int .i64 (q : Int))
            have kZ := kU.setCell (p := ⟨b, 1, none⟩) (Or.inl (by simp)) (.int .i64 (q : Int))
            have D : Hid _ := nyt_fin (nyt_none kZ LZ) AZ hgw.out hbg (fun z hz => by simp [blk] at hz) (.int .i64 4) (.string ⟨#[]⟩) (.slice none 0 0) (.bool false) (.string X)
            obtain ⟨y0, y1, y2, y3, y4⟩ := AZ.cells5
            have yf := fun j => AZ.free j
            obtain ⟨z0, z1, z2, z3, z4⟩ := TZ.cells5
            clear TU LU AU kU TZ LZ AZ kZ hX2 hX
            go_wp2
            obtain ⟨d0, d1, d2, d3, d4, N⟩ := D.out
            unfold put5 at d0 d1 d2 d3 d4 N
            try simp only [Exit.inBlock, Exit.then]
            refine bodyPost_ret (v := .agg #[.int .i64 4, .string ⟨#[]⟩, .slice none 0 0, .bool false, .string X]) (by simp [results, go_sem, d0, d1, d2, d3, d4]) rfl ⟨none, 0, 0, rfl, N⟩
        · rw [decide_eq_false hqe] at HD
          go_wp2_with fail
          refine HD.mono ?_
          rintro e v2 ⟨rfl, k2⟩
          clear HD
          have kV := kr.trans k2 (fun z hz => by simp at hz)
          clear c0 c1 c2 c3 c4 hf Lr
          go_wp2
          go_roundw
          case rel => exact ⟨q + 1, by omega, by omega, by go_num, kV⟩
          case measure => simp [intOf]; omega
      · have b1 : decide ((q : Int) < (s.size : Int)) = false := decide_eq_false (by omega)
        have hqe : q = en := by omega
        subst hqe
        have kV := kr
        clear kr
        have LV := L1.kept kV (by simp)
        have AV := A1.kept kV (by simp)
        have KV := K1.trans kV (fun z hz => by simp at hz)
        have CC : Hid (∀ W, Kp [] wr W → W.cell? ⟨b, 0, none⟩ = some (.string s) ∧ W.cell? ⟨b, 1, none⟩ = some (.int .i64 (p : Int))) := fun W kW => by
          obtain ⟨⟨d0, d1, _, _, _⟩, _⟩ := (LV.kept kW (by simp)).facts
          exact ⟨d0, d1⟩
        have K3 : Hid (∀ o, Kp [] wr (wr.alloc o).drew) := fun o => ((Kp.refl [] wr).alloc o).drew
        have K4 : Hid (∀ o, Kp [] wr (wr.drew.alloc o)) := fun o => (Kp.refl [] wr).drew.alloc o
        have i1 : (0 : Int) ≤ (p : Int) := by omega
        have i2 : (p : Int) ≤ (q : Int) := by omega
        have i3 : (q : Int) ≤ (s.size : Int) := by omega
        try clear c0 c1 c2 c3 c4 hf
        obtain ⟨⟨c0, c1, c2, c3, c4⟩, hf⟩ := LV.facts
        go_wp2_with fail
        go_region_held3 (fun w' => w'.cell? ⟨b, 0, none⟩ = some (.string s) ∧ w'.cell? ⟨b, 1, none⟩ = some (.int .i64 (p : Int)))
          (first | with_reducible exact CC.out _ (Kp.refl [] wr).drew | with_reducible exact CC.out _ (K3.out _) | with_reducible exact CC.out _ (K4.out _) | exact CC.out _ ((Kp.refl [] wr).drew.alloc _))
          (fail)
        clear CC K3 K4
        have kA : Kp [] wr (wr.alloc (.cells #[.int .i64 4, .string ⟨#[]⟩, .slice none 0 0, .bool false, .string (s.extract p q)] 44)).drew := ((Kp.refl [] wr).alloc _).drew
        have TU : At (wr.alloc (.cells #[.int .i64 4, .string ⟨#[]⟩, .slice none 0 0, .bool false, .string (s.extract p q)] 44)).drew wr.heap.size #[.int .i64 4, .string ⟨#[]⟩, .slice none 0 0, .bool false, .string (s.extract p q)] 44 := (At.new _ _ _).kept (Kp.refl [] _).drew (by simp)
        have LU := LV.kept kA (by simp)
        have AU := AV.kept kA (by simp)
        have kU := KV.trans kA (fun z hz => by simp at hz)
        have zg := AV.lt
        have zb := LV.lt
        have zw := KV.size
        have hyz : (s.extract p q).size ≤ 20000 := by have := cut_le s p q; omega
        clear LV AV KV kV kA c0 c1 c2 c3 c4 hf
        generalize (wr.alloc (.cells #[.int .i64 4, .string ⟨#[]⟩, .slice none 0 0, .bool false, .string (s.extract p q)] 44)).drew = U at TU LU AU kU ⊢
        generalize wr.heap.size = gt at TU zg zb zw ⊢
        have hgg : gt ≠ g0 := by omega
        have hbt : gt ≠ b := by omega
        have hgv : Hid (w.heap.size ≤ gt) := zw
        obtain ⟨⟨c0, c1, c2, c3, c4⟩, hf⟩ := LU.facts
        obtain ⟨t0, t1, t2, t3, t4⟩ := TU.cells5
        have tf := fun j => TU.free j
        rcases hm with rfl | rfl
        · have hX2 : Hid (allF (s.extract p q) false 0 = X) := by
            have := hX.out
            unfold tT at this
            rw [if_pos (Or.inr rfl)] at this
            exact this
          have HA := ref_alls_any U (s.extract p q) false hyz
          rw [hX2.out] at HA
          generalize s.extract p q = y at HA TU t4
          go_wp2_with fail
          refine HA.mono ?_
          rintro e v3 ⟨rfl, k3⟩
          clear HA c0 c1 c2 c3 c4 hf t0 t1 t2 t3 t4 tf
          have TX := TU.kept k3 (by simp)
          have LX := LU.kept k3 (by simp)
          have AX := AU.kept k3 (by simp)
          have kX := kU.trans k3 (fun z hz => by simp at hz)
          clear TU LU AU kU k3
          obtain ⟨t0, t1, t2, t3, t4⟩ := TX.cells5
          have tf := fun j => TX.free j
          have TY := TX.set 4 (.string X)
          have LY : Ly (v3.setCell ⟨gt, 4, none⟩ (.string X)) b s p 2 fg last := At.other LX hbt 4 _
          have AY := AX.other hgg 4 (.string X)
          have kY := kX.setCell (p := ⟨gt, 4, none⟩) (Or.inr hgv.out) (.string X)
          obtain ⟨⟨c0, c1, c2, c3, c4⟩, hf⟩ := LY.facts
          have TZ : At ((v3.setCell ⟨gt, 4, none⟩ (.string X)).setCell ⟨b, 1, none⟩ (.int .i64 (q : Int))) gt #[.int .i64 4, .string ⟨#[]⟩, .slice none 0 0, .bool false, .string X] 44 := TY.other hbt.symm 1 (.int .i64 (q : Int))
          have LZ := LY.setAt q
          have AZ := AY.other hbg.symm 1 (.int .i64 (q : Int))
          have kZ := kY.setCell (p := ⟨b, 1, none⟩) (Or.inl (by simp)) (.int .i64 (q : Int))
          have D : Hid _ := nyt_fin (nyt_none kZ LZ) AZ hgw.out hbg (fun z hz => by simp [blk] at hz) (.int .i64 4) (.string ⟨#[]⟩) (.slice none 0 0) (.bool false) (.string X)
          obtain ⟨y0, y1, y2, y3, y4⟩ := AZ.cells5
          have yf := fun j => AZ.free j
          obtain ⟨z0, z1, z2, z3, z4⟩ := TZ.cells5
          clear TX LX AX kX TY LY AY kY TZ LZ AZ kZ
          go_wp2
          obtain ⟨d0, d1, d2, d3, d4, N⟩ := D.out
          unfold put5 at d0 d1 d2 d3 d4 N
          try simp only [Exit.inBlock, Exit.then]
          refine bodyPost_ret (v := .agg #[.int .i64 4, .string ⟨#[]⟩, .slice none 0 0, .bool false, .string X]) (by simp [results, go_sem, d0, d1, d2, d3, d4]) rfl ⟨none, 0, 0, rfl, N⟩
        · have hX2 : s.extract p q = X := by
            have := hX.out
            unfold tT at this
            rw [if_neg (by decide)] at this
            exact this
          rw [hX2] at TU t4 ⊢
          have TZ := TU.other hbt.symm 1 (.int .i64 (q : Int))
          have LZ := LU.setAt q
          have AZ := AU.other hbg.symm 1 (.int .i64 (q : Int))
          have kZ := kU.setCell (p := ⟨b, 1, none⟩) (Or.inl (by simp)) (.int .i64 (q : Int))
          have D : Hid _ := nyt_fin (nyt_none kZ LZ) AZ hgw.out hbg (fun z hz => by simp [blk] at hz) (.int .i64 4) (.string ⟨#[]⟩) (.slice none 0 0) (.bool false) (.string X)
          obtain ⟨y0, y1, y2, y3, y4⟩ := AZ.cells5
          have yf := fun j => AZ.free j
          obtain ⟨z0, z1, z2, z3, z4⟩ := TZ.cells5
          clear TU LU AU kU TZ LZ AZ kZ hX2 hX
          go_wp2
          obtain ⟨d0, d1, d2, d3, d4, N⟩ := D.out
          unfold put5 at d0 d1 d2 d3 d4 N
          try simp only [Exit.inBlock, Exit.then]
          refine bodyPost_ret (v := .agg #[.int .i64 4, .string ⟨#[]⟩, .slice none 0 0, .bool false, .string X]) (by simp [results, go_sem, d0, d1, d2, d3, d4]) rfl ⟨none, 0, 0, rfl, N⟩

end Go.Proofs.YtcfaejbbjmjgpaaGreatDoor
