/-
  raw and Next of the program.
-/
import Derived.Test.YtcfaejbbjmjgpaaGreatDoorLexF
import Derived.Test.YtcfaejbbjmjgpaaGreatDoorPlains
namespace Go.Proofs.YtcfaejbbjmjgpaaGreatDoor
open Go.RowKit Utf
set_option linter.unusedVariables false

set_option maxHeartbeats 1000000 in
set_option maxRecDepth 100000 in
theorem lraw_any (w0 w : World) (b : Nat) (E : Ev w0 w b) (s : ByteArray) (p : Nat) (md : Int) (fg : Bool) (last : ByteArray) (h : Lx w b s p md fg last) (hp : p < s.size) (hs : s.size ≤ 4000) (hm : md = 2 ∨ md = 3) (hl : nmOk last) :
    Calls Tryz.prog 26 #[.pointer (some ⟨b, 0, none⟩)] w fun e w' => ∃ ao n c, e = .returned (tv (nextF s md fg last p).1.1 (nextF s md fg last p).1.2.1 ao n c (nextF s md fg last p).1.2.2.2.1 (nextF s md fg last p).1.2.2.2.2) ∧ Nxt w w' b ao n c (nextF s md fg last p).1.2.2.1 s (nextF s md fg last p).2.1 (nextF s md fg last p).2.2.1 fg (nextF s md fg last p).2.2.2 := by
  obtain ⟨g0, hg0⟩ : ∃ g0, w.heap.size = g0 := ⟨_, rfl⟩
  have hlt := h.lt
  have hbg : g0 ≠ b := by omega
  have hgw : Hid (w.heap.size ≤ g0) := by show _ ≤ _; omega
  have k0 : Kp [b] w (w.alloc (.cells ZT 44)) := (Kp.refl _ _).alloc _
  have A0 : At (w.alloc (.cells ZT 44)) g0 ZT 44 := by rw [← hg0]; exact At.new w ZT 44
  have L0 := h.kept ((Kp.refl [] w).alloc (.cells ZT 44)) (by simp)
  have HC := closes_any _ b s p md fg last L0 p (by omega) (by omega)
  obtain ⟨⟨c0, c1, c2, c3, c4⟩, hf⟩ := L0.facts
  unfold tv
  clear h
  cases hc : clo s last p with
  | false =>
    rw [hc] at HC
    rw [nextF_text hp (by omega) (by rw [hc]; simp)]
    unfold txT
    simp only []
    go_enter Tryz.func26, Tryz.ntmps26
    go_wp2_with fail
    generalize w.alloc (.cells ZT 44) = W1 at k0 A0 L0 HC c0 c1 c2 c3 c4 hf ⊢
    refine HC.mono ?_
    rintro e v1 ⟨rfl, k1⟩
    have L1 := L0.kept k1 (by simp)
    have A1 := A0.kept k1 (by simp)
    have K1 := k0.trans k1 (fun z hz => by simp at hz)
    have HX := text_any w0 _ b (E.step K1) s p md fg last L1 hp hs (by omega)
    unfold tv at HX
    clear HC hg0 c0 c1 c2 c3 c4 hf
    go_wp2_with fail
    refine HX.mono ?_
    rintro e v3 ⟨rfl, k3, L3⟩
    have A3 := A1.kept k3 (by simpa using hbg)
    have D : Hid _ := nxt_fin (Nxt.none (K1.trans k3 (fun z hz => Or.inl hz)) L3) A3 hgw.out hbg (fun z hz => by simp [blk] at hz) (.int .i64 4) (.string ⟨#[]⟩) (.slice none 0 0) (.bool false) (.string (tT s md p (tE s md last p)))
    obtain ⟨y0, y1, y2, y3, y4⟩ := A3.cells5
    have yf := fun j => A3.free j
    clear HX A3 k3 L3 L1 A1 K1 L0 A0 k0
    go_wp2
    obtain ⟨d0, d1, d2, d3, d4, N⟩ := D.out
    unfold put5 at d0 d1 d2 d3 d4 N
    refine bodyPost_ret (v := .agg #[.int .i64 4, .string ⟨#[]⟩, .slice none 0 0, .bool false, .string (tT s md p (tE s md last p))]) (by simp [results, go_sem, d0, d1, d2, d3, d4]) rfl ⟨none, 0, 0, rfl, N⟩
  | true =>
    rw [hc] at HC
    rw [nextF_clo hp hm hc]
    have hb : ¬ (begF s (p : Int)).1 = 0 := by rw [clo_beg hl hc]; show ¬ (3 : Int) = 0; decide
    have hy := ltF_yes (last := last) hb
    generalize tgF s last p = T at hy ⊢
    obtain ⟨⟨vk, vx, vl, vb, vy⟩, ve, vn⟩ := T
    simp only [] at hy ⊢
    go_enter Tryz.func26, Tryz.ntmps26
    go_wp2_with fail
    generalize w.alloc (.cells ZT 44) = W1 at k0 A0 L0 HC c0 c1 c2 c3 c4 hf ⊢
    refine HC.mono ?_
    rintro e v1 ⟨rfl, k1⟩
    have L1 := L0.kept k1 (by simp)
    have A1 := A0.kept k1 (by simp)
    have K1 := k0.trans k1 (fun z hz => by simp at hz)
    obtain ⟨⟨o0, o1, o2, o3, o4⟩, of'⟩ := L1.facts
    have L2 := L1.setMode 1
    have A2 := A1.other hbg.symm 2 (.int .i64 1)
    have K2 := K1.setCell (p := ⟨b, 2, none⟩) (Or.inl (by simp)) (.int .i64 1)
    have HX := ltag_any w0 _ b (E.step K2) s p 1 fg last L2 hp hs
    rw [hy] at HX
    unfold tv at HX
    simp only [] at HX
    clear HC hg0 c0 c1 c2 c3 c4 hf L1 A1 K1 L0 A0 k0 k1 hb
    go_wp2_with fail
    clear o0 o1 o2 o3 o4 of'
    generalize v1.setCell ⟨b, 2, none⟩ (.int .i64 1) = W2 at L2 A2 K2 HX ⊢
    refine HX.mono ?_
    rintro e v3 ⟨ao, n, c, rfl, N1⟩
    have zg := A2.lt
    have N2 := (N1.keep ((Kp.refl [] v3).alloc (.cells #[.int .i64 vk, .string vx, .slice ao n c, .bool vb, .string vy] 44))).back K2
    have AU := (A2.kept N1.kp (by simpa using hbg)).kept ((Kp.refl [] v3).alloc (.cells #[.int .i64 vk, .string vx, .slice ao n c, .bool vb, .string vy] 44)) (by simp)
    have D : Hid _ := nxt_fin N2 AU hgw.out hbg (fun z hz => by have := N1.nw z hz; omega) (.int .i64 vk) (.string vx) (.slice ao n c) (.bool vb) (.string vy)
    obtain ⟨y0, y1, y2, y3, y4⟩ := AU.cells5
    have yf := fun j => AU.free j
    obtain ⟨x0, x1, x2, x3, x4⟩ := (At.new v3 #[.int .i64 vk, .string vx, .slice ao n c, .bool vb, .string vy] 44).cells5
    clear HX N1 N2 AU L2 A2 K2
    go_wp2
    obtain ⟨d0, d1, d2, d3, d4, N⟩ := D.out
    unfold put5 at d0 d1 d2 d3 d4 N
    refine bodyPost_ret (v := .agg #[.int .i64 vk, .string vx, .slice ao n c, .bool vb, .string vy]) (by simp [results, go_sem, d0, d1, d2, d3, d4]) rfl ⟨ao, n, c, rfl, N⟩

set_option maxHeartbeats 1000000 in
set_option maxRecDepth 100000 in
theorem next_any (w0 w : World) (b : Nat) (E : Ev w0 w b) (s : ByteArray) (p : Nat) (md : Int) (fg : Bool) (last : ByteArray) (h : Lx w b s p md fg last) (hp : p ≤ s.size) (hs : s.size ≤ 4000) (hm : mdOk md) (hl : nmOk last) :
    Calls Tryz.prog 16 #[.pointer (some ⟨b, 0, none⟩)] w fun e w' => ∃ ao n c, e = .returned (tv (nextF s md fg last p).1.1 (nextF s md fg last p).1.2.1 ao n c (nextF s md fg last p).1.2.2.2.1 (nextF s md fg last p).1.2.2.2.2) ∧ Nxt w w' b ao n c (nextF s md fg last p).1.2.2.1 s (nextF s md fg last p).2.1 (nextF s md fg last p).2.2.1 fg (nextF s md fg last p).2.2.2 := by
  obtain ⟨g0, hg0⟩ : ∃ g0, w.heap.size = g0 := ⟨_, rfl⟩
  have hlt := h.lt
  have hbg : g0 ≠ b := by omega
  have hgw : Hid (w.heap.size ≤ g0) := by show _ ≤ _; omega
  have k0 : Kp [b] w (w.alloc (.cells ZT 44)) := (Kp.refl _ _).alloc _
  have A0 : At (w.alloc (.cells ZT 44)) g0 ZT 44 := by rw [← hg0]; exact At.new w ZT 44
  have L0 := h.kept ((Kp.refl [] w).alloc (.cells ZT 44)) (by simp)
  obtain ⟨⟨c0, c1, c2, c3, c4⟩, hf⟩ := L0.facts
  clear h
  by_cases he : p = s.size
  · subst he
    rw [nextF_end (Nat.le_refl _)]
    unfold eofT tv
    simp only []
    have b1 : ((s.size : Int) == (s.size : Int)) = true := by simp
    go_enter Tryz.func16, Tryz.ntmps16
    go_wp2_with fail
    generalize w.alloc (.cells ZT 44) = W1 at k0 A0 L0 c0 c1 c2 c3 c4 hf ⊢
    go_quiet (fail)
    have kV := k0.drewN nq
    have LV : Lx (W1.drewN nq) b s s.size md fg last := L0.kept ((Kp.refl [] W1).drewN nq) (by simp)
    have AV : At (W1.drewN nq) g0 ZT 44 := A0.kept ((Kp.refl [] W1).drewN nq) (by simp)
    generalize W1.drewN nq = V at kV LV AV ⊢
    have D : Hid _ := nxt_fin (Nxt.none kV LV) AV hgw.out hbg (fun z hz => by simp [blk] at hz) (.int .i64 6) (.string ⟨#[]⟩) (.slice none 0 0) (.bool false) (.string ⟨#[]⟩)
    obtain ⟨y0, y1, y2, y3, y4⟩ := AV.cells5
    have yf := fun j => AV.free j
    clear LV AV kV L0 A0 k0 c0 c1 c2 c3 c4 hf hg0
    go_wp2
    obtain ⟨d0, d1, d2, d3, d4, N⟩ := D.out
    unfold put5 at d0 d1 d2 d3 d4 N
    refine bodyPost_ret (v := .agg #[.int .i64 6, .string ⟨#[]⟩, .slice none 0 0, .bool false, .string ⟨#[]⟩]) (by simp [results, go_sem, d0, d1, d2, d3, d4]) rfl ⟨none, 0, 0, rfl, N⟩
  · have b1 : ((p : Int) == (s.size : Int)) = false := by simp only [beq_eq_false_iff_ne, ne_eq]; omega
    have hp2 : p < s.size := by omega
    obtain ⟨T, hT⟩ : ∃ T, nextF s md fg last p = T := ⟨_, rfl⟩
    have HX : Hid (∀ W, Kp [b] w W → Lx W b s p md fg last → (md = 1 → Calls Tryz.prog 25 #[.pointer (some ⟨b, 0, none⟩)] W fun e w' => ∃ ao n c, e = .returned (tv T.1.1 T.1.2.1 ao n c T.1.2.2.2.1 T.1.2.2.2.2) ∧ Nxt W w' b ao n c T.1.2.2.1 s T.2.1 T.2.2.1 fg T.2.2.2) ∧ (md = 2 ∨ md = 3 → Calls Tryz.prog 26 #[.pointer (some ⟨b, 0, none⟩)] W fun e w' => ∃ ao n c, e = .returned (tv T.1.1 T.1.2.1 ao n c T.1.2.2.2.1 T.1.2.2.2.2) ∧ Nxt W w' b ao n c T.1.2.2.1 s T.2.1 T.2.2.1 fg T.2.2.2) ∧ (md = 4 → Calls Tryz.prog 27 #[.pointer (some ⟨b, 0, none⟩)] W fun e w' => ∃ ao n c, e = .returned (tv T.1.1 T.1.2.1 ao n c T.1.2.2.2.1 T.1.2.2.2.2) ∧ Nxt W w' b ao n c T.1.2.2.1 s T.2.1 T.2.2.1 fg T.2.2.2)) := fun W kW LW => by
      refine ⟨fun h1 => ?_, fun h2 => ?_, fun h4 => ?_⟩
      · subst h1
        rw [← hT, nextF_data hp2]
        exact data_any w0 W b (E.step kW) s p fg last LW hp hs
      · rw [← hT]
        exact lraw_any w0 W b (E.step kW) s p md fg last LW hp2 hs h2 hl
      · subst h4
        rw [← hT, nextF_text hp2 (by decide) (by simp)]
        refine (text_any w0 W b (E.step kW) s p 4 fg last LW hp2 hs hm).mono ?_
        rintro e w' ⟨rfl, k, L⟩
        exact ⟨none, 0, 0, rfl, Nxt.none k L⟩
    rw [hT]
    obtain ⟨⟨vk, vx, vl, vb, vy⟩, ve, vm, vn⟩ := T
    unfold tv at HX ⊢
    simp only [] at HX ⊢
    go_enter Tryz.func16, Tryz.ntmps16
    go_wp2_with fail
    generalize w.alloc (.cells ZT 44) = W1 at k0 A0 L0 c0 c1 c2 c3 c4 hf ⊢
    go_quiet (fail)
    have kV := k0.drewN nq
    have LV : Lx (W1.drewN nq) b s p md fg last := L0.kept ((Kp.refl [] W1).drewN nq) (by simp)
    have AV : At (W1.drewN nq) g0 ZT 44 := A0.kept ((Kp.refl [] W1).drewN nq) (by simp)
    generalize W1.drewN nq = V at kV LV AV ⊢
    obtain ⟨H1, H2, H3⟩ := HX.out V kV LV
    clear L0 A0 k0 c0 c1 c2 c3 c4 hf hg0 HX hT
    obtain ⟨⟨o0, o1, o2, o3, o4⟩, of'⟩ := LV.facts
    have zg := AV.lt
    rcases (show md = 1 ∨ md = 2 ∨ md = 3 ∨ md = 4 by omega) with rfl | rfl | rfl | rfl
    · have HX := H1 rfl
      clear H1 H2 H3
      go_wp2_with fail
      refine HX.mono ?_
      rintro e v3 ⟨ao, n, c, rfl, N1⟩
      have N2 := N1.back kV
      have AU := AV.kept N1.kp (by simpa using hbg)
      have D : Hid _ := nxt_fin N2 AU hgw.out hbg (fun z hz => by have := N1.nw z hz; omega) (.int .i64 vk) (.string vx) (.slice ao n c) (.bool vb) (.string vy)
      obtain ⟨y0, y1, y2, y3, y4⟩ := AU.cells5
      have yf := fun j => AU.free j
      clear HX N1 N2 AU LV AV kV o0 o1 o2 o3 o4 of'
      go_wp2
      obtain ⟨d0, d1, d2, d3, d4, N⟩ := D.out
      unfold put5 at d0 d1 d2 d3 d4 N
      refine bodyPost_ret (v := .agg #[.int .i64 vk, .string vx, .slice ao n c, .bool vb, .string vy]) (by simp [results, go_sem, d0, d1, d2, d3, d4]) rfl ⟨ao, n, c, rfl, N⟩
    · have HX := H2 (Or.inl rfl)
      clear H1 H2 H3
      go_wp2_with fail
      refine HX.mono ?_
      rintro e v3 ⟨ao, n, c, rfl, N1⟩
      have N2 := N1.back kV
      have AU := AV.kept N1.kp (by simpa using hbg)
      have D : Hid _ := nxt_fin N2 AU hgw.out hbg (fun z hz => by have := N1.nw z hz; omega) (.int .i64 vk) (.string vx) (.slice ao n c) (.bool vb) (.string vy)
      obtain ⟨y0, y1, y2, y3, y4⟩ := AU.cells5
      have yf := fun j => AU.free j
      clear HX N1 N2 AU LV AV kV o0 o1 o2 o3 o4 of'
      go_wp2
      obtain ⟨d0, d1, d2, d3, d4, N⟩ := D.out
      unfold put5 at d0 d1 d2 d3 d4 N
      refine bodyPost_ret (v := .agg #[.int .i64 vk, .string vx, .slice ao n c, .bool vb, .string vy]) (by simp [results, go_sem, d0, d1, d2, d3, d4]) rfl ⟨ao, n, c, rfl, N⟩
    · have HX := H2 (Or.inr rfl)
      clear H1 H2 H3
      go_wp2_with fail
      refine HX.mono ?_
      rintro e v3 ⟨ao, n, c, rfl, N1⟩
      have N2 := N1.back kV
      have AU := AV.kept N1.kp (by simpa using hbg)
      have D : Hid _ := nxt_fin N2 AU hgw.out hbg (fun z hz => by have := N1.nw z hz; omega) (.int .i64 vk) (.string vx) (.slice ao n c) (.bool vb) (.string vy)
      obtain ⟨y0, y1, y2, y3, y4⟩ := AU.cells5
      have yf := fun j => AU.free j
      clear HX N1 N2 AU LV AV kV o0 o1 o2 o3 o4 of'
      go_wp2
      obtain ⟨d0, d1, d2, d3, d4, N⟩ := D.out
      unfold put5 at d0 d1 d2 d3 d4 N
      refine bodyPost_ret (v := .agg #[.int .i64 vk, .string vx, .slice ao n c, .bool vb, .string vy]) (by simp [results, go_sem, d0, d1, d2, d3, d4]) rfl ⟨ao, n, c, rfl, N⟩
    · have HX := H3 rfl
      clear H1 H2 H3
      go_wp2_with fail
      refine HX.mono ?_
      rintro e v3 ⟨ao, n, c, rfl, N1⟩
      have N2 := N1.back kV
      have AU := AV.kept N1.kp (by simpa using hbg)
      have D : Hid _ := nxt_fin N2 AU hgw.out hbg (fun z hz => by have := N1.nw z hz; omega) (.int .i64 vk) (.string vx) (.slice ao n c) (.bool vb) (.string vy)
      obtain ⟨y0, y1, y2, y3, y4⟩ := AU.cells5
      have yf := fun j => AU.free j
      clear HX N1 N2 AU LV AV kV o0 o1 o2 o3 o4 of'
      go_wp2
      obtain ⟨d0, d1, d2, d3, d4, N⟩ := D.out
      unfold put5 at d0 d1 d2 d3 d4 N
      refine bodyPost_ret (v := .agg #[.int .i64 vk, .string vx, .slice ao n c, .bool vb, .string vy]) (by simp [results, go_sem, d0, d1, d2, d3, d4]) rfl ⟨ao, n, c, rfl, N⟩

end Go.Proofs.YtcfaejbbjmjgpaaGreatDoor
