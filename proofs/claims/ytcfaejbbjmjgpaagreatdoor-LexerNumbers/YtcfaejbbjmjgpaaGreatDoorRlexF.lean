/-
  The document's lexer: Next.
-/
import Derived.Test.YtcfaejbbjmjgpaaGreatDoorRlexX
import Derived.Deep.CutRange
namespace Go.Proofs.YtcfaejbbjmjgpaaGreatDoor
open Go.RowKit Utf
set_option linter.unusedVariables false

theorem bgs_false {s : ByteArray} {q : Nat} (h : bgs s q = false) : (begF s (q : Int)).1 = 0 ∧ begM s q = false := by
  unfold bgs at h
  simp only [Bool.or_eq_false_iff, decide_eq_false_iff_not, Decidable.not_not] at h
  exact h
theorem bgs_true {s : ByteArray} {q : Nat} (h : bgs s q = true) (hm : begM s q = false) : ¬ (begF s (q : Int)).1 = 0 := by
  unfold bgs at h
  rw [hm, Bool.or_false] at h
  exact of_decide_eq_true h
theorem begM_no_tag {s : ByteArray} {q : Nat} (hm : begM s q = true) : (begF s (q : Int)).1 = 0 := by
  by_cases g : (begF s (q : Int)).1 = 0
  · exact g
  · rw [beg_mark g] at hm
    cases hm

set_option maxHeartbeats 4000000 in
set_option maxRecDepth 100000 in
theorem rdata_any (w : World) (b : Nat) (s : ByteArray) (p : Nat) (fg : Bool) (last : ByteArray) (h : Ly w b s p 1 fg last) (hp : p ≤ s.size) (hs : s.size ≤ 4000) :
    Calls Tryz.prog 17 #[.pointer (some ⟨b, 0, none⟩)] w fun e w' => ∃ ao n c, e = .returned (tv (datF s fg last (s.size + 1) p).1.1 (datF s fg last (s.size + 1) p).1.2.1 ao n c (datF s fg last (s.size + 1) p).1.2.2.2.1 (datF s fg last (s.size + 1) p).1.2.2.2.2) ∧ Nyt w w' b ao n c (datF s fg last (s.size + 1) p).1.2.2.1 s (datF s fg last (s.size + 1) p).2.1 1 fg (datF s fg last (s.size + 1) p).2.2 := by
  obtain ⟨V, hV⟩ : ∃ V, datF s fg last (s.size + 1) p = V := ⟨_, rfl⟩
  rw [hV]
  have hV : Hid (datF s fg last (s.size + 1) p = V) := hV
  obtain ⟨⟨vk, vx, vl, vb, vy⟩, ve, vn⟩ := V
  simp only []
  obtain ⟨g0, hg0⟩ : ∃ g0, w.heap.size = g0 := ⟨_, rfl⟩
  have hlt := h.lt
  have hbg : g0 ≠ b := by omega
  have hgw : Hid (w.heap.size ≤ g0) := by show _ ≤ _; omega
  have k0 : Kp [b] w (w.alloc (.cells ZT 44)) := (Kp.refl _ _).alloc _
  have A0 : At (w.alloc (.cells ZT 44)) g0 ZT 44 := by rw [← hg0]; exact At.new w ZT 44
  have L0 := h.kept ((Kp.refl [] w).alloc (.cells ZT 44)) (by simp)
  unfold tv
  clear h
  go_enter Tryz.func17, Tryz.ntmps17
  go_wp2_with fail
  generalize w.alloc (.cells ZT 44) = W1 at k0 A0 L0 ⊢
  clear hg0
  go_loopw [] (fun wr => ∃ q n : Nat, q ≤ s.size ∧ s.size + 1 ≤ n + q ∧ Kp [b] w wr ∧ Ly wr b s q 1 fg last ∧ At wr g0 ZT 44 ∧ Hid (datF s fg last n q = ((vk, vx, vl, vb, vy), ve, vn))) (fun wr => s.size - placeOf b wr)
  case atStart => exact ⟨p, s.size + 1, hp, by omega, k0, L0, A0, hV⟩
  case round =>
    obtain ⟨q, m, q1, q2, kr, Lr, Ar, hD⟩ := hrel
    clear k0 L0 A0 hV
    obtain ⟨⟨c0, c1, c2, c3, c4⟩, hf⟩ := Lr.facts
    by_cases hlt : q < s.size
    · obtain ⟨m, rfl⟩ : ∃ m', m = m' + 1 := ⟨m - 1, by omega⟩
      have b1 : decide ((q : Int) < (s.size : Int)) = true := decide_eq_true (by omega)
      go_wp2_with fail
      go_quiet (fail)
      have kd := (Kp.refl [] wr).drewN nq
      generalize wr.drewN nq = W2 at kd ⊢
      have L2 := Lr.kept kd (by simp)
      have pr := Lr.place
      have A2 := Ar.kept kd (by simp)
      have k2 := kr.trans kd (fun z hz => by simp at hz)
      clear Lr Ar kr kd c0 c1 c2 c3 c4 hf
      obtain ⟨⟨c0, c1, c2, c3, c4⟩, hf⟩ := L2.facts
      go_wp2_with fail
      go_cut [65] from 7 to 95 (fun t wc => t = .bool (!(bgs s q)) ∧ Kp [] W2 wc)
      case first =>
        have i0 := index_at s (q : Int) q rfl hlt
        by_cases h60 : bt s q = 60
        · have b60 : (bt s q != 60) = false := by simp [h60]
          rw [h60] at i0
          have HM : Hid (∀ W, Kp [] W2 W → Calls Tryz.prog 29 #[.pointer (some ⟨b, 0, none⟩), .int .i64 (q : Int)] W fun e w' => e = .returned (.bool (bgs s q)) ∧ Kp [] W w') := fun W kW => marks_any W b s q 1 fg last (L2.kept kW (by simp)) q hlt hs
          have CC : Hid (∀ W, Kp [] W2 W → W.cell? ⟨b, 0, none⟩ = some (.string s) ∧ W.cell? ⟨b, 1, none⟩ = some (.int .i64 (q : Int))) := fun W kW => by
            obtain ⟨⟨d0, d1, _, _, _⟩, _⟩ := (L2.kept kW (by simp)).facts
            exact ⟨d0, d1⟩
          obtain ⟨B, hB⟩ : ∃ B, bgs s q = B := ⟨_, rfl⟩
          rw [hB] at HM
          have hB : Hid _ := hB
          clear h60
          go_region_held3 (fun w' => w'.cell? ⟨b, 0, none⟩ = some (.string s) ∧ w'.cell? ⟨b, 1, none⟩ = some (.int .i64 (q : Int)))
            (first | with_reducible exact CC.out _ S1.out | exact CC.out _ (Kp.refl [] W2).drew)
            (first | (go_at_call 29; refine (HM.out _ (Kp.refl [] W2).drew).mono ?_; rintro e v1 ⟨rfl, kk⟩; have S1 : Hid (Kp [] W2 v1) := (Kp.refl [] W2).drew.trans kk (fun x hx => by simp at hx); clear kk))
          have kd := S1.out
          go_wp2_with fail
          go_meet
          case rel => exact ⟨by rw [hB.out], kd⟩
        · have b60 : (bt s q != 60) = true := by simpa using h60
          have hB : Hid (bgs s q = false) := by
            show _ = _
            cases hx : bgs s q with
            | false => rfl
            | true => exact absurd (bgs_lt hx).2 h60
          generalize bt s q = x at i0 b60 h60
          clear h60
          go_quiet (fail)
          have kd := (Kp.refl [] W2).drewN nq
          go_wp2_with fail
          go_meet
          case rel => exact ⟨by rw [hB.out]; rfl, kd⟩
      case rest =>
        obtain ⟨rfl, kd⟩ := hcut
        clear c0 c1 c2 c3 c4 hf
        have LU := L2.kept kd (by simp)
        have AU := A2.kept kd (by simp)
        have kU := k2.trans kd (fun z hz => by simp at hz)
        generalize wc = U at LU AU kU ⊢
        clear L2 A2 k2 kd
        cases hbg2 : bgs s q with
        | false =>
          obtain ⟨hb, hm⟩ := bgs_false hbg2
          have hD2 := hD.out
          rw [datF_text hlt hb hm] at hD2
          have hD2 : Hid (_ = _) := hD2
          have HX := rtext_any U b s q 1 fg last LU hlt hs
          unfold tv at HX
          clear hD hm hb hbg2
          go_wp2_with fail
          refine HX.mono ?_
          rintro e v3 ⟨rfl, k3, L3⟩
          have A3 := AU.kept k3 (by simpa using hbg)
          have D : Hid _ := nyt_fin (nyt_none (kU.trans k3 (fun z hz => Or.inl hz)) L3) A3 hgw.out hbg (fun z hz => by simp [blk] at hz) (.int .i64 4) (.string ⟨#[]⟩) (.slice none 0 0) (.bool false) (.string (tT s 1 q (tE s 1 last q)))
          obtain ⟨y0, y1, y2, y3, y4⟩ := A3.cells5
          have yf := fun j => A3.free j
          clear HX A3 k3 L3 LU AU kU
          go_wp2
          obtain ⟨d0, d1, d2, d3, d4, N⟩ := D.out
          unfold put5 at d0 d1 d2 d3 d4 N
          try simp only [Exit.inBlock, Exit.then]
          have hD3 := hD2.out
          simp only [txT, Prod.mk.injEq] at hD3
          obtain ⟨⟨rfl, rfl, rfl, rfl, rfl⟩, rfl, rfl⟩ := hD3
          refine bodyPost_ret (v := .agg #[.int .i64 4, .string ⟨#[]⟩, .slice none 0 0, .bool false, .string (tT s 1 q (tE s 1 last q))]) (by simp [results, go_sem, d0, d1, d2, d3, d4]) rfl ⟨none, 0, 0, rfl, N⟩
        | true =>
          have hltb := LU.lt
          obtain ⟨⟨mk, mx, my⟩, r, ok, em⟩ : ∃ (R : Mt) (r : Int) (ok : Bool), mkF s (q : Int) fg = (R, r, ok) := ⟨_, _, _, rfl⟩
          have HM := fun W => mk_ref_read_any W s (q : Int) fg (by omega)
          rw [em] at HM
          unfold rv mv at HM
          simp only [] at HM
          have CC : Hid (∀ W, Kp [] U W → W.cell? ⟨b, 0, none⟩ = some (.string s) ∧ W.cell? ⟨b, 1, none⟩ = some (.int .i64 (q : Int)) ∧ W.cell? ⟨b, 4, none⟩ = some (.bool fg)) := fun W kW => by
            obtain ⟨⟨d0, d1, _, _, d4⟩, _⟩ := (LU.kept kW (by simp)).facts
            exact ⟨d0, d1, d4⟩
          have C5 : Hid (∀ (W : World) (u0 u1 u2 u3 u4 : Value), Kp [] U W → (((((W.setCell ⟨U.heap.size, 0, none⟩ u0).setCell ⟨U.heap.size, 1, none⟩ u1).setCell ⟨U.heap.size, 2, none⟩ u2).setCell ⟨U.heap.size, 3, none⟩ u3).setCell ⟨U.heap.size, 4, none⟩ u4).cell? ⟨b, 0, none⟩ = some (.string s) ∧ (((((W.setCell ⟨U.heap.size, 0, none⟩ u0).setCell ⟨U.heap.size, 1, none⟩ u1).setCell ⟨U.heap.size, 2, none⟩ u2).setCell ⟨U.heap.size, 3, none⟩ u3).setCell ⟨U.heap.size, 4, none⟩ u4).cell? ⟨b, 1, none⟩ = some (.int .i64 (q : Int)) ∧ (((((W.setCell ⟨U.heap.size, 0, none⟩ u0).setCell ⟨U.heap.size, 1, none⟩ u1).setCell ⟨U.heap.size, 2, none⟩ u2).setCell ⟨U.heap.size, 3, none⟩ u3).setCell ⟨U.heap.size, 4, none⟩ u4).cell? ⟨b, 4, none⟩ = some (.bool fg)) := fun W u0 u1 u2 u3 u4 kW => by
            have L5 : Ly (put5 W U.heap.size u0 u1 u2 u3 u4) b s q 1 fg last := past5 (LU.kept kW (by simp)) (by omega) _ _ _ _ _
            obtain ⟨⟨d0, d1, _, _, d4⟩, _⟩ := L5.facts
            exact ⟨d0, d1, d4⟩
          have FA : Hid (∀ v, Kp [] U.drew v → Hid (Ty w (v.alloc (.cells #[.int .i64 mk, .string mx, .slice none 0 0, .bool false, .string my] 44)) b g0 v.heap.size s q 1 fg last mk mx none 0 0 false my [])) := fun v M => Ty.way_a kU LU AU hgw.out (by omega) (Mp.none M)
          have FB : Hid (∀ v, Kp [] (U.alloc (.cells ZT 44)).drew v → Hid (Ty w (put5 v U.heap.size (.int .i64 mk) (.string mx) (.slice none 0 0) (.bool false) (.string my)) b g0 U.heap.size s q 1 fg last mk mx none 0 0 false my [])) := fun v M => Ty.way_b kU LU AU hgw.out (by omega) (Mp.none M)
          have K3 : Hid (∀ o, Kp [] U (U.alloc o).drew) := fun o => ((Kp.refl [] U).alloc o).drew
          obtain ⟨⟨d0, d1, d2, d3, d4⟩, df⟩ := LU.facts
          go_wp2_with fail
          go_region_held3 (fun w' => w'.cell? ⟨b, 0, none⟩ = some (.string s) ∧ w'.cell? ⟨b, 1, none⟩ = some (.int .i64 (q : Int)) ∧ w'.cell? ⟨b, 4, none⟩ = some (.bool fg))
            (first | with_reducible exact CC.out _ S1.out | with_reducible exact CC.out _ (S1.out.alloc _) | with_reducible exact C5.out _ _ _ _ _ _ S1.out | with_reducible exact CC.out _ (Kp.refl [] U).drew | exact CC.out _ (K3.out _))
            (first
              | (go_at_call 31; refine (HM _).mono ?_; rintro e v2 ⟨rfl, N2⟩; have S1 : Hid (Kp [] U v2) := (Kp.refl [] U).drew.trans N2 (fun z hz => by simp at hz); have PZ := FA.out _ N2; clear N2)
              | (go_at_call 31; refine (HM _).mono ?_; rintro e v2 ⟨rfl, N2⟩; have S1 : Hid (Kp [] U v2) := (K3.out _).trans N2 (fun z hz => by simp at hz); have PZ := FB.out _ N2; obtain ⟨⟨x0, x1, x2, x3, x4⟩, xf⟩ := fresh_b (Mp.none N2); clear N2))
          all_goals
            have P := PZ.out
            try unfold put5 at P
            try clear x0 x1 x2 x3 x4 xf
            clear PZ S1 FA FB CC C5 K3 HM d0 d1 d2 d3 d4 df LU AU kU
            obtain ⟨⟨⟨c0, c1, c2, c3, c4⟩, hf⟩, ⟨⟨t0, t1, t2, t3, t4⟩, tf⟩, ⟨⟨r0, r1, r2, r3, r4⟩, rf'⟩⟩ := P.facts
            cases hm : begM s q with
            | false =>
              have hb := bgs_true hbg2 hm
              rw [mk_no hm] at em
              simp only [Prod.mk.injEq] at em
              obtain ⟨_, _, rfl⟩ := em
              have hD2 := hD.out
              rw [datF_tag hlt hb] at hD2
              have HX := rtag_any _ b s q 1 fg last P.ly hlt hs hb
              rw [hD2] at HX
              have KX : Hid _ := P.kp
              have RX : Hid _ := P.r
              have zg : Hid _ := P.r.lt
              unfold tv at HX
              simp only [] at HX
              clear P hD hm hb hbg2 hD2
              go_wp2_with fail
              refine HX.mono ?_
              rintro e v3 ⟨ao, n, c, rfl, N1⟩
              have A3 := At.kept RX.out N1.kp (by simpa using hbg)
              have D : Hid _ := nyt_fin (N1.back KX.out) A3 hgw.out hbg (fun z hz => by have h1 := N1.nw z hz; have h2 := zg.out; intro h3; rw [h3] at h1; exact absurd h2 (Nat.not_lt.mpr h1)) (.int .i64 vk) (.string vx) (.slice ao n c) (.bool vb) (.string vy)
              obtain ⟨y0, y1, y2, y3, y4⟩ := A3.cells5
              have yf := fun j => A3.free j
              clear HX KX RX A3 N1 zg c0 c1 c2 c3 c4 hf t0 t1 t2 t3 t4 tf r0 r1 r2 r3 r4 rf'
              go_wp2
              obtain ⟨d0, d1, d2, d3, d4, N⟩ := D.out
              unfold put5 at d0 d1 d2 d3 d4 N
              try simp only [Exit.inBlock, Exit.then]
              refine bodyPost_ret (v := .agg #[.int .i64 vk, .string vx, .slice ao n c, .bool vb, .string vy]) (by simp [results, go_sem, d0, d1, d2, d3, d4]) rfl ⟨ao, n, c, rfl, N⟩
            | true =>
              have hb := begM_no_tag hm
              rw [mk_yes hm] at em
              obtain ⟨hfine, hgo⟩ := mark_facts hm fg
              by_cases hk : (rdM s q fg).1.1 = 0
              · have hD2 := hD.out
                rw [datF_none hlt hb hm hk] at hD2
                have hD2 : Hid (_ = _) := hD2
                have hhi := hfine.hi
                generalize rdM s q fg = R at em hk hgo hhi hD2
                obtain ⟨⟨rk, rx, ry⟩, rn⟩ := R
                simp only [Prod.mk.injEq] at em
                obtain ⟨⟨rfl, rfl, rfl⟩, rfl, rfl⟩ := em
                simp only at hk hgo hhi hD2
                subst hk
                have P1 := P.setAt rn
                obtain ⟨_, ⟨⟨u0, u1, u2, u3, u4⟩, uf⟩, _⟩ := P1.facts
                have pz := P1.ly.place
                have Q1 : Hid _ := P1.kp
                have Q2 : Hid _ := P1.ly
                have Q3 : Hid _ := P1.r
                clear P P1 hD hm hfine hb hbg2
                go_wp2
                go_roundw
                case rel => exact ⟨rn, m, hhi, by omega, Q1.out, Q2.out, Q3.out, hD2⟩
                case measure => rw [pr, pz]; omega
              · have hD2 := hD.out
                rw [datF_mark hlt hb hm hk] at hD2
                have hD2 : Hid (_ = _) := hD2
                generalize rdM s q fg = R at em hk hgo hD2
                obtain ⟨⟨rk, rx, ry⟩, rn⟩ := R
                simp only [Prod.mk.injEq] at em
                obtain ⟨⟨rfl, rfl, rfl⟩, rfl, rfl⟩ := em
                simp only at hk hgo hD2
                have b2 : (rk != 0) = true := by simpa using hk
                have P1 := P.setAt rn
                obtain ⟨_, ⟨⟨u0, u1, u2, u3, u4⟩, uf⟩, ⟨⟨s0, s1, s2, s3, s4⟩, sf⟩⟩ := P1.facts
                have D : Hid _ := P1.fin (.int .i64 rk) (.string rx) (.slice none 0 0) (.bool false) (.string ry)
                clear P P1 hD hm hfine hk hb hbg2
                go_wp2
                obtain ⟨d0, d1, d2, d3, d4, N⟩ := D.out
                unfold put5 at d0 d1 d2 d3 d4 N
                try simp only [Exit.inBlock, Exit.then]
                have hD3 := hD2.out
                simp only [mkT, Prod.mk.injEq] at hD3
                obtain ⟨⟨rfl, rfl, rfl, rfl, rfl⟩, rfl, rfl⟩ := hD3
                refine bodyPost_ret (v := .agg #[.int .i64 rk, .string rx, .slice none 0 0, .bool false, .string ry]) (by simp [results, go_sem, d0, d1, d2, d3, d4]) rfl ⟨none, 0, 0, rfl, N⟩
    · obtain rfl : q = s.size := by omega
      have hD2 := hD.out
      rw [datF_end (Nat.le_refl _)] at hD2
      have hD2 : Hid (_ = _) := hD2
      have b1 : decide ((s.size : Int) < (s.size : Int)) = false := decide_eq_false (by omega)
      go_wp2_with fail
      go_quiet (fail)
      have kV := kr.drewN nq
      have LV : Ly (wr.drewN nq) b s s.size 1 fg last := Lr.kept ((Kp.refl [] wr).drewN nq) (by simp)
      have AV : At (wr.drewN nq) g0 ZT 44 := Ar.kept ((Kp.refl [] wr).drewN nq) (by simp)
      have D : Hid _ := nyt_fin (nyt_none kV LV) AV hgw.out hbg (fun z hz => by simp [blk] at hz) (.int .i64 6) (.string ⟨#[]⟩) (.slice none 0 0) (.bool false) (.string ⟨#[]⟩)
      obtain ⟨y0, y1, y2, y3, y4⟩ := AV.cells5
      have yf := fun j => AV.free j
      clear LV AV kV Lr Ar kr c0 c1 c2 c3 c4 hf hD
      go_wp2
      obtain ⟨d0, d1, d2, d3, d4, N⟩ := D.out
      unfold put5 at d0 d1 d2 d3 d4 N
      try simp only [Exit.inBlock, Exit.then]
      have hD3 := hD2.out
      simp only [eofT, Prod.mk.injEq] at hD3
      obtain ⟨⟨rfl, rfl, rfl, rfl, rfl⟩, rfl, rfl⟩ := hD3
      refine bodyPost_ret (v := .agg #[.int .i64 6, .string ⟨#[]⟩, .slice none 0 0, .bool false, .string ⟨#[]⟩]) (by simp [results, go_sem, d0, d1, d2, d3, d4]) rfl ⟨none, 0, 0, rfl, N⟩

end Go.Proofs.YtcfaejbbjmjgpaaGreatDoor
