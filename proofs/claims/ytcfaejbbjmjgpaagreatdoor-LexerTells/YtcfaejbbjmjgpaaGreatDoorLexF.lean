/-
  data of the program.
-/
import Derived.Test.YtcfaejbbjmjgpaaGreatDoorLexE
namespace Go.Proofs.YtcfaejbbjmjgpaaGreatDoor
open Go.RowKit Utf
set_option linter.unusedVariables false

theorem Nxt.back {w wr v : World} {b : Nat} {ao : Option Addr} {n c : Nat} {l : List Att} {s : ByteArray} {p : Nat} {md : Int} {fg : Bool} {last : ByteArray} (k : Kp [b] w wr) (h : Nxt wr v b ao n c l s p md fg last) : Nxt w v b ao n c l s p md fg last :=
  ⟨k.trans h.kp (fun z hz => Or.inl hz), h.lx, h.own, fun z hz => Nat.le_trans k.size (h.nw z hz)⟩
theorem Nxt.keep {w v V : World} {b : Nat} {ao : Option Addr} {n c : Nat} {l : List Att} {s : ByteArray} {p : Nat} {md : Int} {fg : Bool} {last : ByteArray} (h : Nxt w v b ao n c l s p md fg last) (k : Kp [] v V) : Nxt w V b ao n c l s p md fg last :=
  ⟨h.kp.trans k (fun z hz => by simp at hz), h.lx.kept k (by simp), h.own.keep k (fun _ _ => by simp), h.nw⟩
/-- Once the result is laid. -/
theorem nxt_fin {w V : World} {b g0 : Nat} {ao : Option Addr} {n c : Nat} {l : List Att} {s : ByteArray} {p : Nat} {md : Int} {fg : Bool} {last : ByteArray} (h : Nxt w V b ao n c l s p md fg last) (A : At V g0 ZT 44) (hg : w.heap.size ≤ g0) (hb : g0 ≠ b) (na : ∀ z, z ∈ blk (.slice ao n c) → z ≠ g0) (v0 v1 v2 v3 v4 : Value) :
    (put5 V g0 v0 v1 v2 v3 v4).cell? ⟨g0, 0, none⟩ = some v0 ∧ (put5 V g0 v0 v1 v2 v3 v4).cell? ⟨g0, 1, none⟩ = some v1 ∧ (put5 V g0 v0 v1 v2 v3 v4).cell? ⟨g0, 2, none⟩ = some v2 ∧ (put5 V g0 v0 v1 v2 v3 v4).cell? ⟨g0, 3, none⟩ = some v3 ∧ (put5 V g0 v0 v1 v2 v3 v4).cell? ⟨g0, 4, none⟩ = some v4 ∧ Nxt w (put5 V g0 v0 v1 v2 v3 v4) b ao n c l s p md fg last :=
  ⟨(A.put5 v0 v1 v2 v3 v4).cell 0, (A.put5 v0 v1 v2 v3 v4).cell 1, (A.put5 v0 v1 v2 v3 v4).cell 2, (A.put5 v0 v1 v2 v3 v4).cell 3, (A.put5 v0 v1 v2 v3 v4).cell 4,
    ⟨h.kp.put5 (Or.inr hg) _ _ _ _ _, past5 h.lx hb _ _ _ _ _, h.own.keep ((Kp.refl [g0] V).put5 (Or.inl (by simp)) _ _ _ _ _) (fun z hz => by have := na z hz; simpa using this), h.nw⟩⟩

theorem ltF_yes {s last : ByteArray} {p : Nat} (h : ¬ (begF s (p : Int)).1 = 0) : ltF s last p = ((tgF s last p).1, true, (tgF s last p).2.1, (tgF s last p).2.2) := by unfold ltF; rw [if_neg h]
theorem ltF_no {s last : ByteArray} {p : Nat} (h : (begF s (p : Int)).1 = 0) : ltF s last p = (zt, false, p, last) := by unfold ltF; rw [if_pos h]

theorem datF_tag {s last : ByteArray} {fg : Bool} {n p : Nat} (hp : p < s.size) (h : ¬ (begF s (p : Int)).1 = 0) : datF s fg last (n + 1) p = tgF s last p := by
  unfold datF
  rw [if_neg (by omega), if_pos h]
theorem datF_mark {s last : ByteArray} {fg : Bool} {n p : Nat} (hp : p < s.size) (h : (begF s (p : Int)).1 = 0) (hm : begM s p = true) (hk : ¬ (rdM s p fg).1.1 = 0) : datF s fg last (n + 1) p = (mkT (rdM s p fg).1, (rdM s p fg).2, last) := by
  conv => lhs; unfold datF
  rw [if_neg (by omega), if_neg (by simpa using h), if_pos hm, if_neg hk]
theorem datF_none {s last : ByteArray} {fg : Bool} {n p : Nat} (hp : p < s.size) (h : (begF s (p : Int)).1 = 0) (hm : begM s p = true) (hk : (rdM s p fg).1.1 = 0) : datF s fg last (n + 1) p = datF s fg last n (rdM s p fg).2 := by
  conv => lhs; unfold datF
  rw [if_neg (by omega), if_neg (by simpa using h), if_pos hm, if_pos hk]
theorem datF_text {s last : ByteArray} {fg : Bool} {n p : Nat} (hp : p < s.size) (h : (begF s (p : Int)).1 = 0) (hm : begM s p = false) : datF s fg last (n + 1) p = (txT (tT s 1 p (tE s 1 last p)), tE s 1 last p, last) := by
  conv => lhs; unfold datF
  rw [if_neg (by omega), if_neg (by simpa using h), if_neg (by rw [hm]; simp)]
theorem datF_end {s last : ByteArray} {fg : Bool} {n p : Nat} (hp : s.size ≤ p) : datF s fg last n p = (eofT, s.size, last) := by
  cases n with
  | zero => rfl
  | succ n => unfold datF; rw [if_pos hp]

theorem Kp.mono1 {b : Nat} {w w' : World} (h : Kp [] w w') : Kp [b] w w' := h.mono (fun x hx => by simp at hx)

set_option maxHeartbeats 4000000 in
set_option maxRecDepth 100000 in
theorem data_any (w0 w : World) (b : Nat) (E : Ev w0 w b) (s : ByteArray) (p : Nat) (fg : Bool) (last : ByteArray) (h : Lx w b s p 1 fg last) (hp : p ≤ s.size) (hs : s.size ≤ 4000) :
    Calls Tryz.prog 25 #[.pointer (some ⟨b, 0, none⟩)] w fun e w' => ∃ ao n c, e = .returned (tv (datF s fg last (s.size + 1) p).1.1 (datF s fg last (s.size + 1) p).1.2.1 ao n c (datF s fg last (s.size + 1) p).1.2.2.2.1 (datF s fg last (s.size + 1) p).1.2.2.2.2) ∧ Nxt w w' b ao n c (datF s fg last (s.size + 1) p).1.2.2.1 s (datF s fg last (s.size + 1) p).2.1 1 fg (datF s fg last (s.size + 1) p).2.2 := by
  obtain ⟨V, hV⟩ : ∃ V, datF s fg last (s.size + 1) p = V := ⟨_, rfl⟩
  rw [hV]
  have hV : Hid (datF s fg last (s.size + 1) p = V) := hV
  obtain ⟨⟨vk, vx, vl, vb, vy⟩, ve, vn⟩ := V
  simp only []
  obtain ⟨g0, hg0⟩ : ∃ g0, w.heap.size = g0 := ⟨_, rfl⟩
  have hlt := h.lt
  have hbg : g0 ≠ b := by omega
  have hgw : Hid (w.heap.size ≤ g0) := by show _ ≤ _; omega
  have k0 : Kp [b] w (w.alloc (.cells ZT 44)) := (Kp.refl _ _).alloc _
  have A0 : At (w.alloc (.cells ZT 44)) g0 ZT 44 := by rw [← hg0]; exact At.new w ZT 44
  have L0 := h.kept ((Kp.refl [] w).alloc (.cells ZT 44)) (by simp)
  unfold tv
  clear h
  go_enter Tryz.func25, Tryz.ntmps25
  go_wp2_with fail
  generalize w.alloc (.cells ZT 44) = W1 at k0 A0 L0 ⊢
  clear hg0
  go_loopw [] (fun wr => ∃ q n : Nat, q ≤ s.size ∧ s.size + 1 ≤ n + q ∧ Kp [b] w wr ∧ Lx wr b s q 1 fg last ∧ At wr g0 ZT 44 ∧ Hid (datF s fg last n q = ((vk, vx, vl, vb, vy), ve, vn))) (fun wr => s.size - placeOf b wr)
  case atStart => exact ⟨p, s.size + 1, hp, by omega, k0, L0, A0, hV⟩
  case round =>
    obtain ⟨q, m, q1, q2, kr, Lr, Ar, hD⟩ := hrel
    clear k0 L0 A0 hV
    obtain ⟨⟨c0, c1, c2, c3, c4⟩, hf⟩ := Lr.facts
    by_cases hlt : q < s.size
    · obtain ⟨m, rfl⟩ : ∃ m', m = m' + 1 := ⟨m - 1, by omega⟩
      have b1 : decide ((q : Int) < (s.size : Int)) = true := decide_eq_true (by omega)
      have HT : Hid (∀ W, Kp [] wr W → _) := fun W kW => ltag_any w0 W b ((E.step kr).more kW) s q 1 fg last (Lr.kept kW (by simp)) hlt hs
      go_wp2_with fail
      go_quiet (fail)
      have kd := (Kp.refl [] wr).drewN nq
      generalize wr.drewN nq = W2 at kd ⊢
      by_cases hb : (begF s (q : Int)).1 = 0
      · have HT2 := HT.out _ kd
        rw [ltF_no hb] at HT2
        unfold zt tv at HT2
        simp only [] at HT2
        clear HT
        go_wp2_with fail
        refine HT2.mono ?_
        rintro e v1 ⟨ao, n, c, rfl, N1⟩
        clear HT2
        have N2 := (N1.keep ((Kp.refl [] v1).alloc (.cells #[.int .i64 0, .string ⟨#[]⟩, .slice ao n c, .bool false, .string ⟨#[]⟩] 44))).back kd.mono1
        have LU := N2.lx
        have kU := kr.trans N2.kp (fun z hz => Or.inl hz)
        have AU := Ar.kept N2.kp (by simpa using hbg)
        obtain ⟨⟨d0, d1, d2, d3, d4⟩, df⟩ := LU.facts
        clear N1 N2
        go_wp2_with fail
        clear c0 c1 c2 c3 c4 hf d0 d1 d2 d3 d4 df
        generalize v1.alloc (.cells #[.int .i64 0, .string ⟨#[]⟩, .slice ao n c, .bool false, .string ⟨#[]⟩] 44) = U at LU kU AU ⊢
        have hltb := LU.lt
        obtain ⟨⟨mk, mx, my⟩, r, ok, em⟩ : ∃ (R : Mt) (r : Int) (ok : Bool), mkF s (q : Int) fg = (R, r, ok) := ⟨_, _, _, rfl⟩
        have HM := fun W => mk_read_any W s (q : Int) fg (by omega)
        rw [em] at HM
        unfold rv mv at HM
        simp only [] at HM
        have CC : Hid (∀ W, Kp [] U W → W.cell? ⟨b, 0, none⟩ = some (.string s) ∧ W.cell? ⟨b, 1, none⟩ = some (.int .i64 (q : Int)) ∧ W.cell? ⟨b, 3, none⟩ = some (.bool fg)) := fun W kW => by
          obtain ⟨⟨d0, d1, _, d3, _⟩, _⟩ := (LU.kept kW (by simp)).facts
          exact ⟨d0, d1, d3⟩
        have FA : Hid (∀ v, Kp [] U.drew v → Hid (Tg w (v.alloc (.cells #[.int .i64 mk, .string mx, .slice none 0 0, .bool false, .string my] 44)) b g0 v.heap.size s q 1 fg last mk mx none 0 0 false my [])) := fun v M => Tg.way_a kU LU AU hgw.out (by omega) (Mp.none M)
        have FB : Hid (∀ v, Kp [] (U.alloc (.cells ZT 44)).drew v → Hid (Tg w (put5 v U.heap.size (.int .i64 mk) (.string mx) (.slice none 0 0) (.bool false) (.string my)) b g0 U.heap.size s q 1 fg last mk mx none 0 0 false my [])) := fun v M => Tg.way_b kU LU AU hgw.out (by omega) (Mp.none M)
        have C5 : Hid (∀ (W : World) (u0 u1 u2 u3 u4 : Value), Kp [] U W → (((((W.setCell ⟨U.heap.size, 0, none⟩ u0).setCell ⟨U.heap.size, 1, none⟩ u1).setCell ⟨U.heap.size, 2, none⟩ u2).setCell ⟨U.heap.size, 3, none⟩ u3).setCell ⟨U.heap.size, 4, none⟩ u4).cell? ⟨b, 0, none⟩ = some (.string s) ∧ (((((W.setCell ⟨U.heap.size, 0, none⟩ u0).setCell ⟨U.heap.size, 1, none⟩ u1).setCell ⟨U.heap.size, 2, none⟩ u2).setCell ⟨U.heap.size, 3, none⟩ u3).setCell ⟨U.heap.size, 4, none⟩ u4).cell? ⟨b, 1, none⟩ = some (.int .i64 (q : Int)) ∧ (((((W.setCell ⟨U.heap.size, 0, none⟩ u0).setCell ⟨U.heap.size, 1, none⟩ u1).setCell ⟨U.heap.size, 2, none⟩ u2).setCell ⟨U.heap.size, 3, none⟩ u3).setCell ⟨U.heap.size, 4, none⟩ u4).cell? ⟨b, 3, none⟩ = some (.bool fg)) := fun W u0 u1 u2 u3 u4 kW => by
          have L5 : Lx (put5 W U.heap.size u0 u1 u2 u3 u4) b s q 1 fg last := past5 (LU.kept kW (by simp)) (by omega) _ _ _ _ _
          obtain ⟨⟨d0, d1, _, d3, _⟩, _⟩ := L5.facts
          exact ⟨d0, d1, d3⟩
        have K3 : Hid (∀ o, Kp [] U (U.alloc o).drew) := fun o => ((Kp.refl [] U).alloc o).drew
        obtain ⟨⟨d0, d1, d2, d3, d4⟩, df⟩ := LU.facts
        go_region_held3 (fun w' => w'.cell? ⟨b, 0, none⟩ = some (.string s) ∧ w'.cell? ⟨b, 1, none⟩ = some (.int .i64 (q : Int)) ∧ w'.cell? ⟨b, 3, none⟩ = some (.bool fg))
          (first | with_reducible exact CC.out _ S1.out | with_reducible exact CC.out _ (S1.out.alloc _) | with_reducible exact C5.out _ _ _ _ _ _ S1.out | with_reducible exact CC.out _ (Kp.refl [] U).drew | exact CC.out _ (K3.out _))
          (first
            | (go_at_call 38; refine (HM _).mono ?_; rintro e v2 ⟨rfl, N2⟩; have S1 : Hid (Kp [] U v2) := (Kp.refl [] U).drew.trans N2 (fun z hz => by simp at hz); have PZ := FA.out _ N2; clear N2)
            | (go_at_call 38; refine (HM _).mono ?_; rintro e v2 ⟨rfl, N2⟩; have S1 : Hid (Kp [] U v2) := (K3.out _).trans N2 (fun z hz => by simp at hz); have PZ := FB.out _ N2; obtain ⟨⟨x0, x1, x2, x3, x4⟩, xf⟩ := fresh_b (Mp.none N2); clear N2))
        all_goals
          have P := PZ.out
          try unfold put5 at P
          try clear x0 x1 x2 x3 x4 xf
          clear PZ S1 FA FB CC C5 K3 HM d0 d1 d2 d3 d4 df
          obtain ⟨⟨⟨c0, c1, c2, c3, c4⟩, hf⟩, ⟨⟨t0, t1, t2, t3, t4⟩, tf⟩, ⟨⟨r0, r1, r2, r3, r4⟩, rf'⟩⟩ := P.facts
          cases hm : begM s q with
          | false =>
            rw [mk_no hm] at em
            simp only [Prod.mk.injEq] at em
            obtain ⟨_, _, rfl⟩ := em
            have hD2 := hD.out
            rw [datF_text hlt hb hm] at hD2
            have hD2 : Hid (_ = _) := hD2
            have HX := text_any w0 _ b (E.step P.kp) s q 1 fg last P.lx hlt hs one_ok
            have KX : Hid _ := P.kp
            have RX : Hid _ := P.r
            clear P hD hm
            unfold tv at HX
            go_wp2_with fail
            refine HX.mono ?_
            rintro e v3 ⟨rfl, k3, L3⟩
            have A3 := At.kept RX.out k3 (by simpa using hbg)
            have D : Hid _ := nxt_fin (Nxt.none (KX.out.trans k3 (fun z hz => Or.inl hz)) L3) A3 hgw.out hbg (fun z hz => by simp [blk] at hz) (.int .i64 4) (.string ⟨#[]⟩) (.slice none 0 0) (.bool false) (.string (tT s 1 q (tE s 1 last q)))
            obtain ⟨y0, y1, y2, y3, y4⟩ := A3.cells5
            have yf := fun j => A3.free j
            clear HX KX RX A3 k3 L3 c0 c1 c2 c3 c4 hf t0 t1 t2 t3 t4 tf r0 r1 r2 r3 r4 rf'
            go_wp2
            obtain ⟨d0, d1, d2, d3, d4, N⟩ := D.out
            unfold put5 at d0 d1 d2 d3 d4 N
            try simp only [Exit.inBlock, Exit.then]
            have hD3 := hD2.out
            simp only [txT, Prod.mk.injEq] at hD3
            obtain ⟨⟨rfl, rfl, rfl, rfl, rfl⟩, rfl, rfl⟩ := hD3
            refine bodyPost_ret (v := .agg #[.int .i64 4, .string ⟨#[]⟩, .slice none 0 0, .bool false, .string (tT s 1 q (tE s 1 last q))]) (by simp [results, go_sem, d0, d1, d2, d3, d4]) rfl ⟨none, 0, 0, rfl, N⟩
          | true =>
            rw [mk_yes hm] at em
            obtain ⟨hfine, hgo⟩ := mark_facts hm fg
            by_cases hk : (rdM s q fg).1.1 = 0
            · have hD2 := hD.out
              rw [datF_none hlt hb hm hk] at hD2
              have hD2 : Hid (_ = _) := hD2
              have hhi := hfine.hi
              generalize rdM s q fg = R at em hk hgo hhi hD2
              obtain ⟨⟨rk, rx, ry⟩, rn⟩ := R
              simp only [Prod.mk.injEq] at em
              obtain ⟨⟨rfl, rfl, rfl⟩, rfl, rfl⟩ := em
              simp only at hk hgo hhi hD2
              subst hk
              have P1 := P.setAt rn
              obtain ⟨_, ⟨⟨u0, u1, u2, u3, u4⟩, uf⟩, _⟩ := P1.facts
              have pr := Lr.place
              have pz := P1.lx.place
              have Q1 : Hid _ := P1.kp
              have Q2 : Hid _ := P1.lx
              have Q3 : Hid _ := P1.r
              clear P P1 hD hm hfine
              go_wp2
              go_roundw
              case rel => exact ⟨rn, m, hhi, by omega, Q1.out, Q2.out, Q3.out, hD2⟩
              case measure => rw [pr, pz]; omega
            · have hD2 := hD.out
              rw [datF_mark hlt hb hm hk] at hD2
              have hD2 : Hid (_ = _) := hD2
              generalize rdM s q fg = R at em hk hgo hD2
              obtain ⟨⟨rk, rx, ry⟩, rn⟩ := R
              simp only [Prod.mk.injEq] at em
              obtain ⟨⟨rfl, rfl, rfl⟩, rfl, rfl⟩ := em
              simp only at hk hgo hD2
              have b2 : (rk != 0) = true := by simpa using hk
              have P1 := P.setAt rn
              obtain ⟨_, ⟨⟨u0, u1, u2, u3, u4⟩, uf⟩, ⟨⟨s0, s1, s2, s3, s4⟩, sf⟩⟩ := P1.facts
              have D : Hid _ := P1.fin (.int .i64 rk) (.string rx) (.slice none 0 0) (.bool false) (.string ry)
              clear P P1 hD hm hfine hk
              go_wp2
              obtain ⟨d0, d1, d2, d3, d4, N⟩ := D.out
              unfold put5 at d0 d1 d2 d3 d4 N
              try simp only [Exit.inBlock, Exit.then]
              have hD3 := hD2.out
              simp only [mkT, Prod.mk.injEq] at hD3
              obtain ⟨⟨rfl, rfl, rfl, rfl, rfl⟩, rfl, rfl⟩ := hD3
              refine bodyPost_ret (v := .agg #[.int .i64 rk, .string rx, .slice none 0 0, .bool false, .string ry]) (by simp [results, go_sem, d0, d1, d2, d3, d4]) rfl ⟨none, 0, 0, rfl, N⟩
      · have HT2 := HT.out _ kd
        have hD2 := hD.out
        rw [datF_tag hlt hb] at hD2
        rw [ltF_yes hb, hD2] at HT2
        unfold tv at HT2
        simp only [] at HT2
        have zg := Ar.lt
        have zk := kd.size
        clear HT hD
        go_wp2_with fail
        refine HT2.mono ?_
        rintro e v1 ⟨ao, n, c, rfl, N1⟩
        clear HT2
        have N2 := (N1.keep ((Kp.refl [] v1).alloc (.cells #[.int .i64 vk, .string vx, .slice ao n c, .bool vb, .string vy] 44))).back (kr.trans kd (fun z hz => by simp at hz))
        have AU := (Ar.kept (kd.mono1.trans N1.kp (fun z hz => Or.inl hz)) (by simpa using hbg)).kept ((Kp.refl [] v1).alloc (.cells #[.int .i64 vk, .string vx, .slice ao n c, .bool vb, .string vy] 44)) (by simp)
        have D : Hid _ := nxt_fin N2 AU hgw.out hbg (fun z hz => by have := N1.nw z hz; omega) (.int .i64 vk) (.string vx) (.slice ao n c) (.bool vb) (.string vy)
        obtain ⟨y0, y1, y2, y3, y4⟩ := AU.cells5
        have yf := fun j => AU.free j
        obtain ⟨x0, x1, x2, x3, x4⟩ := (At.new v1 #[.int .i64 vk, .string vx, .slice ao n c, .bool vb, .string vy] 44).cells5
        clear N1 N2 AU c0 c1 c2 c3 c4 hf
        go_wp2
        obtain ⟨d0, d1, d2, d3, d4, N⟩ := D.out
        unfold put5 at d0 d1 d2 d3 d4 N
        try simp only [Exit.inBlock, Exit.then]
        refine bodyPost_ret (v := .agg #[.int .i64 vk, .string vx, .slice ao n c, .bool vb, .string vy]) (by simp [results, go_sem, d0, d1, d2, d3, d4]) rfl ⟨ao, n, c, rfl, N⟩
    · obtain rfl : q = s.size := by omega
      have hD2 := hD.out
      rw [datF_end (Nat.le_refl _)] at hD2
      have hD2 : Hid (_ = _) := hD2
      have b1 : decide ((s.size : Int) < (s.size : Int)) = false := decide_eq_false (by omega)
      go_wp2_with fail
      go_quiet (fail)
      have kV := kr.drewN nq
      have LV : Lx (wr.drewN nq) b s s.size 1 fg last := Lr.kept ((Kp.refl [] wr).drewN nq) (by simp)
      have AV : At (wr.drewN nq) g0 ZT 44 := Ar.kept ((Kp.refl [] wr).drewN nq) (by simp)
      have D : Hid _ := nxt_fin (Nxt.none kV LV) AV hgw.out hbg (fun z hz => by simp [blk] at hz) (.int .i64 6) (.string ⟨#[]⟩) (.slice none 0 0) (.bool false) (.string ⟨#[]⟩)
      obtain ⟨y0, y1, y2, y3, y4⟩ := AV.cells5
      have yf := fun j => AV.free j
      clear LV AV kV Lr Ar kr c0 c1 c2 c3 c4 hf hD
      go_wp2
      obtain ⟨d0, d1, d2, d3, d4, N⟩ := D.out
      unfold put5 at d0 d1 d2 d3 d4 N
      try simp only [Exit.inBlock, Exit.then]
      have hD3 := hD2.out
      simp only [eofT, Prod.mk.injEq] at hD3
      obtain ⟨⟨rfl, rfl, rfl, rfl, rfl⟩, rfl, rfl⟩ := hD3
      refine bodyPost_ret (v := .agg #[.int .i64 6, .string ⟨#[]⟩, .slice none 0 0, .bool false, .string ⟨#[]⟩]) (by simp [results, go_sem, d0, d1, d2, d3, d4]) rfl ⟨none, 0, 0, rfl, N⟩

end Go.Proofs.YtcfaejbbjmjgpaaGreatDoor
