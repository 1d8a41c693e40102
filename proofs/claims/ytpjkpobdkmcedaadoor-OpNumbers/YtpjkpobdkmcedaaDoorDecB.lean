/-
  The program's reader: text, attrs.
-/
import Derived.Test.YtpjkpobdkmcedaaDoorDecA
namespace Go.Proofs.YtpjkpobdkmcedaaDoor
open Go.RowKit Utf
set_option linter.unusedVariables false
set_option linter.unusedSimpArgs false

theorem rd3 {s : St} (h : byt s.1) : 0 ≤ (rdN 3 s).1 ∧ (rdN 3 s).1 ≤ 16777215 := by
  have := nv_le3 (tk_byt (n := 3) h).1 (tk_len 3 s).1
  exact this

theorem rdN_st {n : Nat} {s : St} (h : byt s.1) : byt (rdN n s).2.1 ∧ (rdN n s).2.1.length ≤ s.1.length := ⟨(tk_byt (n := n) h).2, (tk_len n s).2.1⟩

theorem rdT_st {s : St} (h : byt s.1) : byt (rdT s).2.1 ∧ (rdT s).2.1.length ≤ s.1.length ∧ (rdT s).1.size ≤ s.1.length := by
  obtain ⟨h1, h2⟩ := rdN_st (n := 3) h
  have h3 := (tk_byt (n := (rdN 3 s).1.toNat) h1).2
  have h4 := tk_len (rdN 3 s).1.toNat (rdN 3 s).2
  refine ⟨h3, Nat.le_trans h4.2.1 h2, ?_⟩
  show (strOfNums _).size ≤ _
  rw [str_size]
  exact Nat.le_trans h4.2.2 h2

theorem number3 (w : World) (b B : Nat) (s : St) (h : Rr w b B s) (hs : s.1.length ≤ 100000) (hb : byt s.1) :
    Calls Tryd.prog 45 #[.pointer (some ⟨b, 0, none⟩), .int .i64 3] w fun e w' => e = .returned (.int .i64 (rdN 3 s).1) ∧ Rr w' b B (rdN 3 s).2 ∧ Kp [b] w w' := number_any w b B s h 3 (by omega) hs hb
theorem number2 (w : World) (b B : Nat) (s : St) (h : Rr w b B s) (hs : s.1.length ≤ 100000) (hb : byt s.1) :
    Calls Tryd.prog 45 #[.pointer (some ⟨b, 0, none⟩), .int .i64 2] w fun e w' => e = .returned (.int .i64 (rdN 2 s).1) ∧ Rr w' b B (rdN 2 s).2 ∧ Kp [b] w w' := number_any w b B s h 2 (by omega) hs hb
theorem number1 (w : World) (b B : Nat) (s : St) (h : Rr w b B s) (hs : s.1.length ≤ 100000) (hb : byt s.1) :
    Calls Tryd.prog 45 #[.pointer (some ⟨b, 0, none⟩), .int .i64 1] w fun e w' => e = .returned (.int .i64 (rdN 1 s).1) ∧ Rr w' b B (rdN 1 s).2 ∧ Kp [b] w w' := number_any w b B s h 1 (by omega) hs hb
theorem number4 (w : World) (b B : Nat) (s : St) (h : Rr w b B s) (hs : s.1.length ≤ 100000) (hb : byt s.1) :
    Calls Tryd.prog 45 #[.pointer (some ⟨b, 0, none⟩), .int .i64 4] w fun e w' => e = .returned (.int .i64 (rdN 4 s).1) ∧ Rr w' b B (rdN 4 s).2 ∧ Kp [b] w w' := number_any w b B s h 4 (by omega) hs hb

theorem kp_one {a b c : World} {x : Nat} (h : Kp [x] a b) (k : Kp [x] b c) : Kp [x] a c := h.trans k (fun y hy => Or.inl hy)

set_option maxRecDepth 100000 in
set_option maxHeartbeats 400000 in
theorem rtext_any (w : World) (b B : Nat) (s : St) (h : Rr w b B s) (hs : s.1.length ≤ 100000) (hb : byt s.1) :
    Calls Tryd.prog 46 #[.pointer (some ⟨b, 0, none⟩)] w fun e w' => e = .returned (.string (rdT s).1) ∧ Rr w' b B (rdT s).2 ∧ Kp [b] w w' := by
  have H3 := number3 w b B s h hs hb
  obtain ⟨hr0, hr1⟩ := rd3 hb
  obtain ⟨g1, g2⟩ := rdN_st (n := 3) hb
  unfold rdT
  simp only
  generalize (rdN 3 s).2 = s1 at H3 g1 g2 ⊢
  generalize (rdN 3 s).1 = n at H3 hr0 hr1 ⊢
  obtain ⟨m, rfl⟩ : ∃ m : Nat, n = (m : Int) := ⟨n.toNat, by omega⟩
  rw [Int.toNat_natCast]
  clear h hb
  have HT : Hid (∀ W, Rr W b B s1 → Calls Tryd.prog 50 #[.pointer (some ⟨b, 0, none⟩), .int .i64 (m : Int)] W fun e w' => ∃ ao k c, e = .returned (.slice ao k c) ∧ Rb w' ao k c (b8 (tk m s1).1) ∧ Off ao b B ∧ Rr w' b B (tk m s1).2 ∧ Kp [b] W w') := fun W hW => take_any W b B s1 hW m (by omega) (by omega)
  generalize (tk m s1).1 = l at HT ⊢
  generalize (tk m s1).2 = s2 at HT ⊢
  go_enter Tryd.func46, Tryd.ntmps46
  go_wp2_with fail
  refine H3.mono ?_
  rintro e w1 ⟨rfl, R1, k1⟩
  clear H3
  go_wp2_with fail
  refine (HT.out _ R1).mono ?_
  rintro e w2 ⟨ao, k, c, rfl, r2, ho, R2, k2⟩
  have hcv := conv_rb r2
  have HZ : Hid (Rr w2 b B s2 ∧ Kp [b] w w2) := ⟨R2, kp_one k1 k2⟩
  clear HT R1 R2 k1 k2 ho r2
  go_wp2
  go_ret
  exact ⟨rfl, HZ.out⟩

/-- Attributes while they are read: those so far, L, and where the reader stands. -/
structure Sa (w wr : World) (b B : Nat) (ao : Option Addr) (n c : Nat) (L : List Att) (st : St) : Prop where
  ow : OwnK 2 wr 26 (.slice ao n c) n (cs L)
  kp : Kp [b] w wr
  nw : ∀ k, k ∈ blk (.slice ao n c) → w.heap.size ≤ k
  rr : Rr wr b B st
  bt : byt st.1
  ln : st.1.length ≤ 100000

theorem Sa.len {w wr : World} {b B : Nat} {ao : Option Addr} {n c : Nat} {L : List Att} {st : St} (h : Sa w wr b B ao n c L st) : n = L.length := by
  have := h.ow.1
  rw [cs_len] at this
  omega

/-- One more was read, into block g: what append makes of it. -/
theorem Sa.next {w wr w2 w4 : World} {b B : Nat} {ao : Option Addr} {n c : Nat} {L : List Att} {st st2 : St} {x y : ByteArray} (h : Sa w wr b B ao n c L st) (hbw : b < w.heap.size) (hB : B ≤ w.heap.size)
    (k2 : Kp [b] (wr.alloc (.cells #[.string ⟨#[]⟩, .string ⟨#[]⟩] 26)) w2) (k4 : Kp [b] (w2.setCell ⟨wr.heap.size, 0, none⟩ (.string x)) w4) (R4 : Rr w4 b B st2) (hb2 : byt st2.1) (hl2 : st2.1.length ≤ 100000) (hn : n + 1 ≤ 1000000) :
    ∃ ao' n' c' w6, (∀ ty, (Builtin.append_ #[22, 22] ty #[.slice ao n c, .slice (some ⟨(w4.setCell ⟨wr.heap.size, 1, none⟩ (.string y)).heap.size, 0, none⟩) 1 1]).run Tryd.prog ((w4.setCell ⟨wr.heap.size, 1, none⟩ (.string y)).alloc (.cells #[.string x, .string y] 26)) = .ok (.slice ao' n' c') w6) ∧ Sa w w6 b B ao' n' c' (L ++ [(x, y)]) st2 := by
  have hwr := h.kp.size
  have hs2 := k2.size
  have hs4 := k4.size
  have e1 : (w2.setCell ⟨wr.heap.size, 0, none⟩ (.string x)).heap.size = w2.heap.size := by simp [World.setCell]
  rw [e1] at hs4
  have e2 : (wr.alloc (.cells #[.string ⟨#[]⟩, .string ⟨#[]⟩] 26)).heap.size = wr.heap.size + 1 := by simp
  rw [e2] at hs2
  -- all that turned: b, and block g, which is new
  have ka : Kp [b] wr (wr.alloc (.cells #[.string ⟨#[]⟩, .string ⟨#[]⟩] 26)) := (Kp.refl _ _).alloc _
  have kb : Kp [b] wr w4 := ((kp_one ka k2).setCell (p := ⟨wr.heap.size, 0, none⟩) (Or.inr (Nat.le_refl _)) _).trans k4 (fun z hz => Or.inl hz)
  have kc : Kp [b] wr (w4.setCell ⟨wr.heap.size, 1, none⟩ (.string y)) := kb.setCell (p := ⟨wr.heap.size, 1, none⟩) (Or.inr (Nat.le_refl _)) _
  have kd : Kp [b] wr ((w4.setCell ⟨wr.heap.size, 1, none⟩ (.string y)).alloc (.cells #[.string x, .string y] 26)) := kc.alloc _
  have ow1 := h.ow.keep kd (fun z hz hzb => by
    have := h.nw z hz
    simp at hzb
    omega)
  have hr := (rp_lit (w4.setCell ⟨wr.heap.size, 1, none⟩ (.string y)) #[.string x, .string y] [(x, y)] 1 rfl rfl (by omega)).rp
  obtain ⟨v', w6, hrun, o6, k6, b6, a6, c6, rfl⟩ := appK Tryd.underlying22 info23 rfl (by decide) _ _ _ _ ow1 _ 1 (cs [(x, y)]) (hr.src Tryd.underlying22) (fun _ => by omega) hn
  have kz : Kp [b] w w6 := (h.kp.trans kd (fun z hz => Or.inl hz)).trans k6 (fun z hz => Or.inr (h.nw z hz))
  have kR : Kp [wr.heap.size] w4 (w4.setCell ⟨wr.heap.size, 1, none⟩ (.string y)) := (Kp.refl _ _).setCell (p := ⟨wr.heap.size, 1, none⟩) (Or.inl (by simp)) _
  refine ⟨_, _, _, w6, hrun, by rw [cs_append]; exact o6, kz, fun z hz => ?_, ?_, hb2, hl2⟩
  · rcases b6 z hz with h1 | h1
    · exact h.nw z h1
    · rw [h1]
      have := kd.size
      omega
  · refine ((R4.kept kR (by simp; omega) (fun z hz => by simp at hz; omega)).kept ((Kp.refl [] _).alloc (.cells #[.string x, .string y] 26)) (by simp) (fun z hz => by simp at hz)).kept k6 (fun hz => by have := h.nw b hz; omega) (fun z hz => by have := h.nw z hz; omega)

set_option maxRecDepth 100000 in
set_option maxHeartbeats 1000000 in
theorem attrs_any (w : World) (b B : Nat) (s : St) (h : Rr w b B s) (hB : B ≤ w.heap.size) (hs : s.1.length ≤ 100000) (hb : byt s.1) :
    Calls Tryd.prog 47 #[.pointer (some ⟨b, 0, none⟩)] w fun e w' => ∃ ao n c, e = .returned (.slice ao n c) ∧ Sa w w' b B ao n c (rdAs s).1 (rdAs s).2 := by
  have hbw : b < w.heap.size := by
    obtain ⟨_, _, _, h1, _⟩ := h
    exact lt_of h1
  have H2 := number2 w b B s h hs hb
  obtain ⟨g1, g2⟩ := rdN_st (n := 2) hb
  have hn0 : 0 ≤ (rdN 2 s).1 ∧ (rdN 2 s).1 ≤ 65535 := by
    have h1 := nv_range _ (tk_byt (n := 2) hb).1
    have h2 := (tk_len 2 s).1
    refine ⟨h1.1, ?_⟩
    have h3 : nv (tk 2 s).1 < 65536 := by
      obtain h3 | h3 | h3 : (tk 2 s).1.length = 0 ∨ (tk 2 s).1.length = 1 ∨ (tk 2 s).1.length = 2 := by omega
      all_goals
        rw [h3] at h1
        have e0 : ((256 : Int) ^ 0) = 1 := by decide
        have e1 : ((256 : Int) ^ 1) = 256 := by decide
        have e2 : ((256 : Int) ^ 2) = 65536 := by decide
        omega
    show nv (tk 2 s).1 ≤ 65535
    omega
  obtain ⟨hn1, hn2⟩ := hn0
  obtain ⟨R, hR⟩ : ∃ R, rdAs s = R := ⟨_, rfl⟩
  rw [hR]
  have HR : Hid (rdA (rdN 2 s).1.toNat (rdN 2 s).2 = R) := hR
  clear hR
  generalize (rdN 2 s).2 = s1 at H2 g1 g2 HR
  generalize (rdN 2 s).1 = n at H2 hn1 hn2 HR
  obtain ⟨m, rfl⟩ : ∃ m : Nat, n = (m : Int) := ⟨n.toNat, by omega⟩
  rw [Int.toNat_natCast] at HR
  have hm : m ≤ 65535 := by omega
  clear h hb hn1 hn2
  go_enter Tryd.func47, Tryd.ntmps47
  go_wp2_with fail
  refine H2.mono ?_
  rintro e w1 ⟨rfl, R1, k1⟩
  clear H2
  have S0 : Sa w w1 b B none 0 0 [] s1 := ⟨⟨rfl, Or.inl ⟨rfl, rfl⟩⟩, k1, fun k hk => by simp [blk] at hk, R1, g1, by omega⟩
  clear R1 k1 g1 g2 hs
  go_wp2
  go_loopw [3, 4] (fun lv iv wr => ∃ (k : Nat) (ao : Option Addr) (n c : Nat) (L : List Att) (st : St), k ≤ m ∧ iv = .int .i64 (k : Int) ∧ lv = .slice ao n c ∧ L.length + k = m ∧ Sa w wr b B ao n c L st ∧ R = (L ++ (rdA k st).1, (rdA k st).2)) (fun _ iv _ => (intOf iv).toNat)
  case atStart => exact ⟨m, none, 0, 0, [], s1, Nat.le_refl _, rfl, rfl, by simp, S0, by rw [← HR.out]; simp⟩
  case round =>
    obtain ⟨k, ao, n, c, L, st, hk, rfl, rfl, hlk, S, hR⟩ := hrel
    clear S0 HR
    have c1 : wr.cell? ⟨b, 1, none⟩ = some (.bool st.2) := by
      obtain ⟨_, _, _, h1, _⟩ := S.rr
      exact cell_of h1 1
    have hnl := S.len
    have HRR : Hid (R = (L ++ (rdA k st).1, (rdA k st).2)) := hR
    clear hR
    cases k with
    | zero =>
      have e : R = (L, st) := by rw [HRR.out]; simp [rdA]
      subst e
      have SS : Hid (Sa w wr b B ao n c L st) := S
      clear HRR S hnl c1
      go_wp2
      go_ret
      exact ⟨_, _, _, rfl, SS.out⟩
    | succ k =>
      have hk1 : (0 : Int) < ((k + 1 : Nat) : Int) := by omega
      cases hcut : st.2 with
      | true =>
        rw [hcut] at c1
        have e : R = (L, st) := by rw [HRR.out, rdA, if_pos hcut]; simp
        subst e
        have SS : Hid (Sa w wr b B ao n c L st) := S
        clear HRR S hnl
        go_wp2
        go_ret
        exact ⟨_, _, _, rfl, SS.out⟩
      | false =>
        rw [hcut] at c1
        have eR : Hid (R = ((L ++ [((rdT st).1, (rdT (rdT st).2).1)]) ++ (rdA k (rdT (rdT st).2).2).1, (rdA k (rdT (rdT st).2).2).2)) := (by rw [HRR.out, rdA, if_neg (by simp [hcut])]; simp : R = ((L ++ [((rdT st).1, (rdT (rdT st).2).1)]) ++ (rdA k (rdT (rdT st).2).2).1, (rdA k (rdT (rdT st).2).2).2))
        obtain ⟨p1, p2, p3⟩ := rdT_st S.bt
        obtain ⟨q1, q2, q3⟩ := rdT_st p1
        have hl0 := S.ln
        have RT1 := rtext_any (wr.alloc (.cells #[.string ⟨#[]⟩, .string ⟨#[]⟩] 26)) b B st (S.rr.kept ((Kp.refl [] _).alloc _) (by simp) (fun z hz => by simp at hz)) S.ln S.bt
        have RT2 : Hid (∀ W, Rr W b B (rdT st).2 → Calls Tryd.prog 46 #[.pointer (some ⟨b, 0, none⟩)] W fun e w' => e = .returned (.string (rdT (rdT st).2).1) ∧ Rr w' b B (rdT (rdT st).2).2 ∧ Kp [b] W w') := fun W hW => rtext_any W b B _ hW (by omega) p1
        have hl2 : (rdT (rdT st).2).2.1.length ≤ 100000 := by omega
        generalize (rdT (rdT st).2).2 = st2 at eR q1 RT2 hl2
        generalize (rdT (rdT st).2).1 = y at eR RT2
        generalize (rdT st).2 = st1 at RT1 RT2
        generalize (rdT st).1 = x at eR RT1
        have SS : Hid (Sa w wr b B ao n c L st) := S
        have hwr : w.heap.size ≤ wr.heap.size := S.kp.size
        have hbg : b ≠ wr.heap.size := by omega
        have hnn : n + 1 ≤ 1000000 := by omega
        have HQ : Hid (byt st2.1 ∧ st2.1.length ≤ 100000 ∧ n + 1 ≤ 1000000 ∧ b ≠ wr.heap.size ∧ w.heap.size ≤ wr.heap.size ∧ b < w.heap.size ∧ B ≤ w.heap.size) := ⟨q1, hl2, hnn, hbg, hwr, hbw, hB⟩
        clear S HRR p1 p2 p3 q1 q2 q3 hl0 hl2 hnl hbg hnn hwr hcut
        go_wp2_with fail
        refine RT1.mono ?_
        rintro e w2 ⟨rfl, R2, k2⟩
        have D2 : w2.heap[wr.heap.size]? = some (.cells #[.string ⟨#[]⟩, .string ⟨#[]⟩] 26 (0, 0)) := (k2.block _ (by simp) (by simp; exact fun e => HQ.out.2.2.2.1 e.symm)).trans (heap_new wr _)
        have d0 : w2.cell? ⟨wr.heap.size, 0, none⟩ = some (.string ⟨#[]⟩) := cell_of D2 0
        have f0 := frozen_of D2 0
        have R3 : Rr (w2.setCell ⟨wr.heap.size, 0, none⟩ (.string x)) b B st1 := R2.kept (S := [wr.heap.size]) ((Kp.refl _ _).setCell (p := ⟨wr.heap.size, 0, none⟩) (Or.inl (by simp)) _) (by simp; exact HQ.out.2.2.2.1) (fun z hz => by have := HQ.out; simp at hz; omega)
        have D3 := setCell_block D2 0 (.string x)
        have RT3 := RT2.out _ R3
        clear RT1 RT2 R2 R3 D2 c1
        go_wp2_with fail
        refine RT3.mono ?_
        rintro e w4 ⟨rfl, R4, k4⟩
        have D4 : w4.heap[wr.heap.size]? = some (.cells #[.string x, .string ⟨#[]⟩] 26 (0, 0)) := (k4.block _ (lt_of D3) (by simp; exact fun e => HQ.out.2.2.2.1 e.symm)).trans D3
        obtain ⟨ao6, n6, c6, w6, hrun, S6⟩ := SS.out.next (x := x) (y := y) HQ.out.2.2.2.2.2.1 HQ.out.2.2.2.2.2.2 k2 k4 R4 HQ.out.1 HQ.out.2.1 HQ.out.2.2.1
        have D5 := setCell_block D4 1 (.string y)
        have d1 : w4.cell? ⟨wr.heap.size, 1, none⟩ = some (.string ⟨#[]⟩) := cell_of D4 1
        have f1 := frozen_of D4 1
        have g0 : (w4.setCell ⟨wr.heap.size, 1, none⟩ (.string y)).cell? ⟨wr.heap.size, 0, none⟩ = some (.string x) := cell_of D5 0
        have g1 : (w4.setCell ⟨wr.heap.size, 1, none⟩ (.string y)).cell? ⟨wr.heap.size, 1, none⟩ = some (.string y) := cell_of D5 1
        have S7 : Hid (Sa w w6 b B ao6 n6 c6 (L ++ [(x, y)]) st2) := S6
        clear RT3 R4 k2 k4 D3 D4 D5 S6 d0 f0 SS
        have HL : Hid ((L ++ [(x, y)]).length + k = m) := (by simp; omega : (L ++ [(x, y)]).length + k = m)
        rw [show (w4.setCell ⟨wr.heap.size, 1, none⟩ (.string y)).heap.size = w4.heap.size by simp [World.setCell]] at hrun
        go_wp2_with (at_builtin; refine Lib.wpList_append_run _ rfl _ _ _ _ rfl _ _ rfl rfl _ _ (hrun _) ?_)
        go_roundw
        case rel => exact ⟨k, _, _, _, _, st2, by omega, by first | rfl | go_num | (simp; done), rfl, HL.out, S7.out, eR.out⟩
        case measure => simp [intOf]

end Go.Proofs.YtpjkpobdkmcedaaDoor
