/-
 DecB DecC.
-/
import Derived.Test.YtpkppobkagdhkaaGreatB40
set_option linter.unusedVariables false
set_option linter.unusedSimpArgs false
set_option maxRecDepth 100000
set_option maxHeartbeats 1000000
namespace Go.Proofs.YtpkppobkagdhkaaGreat
open Go.RowKit Utf
theorem rd3 {s : St} (h : byt s.1) : 0 ≤ (rdN 3 s).1 ∧ (rdN 3 s).1 ≤ 16777215 := by
 have := nv_le3 (tk_byt (n := 3) h).1 (tk_len 3 s).1
 exact this
theorem rdN_st {n : Nat} {s : St} (h : byt s.1) : byt (rdN n s).2.1 ∧ (rdN n s).2.1.length ≤ s.1.length := ⟨(tk_byt (n := n) h).2,(tk_len n s).2.1⟩
theorem rdT_st {s : St} (h : byt s.1) : byt (rdT s).2.1 ∧ (rdT s).2.1.length ≤ s.1.length ∧ (rdT s).1.size ≤ s.1.length := by
 obtain ⟨h1,h2⟩ := rdN_st (n := 3) h
 have h3 := (tk_byt (n := (rdN 3 s).1.toNat) h1).2
 have h4 := tk_len (rdN 3 s).1.toNat (rdN 3 s).2
 refine ⟨h3,Nat.le_trans h4.2.1 h2,?_⟩
 show (strOfNums _).size ≤ _
 rw [str_size]
 exact Nat.le_trans h4.2.2 h2
theorem number3 (w : World) (b B : Nat) (s : St) (h : Rr w b B s) (hs : s.1.length ≤ 100000) (hb : byt s.1) :
  Calls Tryz.prog 81 #[.pointer (some ⟨b,0,none⟩),.int .i64 3] w fun e w' => e = .returned (.int .i64 (rdN 3 s).1) ∧ Rr w' b B (rdN 3 s).2 ∧ Kp [b] w w' := number_any w b B s h 3 (by omega) hs hb
theorem number2 (w : World) (b B : Nat) (s : St) (h : Rr w b B s) (hs : s.1.length ≤ 100000) (hb : byt s.1) :
  Calls Tryz.prog 81 #[.pointer (some ⟨b,0,none⟩),.int .i64 2] w fun e w' => e = .returned (.int .i64 (rdN 2 s).1) ∧ Rr w' b B (rdN 2 s).2 ∧ Kp [b] w w' := number_any w b B s h 2 (by omega) hs hb
theorem number1 (w : World) (b B : Nat) (s : St) (h : Rr w b B s) (hs : s.1.length ≤ 100000) (hb : byt s.1) :
  Calls Tryz.prog 81 #[.pointer (some ⟨b,0,none⟩),.int .i64 1] w fun e w' => e = .returned (.int .i64 (rdN 1 s).1) ∧ Rr w' b B (rdN 1 s).2 ∧ Kp [b] w w' := number_any w b B s h 1 (by omega) hs hb
theorem number4 (w : World) (b B : Nat) (s : St) (h : Rr w b B s) (hs : s.1.length ≤ 100000) (hb : byt s.1) :
  Calls Tryz.prog 81 #[.pointer (some ⟨b,0,none⟩),.int .i64 4] w fun e w' => e = .returned (.int .i64 (rdN 4 s).1) ∧ Rr w' b B (rdN 4 s).2 ∧ Kp [b] w w' := number_any w b B s h 4 (by omega) hs hb
theorem kp_one {a b c : World} {x : Nat} (h : Kp [x] a b) (k : Kp [x] b c) : Kp [x] a c := h.trans k (fun y hy => Or.inl hy)
theorem rtext_any16 (w : World) (b B : Nat) (s : St) (h : Rr w b B s) (hs : s.1.length ≤ 100000) (hb : byt s.1) :
  Calls Tryz.prog 82 #[.pointer (some ⟨b,0,none⟩)] w fun e w' => e = .returned (.string (rdT s).1) ∧ Rr w' b B (rdT s).2 ∧ Kp [b] w w' := by
 have H3 := number3 w b B s h hs hb
 obtain ⟨hr0,hr1⟩ := rd3 hb
 obtain ⟨g1,g2⟩ := rdN_st (n := 3) hb
 unfold rdT
 simp only
 generalize (rdN 3 s).2 = s1 at H3 g1 g2 ⊢
 generalize (rdN 3 s).1 = n at H3 hr0 hr1 ⊢
 obtain ⟨m,rfl⟩ : ∃ m : Nat,n = (m : Int) := ⟨n.toNat,by omega⟩
 rw [Int.toNat_natCast]
 clear h hb
 have HT : Hid (∀ W,Rr W b B s1 → Calls Tryz.prog 118 #[.pointer (some ⟨b,0,none⟩),.int .i64 (m : Int)] W fun e w' => ∃ ao k c,e = .returned (.slice ao k c) ∧ Rb w' ao k c (b8 (tk m s1).1) ∧ Off ao b B ∧ Rr w' b B (tk m s1).2 ∧ Kp [b] W w') := fun W hW => take_any W b B s1 hW m (by omega) (by omega)
 generalize (tk m s1).1 = l at HT ⊢
 generalize (tk m s1).2 = s2 at HT ⊢
 go_enter Tryz.func82,Tryz.ntmps82
 go_wp2_with fail
 refine H3.mono ?_
 rintro e w1 ⟨rfl,R1,k1⟩
 clear H3
 go_wp2_with fail
 refine (HT.out _ R1).mono ?_
 rintro e w2 ⟨ao,k,c,rfl,r2,ho,R2,k2⟩
 have hcv := conv_rb r2
 have HZ : Hid (Rr w2 b B s2 ∧ Kp [b] w w2) := ⟨R2,kp_one k1 k2⟩
 clear HT R1 R2 k1 k2 ho r2
 go_wp2
 go_ret
 exact ⟨rfl,HZ.out⟩
structure Sa (w wr : World) (b B : Nat) (ao : Option Addr) (n c : Nat) (L : List Att) (st : St) : Prop where
 ow : OwnK 2 wr 102 (.slice ao n c) n (cs L)
 kp : Kp [b] w wr
 nw : ∀ k,k ∈ blk (.slice ao n c) → w.heap.size ≤ k
 rr : Rr wr b B st
 bt : byt st.1
 ln : st.1.length ≤ 100000
theorem Sa.len {w wr : World} {b B : Nat} {ao : Option Addr} {n c : Nat} {L : List Att} {st : St} (h : Sa w wr b B ao n c L st) : n = L.length := by
 have := h.ow.1
 rw [cs_len] at this
 omega
theorem Sa.next {w wr w2 w4 : World} {b B : Nat} {ao : Option Addr} {n c : Nat} {L : List Att} {st st2 : St} {x y : ByteArray} (h : Sa w wr b B ao n c L st) (hbw : b < w.heap.size) (hB : B ≤ w.heap.size)
  (k2 : Kp [b] (wr.alloc (.cells #[.string ⟨#[]⟩,.string ⟨#[]⟩] 102)) w2) (k4 : Kp [b] (w2.setCell ⟨wr.heap.size,0,none⟩ (.string x)) w4) (R4 : Rr w4 b B st2) (hb2 : byt st2.1) (hl2 : st2.1.length ≤ 100000) (hn : n + 1 ≤ 1000000) :
  ∃ ao' n' c' w6,(∀ ty,(Builtin.append_ #[22,22] ty #[.slice ao n c,.slice (some ⟨(w4.setCell ⟨wr.heap.size,1,none⟩ (.string y)).heap.size,0,none⟩) 1 1]).run Tryz.prog ((w4.setCell ⟨wr.heap.size,1,none⟩ (.string y)).alloc (.cells #[.string x,.string y] 102)) = .ok (.slice ao' n' c') w6) ∧ Sa w w6 b B ao' n' c' (L ++ [(x,y)]) st2 := by
 have hwr := h.kp.size
 have hs2 := k2.size
 have hs4 := k4.size
 have e1 : (w2.setCell ⟨wr.heap.size,0,none⟩ (.string x)).heap.size = w2.heap.size := by simp [World.setCell]
 rw [e1] at hs4
 have e2 : (wr.alloc (.cells #[.string ⟨#[]⟩,.string ⟨#[]⟩] 102)).heap.size = wr.heap.size + 1 := by simp
 rw [e2] at hs2
 have ka : Kp [b] wr (wr.alloc (.cells #[.string ⟨#[]⟩,.string ⟨#[]⟩] 102)) := (Kp.refl _ _).alloc _
 have kb : Kp [b] wr w4 := ((kp_one ka k2).setCell (p := ⟨wr.heap.size,0,none⟩) (Or.inr (Nat.le_refl _)) _).trans k4 (fun z hz => Or.inl hz)
 have kc : Kp [b] wr (w4.setCell ⟨wr.heap.size,1,none⟩ (.string y)) := kb.setCell (p := ⟨wr.heap.size,1,none⟩) (Or.inr (Nat.le_refl _)) _
 have kd : Kp [b] wr ((w4.setCell ⟨wr.heap.size,1,none⟩ (.string y)).alloc (.cells #[.string x,.string y] 102)) := kc.alloc _
 have ow1 := h.ow.keep kd (fun z hz hzb => by
  have := h.nw z hz
  simp at hzb
  omega)
 have hr := (rp_lit (w4.setCell ⟨wr.heap.size,1,none⟩ (.string y)) #[.string x,.string y] [(x,y)] 1 rfl rfl (by omega)).rp
 obtain ⟨v',w6,hrun,o6,k6,b6,a6,c6,rfl⟩ := appK Tryz.underlying22 info23 rfl (by decide) _ _ _ _ ow1 _ 1 (cs [(x,y)]) (hr.src Tryz.underlying22) (fun _ => by omega) hn
 have kz : Kp [b] w w6 := (h.kp.trans kd (fun z hz => Or.inl hz)).trans k6 (fun z hz => Or.inr (h.nw z hz))
 have kR : Kp [wr.heap.size] w4 (w4.setCell ⟨wr.heap.size,1,none⟩ (.string y)) := (Kp.refl _ _).setCell (p := ⟨wr.heap.size,1,none⟩) (Or.inl (by simp)) _
 refine ⟨_,_,_,w6,hrun,by rw [cs_append]; exact o6,kz,fun z hz => ?_,?_,hb2,hl2⟩
 ·rcases b6 z hz with h1 | h1
  ·exact h.nw z h1
  ·rw [h1]
   have := kd.size
   omega
 ·refine ((R4.kept kR (by simp; omega) (fun z hz => by simp at hz; omega)).kept ((Kp.refl [] _).alloc (.cells #[.string x,.string y] 102)) (by simp) (fun z hz => by simp at hz)).kept k6 (fun hz => by have := h.nw b hz; omega) (fun z hz => by have := h.nw z hz; omega)
theorem attrs_any (w : World) (b B : Nat) (s : St) (h : Rr w b B s) (hB : B ≤ w.heap.size) (hs : s.1.length ≤ 100000) (hb : byt s.1) :
  Calls Tryz.prog 83 #[.pointer (some ⟨b,0,none⟩)] w fun e w' => ∃ ao n c,e = .returned (.slice ao n c) ∧ Sa w w' b B ao n c (rdAs s).1 (rdAs s).2 := by
 have hbw : b < w.heap.size := by
  obtain ⟨_,_,_,h1,_⟩ := h
  exact lt_of h1
 have H2 := number2 w b B s h hs hb
 obtain ⟨g1,g2⟩ := rdN_st (n := 2) hb
 have hn0 : 0 ≤ (rdN 2 s).1 ∧ (rdN 2 s).1 ≤ 65535 := by
  have h1 := nv_range _ (tk_byt (n := 2) hb).1
  have h2 := (tk_len 2 s).1
  refine ⟨h1.1,?_⟩
  have h3 : nv16 (tk 2 s).1 < 65536 := by
   obtain h3 | h3 | h3 : (tk 2 s).1.length = 0 ∨ (tk 2 s).1.length = 1 ∨ (tk 2 s).1.length = 2 := by omega
   all_goals
    rw [h3] at h1
    have e0 : ((256 : Int) ^ 0) = 1 := by decide
    have e1 : ((256 : Int) ^ 1) = 256 := by decide
    have e2 : ((256 : Int) ^ 2) = 65536 := by decide
    omega
  show nv16 (tk 2 s).1 ≤ 65535
  omega
 obtain ⟨hn1,hn2⟩ := hn0
 obtain ⟨R,hR⟩ : ∃ R,rdAs s = R := ⟨_,rfl⟩
 rw [hR]
 have HR : Hid (rdA (rdN 2 s).1.toNat (rdN 2 s).2 = R) := hR
 clear hR
 generalize (rdN 2 s).2 = s1 at H2 g1 g2 HR
 generalize (rdN 2 s).1 = n at H2 hn1 hn2 HR
 obtain ⟨m,rfl⟩ : ∃ m : Nat,n = (m : Int) := ⟨n.toNat,by omega⟩
 rw [Int.toNat_natCast] at HR
 have hm : m ≤ 65535 := by omega
 clear h hb hn1 hn2
 go_enter Tryz.func83,Tryz.ntmps83
 go_wp2_with fail
 refine H2.mono ?_
 rintro e w1 ⟨rfl,R1,k1⟩
 clear H2
 have S0 : Sa w w1 b B none 0 0 [] s1 := ⟨⟨rfl,Or.inl ⟨rfl,rfl⟩⟩,k1,fun k hk => by simp [blk] at hk,R1,g1,by omega⟩
 clear R1 k1 g1 g2 hs
 go_wp2
 go_loopw [3,4] (fun lv iv wr => ∃ (k : Nat) (ao : Option Addr) (n c : Nat) (L : List Att) (st : St),k ≤ m ∧ iv = .int .i64 (k : Int) ∧ lv = .slice ao n c ∧ L.length + k = m ∧ Sa w wr b B ao n c L st ∧ R = (L ++ (rdA k st).1,(rdA k st).2)) (fun _ iv _ => (intOf iv).toNat)
 case atStart => exact ⟨m,none,0,0,[],s1,Nat.le_refl _,rfl,rfl,by simp,S0,by rw [← HR.out]; simp⟩
 case round =>
  obtain ⟨k,ao,n,c,L,st,hk,rfl,rfl,hlk,S,hR⟩ := hrel
  clear S0 HR
  have c1 : wr.cell? ⟨b,1,none⟩ = some (.bool st.2) := by
   obtain ⟨_,_,_,h1,_⟩ := S.rr
   exact cell_of h1 1
  have hnl := S.len
  have HRR : Hid (R = (L ++ (rdA k st).1,(rdA k st).2)) := hR
  clear hR
  cases k with
  | zero =>
    have e : R = (L,st) := by rw [HRR.out]; simp [rdA]
    subst e
    have SS : Hid (Sa w wr b B ao n c L st) := S
    clear HRR S hnl c1
    go_wp2
    go_ret
    exact ⟨_,_,_,rfl,SS.out⟩
  | succ k =>
    have hk1 : (0 : Int) < ((k + 1 : Nat) : Int) := by omega
    cases hcut : st.2 with
    | true =>
      rw [hcut] at c1
      have e : R = (L,st) := by rw [HRR.out,rdA,if_pos hcut]; simp
      subst e
      have SS : Hid (Sa w wr b B ao n c L st) := S
      clear HRR S hnl
      go_wp2
      go_ret
      exact ⟨_,_,_,rfl,SS.out⟩
    | false =>
      rw [hcut] at c1
      have eR : Hid (R = ((L ++ [((rdT st).1,(rdT (rdT st).2).1)]) ++ (rdA k (rdT (rdT st).2).2).1,(rdA k (rdT (rdT st).2).2).2)) := (by rw [HRR.out,rdA,if_neg (by simp [hcut])]; simp : R = ((L ++ [((rdT st).1,(rdT (rdT st).2).1)]) ++ (rdA k (rdT (rdT st).2).2).1,(rdA k (rdT (rdT st).2).2).2))
      obtain ⟨p1,p2,p3⟩ := rdT_st S.bt
      obtain ⟨q1,q2,q3⟩ := rdT_st p1
      have hl0 := S.ln
      have RT1 := rtext_any16 (wr.alloc (.cells #[.string ⟨#[]⟩,.string ⟨#[]⟩] 102)) b B st (S.rr.kept ((Kp.refl [] _).alloc _) (by simp) (fun z hz => by simp at hz)) S.ln S.bt
      have RT2 : Hid (∀ W,Rr W b B (rdT st).2 → Calls Tryz.prog 82 #[.pointer (some ⟨b,0,none⟩)] W fun e w' => e = .returned (.string (rdT (rdT st).2).1) ∧ Rr w' b B (rdT (rdT st).2).2 ∧ Kp [b] W w') := fun W hW => rtext_any16 W b B _ hW (by omega) p1
      have hl2 : (rdT (rdT st).2).2.1.length ≤ 100000 := by omega
      generalize (rdT (rdT st).2).2 = st2 at eR q1 RT2 hl2
      generalize (rdT (rdT st).2).1 = y at eR RT2
      generalize (rdT st).2 = st1 at RT1 RT2
      generalize (rdT st).1 = x at eR RT1
      have SS : Hid (Sa w wr b B ao n c L st) := S
      have hwr : w.heap.size ≤ wr.heap.size := S.kp.size
      have hbg : b ≠ wr.heap.size := by omega
      have hnn : n + 1 ≤ 1000000 := by omega
      have HQ : Hid (byt st2.1 ∧ st2.1.length ≤ 100000 ∧ n + 1 ≤ 1000000 ∧ b ≠ wr.heap.size ∧ w.heap.size ≤ wr.heap.size ∧ b < w.heap.size ∧ B ≤ w.heap.size) := ⟨q1,hl2,hnn,hbg,hwr,hbw,hB⟩
      clear S HRR p1 p2 p3 q1 q2 q3 hl0 hl2 hnl hbg hnn hwr hcut
      go_wp2_with fail
      refine RT1.mono ?_
      rintro e w2 ⟨rfl,R2,k2⟩
      have D2 : w2.heap[wr.heap.size]? = some (.cells #[.string ⟨#[]⟩,.string ⟨#[]⟩] 102 (0,0)) := (k2.block _ (by simp) (by simp; exact fun e => HQ.out.2.2.2.1 e.symm)).trans (heap_new wr _)
      have d0 : w2.cell? ⟨wr.heap.size,0,none⟩ = some (.string ⟨#[]⟩) := cell_of D2 0
      have f0 := frozen_of D2 0
      have R3 : Rr (w2.setCell ⟨wr.heap.size,0,none⟩ (.string x)) b B st1 := R2.kept (S := [wr.heap.size]) ((Kp.refl _ _).setCell (p := ⟨wr.heap.size,0,none⟩) (Or.inl (by simp)) _) (by simp; exact HQ.out.2.2.2.1) (fun z hz => by have := HQ.out; simp at hz; omega)
      have D3 := setCell_block D2 0 (.string x)
      have RT3 := RT2.out _ R3
      clear RT1 RT2 R2 R3 D2 c1
      go_wp2_with fail
      refine RT3.mono ?_
      rintro e w4 ⟨rfl,R4,k4⟩
      have D4 : w4.heap[wr.heap.size]? = some (.cells #[.string x,.string ⟨#[]⟩] 102 (0,0)) := (k4.block _ (lt_of D3) (by simp; exact fun e => HQ.out.2.2.2.1 e.symm)).trans D3
      obtain ⟨ao6,n6,c6,w6,hrun,S6⟩ := SS.out.next (x := x) (y := y) HQ.out.2.2.2.2.2.1 HQ.out.2.2.2.2.2.2 k2 k4 R4 HQ.out.1 HQ.out.2.1 HQ.out.2.2.1
      have D5 := setCell_block D4 1 (.string y)
      have d1 : w4.cell? ⟨wr.heap.size,1,none⟩ = some (.string ⟨#[]⟩) := cell_of D4 1
      have f1 := frozen_of D4 1
      have g0 : (w4.setCell ⟨wr.heap.size,1,none⟩ (.string y)).cell? ⟨wr.heap.size,0,none⟩ = some (.string x) := cell_of D5 0
      have g1 : (w4.setCell ⟨wr.heap.size,1,none⟩ (.string y)).cell? ⟨wr.heap.size,1,none⟩ = some (.string y) := cell_of D5 1
      have S7 : Hid (Sa w w6 b B ao6 n6 c6 (L ++ [(x,y)]) st2) := S6
      clear RT3 R4 k2 k4 D3 D4 D5 S6 d0 f0 SS
      have HL : Hid ((L ++ [(x,y)]).length + k = m) := (by simp; omega : (L ++ [(x,y)]).length + k = m)
      rw [show (w4.setCell ⟨wr.heap.size,1,none⟩ (.string y)).heap.size = w4.heap.size by simp [World.setCell]] at hrun
      go_wp2_with (at_builtin; refine Lib.wpList_append_run _ rfl _ _ _ _ rfl _ _ rfl rfl _ _ (hrun _) ?_)
      go_roundw
      case rel => exact ⟨k,_,_,_,_,st2,by omega,by first | rfl | go_num | (simp; done),rfl,HL.out,S7.out,eR.out⟩
      case measure => simp [intOf]
def put916 (w : World) (g : Nat) (v0 v1 v2 v3 v4 v5 v6 v7 v8 : Value) : World := ((((((((w.setCell ⟨g,0,none⟩ v0).setCell ⟨g,1,none⟩ v1).setCell ⟨g,2,none⟩ v2).setCell ⟨g,3,none⟩ v3).setCell ⟨g,4,none⟩ v4).setCell ⟨g,5,none⟩ v5).setCell ⟨g,6,none⟩ v6).setCell ⟨g,7,none⟩ v7).setCell ⟨g,8,none⟩ v8
theorem Kp.put916 {S : List Nat} {a w : World} (h : Kp S a w) {g : Nat} (hg : g ∈ S ∨ a.heap.size ≤ g) (v0 v1 v2 v3 v4 v5 v6 v7 v8 : Value) : Kp S a (put916 w g v0 v1 v2 v3 v4 v5 v6 v7 v8) :=
 ((((((((h.setCell hg v0).setCell hg v1).setCell hg v2).setCell hg v3).setCell hg v4).setCell hg v5).setCell hg v6).setCell hg v7).setCell hg v8
theorem at9 {w : World} {g : Nat} {e : TypeId} {u0 u1 u2 u3 u4 u5 u6 u7 u8 : Value} (h : w.heap[g]? = some (.cells #[u0,u1,u2,u3,u4,u5,u6,u7,u8] e (0,0))) (v0 v1 v2 v3 v4 v5 v6 v7 v8 : Value) : (put916 w g v0 v1 v2 v3 v4 v5 v6 v7 v8).heap[g]? = some (.cells #[v0,v1,v2,v3,v4,v5,v6,v7,v8] e (0,0)) := by
 have h0 : (w.setCell ⟨g,0,none⟩ v0).heap[g]? = some (.cells #[v0,u1,u2,u3,u4,u5,u6,u7,u8] e (0,0)) := setCell_block h 0 v0
 have h1 : ((w.setCell ⟨g,0,none⟩ v0).setCell ⟨g,1,none⟩ v1).heap[g]? = some (.cells #[v0,v1,u2,u3,u4,u5,u6,u7,u8] e (0,0)) := setCell_block h0 1 v1
 unfold put916
 generalize (w.setCell ⟨g,0,none⟩ v0).setCell ⟨g,1,none⟩ v1 = w1 at h1 ⊢
 have h2 : (w1.setCell ⟨g,2,none⟩ v2).heap[g]? = some (.cells #[v0,v1,v2,u3,u4,u5,u6,u7,u8] e (0,0)) := setCell_block h1 2 v2
 generalize w1.setCell ⟨g,2,none⟩ v2 = w2 at h2 ⊢
 have h3 : (w2.setCell ⟨g,3,none⟩ v3).heap[g]? = some (.cells #[v0,v1,v2,v3,u4,u5,u6,u7,u8] e (0,0)) := setCell_block h2 3 v3
 generalize w2.setCell ⟨g,3,none⟩ v3 = w3 at h3 ⊢
 have h4 : (w3.setCell ⟨g,4,none⟩ v4).heap[g]? = some (.cells #[v0,v1,v2,v3,v4,u5,u6,u7,u8] e (0,0)) := setCell_block h3 4 v4
 generalize w3.setCell ⟨g,4,none⟩ v4 = w4 at h4 ⊢
 have h5 : (w4.setCell ⟨g,5,none⟩ v5).heap[g]? = some (.cells #[v0,v1,v2,v3,v4,v5,u6,u7,u8] e (0,0)) := setCell_block h4 5 v5
 generalize w4.setCell ⟨g,5,none⟩ v5 = w5 at h5 ⊢
 have h6 : (w5.setCell ⟨g,6,none⟩ v6).heap[g]? = some (.cells #[v0,v1,v2,v3,v4,v5,v6,u7,u8] e (0,0)) := setCell_block h5 6 v6
 generalize w5.setCell ⟨g,6,none⟩ v6 = w6 at h6 ⊢
 have h7 : (w6.setCell ⟨g,7,none⟩ v7).heap[g]? = some (.cells #[v0,v1,v2,v3,v4,v5,v6,v7,u8] e (0,0)) := setCell_block h6 7 v7
 generalize w6.setCell ⟨g,7,none⟩ v7 = w7 at h7 ⊢
 exact setCell_block h7 8 v8
def z916 : Array Value := #[.int .i64 0,.int .i64 0,.int .i64 0,.int .i64 0,.int .i64 0,.int .i64 0,.string ⟨#[]⟩,.slice none 0 0,.string ⟨#[]⟩]
structure So (w W : World) (b B r g : Nat) (cur : Array Value) (st : St) : Prop where
 hg : W.heap[g]? = some (.cells cur 24 (0,0))
 hr : W.heap[r]? = some (.cells z916 24 (0,0))
 kp : Kp [b] w W
 rr : Rr W b B st
 bt : byt st.1
 ln : st.1.length ≤ 100000
 rs : r = w.heap.size
 gs : g = w.heap.size + 1
 bs : b < w.heap.size
 Bs : B ≤ w.heap.size
theorem So.call {w W W' : World} {b B r g : Nat} {cur : Array Value} {st st' : St} (h : So w W b B r g cur st) (k : Kp [b] W W') (R : Rr W' b B st') (hb : byt st'.1) (hl : st'.1.length ≤ st.1.length) : So w W' b B r g cur st' := by
 have h1 := h.rs
 have h2 := h.gs
 have h3 := h.bs
 exact ⟨(k.block g (lt_of h.hg) (by simp; omega)).trans h.hg,(k.block r (lt_of h.hr) (by simp; omega)).trans h.hr,kp_one h.kp k,R,hb,Nat.le_trans hl h.ln,h1,h2,h3,h.Bs⟩
theorem So.put {w W : World} {b B r g : Nat} {cur : Array Value} {st : St} (h : So w W b B r g cur st) (i : Nat) (v : Value) : So w (W.setCell ⟨g,i,none⟩ v) b B r g (cur.setIfInBounds i v) st := by
 have h1 := h.rs
 have h2 := h.gs
 have h3 := h.bs
 have h4 := h.Bs
 have k : Kp [g] W (W.setCell ⟨g,i,none⟩ v) := (Kp.refl _ _).setCell (p := ⟨g,i,none⟩) (Or.inl (by simp)) _
 exact ⟨setCell_block h.hg i v,(k.block r (lt_of h.hr) (by simp; omega)).trans h.hr,h.kp.setCell (p := ⟨g,i,none⟩) (Or.inr (by show w.heap.size ≤ g; omega)) _,h.rr.kept k (by simp; omega) (fun x hx => by simp at hx; omega),h.bt,h.ln,h1,h2,h3,h4⟩
theorem so_new {w : World} {b B : Nat} {s : St} (h : Rr w b B s) (hB : B ≤ w.heap.size) (hs : s.1.length ≤ 100000) (hb : byt s.1) : So w ((w.alloc (.cells z916 24)).alloc (.cells z916 24)) b B w.heap.size (w.heap.size + 1) z916 s := by
 have hbw : b < w.heap.size := by
  obtain ⟨_,_,_,h1,_⟩ := h
  exact lt_of h1
 have k : Kp [] w ((w.alloc (.cells z916 24)).alloc (.cells z916 24)) := ((Kp.refl _ _).alloc _).alloc _
 exact ⟨heap_new' _ _ _ (by simp),by rw [Below.heap_alloc _ _ _ (by simp)]; exact heap_new w _,k.mono (fun x hx => by simp at hx),h.kept k (by simp) (fun x hx => by simp at hx),hb,hs,rfl,rfl,hbw,hB⟩
structure Sx (w W : World) (ao : Option Addr) (n c : Nat) (L : List Att) : Prop where
 ow : OwnK 2 W 102 (.slice ao n c) n (cs L)
 nw : ∀ k,k ∈ blk (.slice ao n c) → w.heap.size + 2 ≤ k
theorem Sx.keep {w W W' : World} {ao : Option Addr} {n c : Nat} {L : List Att} (h : Sx w W ao n c L) {S : List Nat} (k : Kp S W W') (hS : ∀ x,x ∈ S → x < w.heap.size + 2) : Sx w W' ao n c L :=
 ⟨h.ow.keep k (fun x hx hs => by have := h.nw x hx; have := hS x hs; omega),h.nw⟩
theorem rdA_len : ∀ (c : Nat) (s : St),byt s.1 → (rdA c s).2.1.length ≤ s.1.length
 | 0,s,_ => Nat.le_refl _
 | c + 1,s,hb => by
   unfold rdA
   split
   ·exact Nat.le_refl _
   ·obtain ⟨p1,p2,p3⟩ := rdT_st hb
    obtain ⟨q1,q2,q3⟩ := rdT_st p1
    have := rdA_len c _ q1
    show (rdA c (rdT (rdT s).2).2).2.1.length ≤ _
    omega
theorem rdAs_len (s : St) (hb : byt s.1) : (rdAs s).2.1.length ≤ s.1.length := by
 obtain ⟨h1,h2⟩ := rdN_st (n := 2) hb
 have := rdA_len (rdN 2 s).1.toNat _ h1
 unfold rdAs
 omega
set_option maxHeartbeats 2000000 in
theorem rop_any (w : World) (b B : Nat) (s : St) (h : Rr w b B s) (hB : B ≤ w.heap.size) (hs : s.1.length ≤ 100000) (hb : byt s.1) :
  Calls Tryz.prog 43 #[.pointer (some ⟨b,0,none⟩)] w fun e w' => ∃ p : Sl,e = .returned (ov (rdO s) p) ∧ Ao w' (rdO s,p) ∧ (∀ k,k ∈ blk (.slice p.1 p.2.1 p.2.2) → w.heap.size + 2 ≤ k) ∧ Rr w' b B (s9 s) ∧ byt (s9 s).1 ∧ (s9 s).1.length ≤ s.1.length ∧ Kp [b] w w' := by
 have S0 := so_new h hB hs hb
 obtain ⟨V,hV⟩ : ∃ V,rdO s = V := ⟨_,rfl⟩
 have HV : Hid (V = ⟨(rdN 1 s).1,(rdN 4 (s1 s)).1,(rdN 4 (s2 s)).1,(rdN 4 (s3 s)).1,(rdN 1 (s4 s)).1,(rdN 1 (s5 s)).1,(rdT (s6 s)).1,(rdAs (s7 s)).1,(rdT (s8 s)).1⟩) := (by rw [← hV]; unfold rdO; rfl : V = ⟨(rdN 1 s).1,(rdN 4 (s1 s)).1,(rdN 4 (s2 s)).1,(rdN 4 (s3 s)).1,(rdN 1 (s4 s)).1,(rdN 1 (s5 s)).1,(rdT (s6 s)).1,(rdAs (s7 s)).1,(rdT (s8 s)).1⟩)
 rw [hV]
 clear hV
 have d1 : (rdN 1 s).2 = s1 s := by unfold s1; rfl
 have d2 : (rdN 4 (s1 s)).2 = s2 s := by unfold s2; rfl
 have d3 : (rdN 4 (s2 s)).2 = s3 s := by unfold s3; rfl
 have d4 : (rdN 4 (s3 s)).2 = s4 s := by unfold s4; rfl
 have d5 : (rdN 1 (s4 s)).2 = s5 s := by unfold s5; rfl
 have d6 : (rdN 1 (s5 s)).2 = s6 s := by unfold s6; rfl
 have d7 : (rdT (s6 s)).2 = s7 s := by unfold s7; rfl
 have d8 : (rdAs (s7 s)).2 = s8 s := by unfold s8; rfl
 have d9 : (rdT (s8 s)).2 = s9 s := by unfold s9; rfl
 generalize s9 s = t9 at d9 ⊢
 generalize s8 s = t8 at d9 d8 HV
 generalize s7 s = t7 at d8 d7 HV
 generalize s6 s = t6 at d7 d6 HV
 generalize s5 s = t5 at d6 d5 HV
 generalize s4 s = t4 at d5 d4 HV
 generalize s3 s = t3 at d4 d3 HV
 generalize s2 s = t2 at d3 d2 HV
 generalize s1 s = t1 at d2 d1 HV
 have D1 : Hid ((rdN 1 s).2 = t1) := d1
 have D2 : Hid ((rdN 4 t1).2 = t2) := d2
 have D3 : Hid ((rdN 4 t2).2 = t3) := d3
 have D4 : Hid ((rdN 4 t3).2 = t4) := d4
 have D5 : Hid ((rdN 1 t4).2 = t5) := d5
 have D6 : Hid ((rdN 1 t5).2 = t6) := d6
 have D7 : Hid ((rdT t6).2 = t7) := d7
 have D8 : Hid ((rdAs t7).2 = t8) := d8
 have D9 : Hid ((rdT t8).2 = t9) := d9
 clear d1 d2 d3 d4 d5 d6 d7 d8 d9 h hb
 have S := S0
 have L0 : Hid (s.1.length ≤ s.1.length) := Nat.le_refl _
 clear S0
 simp only [z916] at S
 go_enter Tryz.func43,Tryz.ntmps43
 have C := number1 _ b B s S.rr S.ln S.bt
 have Qz := rdN_st (n := 1) S.bt
 rw [D1.out] at C Qz
 generalize (rdN 1 s).1 = x0 at HV C
 go_wp2_with fail
 refine C.mono ?_
 rintro e w1 ⟨rfl,R,k⟩
 replace S := S.call k R Qz.1 Qz.2
 have L1 : Hid (t1.1.length ≤ s.1.length) := (Nat.le_trans Qz.2 L0.out : t1.1.length ≤ s.1.length)
 clear C Qz R k
 have c0 := cell_of S.hg 0
 have f0 := frozen_of S.hg 0
 simp only [List.getElem?_toArray,List.getElem?_cons_succ,List.getElem?_cons_zero] at c0
 replace S : So w (w1.setCell ⟨w.heap.size + 1,0,none⟩ (.int .i64 x0)) b B w.heap.size (w.heap.size + 1) #[.int .i64 x0,.int .i64 0,.int .i64 0,.int .i64 0,.int .i64 0,.int .i64 0,.string ⟨#[]⟩,.slice none 0 0,.string ⟨#[]⟩] t1 := S.put 0 _
 have C := number4 _ b B t1 S.rr S.ln S.bt
 have Qz := rdN_st (n := 4) S.bt
 rw [D2.out] at C Qz
 generalize (rdN 4 t1).1 = x1 at HV C
 go_wp2_with fail
 refine C.mono ?_
 rintro e w2 ⟨rfl,R,k⟩
 replace S := S.call k R Qz.1 Qz.2
 have L2 : Hid (t2.1.length ≤ s.1.length) := (Nat.le_trans Qz.2 L1.out : t2.1.length ≤ s.1.length)
 clear C Qz R k
 clear c0 f0
 have c1 := cell_of S.hg 1
 have f1 := frozen_of S.hg 1
 simp only [List.getElem?_toArray,List.getElem?_cons_succ,List.getElem?_cons_zero] at c1
 replace S : So w (w2.setCell ⟨w.heap.size + 1,1,none⟩ (.int .i64 x1)) b B w.heap.size (w.heap.size + 1) #[.int .i64 x0,.int .i64 x1,.int .i64 0,.int .i64 0,.int .i64 0,.int .i64 0,.string ⟨#[]⟩,.slice none 0 0,.string ⟨#[]⟩] t2 := S.put 1 _
 have C := number4 _ b B t2 S.rr S.ln S.bt
 have Qz := rdN_st (n := 4) S.bt
 rw [D3.out] at C Qz
 generalize (rdN 4 t2).1 = x2 at HV C
 go_wp2_with fail
 refine C.mono ?_
 rintro e w3 ⟨rfl,R,k⟩
 replace S := S.call k R Qz.1 Qz.2
 have L3 : Hid (t3.1.length ≤ s.1.length) := (Nat.le_trans Qz.2 L2.out : t3.1.length ≤ s.1.length)
 clear C Qz R k
 clear c1 f1
 have c2 := cell_of S.hg 2
 have f2 := frozen_of S.hg 2
 simp only [List.getElem?_toArray,List.getElem?_cons_succ,List.getElem?_cons_zero] at c2
 replace S : So w (w3.setCell ⟨w.heap.size + 1,2,none⟩ (.int .i64 x2)) b B w.heap.size (w.heap.size + 1) #[.int .i64 x0,.int .i64 x1,.int .i64 x2,.int .i64 0,.int .i64 0,.int .i64 0,.string ⟨#[]⟩,.slice none 0 0,.string ⟨#[]⟩] t3 := S.put 2 _
 have C := number4 _ b B t3 S.rr S.ln S.bt
 have Qz := rdN_st (n := 4) S.bt
 rw [D4.out] at C Qz
 generalize (rdN 4 t3).1 = x3 at HV C
 go_wp2_with fail
 refine C.mono ?_
 rintro e w4 ⟨rfl,R,k⟩
 replace S := S.call k R Qz.1 Qz.2
 have L4 : Hid (t4.1.length ≤ s.1.length) := (Nat.le_trans Qz.2 L3.out : t4.1.length ≤ s.1.length)
 clear C Qz R k
 clear c2 f2
 have c3 := cell_of S.hg 3
 have f3 := frozen_of S.hg 3
 simp only [List.getElem?_toArray,List.getElem?_cons_succ,List.getElem?_cons_zero] at c3
 replace S : So w (w4.setCell ⟨w.heap.size + 1,3,none⟩ (.int .i64 x3)) b B w.heap.size (w.heap.size + 1) #[.int .i64 x0,.int .i64 x1,.int .i64 x2,.int .i64 x3,.int .i64 0,.int .i64 0,.string ⟨#[]⟩,.slice none 0 0,.string ⟨#[]⟩] t4 := S.put 3 _
 have C := number1 _ b B t4 S.rr S.ln S.bt
 have Qz := rdN_st (n := 1) S.bt
 rw [D5.out] at C Qz
 generalize (rdN 1 t4).1 = x4 at HV C
 go_wp2_with fail
 refine C.mono ?_
 rintro e w5 ⟨rfl,R,k⟩
 replace S := S.call k R Qz.1 Qz.2
 have L5 : Hid (t5.1.length ≤ s.1.length) := (Nat.le_trans Qz.2 L4.out : t5.1.length ≤ s.1.length)
 clear C Qz R k
 clear c3 f3
 have c4 := cell_of S.hg 4
 have f4 := frozen_of S.hg 4
 simp only [List.getElem?_toArray,List.getElem?_cons_succ,List.getElem?_cons_zero] at c4
 replace S : So w (w5.setCell ⟨w.heap.size + 1,4,none⟩ (.int .i64 x4)) b B w.heap.size (w.heap.size + 1) #[.int .i64 x0,.int .i64 x1,.int .i64 x2,.int .i64 x3,.int .i64 x4,.int .i64 0,.string ⟨#[]⟩,.slice none 0 0,.string ⟨#[]⟩] t5 := S.put 4 _
 have C := number1 _ b B t5 S.rr S.ln S.bt
 have Qz := rdN_st (n := 1) S.bt
 rw [D6.out] at C Qz
 generalize (rdN 1 t5).1 = x5 at HV C
 go_wp2_with fail
 refine C.mono ?_
 rintro e w6 ⟨rfl,R,k⟩
 replace S := S.call k R Qz.1 Qz.2
 have L6 : Hid (t6.1.length ≤ s.1.length) := (Nat.le_trans Qz.2 L5.out : t6.1.length ≤ s.1.length)
 clear C Qz R k
 clear c4 f4
 have c5 := cell_of S.hg 5
 have f5 := frozen_of S.hg 5
 simp only [List.getElem?_toArray,List.getElem?_cons_succ,List.getElem?_cons_zero] at c5
 replace S : So w (w6.setCell ⟨w.heap.size + 1,5,none⟩ (.int .i64 x5)) b B w.heap.size (w.heap.size + 1) #[.int .i64 x0,.int .i64 x1,.int .i64 x2,.int .i64 x3,.int .i64 x4,.int .i64 x5,.string ⟨#[]⟩,.slice none 0 0,.string ⟨#[]⟩] t6 := S.put 5 _
 have C := rtext_any16 _ b B t6 S.rr S.ln S.bt
 have Q0 := rdT_st S.bt
 have Qz := (⟨Q0.1,Q0.2.1⟩ : byt (rdT t6).2.1 ∧ (rdT t6).2.1.length ≤ t6.1.length)
 clear Q0
 rw [D7.out] at C Qz
 generalize (rdT t6).1 = x6 at HV C
 go_wp2_with fail
 refine C.mono ?_
 rintro e w7 ⟨rfl,R,k⟩
 replace S := S.call k R Qz.1 Qz.2
 have L7 : Hid (t7.1.length ≤ s.1.length) := (Nat.le_trans Qz.2 L6.out : t7.1.length ≤ s.1.length)
 clear C Qz R k
 clear c5 f5
 have c6 := cell_of S.hg 6
 have f6 := frozen_of S.hg 6
 simp only [List.getElem?_toArray,List.getElem?_cons_succ,List.getElem?_cons_zero] at c6
 replace S : So w (w7.setCell ⟨w.heap.size + 1,6,none⟩ (.string x6)) b B w.heap.size (w.heap.size + 1) #[.int .i64 x0,.int .i64 x1,.int .i64 x2,.int .i64 x3,.int .i64 x4,.int .i64 x5,.string x6,.slice none 0 0,.string ⟨#[]⟩] t7 := S.put 6 _
 have C := attrs_any _ b B t7 S.rr (Nat.le_trans S.Bs S.kp.size) S.ln S.bt
 have Qz : Hid ((rdAs t7).2.1.length ≤ t7.1.length) := rdAs_len t7 S.bt
 rw [D8.out] at C Qz
 generalize (rdAs t7).1 = x7 at HV C
 go_wp2_with fail
 refine C.mono ?_
 rintro e w8 ⟨ao,n,c,rfl,SA⟩
 have X : Sx w w8 ao n c x7 := ⟨SA.ow,fun z hz => by have := SA.nw z hz; have h1 := lt_of S.hg; have h2 := S.gs; omega⟩
 have hn7 := SA.len
 replace S := S.call SA.kp SA.rr SA.bt Qz.out
 have L8 : Hid (t8.1.length ≤ s.1.length) := (Nat.le_trans Qz.out L7.out : t8.1.length ≤ s.1.length)
 have HN7 : Hid (n = x7.length) := hn7
 clear C Qz SA hn7
 clear c6 f6
 have c7 := cell_of S.hg 7
 have f7 := frozen_of S.hg 7
 simp only [List.getElem?_toArray,List.getElem?_cons_succ,List.getElem?_cons_zero] at c7
 replace X := X.keep (S := [w.heap.size + 1]) ((Kp.refl _ _).setCell (p := ⟨w.heap.size + 1,7,none⟩) (Or.inl (by simp)) (.slice ao n c)) (fun z hz => by simp at hz; omega)
 replace S : So w (w8.setCell ⟨w.heap.size + 1,7,none⟩ (.slice ao n c)) b B w.heap.size (w.heap.size + 1) #[.int .i64 x0,.int .i64 x1,.int .i64 x2,.int .i64 x3,.int .i64 x4,.int .i64 x5,.string x6,.slice ao n c,.string ⟨#[]⟩] t8 := S.put 7 _
 have C := rtext_any16 _ b B t8 S.rr S.ln S.bt
 have Q0 := rdT_st S.bt
 have Qz := (⟨Q0.1,Q0.2.1⟩ : byt (rdT t8).2.1 ∧ (rdT t8).2.1.length ≤ t8.1.length)
 clear Q0
 rw [D9.out] at C Qz
 generalize (rdT t8).1 = x8 at HV C
 go_wp2_with fail
 refine C.mono ?_
 rintro e w9 ⟨rfl,R,k⟩
 replace X := X.keep k (fun z hz => by have := S.bs; simp at hz; omega)
 replace S := S.call k R Qz.1 Qz.2
 have L9 : Hid (t9.1.length ≤ s.1.length) := (Nat.le_trans Qz.2 L8.out : t9.1.length ≤ s.1.length)
 clear C Qz R k
 clear c7 f7
 have c8 := cell_of S.hg 8
 have f8 := frozen_of S.hg 8
 simp only [List.getElem?_toArray,List.getElem?_cons_succ,List.getElem?_cons_zero] at c8
 replace S : So w (w9.setCell ⟨w.heap.size + 1,8,none⟩ (.string x8)) b B w.heap.size (w.heap.size + 1) #[.int .i64 x0,.int .i64 x1,.int .i64 x2,.int .i64 x3,.int .i64 x4,.int .i64 x5,.string x6,.slice ao n c,.string x8] t9 := S.put 8 _
 replace X := X.keep (S := [w.heap.size + 1]) ((Kp.refl _ _).setCell (p := ⟨w.heap.size + 1,8,none⟩) (Or.inl (by simp)) (.string x8)) (fun z hz => by simp at hz; omega)
 go_upto_region 11 with fail
 clear c8 f8
 generalize w9.setCell ⟨w.heap.size + 1,8,none⟩ (.string x8) = W9 at S X ⊢
 have e0 := cell_of S.hg 0
 have e1 := cell_of S.hg 1
 have e2 := cell_of S.hg 2
 have e3 := cell_of S.hg 3
 have e4 := cell_of S.hg 4
 have e5 := cell_of S.hg 5
 have e6 := cell_of S.hg 6
 have e7 := cell_of S.hg 7
 have e8 := cell_of S.hg 8
 have hr := S.hr
 simp only [z916] at hr
 have z0 := cell_of hr 0
 have z1 := cell_of hr 1
 have z2 := cell_of hr 2
 have z3 := cell_of hr 3
 have z4 := cell_of hr 4
 have z5 := cell_of hr 5
 have z6 := cell_of hr 6
 have z7 := cell_of hr 7
 have z8 := cell_of hr 8
 have fz := fun i => frozen_of hr i
 simp only [List.getElem?_toArray,List.getElem?_cons_succ,List.getElem?_cons_zero] at e0 e1 e2 e3 e4 e5 e6 e7 e8 z0 z1 z2 z3 z4 z5 z6 z7 z8
 have D := at9 hr (.int .i64 x0) (.int .i64 x1) (.int .i64 x2) (.int .i64 x3) (.int .i64 x4) (.int .i64 x5) (.string x6) (.slice ao n c) (.string x8)
 have kr : Kp [w.heap.size] W9 (put916 W9 w.heap.size (.int .i64 x0) (.int .i64 x1) (.int .i64 x2) (.int .i64 x3) (.int .i64 x4) (.int .i64 x5) (.string x6) (.slice ao n c) (.string x8)) := (Kp.refl _ _).put916 (Or.inl (by simp)) _ _ _ _ _ _ _ _ _
 have kz : Kp [b] w (put916 W9 w.heap.size (.int .i64 x0) (.int .i64 x1) (.int .i64 x2) (.int .i64 x3) (.int .i64 x4) (.int .i64 x5) (.string x6) (.slice ao n c) (.string x8)) := S.kp.put916 (Or.inr (Nat.le_refl _)) _ _ _ _ _ _ _ _ _
 have RZ := S.rr.kept kr (by have := S.bs; simp; omega) (fun z hz => by have := S.Bs; simp at hz; omega)
 have XZ := X.keep kr (fun z hz => by simp at hz; omega)
 have hbt := S.bt
 have HZ : Hid (Nine (put916 W9 w.heap.size (.int .i64 x0) (.int .i64 x1) (.int .i64 x2) (.int .i64 x3) (.int .i64 x4) (.int .i64 x5) (.string x6) (.slice ao n c) (.string x8)) w.heap.size 0 V (ao,n,c) ∧ Ao (put916 W9 w.heap.size (.int .i64 x0) (.int .i64 x1) (.int .i64 x2) (.int .i64 x3) (.int .i64 x4) (.int .i64 x5) (.string x6) (.slice ao n c) (.string x8)) (V,ao,n,c) ∧ (∀ k,k ∈ blk (.slice ao n c) → w.heap.size + 2 ≤ k) ∧ Rr (put916 W9 w.heap.size (.int .i64 x0) (.int .i64 x1) (.int .i64 x2) (.int .i64 x3) (.int .i64 x4) (.int .i64 x5) (.string x6) (.slice ao n c) (.string x8)) b B t9 ∧ byt t9.1 ∧ t9.1.length ≤ s.1.length ∧ Kp [b] w (put916 W9 w.heap.size (.int .i64 x0) (.int .i64 x1) (.int .i64 x2) (.int .i64 x3) (.int .i64 x4) (.int .i64 x5) (.string x6) (.slice ao n c) (.string x8))) := ⟨by rw [HV.out]; exact nine_of D,by unfold Ao; rw [HV.out]; exact XZ.ow,X.nw,RZ,hbt,L9.out,kz⟩
 clear D kr kz RZ XZ hbt S X hr
 unfold put916 at HZ
 go_wp2
 obtain ⟨⟨n0,n1,n2,n3,n4,n5,n6,n7,n8⟩,HZ2⟩ := HZ.out
 simp only [Nat.zero_add] at n0 n1 n2 n3 n4 n5 n6 n7 n8
 rw [HV.out] at n0 n1 n2 n3 n4 n5 n6 n8
 simp only at n0 n1 n2 n3 n4 n5 n6 n8
 refine bodyPost_ret (v := .agg #[.int .i64 x0,.int .i64 x1,.int .i64 x2,.int .i64 x3,.int .i64 x4,.int .i64 x5,.string x6,.slice ao n c,.string x8]) (by simp [results,go_sem,n0,n1,n2,n3,n4,n5,n6,n7,n8]) rfl ⟨(ao,n,c),?_,HZ2⟩
 rw [HV.out]
 rfl
end Go.Proofs.YtpkppobkagdhkaaGreat
