/-
 Rpg.
-/
import Derived.Test.YtpkppobkagdhkaaGreatB45
set_option linter.unusedVariables false
set_option linter.unusedSimpArgs false
set_option maxRecDepth 100000
set_option maxHeartbeats 1000000
namespace Go.Proofs.YtpkppobkagdhkaaGreat
open Go.RowKit Go.Maps Utf
section
variable {tag tag' : Nat → Nat} {w w' : World} {b d k g : Nat} {l1 l2 : Sl} {s : Py} {o : Ot} {p : Sl} {q : Bool} {A : Ar}
theorem Pd.grows {W : World} (h : Pd tag W b d l1 l2 s k) (h0 : tag g = 0) {x : Int} (hg : W.cell? ⟨g,1,none⟩ = some (.int .i64 x)) (n j : Nat) (f : (Py.mk s.A s.q (s.M ++ [(x,n)])).Fit j) :
  Hid (Sg W W b g d l1 l2 (.slice l1.1 l1.2.1 l1.2.2) (.slice l2.1 l2.2.1 l2.2.2) (hha s.M) (hnu s.M) x) ∧
  Hid (∀ U a1 m1 c1 a2 m2 c2,Sg W U b g d l1 l2 (.slice a1 m1 c1) (.slice a2 m2 c2) (hha s.M ++ [.int .i64 x]) (hnu s.M ++ [.int .i64 (n : Int)]) x → (U.frozen? ⟨b,1,none⟩ = false ∧ U.frozen? ⟨b,2,none⟩ = false) ∧ ∃ tag' e1 e2,Pd tag' ((U.setCell ⟨b,1,none⟩ (.slice a1 m1 c1)).setCell ⟨b,2,none⟩ (.slice a2 m2 c2)) b d e1 e2 ⟨s.A,s.q,s.M ++ [(x,n)]⟩ j ∧ Qv tag W tag' ((U.setCell ⟨b,1,none⟩ (.slice a1 m1 c1)).setCell ⟨b,2,none⟩ (.slice a2 m2 c2))) ∧
  Hid ((hha s.M).length ≤ 5000 ∧ (hnu s.M).length ≤ 5000) := by
 refine ⟨h.sg h0 hg,fun U a1 m1 c1 a2 m2 c2 S => ⟨⟨S.hb.free 1,S.hb.free 2⟩,S.fin h f⟩,?_⟩
 have := h.fit.len
 have := h.fit.hk
 rw [hha_len,hnu_len]
 exact ⟨by omega,by omega⟩
set_option maxHeartbeats 4000000 in
theorem rdo_ok9 (h : Pd tag w b d l1 l2 s k) (hk : k < 1300) (ho : tinyO o) (hr : R0 tag w p o.al) (hq : rightO o = true) (hkd : o.kd = 9) (hno : s.kn o.nd = false) (hall : (askF o).all s.kn = true) (hp : s.kn o.pa = true) (hr3 : s.kn o.rf = true) :
  Calls Tryz.prog 31 #[.pointer (some ⟨b,0,none⟩),ov o p] w fun e w' => e = .returned (.int .i64 (s.perF o (s.nz o.nd) (s.nz o.pa) (s.nz o.rf)).2) ∧ Rn tag w b d k (s.perF o (s.nz o.nd) (s.nz o.pa) (s.nz o.rf)).1 w' := by
 obtain ⟨tag1,W1,g,hg,HW,X,v1⟩ := Dx.open (o := o) h hr
 obtain ⟨HR,HN,HO,HA,HC⟩ := X.asks ho hq
 obtain ⟨f0,f1,f2,f3,f4,f5,f6,f7,f8⟩ := nine_at X.bx
 have hL3 := askF_len o
 have HK : Hid (∀ V,Kp [] W1 V → Dx tag1 V b d l1 l2 s k g o p ∧ Qv tag w tag1 V) := fun V kV => ⟨X.kept kV,v1.trans (Qv.of_kp0 kV)⟩
 obtain ⟨hb1,hb2,hb3⟩ := h.fit.bnd
 have ful := h.fit.ful
 have hrf := h.fit.nz_lt o.rf
 have hf := h.fit.perF hk ho (s.nz o.nd) (s.nz o.pa) (s.nz o.rf)
 clear h hr X v1 hq
 obtain ⟨n1,hn1⟩ : ∃ n,s.nz o.nd = n := ⟨_,rfl⟩
 obtain ⟨n2,hn2⟩ : ∃ n,s.nz o.pa = n := ⟨_,rfl⟩
 obtain ⟨n3,hn3⟩ : ∃ n,s.nz o.rf = n := ⟨_,rfl⟩
 rw [hn1,hn2,hn3] at hf ⊢
 rw [hn3] at hrf
 have hn1 : Hid (s.nz o.nd = n1) := hn1
 have hn2 : Hid (s.nz o.pa = n2) := hn2
 have hn3 : Hid (s.nz o.rf = n3) := hn3
 have eP : s.perF o n1 n2 n3 = s.entF o.nd n3 := by unfold Py.perF; rw [if_neg (by rw [hkd]; decide),if_neg (by rw [hkd]; decide),if_neg (by rw [hkd]; decide),if_neg (by rw [hkd]; decide),if_neg (by rw [hkd]; decide),if_neg (by rw [hkd]; decide),if_neg (by rw [hkd]; decide),if_neg (by rw [hkd]; decide),if_pos hkd]
 rw [eP] at hf
 have HE : Hid _ := eP
 clear eP
 unfold ov at HR HA ⊢
 rw [hkd] at HW HR HA f0 ⊢
 go_enter Tryz.func31,Tryz.ntmps31
 go_upto_region 1 with fail
 rw [HW.out]
 clear HW
 go_wp2_with (first | (go_at_call 48; refine HR.mono ?_; rintro e W2 ⟨rfl,k2⟩; obtain ⟨f0,f1,f2,f3,f4,f5,f6,f7,f8⟩ := HC.out _ k2; rw [hkd] at f0) | (go_at_call 49; refine same_of (HO.out _ k2 _ hno) ?_) | (go_at_call 50; refine (HA.out _).mono ?_; rintro e W3 ⟨ao,c,rfl,rb,k3⟩))
 have k13 : Kp [] W1 W3 := k2.trans k3 (fun x hx => Or.inl hx)
 clear HA HR k3 f0 f1 f2 f3 f4 f5 f6 f7 f8
 generalize askF o = L at *
 go_loopw [6] (fun v wr => ∃ i : Nat,v = .int .i64 (i : Int) ∧ i ≤ L.length ∧ wr = W3) (fun v _ => L.length - (intOf v).toNat)
 case atStart => exact ⟨0,rfl,Nat.zero_le _,rfl⟩
 case round =>
  obtain ⟨i,rfl,hi,rfl⟩ := hrel
  by_cases hlt : i < L.length
  ·obtain ⟨b7,o7,rfl,f9⟩ := iz_cell rb hlt
   have j0 : (0 : Int) ≤ (i : Int) := by omega
   have j1 : (i : Int) < (L.length : Int) := by omega
   have HN1 := HN.out _ k13 L[i] (List.all_eq_true.1 hall _ (List.getElem_mem hlt))
   have t1 : decide (((s.nz L[i] : Nat) : Int) < 0) = false := decide_eq_false (by omega)
   clear rb HO HN HC HK hf ful hb1 hb2 hb3 hall
   generalize L[i] = y at *
   go_wp2_with (go_at_call 49; refine same_of (HN1) ?_)
   go_roundw
   case rel => exact ⟨i + 1,by go_num,by omega,by trivial⟩
   case measure => simp [intOf]; omega
  ·obtain rfl : i = L.length := by omega
   obtain ⟨U5,hU5⟩ : ∃ V,V = wr.drew := ⟨_,rfl⟩
   have k5 : Kp [] W1 U5 := by rw [hU5]; exact k13.drew
   have HN1 := HO.out _ k5 o.nd hno
   have HN2 := HN.out _ k5 o.pa hp
   have HN3 := HN.out _ k5 o.rf hr3
   rw [hn2.out] at HN2
   rw [hn3.out] at HN3
   clear rb HO HN hall hlt hi
   go_upto_region 11 with fail
   refine wp_region_g (S := fun V => Nine V g 0 o p) (T := []) (by kernel_rfl) (HC.out _ k13.drew) (fun hHeld => ?_)
   rw [← hU5] at hHeld ⊢
   clear hU5
   refine g_pure 0 (some 46) (.move (.tmp 0)) ?_
   refine g_pure 1 (some 47) (.fieldAddr 24 (.tmp 3) 1) ?_
   refine g_take 2 (some 48) (.load 3 (.tmp 47)) (by intro w hSw; (obtain ⟨q0,q1,q2,q3,q4,q5,q6,q7,q8⟩ := hSw); go_simp; try with_reducible rfl) ?_
   refine g_pure 4 (some 50) (.move (.tmp 0)) ?_
   refine g_pure 5 (some 51) (.fieldAddr 24 (.tmp 3) 2) ?_
   refine g_take 6 (some 52) (.load 3 (.tmp 51)) (by intro w hSw; (obtain ⟨q0,q1,q2,q3,q4,q5,q6,q7,q8⟩ := hSw); go_simp; try with_reducible rfl) ?_
   refine g_pure 8 (some 54) (.move (.tmp 0)) ?_
   refine g_pure 9 (some 55) (.fieldAddr 24 (.tmp 3) 3) ?_
   refine g_take 10 (some 56) (.load 3 (.tmp 55)) (by intro w hSw; (obtain ⟨q0,q1,q2,q3,q4,q5,q6,q7,q8⟩ := hSw); go_simp; try with_reducible rfl) ?_
   refine wpAnyG_ready (rs := [3]) (by kernel_rfl) (by simp) ?_
   refine AllReadyG.cons (o := ⟨some 49,.call { callee := .value (.func 49),args := #[.tmp 46,.tmp 48],argTypes := #[71,3] },3,_,_,none⟩) rfl (fun K hK => ?_) AllReadyG.nil
   go_simp
   go_at_call 49
   refine (HN1).mono ?_
   rintro e w9 ⟨rfl,hw⟩
   have hw2 := hw.symm
   clear hw
   subst hw2
   go_wp2_with fail
   refine hK.out _ _ (HC.out _ k5) (fun hHeld1 => ?_)
   clear hK K hHeld
   try simp only [Act.put,pu1,pu2,pu3]
   refine wpAnyG_ready (rs := [7]) (by kernel_rfl) (by simp) ?_
   refine AllReadyG.cons (o := ⟨some 53,.call { callee := .value (.func 49),args := #[.tmp 50,.tmp 52],argTypes := #[71,3] },3,_,_,none⟩) rfl (fun K hK => ?_) AllReadyG.nil
   go_simp
   go_at_call 49
   refine (HN2).mono ?_
   rintro e w9 ⟨rfl,hw⟩
   have hw2 := hw.symm
   clear hw
   subst hw2
   go_wp2_with fail
   refine hK.out _ _ (HC.out _ k5) (fun hHeld2 => ?_)
   clear hK K hHeld1
   try simp only [Act.put,pu1,pu2,pu3]
   refine wpAnyG_ready (rs := [11]) (by kernel_rfl) (by simp) ?_
   refine AllReadyG.cons (o := ⟨some 57,.call { callee := .value (.func 49),args := #[.tmp 54,.tmp 56],argTypes := #[71,3] },3,_,_,none⟩) rfl (fun K hK => ?_) AllReadyG.nil
   go_simp
   go_at_call 49
   refine (HN3).mono ?_
   rintro e w9 ⟨rfl,hw⟩
   have hw2 := hw.symm
   clear hw
   subst hw2
   go_wp2_with fail
   refine hK.out _ _ (HC.out _ k5) (fun hHeld3 => ?_)
   clear hK K hHeld2
   try simp only [Act.put,pu1,pu2,pu3]
   refine g_pure 12 (some 7) (.assign (.tmp 49)) ?_
   refine g_pure 13 (some 8) (.assign (.tmp 53)) ?_
   refine g_pure 14 (some 9) (.assign (.tmp 57)) ?_
   refine wpAnyG_free (by kernel_rfl) ?_
   refine wpAny_done (by kernel_rfl) ?_ _
   clear hHeld3
   clear HN1 HN2 HN3
   obtain ⟨X5,v5⟩ := HK.out _ k5
   have f0 := (HC.out _ k5).1
   clear HK k13 k2
   rw [hkd] at f0
   have c0 := X5.pp.head.1
   have HC9 := rcon_any X5.pp.dn ful (by omega) (n3 : Int)
   unfold Py.entF at hf HE
   have hrc : s.A.rconF (n3 : Int) = (if (s.A.conF (n3 : Int)).2 = true then (s.A.conF (n3 : Int)).1 else -1) := by
    unfold Ar.rconF Ar.conF
    split <;> rfl
   cases hc : (s.A.conF (n3 : Int)).2 with
   | false =>
     rw [hc] at hrc HE
     rw [if_neg (by simp)] at hrc
     have HE : Hid (s.perF o n1 n2 n3 = (s,23)) := by rw [HE.out,if_neg (by simp)]; exact rfl
     rw [hrc] at HC9
     have H9 : Hid (∀ V,Kp [] U5 V → Rn tag w b d k s V) := fun V kV => ⟨tag1,l1,l2,(X5.pp.kept kV).up hk,v5.trans (Qv.of_kp0 kV)⟩
     clear X5 v5 HC hf hrc hc
     go_wp2_with (go_at_call 52; refine HC9.mono ?_; rintro e W9 ⟨rfl,k9⟩)
     go_ret
     rw [HE.out]
     exact ⟨rfl,H9.out _ k9⟩
   | true =>
     obtain ⟨z,e1,e2⟩ := Ar.conF_lt ful hc
     rw [hc,if_pos rfl,e1] at hrc
     rw [hc,if_pos rfl,e1,Int.toNat_natCast] at hf
     have HE : Hid (s.perF o n1 n2 n3 = (⟨s.A,s.q,s.M ++ [(o.nd,z)]⟩,0)) := by rw [HE.out,if_pos hc,e1]; exact rfl
     rw [hrc] at HC9
     have t1 : decide (((z : Nat) : Int) < 0) = false := decide_eq_false (by omega)
     have HX : Hid (∀ V,Kp [] U5 V → Dx tag1 V b d l1 l2 s k g o p ∧ Qv tag w tag1 V) := fun V kV => ⟨X5.kept kV,v5.trans (Qv.of_kp0 kV)⟩
     clear X5 v5 HC hrc hc e1
     go_upto_region 23 with (go_at_call 52; refine HC9.mono ?_; rintro e W9 ⟨rfl,k9⟩; have c0 := (HX.out _ k9).1.pp.head.1)
     obtain ⟨U6,hU6⟩ : ∃ V,V = W9.drew := ⟨_,rfl⟩
     obtain ⟨X6,v6⟩ := HX.out U6 (by rw [hU6]; exact k9.drew)
     obtain ⟨S0,HZ,HL⟩ := X6.pp.grows X6.t0 (nine_at X6.bx).2.1 z (k + 1) hf
     have S0 := S0.out
     have H9 : Hid (∀ V,(∃ tag' e1 e2,Pd tag' V b d e1 e2 ⟨s.A,s.q,s.M ++ [(o.nd,z)]⟩ (k + 1) ∧ Qv tag1 U6 tag' V) → Rn tag w b d k ⟨s.A,s.q,s.M ++ [(o.nd,z)]⟩ V) := fun V ⟨tag',e1,e2,P,v⟩ => ⟨tag',e1,e2,P,v6.trans v⟩
     clear X6 v6 HX HC9 k9 c0 f0
     refine wp_region_g (S := fun V => V.cell? ⟨b,1,none⟩ = some (.slice l1.1 l1.2.1 l1.2.2) ∧ V.cell? ⟨b,2,none⟩ = some (.slice l2.1 l2.2.1 l2.2.2) ∧ V.cell? ⟨g,1,none⟩ = some (.int .i64 o.nd)) (T := [19,20,21,22]) (by kernel_rfl) (by rw [← hU6]; exact S0.reads) (fun hHeld => ?_)
     rw [← hU6] at hHeld ⊢
     clear hU6
     refine g_pure 0 (some 114) (.move (.tmp 0)) ?_
     refine g_pure 1 (some 115) (.move (.tmp 0)) ?_
     refine g_pure 2 (some 116) (.move (.tmp 0)) ?_
     refine g_pure 3 (some 117) (.nilCheck (.tmp 116)) ?_
     refine g_pure 4 (some 118) (.fieldAddr 104 (.tmp 117) 1) ?_
     refine g_take 5 (some 119) (.load 61 (.tmp 118)) (by intro w hSw; (obtain ⟨q1,q2,q3⟩ := hSw); go_simp; try with_reducible rfl) ?_
     refine g_pure 6 (some 120) (.fieldAddr 24 (.tmp 3) 1) ?_
     refine g_take 7 (some 121) (.load 3 (.tmp 120)) (by intro w hSw; (obtain ⟨q1,q2,q3⟩ := hSw); go_simp; try with_reducible rfl) ?_
     refine g_pure 10 (some 124) (.move (.tmp 0)) ?_
     refine g_pure 11 (some 125) (.nilCheck (.tmp 124)) ?_
     refine g_pure 12 (some 126) (.fieldAddr 104 (.tmp 125) 2) ?_
     refine g_take 13 (some 127) (.load 61 (.tmp 126)) (by intro w hSw; (obtain ⟨q1,q2,q3⟩ := hSw); go_simp; try with_reducible rfl) ?_
     refine g_pure 14 (some 128) (.move (.tmp 12)) ?_
     refine wpAnyG_ready (rs := [8,15]) (by kernel_rfl) (by simp) ?_
     refine AllReadyG.cons (o := ⟨some 122,.buildSlice 61 1 #[(0,.tmp 121)],61,_,_,none⟩) rfl (fun K hK => ?_) ?_
     ·obtain ⟨S1,L1,e1⟩ := S0.lit o.nd
      obtain ⟨V1,hV⟩ : ∃ W,W = World.alloc U6 (.cells #[.int .i64 o.nd] 3) := ⟨_,rfl⟩
      rw [← hV] at S1 L1
      go_simp
      rw [← hV]
      clear hV e1
      refine hK.out _ _ S1.reads (fun hHeld1 => ?_)
      clear hK K hHeld
      try simp only [Act.put,pu1,pu2,pu3]
      refine wpAnyG_ready (rs := [9,15]) (by kernel_rfl) (by simp) ?_
      refine AllReadyG.cons (o := ⟨some 123,.call { callee := .builtin .append,args := #[.tmp 119,.tmp 122],argTypes := #[61,61] },61,_,_,none⟩) rfl (fun K hK => ?_) ?_
      ·obtain ⟨a1,m1,c1,W2x,hrun1,S2,LL⟩ := S1.app1 L1 HL.out.1
       clear LL
       refine step_appR (by rfl) _ _ 61 (by rfl) _ _ (by rfl) (by rfl) hrun1 ?_
       refine hK.out _ _ S2.reads (fun hHeld2 => ?_)
       clear hK K hHeld1
       try simp only [Act.put,pu1,pu2,pu3]
       refine wpAnyG_ready (rs := [15]) (by kernel_rfl) (by simp) ?_
       refine AllReadyG.cons (o := ⟨some 129,.buildSlice 61 1 #[(0,.tmp 128)],61,_,_,none⟩) rfl (fun K hK => ?_) AllReadyG.nil
       obtain ⟨S3,L2,e3⟩ := S2.lit (z : Int)
       obtain ⟨V3,hV⟩ : ∃ W,W = World.alloc W2x (.cells #[.int .i64 (z : Int)] 3) := ⟨_,rfl⟩
       rw [← hV] at S3 L2
       go_simp
       rw [← hV]
       clear hV e3
       refine hK.out _ _ S3.reads (fun hHeld3 => ?_)
       clear hK K hHeld2
       try simp only [Act.put,pu1,pu2,pu3]
       refine wpAnyG_ready (rs := [16]) (by kernel_rfl) (by simp) ?_
       refine AllReadyG.cons (o := ⟨some 130,.call { callee := .builtin .append,args := #[.tmp 127,.tmp 129],argTypes := #[61,61] },61,_,_,none⟩) rfl (fun K hK => ?_) AllReadyG.nil
       obtain ⟨a2,m2,c2,W4x,hrun2,S4⟩ := S3.app2 L2 HL.out.2
       refine step_appR (by rfl) _ _ 61 (by rfl) _ _ (by rfl) (by rfl) hrun2 ?_
       refine hK.out _ _ S4.reads (fun hHeld4 => ?_)
       clear hK K hHeld3
       try simp only [Act.put,pu1,pu2,pu3]
       refine g_pure 17 (some 131) (.nilCheck (.tmp 114)) ?_
       refine g_pure 18 (some 132) (.fieldAddr 104 (.tmp 131) 1) ?_
       refine wpAnyG_free (by kernel_rfl) ?_
       refine wpAny_ready (rs := [19]) (by kernel_rfl) (by simp) ?_
       refine AllReady.cons (o := ⟨none,.store 61 (.tmp 132) (.tmp 123),0,_,_,none⟩) rfl (fun K hK => ?_) AllReady.nil
       obtain ⟨⟨fr1,fr2⟩,Z9⟩ := HZ.out _ _ _ _ _ _ _ S4
       have Z9 : Hid _ := Z9
       obtain ⟨q1,q2,q3⟩ := S4.reads
       go_simp
       refine hK _ _ ?_
       clear hK K
       try simp only [Act.put,pu1,pu2,pu3]
       refine g_any 20 (some 133) (.nilCheck (.tmp 115)) ?_
       refine g_any 21 (some 134) (.fieldAddr 104 (.tmp 133) 2) ?_
       refine wpAny_ready (rs := [22]) (by kernel_rfl) (by simp) ?_
       refine AllReady.cons (o := ⟨none,.store 61 (.tmp 134) (.tmp 130),0,_,_,none⟩) rfl (fun K hK => ?_) AllReady.nil
       go_simp
       refine hK _ _ ?_
       clear hK K
       try simp only [Act.put,pu1,pu2,pu3]
       refine wpAny_done (by kernel_rfl) ?_ _
       go_wp2
       go_ret
       rw [HE.out]
       exact ⟨rfl,H9.out _ Z9.out⟩
      refine AllReadyG.cons (o := ⟨some 129,.buildSlice 61 1 #[(0,.tmp 128)],61,_,_,none⟩) rfl (fun K hK => ?_) AllReadyG.nil
      obtain ⟨S2,L2,e2⟩ := S1.lit (z : Int)
      have L1 := L1.kept e2
      obtain ⟨V2,hV⟩ : ∃ W,W = World.alloc V1 (.cells #[.int .i64 (z : Int)] 3) := ⟨_,rfl⟩
      rw [← hV] at S2 L1 L2
      go_simp
      rw [← hV]
      clear hV e2
      refine hK.out _ _ S2.reads (fun hHeld2 => ?_)
      clear hK K hHeld1
      try simp only [Act.put,pu1,pu2,pu3]
      refine wpAnyG_ready (rs := [9]) (by kernel_rfl) (by simp) ?_
      refine AllReadyG.cons (o := ⟨some 123,.call { callee := .builtin .append,args := #[.tmp 119,.tmp 122],argTypes := #[61,61] },61,_,_,none⟩) rfl (fun K hK => ?_) AllReadyG.nil
      obtain ⟨a1,m1,c1,W3x,hrun1,S3,LL⟩ := S2.app1 L1 HL.out.1
      have L2 := LL _ _ L2
      clear LL
      refine step_appR (by rfl) _ _ 61 (by rfl) _ _ (by rfl) (by rfl) hrun1 ?_
      refine hK.out _ _ S3.reads (fun hHeld3 => ?_)
      clear hK K hHeld2
      try simp only [Act.put,pu1,pu2,pu3]
      refine wpAnyG_ready (rs := [16]) (by kernel_rfl) (by simp) ?_
      refine AllReadyG.cons (o := ⟨some 130,.call { callee := .builtin .append,args := #[.tmp 127,.tmp 129],argTypes := #[61,61] },61,_,_,none⟩) rfl (fun K hK => ?_) AllReadyG.nil
      obtain ⟨a2,m2,c2,W4x,hrun2,S4⟩ := S3.app2 L2 HL.out.2
      refine step_appR (by rfl) _ _ 61 (by rfl) _ _ (by rfl) (by rfl) hrun2 ?_
      refine hK.out _ _ S4.reads (fun hHeld4 => ?_)
      clear hK K hHeld3
      try simp only [Act.put,pu1,pu2,pu3]
      refine g_pure 17 (some 131) (.nilCheck (.tmp 114)) ?_
      refine g_pure 18 (some 132) (.fieldAddr 104 (.tmp 131) 1) ?_
      refine wpAnyG_free (by kernel_rfl) ?_
      refine wpAny_ready (rs := [19]) (by kernel_rfl) (by simp) ?_
      refine AllReady.cons (o := ⟨none,.store 61 (.tmp 132) (.tmp 123),0,_,_,none⟩) rfl (fun K hK => ?_) AllReady.nil
      obtain ⟨⟨fr1,fr2⟩,Z9⟩ := HZ.out _ _ _ _ _ _ _ S4
      have Z9 : Hid _ := Z9
      obtain ⟨q1,q2,q3⟩ := S4.reads
      go_simp
      refine hK _ _ ?_
      clear hK K
      try simp only [Act.put,pu1,pu2,pu3]
      refine g_any 20 (some 133) (.nilCheck (.tmp 115)) ?_
      refine g_any 21 (some 134) (.fieldAddr 104 (.tmp 133) 2) ?_
      refine wpAny_ready (rs := [22]) (by kernel_rfl) (by simp) ?_
      refine AllReady.cons (o := ⟨none,.store 61 (.tmp 134) (.tmp 130),0,_,_,none⟩) rfl (fun K hK => ?_) AllReady.nil
      go_simp
      refine hK _ _ ?_
      clear hK K
      try simp only [Act.put,pu1,pu2,pu3]
      refine wpAny_done (by kernel_rfl) ?_ _
      go_wp2
      go_ret
      rw [HE.out]
      exact ⟨rfl,H9.out _ Z9.out⟩
     refine AllReadyG.cons (o := ⟨some 129,.buildSlice 61 1 #[(0,.tmp 128)],61,_,_,none⟩) rfl (fun K hK => ?_) AllReadyG.nil
     obtain ⟨S1,L2,e1⟩ := S0.lit (z : Int)
     obtain ⟨V1,hV⟩ : ∃ W,W = World.alloc U6 (.cells #[.int .i64 (z : Int)] 3) := ⟨_,rfl⟩
     rw [← hV] at S1 L2
     go_simp
     rw [← hV]
     clear hV e1
     refine hK.out _ _ S1.reads (fun hHeld1 => ?_)
     clear hK K hHeld
     try simp only [Act.put,pu1,pu2,pu3]
     refine wpAnyG_ready (rs := [8]) (by kernel_rfl) (by simp) ?_
     refine AllReadyG.cons (o := ⟨some 122,.buildSlice 61 1 #[(0,.tmp 121)],61,_,_,none⟩) rfl (fun K hK => ?_) AllReadyG.nil
     obtain ⟨S2,L1,e2⟩ := S1.lit o.nd
     have L2 := L2.kept e2
     obtain ⟨V2,hV⟩ : ∃ W,W = World.alloc V1 (.cells #[.int .i64 o.nd] 3) := ⟨_,rfl⟩
     rw [← hV] at S2 L1 L2
     go_simp
     rw [← hV]
     clear hV e2
     refine hK.out _ _ S2.reads (fun hHeld2 => ?_)
     clear hK K hHeld1
     try simp only [Act.put,pu1,pu2,pu3]
     refine wpAnyG_ready (rs := [9]) (by kernel_rfl) (by simp) ?_
     refine AllReadyG.cons (o := ⟨some 123,.call { callee := .builtin .append,args := #[.tmp 119,.tmp 122],argTypes := #[61,61] },61,_,_,none⟩) rfl (fun K hK => ?_) AllReadyG.nil
     obtain ⟨a1,m1,c1,W3x,hrun1,S3,LL⟩ := S2.app1 L1 HL.out.1
     have L2 := LL _ _ L2
     clear LL
     refine step_appR (by rfl) _ _ 61 (by rfl) _ _ (by rfl) (by rfl) hrun1 ?_
     refine hK.out _ _ S3.reads (fun hHeld3 => ?_)
     clear hK K hHeld2
     try simp only [Act.put,pu1,pu2,pu3]
     refine wpAnyG_ready (rs := [16]) (by kernel_rfl) (by simp) ?_
     refine AllReadyG.cons (o := ⟨some 130,.call { callee := .builtin .append,args := #[.tmp 127,.tmp 129],argTypes := #[61,61] },61,_,_,none⟩) rfl (fun K hK => ?_) AllReadyG.nil
     obtain ⟨a2,m2,c2,W4x,hrun2,S4⟩ := S3.app2 L2 HL.out.2
     refine step_appR (by rfl) _ _ 61 (by rfl) _ _ (by rfl) (by rfl) hrun2 ?_
     refine hK.out _ _ S4.reads (fun hHeld4 => ?_)
     clear hK K hHeld3
     try simp only [Act.put,pu1,pu2,pu3]
     refine g_pure 17 (some 131) (.nilCheck (.tmp 114)) ?_
     refine g_pure 18 (some 132) (.fieldAddr 104 (.tmp 131) 1) ?_
     refine wpAnyG_free (by kernel_rfl) ?_
     refine wpAny_ready (rs := [19]) (by kernel_rfl) (by simp) ?_
     refine AllReady.cons (o := ⟨none,.store 61 (.tmp 132) (.tmp 123),0,_,_,none⟩) rfl (fun K hK => ?_) AllReady.nil
     obtain ⟨⟨fr1,fr2⟩,Z9⟩ := HZ.out _ _ _ _ _ _ _ S4
     have Z9 : Hid _ := Z9
     obtain ⟨q1,q2,q3⟩ := S4.reads
     go_simp
     refine hK _ _ ?_
     clear hK K
     try simp only [Act.put,pu1,pu2,pu3]
     refine g_any 20 (some 133) (.nilCheck (.tmp 115)) ?_
     refine g_any 21 (some 134) (.fieldAddr 104 (.tmp 133) 2) ?_
     refine wpAny_ready (rs := [22]) (by kernel_rfl) (by simp) ?_
     refine AllReady.cons (o := ⟨none,.store 61 (.tmp 134) (.tmp 130),0,_,_,none⟩) rfl (fun K hK => ?_) AllReady.nil
     go_simp
     refine hK _ _ ?_
     clear hK K
     try simp only [Act.put,pu1,pu2,pu3]
     refine wpAny_done (by kernel_rfl) ?_ _
     go_wp2
     go_ret
     rw [HE.out]
     exact ⟨rfl,H9.out _ Z9.out⟩
theorem mkF_no {a : Ar} {kind ns : Int} {name : ByteArray} {u : List Att} {text : ByteArray} (h : (a.mkF kind ns name u text).2.2 ≠ 0) : (a.mkF kind ns name u text).1 = a := by
 revert h
 unfold Ar.mkF
 repeat' split
 all_goals first | exact fun _ => rfl | exact fun h => absurd rfl h
set_option maxHeartbeats 4000000 in
theorem rdo_ok1 (h : Pd tag w b d l1 l2 s k) (hk : k < 1300) (ho : tinyO o) (hr : R0 tag w p o.al) (hq : rightO o = true) (hkd : o.kd = 1) (hno : s.kn o.nd = false) (hall : (askF o).all s.kn = true) (hp : s.kn o.pa = true) (hr3 : s.kn o.rf = true) :
  Calls Tryz.prog 31 #[.pointer (some ⟨b,0,none⟩),ov o p] w fun e w' => e = .returned (.int .i64 (s.perF o (s.nz o.nd) (s.nz o.pa) (s.nz o.rf)).2) ∧ Rn tag w b d k (s.perF o (s.nz o.nd) (s.nz o.pa) (s.nz o.rf)).1 w' := by
 obtain ⟨tag1,W1,g,hg,HW,X,v1⟩ := Dx.open (o := o) h hr
 obtain ⟨HR,HN,HO,HA,HC⟩ := X.asks ho hq
 obtain ⟨f0,f1,f2,f3,f4,f5,f6,f7,f8⟩ := nine_at X.bx
 have hL3 := askF_len o
 have HK : Hid (∀ V,Kp [] W1 V → Dx tag1 V b d l1 l2 s k g o p ∧ Qv tag w tag1 V) := fun V kV => ⟨X.kept kV,v1.trans (Qv.of_kp0 kV)⟩
 obtain ⟨hb1,hb2,hb3⟩ := h.fit.bnd
 have ful := h.fit.ful
 have h1 := h.fit.ful
 have h2 := h.fit.sz
 have hrf := h.fit.nz_lt o.rf
 have hf := h.fit.perF hk ho (s.nz o.nd) (s.nz o.pa) (s.nz o.rf)
 clear h hr X v1 hq
 obtain ⟨n1,hn1⟩ : ∃ n,s.nz o.nd = n := ⟨_,rfl⟩
 obtain ⟨n2,hn2⟩ : ∃ n,s.nz o.pa = n := ⟨_,rfl⟩
 obtain ⟨n3,hn3⟩ : ∃ n,s.nz o.rf = n := ⟨_,rfl⟩
 rw [hn1,hn2,hn3] at hf ⊢
 rw [hn3] at hrf
 have hn1 : Hid (s.nz o.nd = n1) := hn1
 have hn2 : Hid (s.nz o.pa = n2) := hn2
 have hn3 : Hid (s.nz o.rf = n3) := hn3
 have eP : s.perF o n1 n2 n3 = s.bldF o := by unfold Py.perF; rw [if_pos hkd]
 rw [eP] at hf
 have HE : Hid _ := eP
 clear eP
 unfold ov at HR HA ⊢
 rw [hkd] at HW HR HA f0 ⊢
 go_enter Tryz.func31,Tryz.ntmps31
 go_upto_region 1 with fail
 rw [HW.out]
 clear HW
 go_wp2_with (first | (go_at_call 48; refine HR.mono ?_; rintro e W2 ⟨rfl,k2⟩; obtain ⟨f0,f1,f2,f3,f4,f5,f6,f7,f8⟩ := HC.out _ k2; rw [hkd] at f0) | (go_at_call 49; refine same_of (HO.out _ k2 _ hno) ?_) | (go_at_call 50; refine (HA.out _).mono ?_; rintro e W3 ⟨ao,c,rfl,rb,k3⟩))
 have k13 : Kp [] W1 W3 := k2.trans k3 (fun x hx => Or.inl hx)
 clear HA HR k3 f0 f1 f2 f3 f4 f5 f6 f7 f8
 generalize askF o = L at *
 go_loopw [6] (fun v wr => ∃ i : Nat,v = .int .i64 (i : Int) ∧ i ≤ L.length ∧ wr = W3) (fun v _ => L.length - (intOf v).toNat)
 case atStart => exact ⟨0,rfl,Nat.zero_le _,rfl⟩
 case round =>
  obtain ⟨i,rfl,hi,rfl⟩ := hrel
  by_cases hlt : i < L.length
  ·obtain ⟨b7,o7,rfl,f9⟩ := iz_cell rb hlt
   have j0 : (0 : Int) ≤ (i : Int) := by omega
   have j1 : (i : Int) < (L.length : Int) := by omega
   have HN1 := HN.out _ k13 L[i] (List.all_eq_true.1 hall _ (List.getElem_mem hlt))
   have t1 : decide (((s.nz L[i] : Nat) : Int) < 0) = false := decide_eq_false (by omega)
   clear rb HO HN HC HK hf ful hb1 hb2 hb3 hall
   generalize L[i] = y at *
   go_wp2_with (go_at_call 49; refine same_of (HN1) ?_)
   go_roundw
   case rel => exact ⟨i + 1,by go_num,by omega,by trivial⟩
   case measure => simp [intOf]; omega
  ·obtain rfl : i = L.length := by omega
   obtain ⟨U5,hU5⟩ : ∃ V,V = wr.drew := ⟨_,rfl⟩
   have k5 : Kp [] W1 U5 := by rw [hU5]; exact k13.drew
   have HN1 := HO.out _ k5 o.nd hno
   have HN2 := HN.out _ k5 o.pa hp
   have HN3 := HN.out _ k5 o.rf hr3
   rw [hn2.out] at HN2
   rw [hn3.out] at HN3
   clear rb HO HN hall hlt hi
   go_upto_region 11 with fail
   refine wp_region_g (S := fun V => Nine V g 0 o p) (T := []) (by kernel_rfl) (HC.out _ k13.drew) (fun hHeld => ?_)
   rw [← hU5] at hHeld ⊢
   clear hU5
   refine g_pure 0 (some 46) (.move (.tmp 0)) ?_
   refine g_pure 1 (some 47) (.fieldAddr 24 (.tmp 3) 1) ?_
   refine g_take 2 (some 48) (.load 3 (.tmp 47)) (by intro w hSw; (obtain ⟨q0,q1,q2,q3,q4,q5,q6,q7,q8⟩ := hSw); go_simp; try with_reducible rfl) ?_
   refine g_pure 4 (some 50) (.move (.tmp 0)) ?_
   refine g_pure 5 (some 51) (.fieldAddr 24 (.tmp 3) 2) ?_
   refine g_take 6 (some 52) (.load 3 (.tmp 51)) (by intro w hSw; (obtain ⟨q0,q1,q2,q3,q4,q5,q6,q7,q8⟩ := hSw); go_simp; try with_reducible rfl) ?_
   refine g_pure 8 (some 54) (.move (.tmp 0)) ?_
   refine g_pure 9 (some 55) (.fieldAddr 24 (.tmp 3) 3) ?_
   refine g_take 10 (some 56) (.load 3 (.tmp 55)) (by intro w hSw; (obtain ⟨q0,q1,q2,q3,q4,q5,q6,q7,q8⟩ := hSw); go_simp; try with_reducible rfl) ?_
   refine wpAnyG_ready (rs := [3]) (by kernel_rfl) (by simp) ?_
   refine AllReadyG.cons (o := ⟨some 49,.call { callee := .value (.func 49),args := #[.tmp 46,.tmp 48],argTypes := #[71,3] },3,_,_,none⟩) rfl (fun K hK => ?_) AllReadyG.nil
   go_simp
   go_at_call 49
   refine (HN1).mono ?_
   rintro e w9 ⟨rfl,hw⟩
   have hw2 := hw.symm
   clear hw
   subst hw2
   go_wp2_with fail
   refine hK.out _ _ (HC.out _ k5) (fun hHeld1 => ?_)
   clear hK K hHeld
   try simp only [Act.put,pu1,pu2,pu3]
   refine wpAnyG_ready (rs := [7]) (by kernel_rfl) (by simp) ?_
   refine AllReadyG.cons (o := ⟨some 53,.call { callee := .value (.func 49),args := #[.tmp 50,.tmp 52],argTypes := #[71,3] },3,_,_,none⟩) rfl (fun K hK => ?_) AllReadyG.nil
   go_simp
   go_at_call 49
   refine (HN2).mono ?_
   rintro e w9 ⟨rfl,hw⟩
   have hw2 := hw.symm
   clear hw
   subst hw2
   go_wp2_with fail
   refine hK.out _ _ (HC.out _ k5) (fun hHeld2 => ?_)
   clear hK K hHeld1
   try simp only [Act.put,pu1,pu2,pu3]
   refine wpAnyG_ready (rs := [11]) (by kernel_rfl) (by simp) ?_
   refine AllReadyG.cons (o := ⟨some 57,.call { callee := .value (.func 49),args := #[.tmp 54,.tmp 56],argTypes := #[71,3] },3,_,_,none⟩) rfl (fun K hK => ?_) AllReadyG.nil
   go_simp
   go_at_call 49
   refine (HN3).mono ?_
   rintro e w9 ⟨rfl,hw⟩
   have hw2 := hw.symm
   clear hw
   subst hw2
   go_wp2_with fail
   refine hK.out _ _ (HC.out _ k5) (fun hHeld3 => ?_)
   clear hK K hHeld2
   try simp only [Act.put,pu1,pu2,pu3]
   refine g_pure 12 (some 7) (.assign (.tmp 49)) ?_
   refine g_pure 13 (some 8) (.assign (.tmp 53)) ?_
   refine g_pure 14 (some 9) (.assign (.tmp 57)) ?_
   refine wpAnyG_free (by kernel_rfl) ?_
   refine wpAny_done (by kernel_rfl) ?_ _
   clear hHeld3
   clear HN1 HN2 HN3
   obtain ⟨X5,v5⟩ := HK.out _ k5
   have f0 := (HC.out _ k5).1
   clear HK k13 k2
   rw [hkd] at f0
   obtain ⟨B,z,ec,hB⟩ : ∃ B z ec,s.A.mkF o.ty o.ns o.nm (uniq o.al) o.tt = (B,z,ec) := ⟨_,_,_,rfl⟩
   have hmn := (Ar.mkF_n s.A o.ty o.ns o.nm (uniq o.al) o.tt).2
   have hno2 : ec ≠ 0 → B = s.A := fun he => by
    have := mkF_no (a := s.A) (kind := o.ty) (ns := o.ns) (name := o.nm) (u := uniq o.al) (text := o.tt) (by rw [hB]; exact he)
    rw [hB] at this
    exact this
   have hfm := h1.mkF o.ty o.ns o.nm (uniq o.al) o.tt
   have hsm := h2.mkF o.ty o.ns ho.nm ho.tt (Ar.Tiny.uniq ho.al ho.each)
   have HM : Hid (∀ V,Kp [] U5 V → Calls Tryz.prog 51 #[.pointer (some ⟨d,0,none⟩),.int .i64 o.ty,.int .i64 o.ns,.string o.nm,.slice p.1 p.2.1 p.2.2,.string o.tt] V fun e w' => e = .returned (.tuple #[.int .i64 z,.int .i64 ec]) ∧ ∃ tag',Dn tag' w' d s.q B ∧ Dv tag1 V tag' w') := fun V kV => by
    have Z := X5.kept kV
    have := rmake_any Z.pp.dn ful hb1 o.ty o.ns o.nm o.tt o.al p.1 p.2.1 p.2.2 Z.rk.rp (by have := ho.al; have := Z.rk.rp.len; omega)
    rw [hB] at this
    exact this
   have HS : Hid (∀ V,Kp [] U5 V → V.cell? ⟨b,0,none⟩ = some (.pointer (some ⟨d,0,none⟩)) ∧ Nine V g 0 o p) := fun V kV => ⟨(X5.pp.kept kV).head.1,nine_at (X5.bx.kept kV (by simp))⟩
   have hF3 : (Py.mk B s.q s.M).Fit (k + 1) := by
    refine ⟨by rw [hB] at hfm; exact hfm,by rw [hB] at hsm; exact hsm,hk,X5.pp.fit.z0,fun y n e => Nat.lt_of_lt_of_le (X5.pp.fit.lt y n e) ?_,(X5.pp.fit.succ hk).len⟩
    have := (Ar.mkF_n s.A o.ty o.ns o.nm (uniq o.al) o.tt).1
    rw [hB] at this
    exact this
   have H2 : Hid (∀ V tag9 W9,Kp [] U5 V → Dn tag9 W9 d s.q B → Dv tag1 V tag9 W9 → (W9.cell? ⟨b,0,none⟩ = some (.pointer (some ⟨d,0,none⟩)) ∧ Nine W9 g 0 o p) ∧ Dx tag9 W9 b d l1 l2 ⟨B,s.q,s.M⟩ (k + 1) g o p ∧ Qv tag w tag9 W9) := fun V tag9 W9 kV d9 m9 => by
    have Z := X5.kept kV
    have P9 := Z.pp.dv m9 d9 hF3
    have b9 := Z.bx.qv Z.t0 m9.qv
    exact ⟨⟨P9.head.1,nine_at b9⟩,⟨P9,b9,by rw [m9.tg g Z.bx.lt]; exact Z.t0,Z.rk.qv m9.qv⟩,v5.trans ((Qv.of_kp0 kV).trans m9.qv)⟩
   unfold Py.bldF at hf HE
   rw [hB] at hf HE hmn
   have c0 := X5.pp.head.1
   clear X5 v5 HC hfm hsm hB
   by_cases he : ec = 0
   ·subst he
    obtain ⟨rfl,hBl⟩ := hmn rfl
    simp only [if_pos,Int.toNat_natCast] at hf
    have HE1 : s.perF o n1 n2 n3 = (⟨B,s.q,s.M ++ [(o.nd,s.A.n)]⟩,0) := by rw [HE.out]; simp only [if_pos,Int.toNat_natCast]
    have HE2 : Hid (s.perF o n1 n2 n3 = (⟨B,s.q,s.M ++ [(o.nd,s.A.n)]⟩,0)) := HE1
    clear HE HE1
    go_upto_region 14 with fail
    refine wp_region_g (S := fun V => V.cell? ⟨b,0,none⟩ = some (.pointer (some ⟨d,0,none⟩)) ∧ Nine V g 0 o p) (T := []) (by kernel_rfl) (HS.out _ (Kp.refl _ _).drew) (fun hHeld => ?_)
    refine g_pure 0 (some 63) (.move (.tmp 0)) ?_
    refine g_pure 1 (some 64) (.nilCheck (.tmp 63)) ?_
    refine g_pure 2 (some 65) (.fieldAddr 104 (.tmp 64) 0) ?_
    refine g_take 3 (some 66) (.load 63 (.tmp 65)) (by intro w hSw; (obtain ⟨q0,q1,q2,q3,q4,q5,q6,q7,q8,q9⟩ := hSw); go_simp; try with_reducible rfl) ?_
    refine g_pure 4 (some 67) (.fieldAddr 24 (.tmp 3) 4) ?_
    refine g_take 5 (some 68) (.load 3 (.tmp 67)) (by intro w hSw; (obtain ⟨q0,q1,q2,q3,q4,q5,q6,q7,q8,q9⟩ := hSw); go_simp; try with_reducible rfl) ?_
    refine g_pure 6 (some 69) (.fieldAddr 24 (.tmp 3) 5) ?_
    refine g_take 7 (some 70) (.load 3 (.tmp 69)) (by intro w hSw; (obtain ⟨q0,q1,q2,q3,q4,q5,q6,q7,q8,q9⟩ := hSw); go_simp; try with_reducible rfl) ?_
    refine g_pure 8 (some 71) (.fieldAddr 24 (.tmp 3) 6) ?_
    refine g_take 9 (some 72) (.load 9 (.tmp 71)) (by intro w hSw; (obtain ⟨q0,q1,q2,q3,q4,q5,q6,q7,q8,q9⟩ := hSw); go_simp; try with_reducible rfl) ?_
    refine g_pure 10 (some 73) (.fieldAddr 24 (.tmp 3) 7) ?_
    refine g_take 11 (some 74) (.load 22 (.tmp 73)) (by intro w hSw; (obtain ⟨q0,q1,q2,q3,q4,q5,q6,q7,q8,q9⟩ := hSw); go_simp; try with_reducible rfl) ?_
    refine g_pure 12 (some 75) (.fieldAddr 24 (.tmp 3) 8) ?_
    refine g_take 13 (some 76) (.load 9 (.tmp 75)) (by intro w hSw; (obtain ⟨q0,q1,q2,q3,q4,q5,q6,q7,q8,q9⟩ := hSw); go_simp; try with_reducible rfl) ?_
    refine wpAnyG_ready (rs := [14]) (by kernel_rfl) (by simp) ?_
    refine AllReadyG.cons (o := ⟨some 77,.call { callee := .value (.func 51),args := #[.tmp 66,.tmp 68,.tmp 70,.tmp 72,.tmp 74,.tmp 76],argTypes := #[63,3,3,9,22,9] },113,_,_,none⟩) rfl (fun K hK => ?_) AllReadyG.nil
    go_simp
    go_at_call 51
    refine (HM.out _ (Kp.refl _ _).drew).mono ?_
    rintro e W9 ⟨rfl,tag9,d9,m9⟩
    go_wp2_with fail
    have Y9 := H2.out _ _ _ (Kp.refl _ _).drew d9 m9
    refine hK.out _ _ Y9.1 (fun hHeld1 => ?_)
    clear hK K hHeld
    try simp only [Act.put,pu1,pu2,pu3]
    refine g_pure 15 (some 62) (.move (.tmp 77)) ?_
    refine g_pure 16 (some 78) (.extract (.tmp 62) 0) ?_
    refine g_pure 17 (some 79) (.extract (.tmp 62) 1) ?_
    refine g_pure 18 (some 10) (.assign (.tmp 78)) ?_
    refine g_pure 19 (some 11) (.assign (.tmp 79)) ?_
    refine wpAnyG_free (by kernel_rfl) ?_
    refine wpAny_done (by kernel_rfl) ?_ _
    obtain ⟨_,X6,v6⟩ := Y9
    clear HM HS H2 hHeld1 d9 m9 c0 f0 hmn hno2
    obtain ⟨U6,hU6⟩ : ∃ V,V = W9.drew := ⟨_,rfl⟩
    have k6 : Kp [] W9 U6 := by rw [hU6]; exact (Kp.refl _ _).drew
    have X6 := X6.kept k6
    have v6 : Qv tag w tag9 U6 := v6.trans (Qv.of_kp0 k6)
    obtain ⟨S0,HZ,HL⟩ := X6.pp.grows X6.t0 (nine_at X6.bx).2.1 s.A.n (k + 1) hf
    have S0 := S0.out
    have H9 : Hid (∀ V,(∃ tag' e1 e2,Pd tag' V b d e1 e2 ⟨B,s.q,s.M ++ [(o.nd,s.A.n)]⟩ (k + 1) ∧ Qv tag9 U6 tag' V) → Rn tag w b d k ⟨B,s.q,s.M ++ [(o.nd,s.A.n)]⟩ V) := fun V ⟨tag',e1,e2,P,v⟩ => ⟨tag',e1,e2,P,v6.trans v⟩
    clear X6 v6 k6 hf hF3
    generalize s.A.n = z at *
    go_upto_region 17 with fail
    refine wp_region_g (S := fun V => V.cell? ⟨b,1,none⟩ = some (.slice l1.1 l1.2.1 l1.2.2) ∧ V.cell? ⟨b,2,none⟩ = some (.slice l2.1 l2.2.1 l2.2.2) ∧ V.cell? ⟨g,1,none⟩ = some (.int .i64 o.nd)) (T := [19,20,21,22]) (by kernel_rfl) (by rw [← hU6]; exact S0.reads) (fun hHeld => ?_)
    rw [← hU6] at hHeld ⊢
    clear hU6
    refine g_pure 0 (some 83) (.move (.tmp 0)) ?_
    refine g_pure 1 (some 84) (.move (.tmp 0)) ?_
    refine g_pure 2 (some 85) (.move (.tmp 0)) ?_
    refine g_pure 3 (some 86) (.nilCheck (.tmp 85)) ?_
    refine g_pure 4 (some 87) (.fieldAddr 104 (.tmp 86) 1) ?_
    refine g_take 5 (some 88) (.load 61 (.tmp 87)) (by intro w hSw; (obtain ⟨q1,q2,q3⟩ := hSw); go_simp; try with_reducible rfl) ?_
    refine g_pure 6 (some 89) (.fieldAddr 24 (.tmp 3) 1) ?_
    refine g_take 7 (some 90) (.load 3 (.tmp 89)) (by intro w hSw; (obtain ⟨q1,q2,q3⟩ := hSw); go_simp; try with_reducible rfl) ?_
    refine g_pure 10 (some 93) (.move (.tmp 0)) ?_
    refine g_pure 11 (some 94) (.nilCheck (.tmp 93)) ?_
    refine g_pure 12 (some 95) (.fieldAddr 104 (.tmp 94) 2) ?_
    refine g_take 13 (some 96) (.load 61 (.tmp 95)) (by intro w hSw; (obtain ⟨q1,q2,q3⟩ := hSw); go_simp; try with_reducible rfl) ?_
    refine g_pure 14 (some 97) (.move (.tmp 10)) ?_
    refine wpAnyG_ready (rs := [8,15]) (by kernel_rfl) (by simp) ?_
    refine AllReadyG.cons (o := ⟨some 91,.buildSlice 61 1 #[(0,.tmp 90)],61,_,_,none⟩) rfl (fun K hK => ?_) ?_
    ·obtain ⟨S1,L1,e1⟩ := S0.lit o.nd
     obtain ⟨V1,hV⟩ : ∃ W,W = World.alloc U6 (.cells #[.int .i64 o.nd] 3) := ⟨_,rfl⟩
     rw [← hV] at S1 L1
     go_simp
     rw [← hV]
     clear hV e1
     refine hK.out _ _ S1.reads (fun hHeld1 => ?_)
     clear hK K hHeld
     try simp only [Act.put,pu1,pu2,pu3]
     refine wpAnyG_ready (rs := [9,15]) (by kernel_rfl) (by simp) ?_
     refine AllReadyG.cons (o := ⟨some 92,.call { callee := .builtin .append,args := #[.tmp 88,.tmp 91],argTypes := #[61,61] },61,_,_,none⟩) rfl (fun K hK => ?_) ?_
     ·obtain ⟨a1,m1,c1,W2x,hrun1,S2,LL⟩ := S1.app1 L1 HL.out.1
      clear LL
      refine step_appR (by rfl) _ _ 61 (by rfl) _ _ (by rfl) (by rfl) hrun1 ?_
      refine hK.out _ _ S2.reads (fun hHeld2 => ?_)
      clear hK K hHeld1
      try simp only [Act.put,pu1,pu2,pu3]
      refine wpAnyG_ready (rs := [15]) (by kernel_rfl) (by simp) ?_
      refine AllReadyG.cons (o := ⟨some 98,.buildSlice 61 1 #[(0,.tmp 97)],61,_,_,none⟩) rfl (fun K hK => ?_) AllReadyG.nil
      obtain ⟨S3,L2,e3⟩ := S2.lit (z : Int)
      obtain ⟨V3,hV⟩ : ∃ W,W = World.alloc W2x (.cells #[.int .i64 (z : Int)] 3) := ⟨_,rfl⟩
      rw [← hV] at S3 L2
      go_simp
      rw [← hV]
      clear hV e3
      refine hK.out _ _ S3.reads (fun hHeld3 => ?_)
      clear hK K hHeld2
      try simp only [Act.put,pu1,pu2,pu3]
      refine wpAnyG_ready (rs := [16]) (by kernel_rfl) (by simp) ?_
      refine AllReadyG.cons (o := ⟨some 99,.call { callee := .builtin .append,args := #[.tmp 96,.tmp 98],argTypes := #[61,61] },61,_,_,none⟩) rfl (fun K hK => ?_) AllReadyG.nil
      obtain ⟨a2,m2,c2,W4x,hrun2,S4⟩ := S3.app2 L2 HL.out.2
      refine step_appR (by rfl) _ _ 61 (by rfl) _ _ (by rfl) (by rfl) hrun2 ?_
      refine hK.out _ _ S4.reads (fun hHeld4 => ?_)
      clear hK K hHeld3
      try simp only [Act.put,pu1,pu2,pu3]
      refine g_pure 17 (some 100) (.nilCheck (.tmp 83)) ?_
      refine g_pure 18 (some 101) (.fieldAddr 104 (.tmp 100) 1) ?_
      refine wpAnyG_free (by kernel_rfl) ?_
      refine wpAny_ready (rs := [19]) (by kernel_rfl) (by simp) ?_
      refine AllReady.cons (o := ⟨none,.store 61 (.tmp 101) (.tmp 92),0,_,_,none⟩) rfl (fun K hK => ?_) AllReady.nil
      obtain ⟨⟨fr1,fr2⟩,Z9⟩ := HZ.out _ _ _ _ _ _ _ S4
      have Z9 : Hid _ := Z9
      obtain ⟨q1,q2,q3⟩ := S4.reads
      go_simp
      refine hK _ _ ?_
      clear hK K
      try simp only [Act.put,pu1,pu2,pu3]
      refine g_any 20 (some 102) (.nilCheck (.tmp 84)) ?_
      refine g_any 21 (some 103) (.fieldAddr 104 (.tmp 102) 2) ?_
      refine wpAny_ready (rs := [22]) (by kernel_rfl) (by simp) ?_
      refine AllReady.cons (o := ⟨none,.store 61 (.tmp 103) (.tmp 99),0,_,_,none⟩) rfl (fun K hK => ?_) AllReady.nil
      go_simp
      refine hK _ _ ?_
      clear hK K
      try simp only [Act.put,pu1,pu2,pu3]
      refine wpAny_done (by kernel_rfl) ?_ _
      go_wp2
      go_ret
      rw [HE2.out]
      exact ⟨rfl,H9.out _ Z9.out⟩
     refine AllReadyG.cons (o := ⟨some 98,.buildSlice 61 1 #[(0,.tmp 97)],61,_,_,none⟩) rfl (fun K hK => ?_) AllReadyG.nil
     obtain ⟨S2,L2,e2⟩ := S1.lit (z : Int)
     have L1 := L1.kept e2
     obtain ⟨V2,hV⟩ : ∃ W,W = World.alloc V1 (.cells #[.int .i64 (z : Int)] 3) := ⟨_,rfl⟩
     rw [← hV] at S2 L1 L2
     go_simp
     rw [← hV]
     clear hV e2
     refine hK.out _ _ S2.reads (fun hHeld2 => ?_)
     clear hK K hHeld1
     try simp only [Act.put,pu1,pu2,pu3]
     refine wpAnyG_ready (rs := [9]) (by kernel_rfl) (by simp) ?_
     refine AllReadyG.cons (o := ⟨some 92,.call { callee := .builtin .append,args := #[.tmp 88,.tmp 91],argTypes := #[61,61] },61,_,_,none⟩) rfl (fun K hK => ?_) AllReadyG.nil
     obtain ⟨a1,m1,c1,W3x,hrun1,S3,LL⟩ := S2.app1 L1 HL.out.1
     have L2 := LL _ _ L2
     clear LL
     refine step_appR (by rfl) _ _ 61 (by rfl) _ _ (by rfl) (by rfl) hrun1 ?_
     refine hK.out _ _ S3.reads (fun hHeld3 => ?_)
     clear hK K hHeld2
     try simp only [Act.put,pu1,pu2,pu3]
     refine wpAnyG_ready (rs := [16]) (by kernel_rfl) (by simp) ?_
     refine AllReadyG.cons (o := ⟨some 99,.call { callee := .builtin .append,args := #[.tmp 96,.tmp 98],argTypes := #[61,61] },61,_,_,none⟩) rfl (fun K hK => ?_) AllReadyG.nil
     obtain ⟨a2,m2,c2,W4x,hrun2,S4⟩ := S3.app2 L2 HL.out.2
     refine step_appR (by rfl) _ _ 61 (by rfl) _ _ (by rfl) (by rfl) hrun2 ?_
     refine hK.out _ _ S4.reads (fun hHeld4 => ?_)
     clear hK K hHeld3
     try simp only [Act.put,pu1,pu2,pu3]
     refine g_pure 17 (some 100) (.nilCheck (.tmp 83)) ?_
     refine g_pure 18 (some 101) (.fieldAddr 104 (.tmp 100) 1) ?_
     refine wpAnyG_free (by kernel_rfl) ?_
     refine wpAny_ready (rs := [19]) (by kernel_rfl) (by simp) ?_
     refine AllReady.cons (o := ⟨none,.store 61 (.tmp 101) (.tmp 92),0,_,_,none⟩) rfl (fun K hK => ?_) AllReady.nil
     obtain ⟨⟨fr1,fr2⟩,Z9⟩ := HZ.out _ _ _ _ _ _ _ S4
     have Z9 : Hid _ := Z9
     obtain ⟨q1,q2,q3⟩ := S4.reads
     go_simp
     refine hK _ _ ?_
     clear hK K
     try simp only [Act.put,pu1,pu2,pu3]
     refine g_any 20 (some 102) (.nilCheck (.tmp 84)) ?_
     refine g_any 21 (some 103) (.fieldAddr 104 (.tmp 102) 2) ?_
     refine wpAny_ready (rs := [22]) (by kernel_rfl) (by simp) ?_
     refine AllReady.cons (o := ⟨none,.store 61 (.tmp 103) (.tmp 99),0,_,_,none⟩) rfl (fun K hK => ?_) AllReady.nil
     go_simp
     refine hK _ _ ?_
     clear hK K
     try simp only [Act.put,pu1,pu2,pu3]
     refine wpAny_done (by kernel_rfl) ?_ _
     go_wp2
     go_ret
     rw [HE2.out]
     exact ⟨rfl,H9.out _ Z9.out⟩
    refine AllReadyG.cons (o := ⟨some 98,.buildSlice 61 1 #[(0,.tmp 97)],61,_,_,none⟩) rfl (fun K hK => ?_) AllReadyG.nil
    obtain ⟨S1,L2,e1⟩ := S0.lit (z : Int)
    obtain ⟨V1,hV⟩ : ∃ W,W = World.alloc U6 (.cells #[.int .i64 (z : Int)] 3) := ⟨_,rfl⟩
    rw [← hV] at S1 L2
    go_simp
    rw [← hV]
    clear hV e1
    refine hK.out _ _ S1.reads (fun hHeld1 => ?_)
    clear hK K hHeld
    try simp only [Act.put,pu1,pu2,pu3]
    refine wpAnyG_ready (rs := [8]) (by kernel_rfl) (by simp) ?_
    refine AllReadyG.cons (o := ⟨some 91,.buildSlice 61 1 #[(0,.tmp 90)],61,_,_,none⟩) rfl (fun K hK => ?_) AllReadyG.nil
    obtain ⟨S2,L1,e2⟩ := S1.lit o.nd
    have L2 := L2.kept e2
    obtain ⟨V2,hV⟩ : ∃ W,W = World.alloc V1 (.cells #[.int .i64 o.nd] 3) := ⟨_,rfl⟩
    rw [← hV] at S2 L1 L2
    go_simp
    rw [← hV]
    clear hV e2
    refine hK.out _ _ S2.reads (fun hHeld2 => ?_)
    clear hK K hHeld1
    try simp only [Act.put,pu1,pu2,pu3]
    refine wpAnyG_ready (rs := [9]) (by kernel_rfl) (by simp) ?_
    refine AllReadyG.cons (o := ⟨some 92,.call { callee := .builtin .append,args := #[.tmp 88,.tmp 91],argTypes := #[61,61] },61,_,_,none⟩) rfl (fun K hK => ?_) AllReadyG.nil
    obtain ⟨a1,m1,c1,W3x,hrun1,S3,LL⟩ := S2.app1 L1 HL.out.1
    have L2 := LL _ _ L2
    clear LL
    refine step_appR (by rfl) _ _ 61 (by rfl) _ _ (by rfl) (by rfl) hrun1 ?_
    refine hK.out _ _ S3.reads (fun hHeld3 => ?_)
    clear hK K hHeld2
    try simp only [Act.put,pu1,pu2,pu3]
    refine wpAnyG_ready (rs := [16]) (by kernel_rfl) (by simp) ?_
    refine AllReadyG.cons (o := ⟨some 99,.call { callee := .builtin .append,args := #[.tmp 96,.tmp 98],argTypes := #[61,61] },61,_,_,none⟩) rfl (fun K hK => ?_) AllReadyG.nil
    obtain ⟨a2,m2,c2,W4x,hrun2,S4⟩ := S3.app2 L2 HL.out.2
    refine step_appR (by rfl) _ _ 61 (by rfl) _ _ (by rfl) (by rfl) hrun2 ?_
    refine hK.out _ _ S4.reads (fun hHeld4 => ?_)
    clear hK K hHeld3
    try simp only [Act.put,pu1,pu2,pu3]
    refine g_pure 17 (some 100) (.nilCheck (.tmp 83)) ?_
    refine g_pure 18 (some 101) (.fieldAddr 104 (.tmp 100) 1) ?_
    refine wpAnyG_free (by kernel_rfl) ?_
    refine wpAny_ready (rs := [19]) (by kernel_rfl) (by simp) ?_
    refine AllReady.cons (o := ⟨none,.store 61 (.tmp 101) (.tmp 92),0,_,_,none⟩) rfl (fun K hK => ?_) AllReady.nil
    obtain ⟨⟨fr1,fr2⟩,Z9⟩ := HZ.out _ _ _ _ _ _ _ S4
    have Z9 : Hid _ := Z9
    obtain ⟨q1,q2,q3⟩ := S4.reads
    go_simp
    refine hK _ _ ?_
    clear hK K
    try simp only [Act.put,pu1,pu2,pu3]
    refine g_any 20 (some 102) (.nilCheck (.tmp 84)) ?_
    refine g_any 21 (some 103) (.fieldAddr 104 (.tmp 102) 2) ?_
    refine wpAny_ready (rs := [22]) (by kernel_rfl) (by simp) ?_
    refine AllReady.cons (o := ⟨none,.store 61 (.tmp 103) (.tmp 99),0,_,_,none⟩) rfl (fun K hK => ?_) AllReady.nil
    go_simp
    refine hK _ _ ?_
    clear hK K
    try simp only [Act.put,pu1,pu2,pu3]
    refine wpAny_done (by kernel_rfl) ?_ _
    go_wp2
    go_ret
    rw [HE2.out]
    exact ⟨rfl,H9.out _ Z9.out⟩
   ·obtain rfl := hno2 he
    have t1 : (ec != 0) = true := by simpa using he
    have HE1 : s.perF o n1 n2 n3 = (s,ec) := by rw [HE.out]; exact if_neg he
    have HE2 : Hid (s.perF o n1 n2 n3 = (s,ec)) := HE1
    clear HE HE1
    clear hf hmn hno2 hF3
    go_upto_region 14 with fail
    refine wp_region_g (S := fun V => V.cell? ⟨b,0,none⟩ = some (.pointer (some ⟨d,0,none⟩)) ∧ Nine V g 0 o p) (T := []) (by kernel_rfl) (HS.out _ (Kp.refl _ _).drew) (fun hHeld => ?_)
    refine g_pure 0 (some 63) (.move (.tmp 0)) ?_
    refine g_pure 1 (some 64) (.nilCheck (.tmp 63)) ?_
    refine g_pure 2 (some 65) (.fieldAddr 104 (.tmp 64) 0) ?_
    refine g_take 3 (some 66) (.load 63 (.tmp 65)) (by intro w hSw; (obtain ⟨q0,q1,q2,q3,q4,q5,q6,q7,q8,q9⟩ := hSw); go_simp; try with_reducible rfl) ?_
    refine g_pure 4 (some 67) (.fieldAddr 24 (.tmp 3) 4) ?_
    refine g_take 5 (some 68) (.load 3 (.tmp 67)) (by intro w hSw; (obtain ⟨q0,q1,q2,q3,q4,q5,q6,q7,q8,q9⟩ := hSw); go_simp; try with_reducible rfl) ?_
    refine g_pure 6 (some 69) (.fieldAddr 24 (.tmp 3) 5) ?_
    refine g_take 7 (some 70) (.load 3 (.tmp 69)) (by intro w hSw; (obtain ⟨q0,q1,q2,q3,q4,q5,q6,q7,q8,q9⟩ := hSw); go_simp; try with_reducible rfl) ?_
    refine g_pure 8 (some 71) (.fieldAddr 24 (.tmp 3) 6) ?_
    refine g_take 9 (some 72) (.load 9 (.tmp 71)) (by intro w hSw; (obtain ⟨q0,q1,q2,q3,q4,q5,q6,q7,q8,q9⟩ := hSw); go_simp; try with_reducible rfl) ?_
    refine g_pure 10 (some 73) (.fieldAddr 24 (.tmp 3) 7) ?_
    refine g_take 11 (some 74) (.load 22 (.tmp 73)) (by intro w hSw; (obtain ⟨q0,q1,q2,q3,q4,q5,q6,q7,q8,q9⟩ := hSw); go_simp; try with_reducible rfl) ?_
    refine g_pure 12 (some 75) (.fieldAddr 24 (.tmp 3) 8) ?_
    refine g_take 13 (some 76) (.load 9 (.tmp 75)) (by intro w hSw; (obtain ⟨q0,q1,q2,q3,q4,q5,q6,q7,q8,q9⟩ := hSw); go_simp; try with_reducible rfl) ?_
    refine wpAnyG_ready (rs := [14]) (by kernel_rfl) (by simp) ?_
    refine AllReadyG.cons (o := ⟨some 77,.call { callee := .value (.func 51),args := #[.tmp 66,.tmp 68,.tmp 70,.tmp 72,.tmp 74,.tmp 76],argTypes := #[63,3,3,9,22,9] },113,_,_,none⟩) rfl (fun K hK => ?_) AllReadyG.nil
    go_simp
    go_at_call 51
    refine (HM.out _ (Kp.refl _ _).drew).mono ?_
    rintro e W9 ⟨rfl,tag9,d9,m9⟩
    go_wp2_with fail
    have Y9 := H2.out _ _ _ (Kp.refl _ _).drew d9 m9
    refine hK.out _ _ Y9.1 (fun hHeld1 => ?_)
    clear hK K hHeld
    try simp only [Act.put,pu1,pu2,pu3]
    refine g_pure 15 (some 62) (.move (.tmp 77)) ?_
    refine g_pure 16 (some 78) (.extract (.tmp 62) 0) ?_
    refine g_pure 17 (some 79) (.extract (.tmp 62) 1) ?_
    refine g_pure 18 (some 10) (.assign (.tmp 78)) ?_
    refine g_pure 19 (some 11) (.assign (.tmp 79)) ?_
    refine wpAnyG_free (by kernel_rfl) ?_
    refine wpAny_done (by kernel_rfl) ?_ _
    obtain ⟨_,X6,v6⟩ := Y9
    have H9 : Hid (Rn tag w b d k s W9) := ⟨tag9,l1,l2,X6.pp,v6⟩
    clear HM HS H2 hHeld1 d9 m9 c0 f0 X6 v6
    go_wp2
    go_ret
    rw [HE2.out]
    exact ⟨rfl,H9.out⟩
theorem rdo_any (h : Pd tag w b d l1 l2 s k) (hk : k < 1300) (ho : tinyO o) (hr : R0 tag w p o.al) :
  Calls Tryz.prog 31 #[.pointer (some ⟨b,0,none⟩),ov o p] w fun e w' => e = .returned (.int .i64 (s.doF o).2) ∧ Rn tag w b d k (s.doF o).1 w' := by
 cases hq : rightO o with
 | false =>
   have e : s.doF o = (s,12) := by unfold Py.doF; rw [if_pos hq]
   rw [e]
   exact rdo_12 h hk ho hr hq
 | true =>
   have h0 : s.kn 0 = true := by unfold Py.kn; rw [h.fit.z0]; rfl
   have ha := ask_all hq s.kn h0
   have e : s.doF o = if (Py.isN o.kd && s.kn o.nd) = true then (s,24) else if (((!Py.isN o.kd && !s.kn o.nd) || !s.kn o.pa) || !s.kn o.rf) = true then (s,22) else s.perF o (s.nz o.nd) (s.nz o.pa) (s.nz o.rf) := by
    unfold Py.doF
    rw [if_neg (by rw [hq]; simp)]
   rw [e]
   clear e
   by_cases hN : o.kd = 1 ∨ o.kd = 9
   ·have hi : Py.isN o.kd = true := by unfold Py.isN; rcases hN with e | e <;> rw [e] <;> rfl
    rw [hi] at ha ⊢
    cases b1 : s.kn o.nd with
    | true => exact rdo_24 h hk ho hr hq hN b1
    | false =>
      rw [b1] at ha
      rw [if_neg (by simp)]
      cases b2 : s.kn o.pa with
      | false =>
        rw [b2] at ha
        rw [if_pos (by simp)]
        rcases hN with e | e
        ·unfold askF at ha
         repeat rw [if_neg (by omega)] at ha
         simp at ha
        ·exact rdo_229 h hk ho hr hq e b1 (by rw [ha]; simp)
      | true =>
        rw [b2] at ha
        cases b3 : s.kn o.rf with
        | false =>
          rw [b3] at ha
          rw [if_pos (by simp)]
          rcases hN with e | e
          ·unfold askF at ha
           repeat rw [if_neg (by omega)] at ha
           simp at ha
          ·exact rdo_229 h hk ho hr hq e b1 (by rw [ha]; simp)
        | true =>
          rw [b3] at ha
          rw [if_neg (by simp)]
          rcases hN with e | e
          ·exact rdo_ok1 h hk ho hr hq e b1 (by rw [ha]; simp) b2 b3
          ·exact rdo_ok9 h hk ho hr hq e b1 (by rw [ha]; simp) b2 b3
   ·have hi : Py.isN o.kd = false := by unfold Py.isN; simp only [Bool.or_eq_false_iff,beq_eq_false_iff_ne]; exact ⟨fun e => hN (.inl e),fun e => hN (.inr e)⟩
    have i1 : (o.kd == 1) = false := by simp; exact fun e => hN (.inl e)
    have i2 : (o.kd == 9) = false := by simp; exact fun e => hN (.inr e)
    rw [hi] at ha ⊢
    rw [if_neg (by simp)]
    cases hx : (((!false && !s.kn o.nd) || !s.kn o.pa) || !s.kn o.rf) with
    | true =>
      rw [hx] at ha
      rw [if_pos rfl]
      exact rdo_22x h hk ho hr hq i1 i2 ha
    | false =>
      rw [hx] at ha
      rw [if_neg (by simp)]
      simp only [Bool.not_false,Bool.true_and,Bool.or_eq_false_iff,Bool.not_eq_false'] at hx
      exact rdo_okx h hk ho hr hq i1 i2 ha hx.1.1 hx.1.2 hx.2
end
end Go.Proofs.YtpkppobkagdhkaaGreat
