/-
 PrN.
-/
import Derived.Test.YtpkppobkagdhkaaGreatB23
set_option linter.unusedVariables false
set_option linter.unusedSimpArgs false
set_option maxRecDepth 100000
set_option maxHeartbeats 1000000
namespace Go.Proofs.YtpkppobkagdhkaaGreat
open Go.RowKit Go.Maps Utf
theorem least_nat {Q : Nat → Prop} : ∀ n,Q n → ∃ m,Q m ∧ ∀ j,Q j → m ≤ j := by
 intro n
 induction n using Nat.strongRecOn with
 | _ n ih =>
   intro h
   by_cases hx : ∃ j,j < n ∧ Q j
   ·obtain ⟨j,h1,h2⟩ := hx
    exact ih j h1 h2
   ·exact ⟨n,h,fun j hj => Nat.le_of_not_lt (fun hlt => hx ⟨j,hlt,hj⟩)⟩
theorem least_of {α : Type} (R : α → Nat → Prop) : ∃ μ : α → Nat,∀ a n,R a n → R a (μ a) ∧ μ a ≤ n := by
 classical
 refine ⟨fun a => if h : ∃ n,R a n then (least_nat h.choose h.choose_spec).choose else 0,fun a n hn => ?_⟩
 have h : ∃ n,R a n := ⟨n,hn⟩
 have hs := (least_nat h.choose h.choose_spec).choose_spec
 simp only [dif_pos h]
 exact ⟨hs.1,hs.2 n hn⟩
theorem info42 : (Tryz.prog.info? 40).map (fun i => (i.zero,i.size,i.bytes)) = some (some (.agg #[.int .i64 0,.int .i64 0,.string ⟨#[]⟩,.slice none 0 0,.string ⟨#[]⟩,.slice none 0 0]),6,96) := by kernel_rfl
theorem make_trees (w : World) (n : Nat) (h1 : n ≤ 100000) :
  ∃ w1 cur,(Instr.makeSlice 38 (.int .i64 (n : Int)) (.int .i64 (n : Int))).run Tryz.prog w = .ok (.slice (some ⟨w.heap.size,0,none⟩) n n) w1 ∧ At w1 w.heap.size cur 40 ∧ n * 6 = cur.size ∧ Kp [] w w1 := by
 obtain ⟨i,hi0,hi1,hi2,hi3⟩ := info_parts info42
 have hr := run_make (P := Tryz.prog) w 38 40 i _ Tryz.underlying38 hi0 hi1 .i64 .i64 (n : Int) (n : Int) (by omega) (by omega) (by rw [hi3]; omega) (by omega)
 rw [show ((n : Int)).toNat = n by omega] at hr
 exact ⟨_,_,hr,At.new _ _ _,by rw [size_madeCells,hi2],(Kp.refl _ _).alloc _⟩
section
variable {tag : Nat → Nat} {w : World} {b g o c : Nat} {q : Bool} {A : Ar} {pl : Nat → Np}
set_option maxHeartbeats 2000000 in
theorem pure_any (h : Rw tag w b g o c q A.n A.raw pl) (ok : A.Ok) (hn : A.n < 40000) (x0 : Nat) (hx0 : x0 < A.n) (hat : ∀ x,(A.lb x).attrs.length ≤ 20000 ∧ fits (A.lb x).attrs ∧ (A.lb x).name.size ≤ 1000000) :
  Calls Tryz.prog 14 #[.pointer (some ⟨b,0,none⟩),.int .i64 (x0 : Int)] w fun e w' => ∃ p,e = .returned (.tuple #[wv (A.lb x0) p,.int .i64 0]) ∧ Kp [] w w' ∧ Nd (fun y => w.heap.size ≤ y) w' (A.lb x0) (A.below x0) p := by
 have hth : A.there (x0 : Int) = true := by unfold Ar.there; exact decide_eq_true (by omega)
 have HH : Hid (∀ V,Kp [] w V → Calls Tryz.prog 33 #[.pointer (some ⟨b,0,none⟩),.int .i64 (x0 : Int)] V fun e w' => e = .returned (.bool true) ∧ w' = V) := fun V kV => by
  have := has_any (h.kept kV) (by omega) (x0 : Int)
  rw [← there_dec,hth] at this
  exact this
 have HBr : Hid (∀ (V : World) (x : Nat),Kp [] w V → x < A.n → Calls Tryz.prog 34 #[.pointer (some ⟨b,0,none⟩),.int .i64 (x : Int)] V fun e w' => ∃ p : Option Addr × Nat × Nat,e = .returned (wv (A.lb x) (p,(none,0,0))) ∧ Kp [] V w' ∧ Rk (fun y => V.heap.size ≤ y) 2 w' p.1 p.2.1 p.2.2 (cs (A.lb x).attrs)) := fun V x kV hx => bare_any (h.kept kV) (by omega) hx ⟨(hat x).1,(hat x).2.1⟩ (hat x).2.2
 have HKi : Hid (∀ (V : World) (x : Nat),Kp [] w V → x < A.n → Calls Tryz.prog 29 #[.pointer (some ⟨b,0,none⟩),.int .i64 (x : Int)] V fun e w' => ∃ ao n' c',e = .returned (.slice ao n' c') ∧ Made V w' 3 ao n' c' (iv (A.kids x))) := fun V x kV hx => by
  have := kids_any (h.kept kV) ok (by omega) (x : Int)
  rw [show A.kidF (x : Int) = A.kids x by unfold Ar.kidF Ar.there; rw [if_pos (decide_eq_true (by omega)),Int.toNat_natCast]] at this
  exact this
 clear h hat hth
 obtain ⟨W1,hW1⟩ : ∃ W,W = w.alloc (.cells #[.int .i64 0,.int .i64 0,.string ⟨#[]⟩,.slice none 0 0,.string ⟨#[]⟩,.slice none 0 0] 40) := ⟨_,rfl⟩
 have k1 : Kp [] w W1 := by rw [hW1]; exact (Kp.refl _ _).alloc _
 have A1 : At W1 w.heap.size #[.int .i64 0,.int .i64 0,.string ⟨#[]⟩,.slice none 0 0,.string ⟨#[]⟩,.slice none 0 0] 40 := by rw [hW1]; exact At.new _ _ _
 have HW : Hid (w.alloc (.cells #[.int .i64 0,.int .i64 0,.string ⟨#[]⟩,.slice none 0 0,.string ⟨#[]⟩,.slice none 0 0] 40) = W1) := hW1.symm
 have HH1 := HH.out W1 k1
 have HB1 := HBr.out W1 x0 k1 hx0
 clear hW1 HH
 go_enter Tryz.func14,Tryz.ntmps14
 go_upto_region 1 with fail
 rw [HW.out]
 clear HW
 go_wp2_with (first | (go_at_call 33; refine same_of (HH1) ?_) | (go_at_call 34; refine HB1.mono ?_; rintro e W2 ⟨pa,rfl,k2,r2⟩; refine Hid.out ?_))
 unfold Hid wv
 obtain ⟨gT,hgT⟩ : ∃ g,W2.heap.size = g := ⟨_,rfl⟩
 obtain ⟨τ0,pm0⟩ := pm_start hx0 k1 A1 k2 r2
 have hw2s : w.heap.size < gT := by rw [← hgT]; have := A1.lt; have := k2.size; omega
 rw [hgT] at pm0
 obtain ⟨X4,hX4⟩ : ∃ X,X = ((W2.alloc (.cells #[.int .i64 (A.lb x0).kind,.int .i64 (A.lb x0).ns,.string (A.lb x0).name,.slice pa.1 pa.2.1 pa.2.2,.string (A.lb x0).text,.slice none 0 0] 40)).alloc (.cells #[.slice none 0 0] 123)) := ⟨_,rfl⟩
 rw [← hX4] at pm0
 have HNw : Calls Tryz.prog 35 #[] (W2.alloc (.cells #[.int .i64 (A.lb x0).kind,.int .i64 (A.lb x0).ns,.string (A.lb x0).name,.slice pa.1 pa.2.1 pa.2.2,.string (A.lb x0).text,.slice none 0 0] 40)) fun e w' => e = .returned (.pointer (some ⟨gT + 1,0,none⟩)) ∧ w' = X4 := by
  have := cp_new (W2.alloc (.cells #[.int .i64 (A.lb x0).kind,.int .i64 (A.lb x0).ns,.string (A.lb x0).name,.slice pa.1 pa.2.1 pa.2.2,.string (A.lb x0).text,.slice none 0 0] 40))
  rw [show (W2.alloc (.cells #[.int .i64 (A.lb x0).kind,.int .i64 (A.lb x0).ns,.string (A.lb x0).name,.slice pa.1 pa.2.1 pa.2.2,.string (A.lb x0).text,.slice none 0 0] 40)).heap.size = gT + 1 by rw [← hgT]; simp,← hX4] at this
  exact this
 have eab : A.abk x0 gT (fun _ => 0) x0 = gT ∧ A.aof x0 x0 = 0 := by unfold Ar.abk Ar.aof; rw [if_pos rfl,if_pos rfl]; exact ⟨rfl,rfl⟩
 have epx : px A x0 gT (fun _ => 0) [x0] = pcc ⟨gT,0,none⟩ (x0 : Int) := by unfold px; rw [List.flatMap_cons,List.flatMap_nil,eab.1,eab.2,List.append_nil]
 have HPu : Calls Tryz.prog 36 #[.pointer (some ⟨gT + 1,0,none⟩),.agg #[.int .i64 (x0 : Int),.pointer (some ⟨gT,0,none⟩)]] X4 fun e w' => e = .returned (.tuple #[]) ∧ ∃ v τ,Pm A w w' x0 gT w.heap.size (gT + 1) τ (fun _ => 0) (A.Mof x0 []) (A.Kof []) v [x0] := by
  refine (cp_push X4 (gT + 1) (.slice none 0 0) 0 [] ⟨gT,0,none⟩ (x0 : Int) pm0.pk (by omega)).mono ?_
  rintro e w5 ⟨rfl,t5⟩
  rw [List.nil_append,← epx] at t5
  obtain ⟨v5,τ5,pm5,_⟩ := pm0.pile (S' := [x0]) t5 rfl
  exact ⟨rfl,v5,τ5,pm5⟩
 clear HH1 HB1 k1 A1 k2 r2 pm0 hX4
 go_wp2_with (first | (go_at_call 35; refine (HNw).mono ?_; rintro e w9 ⟨rfl,hw⟩; have hw2 := hw.symm; clear hw; subst hw2) | (go_at_call 36; refine HPu.mono ?_; rintro e W5 ⟨rfl,v5,τ5,pm5⟩; refine Hid.out ?_))
 unfold Hid
 have HPo : Calls Tryz.prog 37 #[.pointer (some ⟨gT + 1,0,none⟩)] W5 fun e w' => e = .returned (.tuple #[.agg #[.int .i64 (x0 : Int),.pointer (some ⟨gT,0,none⟩)],.bool true]) ∧ RPure A w x0 gT w.heap.size (gT + 1) (.pointer (some ⟨w'.heap.size,0,none⟩),.bool true,w'.alloc (.cells #[.int .i64 (x0 : Int),.pointer (some ⟨gT,0,none⟩)] 82)) A.n := by
  have hpk := pm5.pk
  rw [epx] at hpk
  refine (cp_pop W5 (gT + 1) v5 0 [] ⟨gT,0,none⟩ (x0 : Int) hpk (by omega)).mono ?_
  rintro e w6 ⟨rfl,t6⟩
  exact ⟨rfl,head_some pm5 hx0 t6 rfl⟩
 clear HNw HPu pm5 epx eab
 go_wp2_with (go_at_call 37; refine HPo.mono ?_; rintro e W6 ⟨rfl,R6⟩)
 clear HPo
 obtain ⟨μ,hμ⟩ := least_of (RPure A w x0 gT w.heap.size (gT + 1))
 go_loopw [8,9,10,11,12] (fun x8 x9 _ _ _ wr => ∃ n,RPure A w x0 gT w.heap.size (gT + 1) (x8,x9,wr) n) (fun x8 x9 _ _ _ wr => μ (x8,x9,wr))
 case atStart => exact ⟨_,R6⟩
 case round =>
  clear R6 hgT
  obtain ⟨n0,hrel⟩ := hrel
  obtain ⟨gA,D,S,cu,τ,BB,VV,c0,c1,h8,h9,hlen,pm,pw,hcu,hex,hat,hcy,hcn⟩ := (hμ _ _ hrel).1
  simp only at h8 h9 pm hex hat
  subst h8 h9
  have HM : Hid (∀ a n,RPure A w x0 gT w.heap.size (gT + 1) a n → μ a ≤ n) := fun a n hn => (hμ a n hn).2
  have kw : Kp [] w wr := pm.cs.kp
  cases cu with
  | nil =>
    obtain rfl := hcn rfl
    rw [List.append_nil] at pw
    obtain ⟨p,d1,d2⟩ := pm.cs.nd ok (fun x hx => (pw.dw x (pw.all hx)).1) (fun x hx hk => by unfold Ar.Kof; exact decide_eq_true ⟨pw.all hx,hk⟩) (fun x hk => by unfold Ar.Kof; exact decide_eq_false (fun hh => hh.2 hk)) hx0
    have rs := pm.rs
    have k9 : Kp [w.heap.size] wr (putZ wr w.heap.size (.int .i64 (A.lb x0).kind) (.int .i64 (A.lb x0).ns) (.string (A.lb x0).name) (.slice p.1.1 p.1.2.1 p.1.2.2) (.string (A.lb x0).text) (.slice p.2.1 p.2.2.1 p.2.2.2)) := (Kp.refl _ _).putZ (Or.inl (by simp)) _ _ _ _ _ _
    have nd9 := (d2.keep (k9.sms (fun x hq hs => by rw [List.mem_singleton.1 hs] at hq; exact hq.2 pm.rn.2))).mono (R := fun y => w.heap.size ≤ y) (fun x _ hx => hx.1)
    have D9 : Hid (_ ∧ _ ∧ _) := ⟨(rs.putZ (.int .i64 (A.lb x0).kind) (.int .i64 (A.lb x0).ns) (.string (A.lb x0).name) (.slice p.1.1 p.1.2.1 p.1.2.2) (.string (A.lb x0).text) (.slice p.2.1 p.2.2.1 p.2.2.2)).six,kw.trans k9 (fun x hx => Or.inr (by rw [List.mem_singleton.1 hx]; exact Nat.le_refl _)),nd9⟩
    unfold putZ at D9
    obtain ⟨y0,y1,y2,y3,y4,y5⟩ := d1.cells
    rw [Nat.zero_add] at y1 y2 y3 y4 y5
    obtain ⟨z0,z1,z2,z3,z4,z5⟩ := rs.six
    have fr := rs.free
    clear hrel hμ hlen pm pw hcu hex hat hcy hcn HM rs k9 nd9 d1 d2 kw HBr HKi
    rw [show decide (([] : List Nat) ≠ []) = false from rfl]
    go_wp2
    obtain ⟨⟨x0',x1,x2,x3,x4,x5⟩,kD,R9⟩ := D9.out
    refine bodyPost_ret (v := .tuple #[.agg #[.int .i64 (A.lb x0).kind,.int .i64 (A.lb x0).ns,.string (A.lb x0).name,.slice p.1.1 p.1.2.1 p.1.2.2,.string (A.lb x0).text,.slice p.2.1 p.2.2.1 p.2.2.2],.int .i64 0]) (by simp [results,go_sem,x0',x1,x2,x3,x4,x5]) rfl ⟨p,rfl,kD,R9⟩
  | cons y rest =>
    obtain rfl : rest = [] := List.eq_nil_of_length_eq_zero (by simp only [List.length_cons] at hcu; omega)
    obtain ⟨rfl,rfl⟩ := hcy y (by simp)
    have hyL := pw.lw y (by simp)
    have hyn : y < A.n := hyL.2.2.2
    have HS : Hid (A.n - (y :: D).length < μ (.pointer (some ⟨gA,0,none⟩),.bool (decide ([y] ≠ [])),wr)) := by
     have := pw.lenDy (y := y) (by simp)
     show A.n - (y :: D).length < _
     rw [← hlen]
     simp
     omega
    have HK := HKi.out wr y kw hyn
    have hlk : (A.kids y).length ≤ A.n := Ar.pig _ _ (ok.one y) (fun z hz => (ok.kid_lt hz).1)
    rw [show decide ([y] ≠ []) = true from rfl] at HS ⊢
    obtain ⟨ay,hay⟩ : ∃ a,A.abk x0 gT BB y = a := ⟨_,rfl⟩
    obtain ⟨oy,hoy⟩ : ∃ a,A.aof x0 y = a := ⟨_,rfl⟩
    rw [hay,hoy] at hat
    have g0 := hat.cell 0
    have g1 := hat.cell 1
    have hgl := hat.lt
    clear hrel hμ hlen hcu hcn hcy
    go_wp2_with (go_at_call 29; refine HK.mono ?_; rintro e w1 ⟨kao,kn,kc,rfl,M1⟩; refine Hid.out ?_)
    unfold Hid
    have hkn : kn = (A.kids y).length := by have := M1.rb.len; rwa [iv_len] at this
    have hat1 := hat.kept M1.2.1 (by simp)
    have pm1 := pm.kept M1.2.1
    clear HK g0 g1
    by_cases hk0 : A.kids y = []
    ·obtain ⟨pm2,pw2⟩ := pm1.leaf ok pw hk0
     rw [hk0] at hkn
     obtain rfl : kn = 0 := hkn
     have g0 := hat1.cell 0
     have g1 := hat1.cell 1
     clear pm pw pm1 hat hat1 M1 hex kw HBr HKi hay hoy hk0
     rcases List.eq_nil_or_concat (S) with eS | ⟨S2,y2,eS⟩
     ·have pz := pm2
      have pq := pw2
      rw [eS] at pz pq
      have HP := cp_pop_none (w1.alloc (.cells #[.int .i64 (y : Int),.pointer (some ⟨ay,oy,none⟩)] 82)) (gT + 1) _ _ (pz.pk.keep ((Kp.refl [] w1).alloc _) (by simp) (fun _ _ => by simp))
      unfold zpc at HP
      have XR : Hid (∀ w2,Kp [] (w1.alloc (.cells #[.int .i64 (y : Int),.pointer (some ⟨ay,oy,none⟩)] 82)) w2 → RPure A w x0 gT w.heap.size (gT + 1) (.pointer (some ⟨w1.heap.size,0,none⟩),.bool false,(w2.setCell ⟨w1.heap.size,0,none⟩ (.int .i64 0)).setCell ⟨w1.heap.size,1,none⟩ (.pointer none)) (A.n - (y :: D).length)) := fun w2 k => tail_none pz pq _ _ k
      have AX : Hid (∀ w2,Kp [] (w1.alloc (.cells #[.int .i64 (y : Int),.pointer (some ⟨ay,oy,none⟩)] 82)) w2 → w2.cell? ⟨w1.heap.size,0,none⟩ = some (.int .i64 (y : Int)) ∧ w2.cell? ⟨w1.heap.size,1,none⟩ = some (.pointer (some ⟨ay,oy,none⟩)) ∧ (∀ j,w2.frozen? ⟨w1.heap.size,j,none⟩ = false)) := fun w2 k => ⟨((At.new w1 _ _).kept k (by simp)).cell 0,((At.new w1 _ _).kept k (by simp)).cell 1,((At.new w1 _ _).kept k (by simp)).free⟩
      clear pm2 pw2 pz pq eS
      go_wp2_with (go_at_call 37; refine HP.mono ?_; rintro e w2 ⟨rfl,k2⟩; obtain ⟨e0,e1,f2⟩ := AX.out _ k2)
      go_roundw
      case rel => exact ⟨_,XR.out _ k2⟩
      case measure => exact Nat.lt_of_le_of_lt (HM.out _ _ (XR.out _ k2)) HS.out
     ·have pz := pm2
      have pq := pw2
      rw [List.concat_eq_append] at eS
      rw [eS] at pz pq
      have hpk := pz.pk
      rw [px_app,List.length_append] at hpk
      have HP := cp_pop (w1.alloc (.cells #[.int .i64 (y : Int),.pointer (some ⟨ay,oy,none⟩)] 82)) (gT + 1) _ S2.length (px A x0 gT BB S2) ⟨A.abk x0 gT BB y2,A.aof x0 y2,none⟩ (y2 : Int) (hpk.keep ((Kp.refl [] w1).alloc _) (by simp) (fun _ _ => by simp)) (by have := pq.lenL; simp at this; omega)
      unfold pvc at HP
      have XR : Hid (∀ w2,Tk 2 (w1.alloc (.cells #[.int .i64 (y : Int),.pointer (some ⟨ay,oy,none⟩)] 82)) w2 123 82 (gT + 1) VV S2.length (px A x0 gT BB S2) → RPure A w x0 gT w.heap.size (gT + 1) (.pointer (some ⟨w1.heap.size,0,none⟩),.bool true,(w2.setCell ⟨w1.heap.size,0,none⟩ (.int .i64 (y2 : Int))).setCell ⟨w1.heap.size,1,none⟩ (.pointer (some ⟨A.abk x0 gT BB y2,A.aof x0 y2,none⟩))) (A.n - (y :: D).length)) := fun w2 t => tail_some pz pq _ _ t
      have hpl := pz.pk.lt
      have AX : Hid (∀ w2,Tk 2 (w1.alloc (.cells #[.int .i64 (y : Int),.pointer (some ⟨ay,oy,none⟩)] 82)) w2 123 82 (gT + 1) VV S2.length (px A x0 gT BB S2) → w2.cell? ⟨w1.heap.size,0,none⟩ = some (.int .i64 (y : Int)) ∧ w2.cell? ⟨w1.heap.size,1,none⟩ = some (.pointer (some ⟨ay,oy,none⟩)) ∧ (∀ j,w2.frozen? ⟨w1.heap.size,j,none⟩ = false)) := fun w2 t => by
       obtain ⟨_,_,k,_⟩ := t
       have hnm : w1.heap.size ∉ (gT + 1) :: blk VV := fun hx => by have := hpl _ (List.mem_cons.1 hx); omega
       exact ⟨((At.new w1 _ _).kept k hnm).cell 0,((At.new w1 _ _).kept k hnm).cell 1,((At.new w1 _ _).kept k hnm).free⟩
      clear pm2 pw2 pz pq eS hpk hpl
      generalize A.abk x0 gT BB y2 = ay2 at HP XR
      generalize A.aof x0 y2 = oy2 at HP XR
      go_wp2_with (go_at_call 37; refine HP.mono ?_; rintro e w2 ⟨rfl,t2⟩; obtain ⟨e0,e1,f2⟩ := AX.out _ t2)
      go_roundw
      case rel => exact ⟨_,XR.out _ t2⟩
      case measure => exact Nat.lt_of_le_of_lt (HM.out _ _ (XR.out _ t2)) HS.out
    ·have t1 : (((A.kids y).length : Int) == 0) = false := beq_false_of_ne (by have := List.length_pos_iff.2 hk0; omega)
     have t1n : ((A.kids y).length == 0) = false := beq_false_of_ne (by have := List.length_pos_iff.2 hk0; omega)
     subst hkn
     obtain ⟨T1,hT1⟩ : ∃ T : Nat → Nat,T = fun b => if b < wr.heap.size then τ b else 0 := ⟨_,rfl⟩
     have T10 : ∀ x,x < wr.heap.size → T1 x = τ x := fun x hx => by rw [hT1]; simp only [if_pos hx]
     have pm1 : Pm A w w1 x0 gT w.heap.size (gT + 1) T1 BB (A.Mof x0 D) (A.Kof D) VV S := pm.keep M1.2.1 (fun x hx => by simp at hx) T10
     have hex1 : Ex w w1 w.heap.size (gT + 1) T1 VV gA := hex.step M1.2.1.size T10 (fun k hk => .inl hk)
     have hkl : ∀ kb,kb ∈ blk (.slice kao (A.kids y).length kc) → Ex w w1 w.heap.size (gT + 1) T1 VV kb := fun kb hk => by
      have h1 := M1.2.2 kb hk
      have h2 := M1.1.lt kb hk
      have h3 := pm.cs.kp.size
      have h4 := pm.pk.lt
      have h5 := pm.rs.lt
      exact ⟨by omega,h2,by rw [hT1]; simp only [if_neg (show ¬ kb < wr.heap.size by omega)],fun e => by have := h4 _ (.inl rfl); omega,fun hx => by have := h4 _ (.inr hx); omega,fun e => by omega⟩
     obtain ⟨w2,cur2,hmk,hc2,hsz2,k2⟩ := make_trees (World.drew w1) (A.kids y).length (by omega)
     replace hmk : (Instr.makeSlice 38 (.int .i64 ((A.kids y).length : Int)) (.int .i64 ((A.kids y).length : Int))).run Tryz.prog (World.drew w1) = .ok (.slice (some ⟨w1.heap.size,0,none⟩) (A.kids y).length (A.kids y).length) w2 := hmk
     have k12 : Kp [] w1 w2 := ((Kp.refl [] w1).drew).trans k2 (fun x hx => Or.inl hx)
     obtain ⟨τ3,pm3,T3,k5,y2,eab⟩ := pm1.room ok pw w1.heap.size (Nat.le_refl _) k12 hc2 hsz2
     have hS11 : (World.drew w1).cell? ⟨gA,1,none⟩ = some (.pointer (some ⟨ay,oy,none⟩)) := hat1.cell 1
     have hS11b : w2.cell? ⟨gA,1,none⟩ = some (.pointer (some ⟨ay,oy,none⟩)) := (hat1.kept k12 (by simp)).cell 1
     have kc5 := (pm1.kept k12).cs.kidCell (y := y) hyL.1
     rw [kdv_y pw,hay,hoy] at kc5
     obtain ⟨q5,fz5⟩ := kc5
     have hs13 : w1.heap.size ≤ (w2.setCell ⟨ay,oy + 5,none⟩ (.slice (some ⟨w1.heap.size,0,none⟩) (A.kids y).length (A.kids y).length)).heap.size := by rw [hay,hoy] at k5; exact Nat.le_trans k12.size k5.size
     obtain ⟨B3,hB3⟩ : ∃ B3,B3 = fun p => if p = y then w1.heap.size else BB p := ⟨_,rfl⟩
     have hB3y : B3 y = w1.heap.size := by rw [hB3]; simp only [if_pos]
     rw [← hB3,hay] at eab
     rw [← hB3] at pm3
     rw [hay] at y2
     rw [hay,hoy] at k5 pm3
     have I0 : Hid (Inn A w (w2.setCell ⟨ay,oy + 5,none⟩ (.slice (some ⟨w1.heap.size,0,none⟩) (A.kids y).length (A.kids y).length)) x0 gT w.heap.size (gT + 1) B3 D S y 0 0 gA ay oy (.slice kao (A.kids y).length kc)) := by
      refine ⟨τ3,VV,by rw [List.take_zero,List.append_nil]; exact pm3,hex1.step hs13 T3 (fun k hk => .inl hk),(hat1.kept k12 (by simp)).kept k5 (by simpa using hex1.no2 y2),fun kb hk => (hkl kb hk).step hs13 T3 (fun k hk => .inl hk),(M1.1.keep k12 (fun _ _ => by simp)).keep k5 (fun x hx => by simpa using (hkl x hx).no2 y2),eab,hoy⟩
     have PW : Hid (A.Pw x0 D (S ++ [y])) := pw
     have hgw : gA < w1.heap.size := hat1.lt
     clear pm pw pm1 hat hat1 M1 hex kw hay hoy pm3 k5 k12 k2 hc2 hsz2 T3 hT1 T10 hex1 hkl y2 eab hs13 hB3
     go_wp2_with fail
     refine wp_region_g (S := fun V => V.cell? ⟨gA,1,none⟩ = some (.pointer (some ⟨ay,oy,none⟩))) (T := [7]) (by kernel_rfl) hS11 (fun hHeld => ?_)
     refine g_pure 0 (some 44) (.fieldAddr 82 (.tmp 8) 1) ?_
     refine g_take 1 (some 45) (.load 80 (.tmp 44)) (by intro w hSw; (have q1 := hSw); go_simp; try with_reducible rfl) ?_
     refine g_pure 2 (some 46) (.move (.tmp 10)) ?_
     refine g_pure 3 (some 47) (.call { callee := .builtin .len,args := #[.tmp 46],argTypes := #[61] }) ?_
     refine wpAnyG_ready (rs := [4]) (by kernel_rfl) (by simp) ?_
     refine AllReadyG.cons (o := ⟨some 48,.makeSlice 38 (.tmp 47) (.tmp 47),38,_,_,none⟩) rfl (fun K hK => ?_) AllReadyG.nil
     go_simp
     refine hK.out _ _ hS11b (fun hHeld1 => ?_)
     clear hK K hHeld
     try simp only [Act.put,pu1,pu2,pu3]
     refine g_pure 5 (some 49) (.nilCheck (.tmp 45)) ?_
     refine g_pure 6 (some 50) (.fieldAddr 40 (.tmp 49) 5) ?_
     refine wpAnyG_free (by kernel_rfl) ?_
     refine wpAny_ready (rs := [7]) (by kernel_rfl) (by simp) ?_
     refine AllReady.cons (o := ⟨none,.store 38 (.tmp 50) (.tmp 48),0,_,_,none⟩) rfl (fun K hK => ?_) AllReady.nil
     go_simp
     refine hK _ _ ?_
     clear hK K
     try simp only [Act.put,pu1,pu2,pu3]
     refine wpAny_done (by kernel_rfl) ?_ _
     generalize w2.setCell ⟨ay,oy + 5,none⟩ (.slice (some ⟨w1.heap.size,0,none⟩) (A.kids y).length (A.kids y).length) = w3 at I0 ⊢
     clear hmk hS11 hS11b q5 fz5
     go_wp2_with fail
     obtain ⟨wr0,rfl⟩ : ∃ x,x = wr := ⟨_,rfl⟩
     go_loopw [11,12,53] (fun _ _ i wr => ∃ j : Nat,j ≤ (A.kids y).length ∧ i = .int .i64 (j : Int) ∧ Inn A w wr x0 gT w.heap.size (gT + 1) B3 D S y j j gA ay oy (.slice kao (A.kids y).length kc)) (fun _ _ i _ => (A.kids y).length - (intOf i).toNat)
     case atStart => exact ⟨0,Nat.zero_le _,rfl,I0.out⟩
     case round =>
      obtain ⟨j,hj,rfl,inn⟩ := hrel
      clear I0
      by_cases hlt : j < (A.kids y).length
      ·have ho : Own wr 3 (.slice kao (A.kids y).length kc) (iv (A.kids y)) := by
        obtain ⟨_,_,_,_,_,_,ho,_⟩ := inn
        exact ho
       obtain ⟨b1,o1,rfl,h3⟩ := (Rb.of_own ho).iv_at j hlt
       obtain ⟨q1,q2,kV,cur,ac,hcs⟩ := inn.cells ok PW.out
       obtain ⟨z,hz⟩ : ∃ z,(A.kids y)[j] = z := ⟨_,rfl⟩
       have hzn : z < A.n := by rw [← hz]; exact (ok.kid_lt (List.getElem_mem hlt)).1
       rw [hz] at h3
       have hk1 : (j : Int) < ((A.kids y).length : Int) := by omega
       have hk0 : (0 : Int) ≤ (j : Int) := by omega
       have HB := HBr.out (World.drew wr) z (kV.drew) hzn
       unfold wv at HB
       obtain ⟨gK,hgK⟩ : ∃ g,B3 y = g := ⟨_,rfl⟩
       rw [hgK] at q2 ac
       have hS15 : (World.drew wr).cell? ⟨gA,1,none⟩ = some (.pointer (some ⟨ay,oy,none⟩)) ∧ (World.drew wr).cell? ⟨ay,oy + 5,none⟩ = some (.slice (some ⟨gK,0,none⟩) (A.kids y).length (A.kids y).length) := ⟨q1,q2⟩
       have HI : Hid (Inn A w wr x0 gT w.heap.size (gT + 1) B3 D S y j j gA ay oy (.slice (some ⟨b1,o1,none⟩) (A.kids y).length kc)) := inn
       have HA : Hid (At wr gK cur 40) := ac
       have HgK : Hid (B3 y = gK) := hgK
       have HZ : Hid ((A.kids y)[j] = z) := hz
       have hga := block_lt_of_cell q1
       have hgy := block_lt_of_cell q2
       clear inn ho ac hgK hz hB3y
       go_wp2_with fail
       refine wp_region_g (S := fun V => V.cell? ⟨gA,1,none⟩ = some (.pointer (some ⟨ay,oy,none⟩)) ∧ V.cell? ⟨ay,oy + 5,none⟩ = some (.slice (some ⟨gK,0,none⟩) (A.kids y).length (A.kids y).length)) (T := [10]) (by kernel_rfl) hS15 (fun hHeld => ?_)
       refine g_pure 0 (some 58) (.fieldAddr 82 (.tmp 8) 1) ?_
       refine g_take 1 (some 59) (.load 80 (.tmp 58)) (by intro w hSw; (obtain ⟨q1,q2⟩ := hSw); go_simp; try with_reducible rfl) ?_
       refine g_pure 2 (some 60) (.nilCheck (.tmp 59)) ?_
       refine g_pure 3 (some 61) (.fieldAddr 40 (.tmp 60) 5) ?_
       refine g_take 4 (some 62) (.load 38 (.tmp 61)) (by intro w hSw; (obtain ⟨q1,q2⟩ := hSw); go_simp; try with_reducible rfl) ?_
       refine g_pure 5 (some 63) (.move (.tmp 11)) ?_
       refine g_pure 6 (some 64) (.move (.tmp 0)) ?_
       refine g_pure 7 (some 65) (.move (.tmp 12)) ?_
       refine wpAnyG_ready (rs := [8]) (by kernel_rfl) (by simp) ?_
       refine AllReadyG.cons (o := ⟨some 66,.call { callee := .value (.func 34),args := #[.tmp 64,.tmp 65],argTypes := #[36,3] },40,_,_,none⟩) rfl (fun K hK => ?_) AllReadyG.nil
       go_simp
       go_at_call 34
       refine HB.mono ?_
       rintro e W8 ⟨pa,rfl,k8,r8⟩
       go_wp2_with fail
       have a8 := (HA.out.kept (Kp.refl [] wr).drew (by simp)).kept k8 (by simp)
       have s8 : W8.cell? ⟨gA,1,none⟩ = some (.pointer (some ⟨ay,oy,none⟩)) ∧ W8.cell? ⟨ay,oy + 5,none⟩ = some (.slice (some ⟨gK,0,none⟩) (A.kids y).length (A.kids y).length) := ⟨by rw [k8.cell (a := ⟨gA,1,none⟩) hga (by simp)]; exact q1,by rw [k8.cell (a := ⟨ay,oy + 5,none⟩) hgy (by simp)]; exact q2⟩
       refine hK.out _ _ s8 (fun hHeld1 => ?_)
       clear hK K hHeld
       try simp only [Act.put,pu1,pu2,pu3]
       refine g_pure 9 (some 67) (.indexAddr 38 (.tmp 62) (.tmp 63)) ?_
       refine wpAnyG_free (by kernel_rfl) ?_
       refine wpAny_ready (rs := [10]) (by kernel_rfl) (by simp) ?_
       refine AllReady.cons (o := ⟨none,.store 40 (.tmp 67) (.tmp 66),0,_,_,none⟩) rfl (fun K hK => ?_) AllReady.nil
       have d20 := (a8.cell (j * 6)).trans (Array.getElem?_eq_getElem (by omega))
       have d21 := (a8.cell (j * 6 + 1)).trans (Array.getElem?_eq_getElem (by omega))
       have d22 := (a8.cell (j * 6 + 2)).trans (Array.getElem?_eq_getElem (by omega))
       have d23 := (a8.cell (j * 6 + 3)).trans (Array.getElem?_eq_getElem (by omega))
       have d24 := (a8.cell (j * 6 + 4)).trans (Array.getElem?_eq_getElem (by omega))
       have d25 := (a8.cell (j * 6 + 5)).trans (Array.getElem?_eq_getElem (by omega))
       have fr2 := fun i => a8.free i
       go_simp
       refine hK _ _ ?_
       clear hK K
       try simp only [Act.put,pu1,pu2,pu3]
       refine wpAny_done (by kernel_rfl) ?_ _
       obtain ⟨W9,hW9⟩ : ∃ V,V = put6 W8 gK (j * 6) (.int .i64 (A.lb z).kind) (.int .i64 (A.lb z).ns) (.string (A.lb z).name) (.slice pa.1 pa.2.1 pa.2.2) (.string (A.lb z).text) (.slice none 0 0) := ⟨_,rfl⟩
       have hWu := hW9
       unfold put6 at hWu
       rw [← hWu]
       have i9 : Inn A w W9 x0 gT w.heap.size (gT + 1) B3 D S y (j + 1) j gA ay oy (.slice (some ⟨b1,o1,none⟩) (A.kids y).length kc) := by
        rw [hW9,← HgK.out]
        exact HI.out.kid ok PW.out hlt HZ.out (((Kp.refl [] wr).drew).trans k8 (fun x hx => Or.inl hx)) r8
       have HPu := i9.push (w2 := W9) ok PW.out hlt HZ.out hn
       obtain ⟨c1,c2,_⟩ := i9.cells ok PW.out
       rw [HgK.out] at c2 HPu
       clear hWu hW9 i9 d20 d21 d22 d23 d24 d25 fr2 a8 k8 r8 q1 q2 h3 s8 hHeld1 hS15 HB HI HA
       go_wp2_with (go_at_call 36; refine HPu.mono ?_; rintro e W10 ⟨rfl,i10⟩)
       go_roundw
       case rel => exact ⟨j + 1,by omega,by go_num,i10⟩
       case measure => simp [intOf]; omega
      ·obtain rfl : j = (A.kids y).length := by omega
       obtain ⟨w9,rfl⟩ : ∃ x,x = wr := ⟨_,rfl⟩
       obtain ⟨τ9,v9,pm8,ex9,ha9,_,_,_,_⟩ := inn
       rw [List.take_length] at pm8
       obtain ⟨pm9,pw9⟩ := pm8.done ok PW.out hk0
       have g0 := ha9.cell 0
       have g1 := ha9.cell 1
       clear pm8 ex9 ha9 HBr HKi hk0
       rcases List.eq_nil_or_concat (S ++ A.kids y) with eS | ⟨S2,y2,eS⟩
       ·have pz := pm9
        have pq := pw9
        rw [eS] at pz pq
        have HP := cp_pop_none (w9.alloc (.cells #[.int .i64 (y : Int),.pointer (some ⟨ay,oy,none⟩)] 82)) (gT + 1) _ _ (pz.pk.keep ((Kp.refl [] w9).alloc _) (by simp) (fun _ _ => by simp))
        unfold zpc at HP
        have XR : Hid (∀ w2,Kp [] (w9.alloc (.cells #[.int .i64 (y : Int),.pointer (some ⟨ay,oy,none⟩)] 82)) w2 → RPure A w x0 gT w.heap.size (gT + 1) (.pointer (some ⟨w9.heap.size,0,none⟩),.bool false,(w2.setCell ⟨w9.heap.size,0,none⟩ (.int .i64 0)).setCell ⟨w9.heap.size,1,none⟩ (.pointer none)) (A.n - (y :: D).length)) := fun w2 k => tail_none pz pq _ _ k
        have AX : Hid (∀ w2,Kp [] (w9.alloc (.cells #[.int .i64 (y : Int),.pointer (some ⟨ay,oy,none⟩)] 82)) w2 → w2.cell? ⟨w9.heap.size,0,none⟩ = some (.int .i64 (y : Int)) ∧ w2.cell? ⟨w9.heap.size,1,none⟩ = some (.pointer (some ⟨ay,oy,none⟩)) ∧ (∀ j,w2.frozen? ⟨w9.heap.size,j,none⟩ = false)) := fun w2 k => ⟨((At.new w9 _ _).kept k (by simp)).cell 0,((At.new w9 _ _).kept k (by simp)).cell 1,((At.new w9 _ _).kept k (by simp)).free⟩
        clear pm9 pw9 pz pq eS
        go_wp2_with (go_at_call 37; refine HP.mono ?_; rintro e w2 ⟨rfl,k2⟩; obtain ⟨e0,e1,f2⟩ := AX.out _ k2)
        go_roundw
        case rel => exact ⟨_,XR.out _ k2⟩
        case measure => exact Nat.lt_of_le_of_lt (HM.out _ _ (XR.out _ k2)) HS.out
       ·have pz := pm9
        have pq := pw9
        rw [List.concat_eq_append] at eS
        rw [eS] at pz pq
        have hpk := pz.pk
        rw [px_app,List.length_append] at hpk
        have HP := cp_pop (w9.alloc (.cells #[.int .i64 (y : Int),.pointer (some ⟨ay,oy,none⟩)] 82)) (gT + 1) _ S2.length (px A x0 gT B3 S2) ⟨A.abk x0 gT B3 y2,A.aof x0 y2,none⟩ (y2 : Int) (hpk.keep ((Kp.refl [] w9).alloc _) (by simp) (fun _ _ => by simp)) (by have := pq.lenL; simp at this; omega)
        unfold pvc at HP
        have XR : Hid (∀ w2,Tk 2 (w9.alloc (.cells #[.int .i64 (y : Int),.pointer (some ⟨ay,oy,none⟩)] 82)) w2 123 82 (gT + 1) v9 S2.length (px A x0 gT B3 S2) → RPure A w x0 gT w.heap.size (gT + 1) (.pointer (some ⟨w9.heap.size,0,none⟩),.bool true,(w2.setCell ⟨w9.heap.size,0,none⟩ (.int .i64 (y2 : Int))).setCell ⟨w9.heap.size,1,none⟩ (.pointer (some ⟨A.abk x0 gT B3 y2,A.aof x0 y2,none⟩))) (A.n - (y :: D).length)) := fun w2 t => tail_some pz pq _ _ t
        have hpl := pz.pk.lt
        have AX : Hid (∀ w2,Tk 2 (w9.alloc (.cells #[.int .i64 (y : Int),.pointer (some ⟨ay,oy,none⟩)] 82)) w2 123 82 (gT + 1) v9 S2.length (px A x0 gT B3 S2) → w2.cell? ⟨w9.heap.size,0,none⟩ = some (.int .i64 (y : Int)) ∧ w2.cell? ⟨w9.heap.size,1,none⟩ = some (.pointer (some ⟨ay,oy,none⟩)) ∧ (∀ j,w2.frozen? ⟨w9.heap.size,j,none⟩ = false)) := fun w2 t => by
         obtain ⟨_,_,k,_⟩ := t
         have hnm : w9.heap.size ∉ (gT + 1) :: blk v9 := fun hx => by have := hpl _ (List.mem_cons.1 hx); omega
         exact ⟨((At.new w9 _ _).kept k hnm).cell 0,((At.new w9 _ _).kept k hnm).cell 1,((At.new w9 _ _).kept k hnm).free⟩
        clear pm9 pw9 pz pq eS hpk hpl
        generalize A.abk x0 gT B3 y2 = ay2 at HP XR
        generalize A.aof x0 y2 = oy2 at HP XR
        go_wp2_with (go_at_call 37; refine HP.mono ?_; rintro e w2 ⟨rfl,t2⟩; obtain ⟨e0,e1,f2⟩ := AX.out _ t2)
        go_roundw
        case rel => exact ⟨_,XR.out _ t2⟩
        case measure => exact Nat.lt_of_le_of_lt (HM.out _ _ (XR.out _ t2)) HS.out
end
end Go.Proofs.YtpkppobkagdhkaaGreat
