/-
 PrH.
-/
import Derived.Test.YtpkppobkagdhkaaGreatB17
set_option linter.unusedVariables false
set_option linter.unusedSimpArgs false
set_option maxRecDepth 100000
set_option maxHeartbeats 1000000
namespace Go.Proofs.YtpkppobkagdhkaaGreat
open Go.RowKit Go.Maps Utf
theorem step_app2 {P : Program} {ops : Array Oper} {o : Oper} {a : Act} {w w' : World} {K : Act → World → Prop} {Q : Exit → Act → World → Prop} {E : Prop}
  (hg : o.guard = none) (s x : Operand) (t t' : TypeId) (hop : o.op = Op.call { callee := Callee.builtin Builtin.append,args := #[s,x],argTypes := #[t,t'] })
  (v u : Value) {v' : Value} (hs : a.eval s = v) (hx : a.eval x = u) (hrun : ∀ ty,(Builtin.append_ #[t,t'] ty #[v,u]).run P w = .ok v' w') (hK : K (a.put o.dst v') w') :
  if Region.wanted o (yielded ops a.tmps) = true then Oper.wp P o a w K Q else E := by
 have hw : Region.wanted o (yielded ops a.tmps) = true := by simp [Region.wanted,hg]
 rw [if_pos hw]
 have hr := hrun o.type
 unfold Oper.wp
 simp [execOp,hop,resolve,invoke,builtin,hs,hx,hr,Result.andThen]
 exact hK
section
variable {tag : Nat → Nat} {w : World} {b g o c : Nat} {q : Bool} {n : Nat} {N : Nat → Pn} {pl : Nat → Np}
theorem Rw.turn {tag' : Nat → Nat} {S : List Nat} {w2 : World} {N' : Nat → Pn} {pl' : Nat → Np} (h : Rw tag w b g o c q n N pl) {i k : Nat} (hi : i < n) (hk : k < 11) (u : Value) (kp : Kp S w w2) (hS : ∀ x,x ∈ S → x < w.heap.size → tag x = 8 + 3 * i ∨ tag x = 9 + 3 * i ∨ tag x = 10 + 3 * i) (ht : ∀ x,x < w.heap.size → tag' x = tag x)
  (he : el (N' i) (pl' i) = (el (N i) (pl i)).set k u) (hN : ∀ j,j < n → j ≠ i → N' j = N j ∧ pl' j = pl j) (hs : Sd tag' w2 i (N' i).lb (pl' i)) :
  Rw tag' (w2.setCell ⟨g,o + i * 11 + k,none⟩ u) b g o c q n N' pl' ∧ Mv tag w tag' (w2.setCell ⟨g,o + i * 11 + k,none⟩ u) := by
 have hne := h.ne
 have hlt := h.lt
 obtain ⟨cur,h1,h2,h3⟩ := h.body
 have hbS : b ∉ S := fun hx => by have := hS b hx hlt.1; rw [h.tb] at this; omega
 have hgS : g ∉ S := fun hx => by have := hS g hx hlt.2; rw [h.tg] at this; omega
 have k1 : Kp [g] w2 (w2.setCell ⟨g,o + i * 11 + k,none⟩ u) := (Kp.refl _ _).setCell (Or.inl (by simp)) _
 have h1' := h1.kept kp hgS
 have g2 : ∀ x,x ∈ [g] → x < w2.heap.size → tag' x ≠ 8 + 3 * i ∧ tag' x ≠ 9 + 3 * i ∧ tag' x ≠ 10 + 3 * i := fun x hx _ => by
  rw [List.mem_singleton.1 hx,ht g hlt.2,h.tg]; omega
 have kk : Kp (g :: S) w (w2.setCell ⟨g,o + i * 11 + k,none⟩ u) := (kp.mono (T := g :: S) (fun x hx => Or.inl (List.mem_cons_of_mem _ hx))).trans k1 (fun x hx => Or.inl (by rw [List.mem_singleton.1 hx]; simp))
 refine ⟨⟨(h.hd.kept kp hbS).kept k1 (by simpa using hne),by rw [ht b hlt.1]; exact h.tb,h.cap,h.max,⟨_,h1'.set _ u,by simpa using h2,fun j hj l hl => ?_⟩,by rw [ht g hlt.2]; exact h.tg,fun j hj => ?_⟩,?_⟩
 ·rw [Array.getElem?_setIfInBounds]
  have hcap := h.cap
  have hm : i * 11 + 11 ≤ c * 11 := by omega
  by_cases hjl : o + i * 11 + k = o + j * 11 + l
  ·obtain ⟨rfl,rfl⟩ := (idx11 (i := i) (j := j) hk hl).1 (by omega)
   rw [if_pos rfl,if_pos (by omega),he,List.getElem?_set_self (by rw [el_len]; exact hk)]
  ·rw [if_neg hjl]
   by_cases hji : j = i
   ·subst hji
    rw [he,List.getElem?_set_ne (fun e => hjl (by rw [e])),h3 j hj l hl]
   ·rw [(hN j hj hji).1,(hN j hj hji).2,h3 j hj l hl]
 ·by_cases hji : j = i
  ·subst hji; exact hs.keep k1 g2 (fun _ _ => rfl)
  ·rw [(hN j hj hji).1,(hN j hj hji).2]
   refine (h.side j hj).keep kk (fun x hx hxl => ?_) ht
   rcases List.mem_cons.1 hx with rfl | hx
   ·rw [h.tg]; omega
   ·have := hS x hx hxl; omega
 ·refine Mv.of_kp kk (fun x hx hxl => ?_) ht
  rcases List.mem_cons.1 hx with rfl | hx
  ·exact .inr (.inl h.tg)
  ·have := hS x hx hxl; exact .inr (.inr (by omega))
def txtL (l : Lb) (s : ByteArray) : Lb := (l.kind,l.ns,l.name,l.attrs,l.text ++ s)
theorem Rw.text (h : Rw tag w b g o c q n N pl) {y : Nat} (hy : y < n) (s : ByteArray) (hs : 0 < s.size) (hl : (N y).lb.text.size + s.size ≤ 1000000) :
  ∃ ao' n' c' w2,(∀ ty,(Builtin.append_ #[49,9] ty #[.slice (pl y).to (pl y).tn (pl y).tc,.string s]).run Tryz.prog w.drew = .ok (.slice ao' n' c') w2) ∧ (w2.cell? ⟨b,0,none⟩ = some (.slice (some ⟨g,o,none⟩) n c) ∧ w2.cell? ⟨g,o + y * 11 + 5,none⟩ = some (.slice (pl y).to (pl y).tn (pl y).tc)) ∧ w2.frozen? ⟨g,o + y * 11 + 5,none⟩ = false ∧
    ∃ tag',Pa tag' (w2.setCell ⟨g,o + y * 11 + 5,none⟩ (.slice ao' n' c')) b q n (sLb N y (txtL (N y).lb s)) ∧ Mv tag w tag' (w2.setCell ⟨g,o + y * 11 + 5,none⟩ (.slice ao' n' c')) := by
 have hd := h.kept ((Kp.refl [] w).drew)
 have sd := hd.side y hy
 obtain ⟨v',w2,hrun,ot,k2,hb2,ao',c',rfl⟩ := sd.tx.app s hs hl
 have kw : Kp (blk (.slice (pl y).to (pl y).tn (pl y).tc)) w w2 := ((Kp.refl _ w).drew).trans k2 (fun x hx => Or.inl hx)
 have hne := h.ne
 have hlt := h.lt
 have hbS : b ∉ blk (.slice (pl y).to (pl y).tn (pl y).tc) := fun hx => by have := sd.txT b hx; rw [h.tb] at this; omega
 have hgS : g ∉ blk (.slice (pl y).to (pl y).tn (pl y).tc) := fun hx => by have := sd.txT g hx; rw [h.tg] at this; omega
 obtain ⟨cur,h1,h2,h3⟩ := h.body
 have hg2 := h1.kept kw hgS
 have hb2' := h.hd.kept kw hbS
 obtain ⟨T,hT⟩ : ∃ T : Nat → Nat,T = fun x => if x < w.heap.size then tag x else 10 + 3 * y := ⟨_,rfl⟩
 have T0 : ∀ x,x < w.heap.size → T x = tag x := fun x hx => by rw [hT]; simp only [if_pos hx]
 have hs2 : Sd T w2 y (txtL (N y).lb s) ⟨(pl y).ao,(pl y).an,(pl y).ac,(pl y).nm,ao',(N y).lb.text.size + s.size,c'⟩ := by
  have sd0 := h.side y hy
  have at2 := sd0.at'.keep kw (fun x hx hs => by have e1 := sd0.atT x hx; have e2 := sd.txT x hs; omega)
  refine ⟨at2,fun x hx => by rw [T0 x (sd0.at'.lt x hx)]; exact sd0.atT x hx,ot,fun x hx => ?_,fun z hz => ?_⟩
  ·rcases hb2 x hx with h4 | h4
   ·rw [T0 x (sd0.tx.lt x h4)]; exact sd0.txT x h4
   ·rw [hT,h4]; simp only [if_neg (show ¬ (World.drew w).heap.size < w.heap.size from Nat.lt_irrefl _)]
  ·obtain ⟨n1,n2⟩ := sd0.nm z hz
   exact ⟨n1.same (kw.block z n1.lt (fun hs => by have := sd.txT z hs; omega)),by rw [T0 z n1.lt]; exact n2⟩
 obtain ⟨r1,m1⟩ := h.turn (tag' := T) (N' := sLb N y (txtL (N y).lb s)) (pl' := fun j => if j = y then ⟨(pl y).ao,(pl y).an,(pl y).ac,(pl y).nm,ao',(N y).lb.text.size + s.size,c'⟩ else pl j) (k := 5) hy (by omega) (.slice ao' ((N y).lb.text.size + s.size) c') kw (fun x hx _ => .inr (.inr (sd.txT x hx))) T0
  (by simp [sLb,el,txtL]) (fun j _ hj => ⟨by simp [sLb,hj],by simp [hj]⟩) (by simp only [sLb,if_pos]; exact hs2)
 exact ⟨ao',_,c',w2,hrun,⟨hb2'.cell 0,by rw [hg2.cell]; exact h3 y hy 5 (by omega)⟩,hg2.free _,T,⟨g,o,c,_,r1⟩,m1⟩
end
namespace Ar
theorem tell_new {a : Ar} (l l' : Lb) (p i : Nat) : ((a.new l).put p i a.n).tell a.n l' = (a.new l').put p i a.n := by
 unfold tell put new
 simp only [Ar.mk.injEq,true_and,and_true]
 funext y
 by_cases hy : y = a.n
 ·rw [if_pos hy,if_pos hy]
 ·rw [if_neg hy,if_neg hy,if_neg hy]
end Ar
section
variable {tag : Nat → Nat} {w : World} {b g o c : Nat} {q : Bool} {A : Ar} {pl : Nat → Np}
theorem emp_yes {s : ByteArray} (h : s.size = 0) : s.toList.isEmpty = true := by
 rw [ByteArray.toList_eq]
 have : s.data.toList = [] := List.eq_nil_of_length_eq_zero (by rw [Array.length_toList]; exact h)
 rw [this]; rfl
theorem put_arena (h : Rw tag w b g o c q A.n A.raw pl) (ok : A.Ok) (hn : A.n < 40000) (p : Nat) (hp : p < A.n) (k1 k2 : List Nat) (ek : A.kids p = k1 ++ k2) (z : Int) (hz : z = hdI k2) (s : ByteArray) (hs : s.size ≤ 1000) (htx : ∀ x,(A.lb x).text.size ≤ 900000) :
  Calls Tryz.prog 111 #[.pointer (some ⟨b,0,none⟩),.int .i64 p,.int .i64 z,.string s] w fun e w' => e = .returned (.tuple #[]) ∧ ∃ tag',Pa tag' w' b q (A.txt p k1.length s).n (A.txt p k1.length s).raw ∧ Mv tag w tag' w' := by
 have hp0 : (0 : Int) ≤ (p : Int) := by omega
 have hp1 : (p : Int) < (A.n : Int) := by omega
 obtain ⟨c0,_⟩ := h.head
 obtain ⟨f1,_⟩ := h.fields hp
 rw [show (A.raw p).lb = A.lb p from rfl] at f1
 obtain ⟨Z,hZ⟩ : ∃ Z,A.txt p k1.length s = Z := ⟨_,rfl⟩
 rw [hZ]
 unfold Ar.txt at hZ
 have pa0 : ∃ tag',Pa tag' w b q A.n A.raw ∧ Mv tag w tag' w := ⟨tag,⟨g,o,c,pl,h⟩,Mv.refl tag w⟩
 by_cases h0 : s.size = 0
 ·rw [if_pos (.inl h0)] at hZ
  subst hZ
  have t0 : s.toList.isEmpty = true := emp_yes h0
  have pa : Hid _ := pa0
  clear h pa0 hz
  go_enter Tryz.func111,Tryz.ntmps111
  go_wp2
  (try simp only [Exit.inBlock,Exit.then]); refine bodyPost_ret (results_none rfl _ _ _) rfl ?_
  exact ⟨rfl,pa.out⟩
 have t0 : s.toList.isEmpty = false := ne_empty h0
 by_cases hk : (A.lb p).kind = 1
 ·rw [if_pos (.inr hk)] at hZ
  subst hZ
  rw [hk] at f1
  have pa : Hid _ := pa0
  clear h pa0 hz
  go_enter Tryz.func111,Tryz.ntmps111
  go_wp2
  (try simp only [Exit.inBlock,Exit.then]); refine bodyPost_ret (results_none rfl _ _ _) rfl ?_
  exact ⟨rfl,pa.out⟩
 rw [if_neg (by omega)] at hZ
 have t1 : ((A.lb p).kind == 1) = false := beq_false_of_ne hk
 have hkn : ∀ y,y ∈ k1 ∨ y ∈ k2 → y < A.n := fun y hy => (ok.kid_lt (p := p) (by rw [ek]; exact List.mem_append.2 hy)).1
 have HA := ahead_any h (by omega) p hp z (by rw [hz]; exact hdI_nn (fun y hy => hkn y (.inr hy)))
 have eah : aheadF A.raw p z = laI k1 := by
  rw [hz]
  unfold aheadF
  cases k2 with
  | nil => rw [hdI_nil,if_pos rfl]; show laI (A.kids p) = _; rw [ek,List.append_nil]
  | cons r k2 =>
    rw [if_neg (fun e => by have := hdI_neg.1 e; cases this)]
    show (A.raw ((r : Int).toNat)).ah = _
    rw [Int.toNat_natCast,(ok.chain ek).2]
 rw [eah] at HA
 generalize (A.lb p).kind = kp at f1 t1
 have etx : ∀ p i : Nat,((((A.new (4,0,⟨#[]⟩,[],⟨#[]⟩)).put p i A.n).raw A.n).lb).text = ⟨#[]⟩ := fun p i => by show (if A.n = A.n then _ else A.lb A.n : Lb).text = _; rw [if_pos rfl]
 have etl : ∀ p i : Nat,txtL ((((A.new (4,0,⟨#[]⟩,[],⟨#[]⟩)).put p i A.n).raw A.n).lb) s = (4,0,⟨#[]⟩,[],s) := fun p i => by
  have : (((A.new (4,0,⟨#[]⟩,[],⟨#[]⟩)).put p i A.n).raw A.n).lb = (4,0,⟨#[]⟩,[],⟨#[]⟩) := by show (if A.n = A.n then _ else A.lb A.n : Lb) = _; rw [if_pos rfl]
  rw [this]
  show (4,0,_,[],_ ++ s) = _
  rw [Fo.none_cat]
 have HADD : Calls Tryz.prog 60 #[.pointer (some ⟨b,0,none⟩),.agg #[.int .i64 4,.int .i64 0,.string ⟨#[]⟩,.slice none 0 0,.map none,.slice none 0 0,.int .i64 0,.int .i64 0,.int .i64 0,.int .i64 0,.int .i64 0]] w fun e w' => e = .returned (.int .i64 (A.n : Int)) ∧ Hid (∃ tag' g' o' c' pl',Rw tag' w' b g' o' c' q (A.n + 1) (A.new (4,0,⟨#[]⟩,[],⟨#[]⟩)).raw pl' ∧ Mv tag w tag' w') := by
  refine (add_any h (by omega) (4,0,⟨#[]⟩,[],⟨#[]⟩) np0 (Fr.none (Kp.refl _ _) rfl rfl)).mono ?_
  rintro e w3 ⟨rfl,t3,p3,m3⟩
  obtain ⟨g',o',c',pl',r'⟩ := pa_new ok p3
  exact ⟨rfl,t3,g',o',c',pl',r',m3⟩
 have hzH : Hid (z = hdI k2) := hz
 clear hz
 rcases List.eq_nil_or_concat k1 with rfl | ⟨k3,y,rfl⟩
 ·have hZ' : Z = (A.new (4,0,⟨#[]⟩,[],s)).put p ([] : List Nat).length A.n := hZ.symm
  rw [laI_nil] at HA
  clear h pa0 hZ eah htx
  go_enter Tryz.func111,Tryz.ntmps111
  (go_wp2_with (first | (go_at_call 127; refine same_of (HA) ?_) | (go_at_call 60; refine HADD.mono ?_; rintro e w3 ⟨rfl,X3⟩; refine Hid.out ?_)))
  unfold Hid
  obtain ⟨t3,g3,o3,d3,pl3,r3,m3⟩ := X3.out
  have HL := (hid_link (A := A.new (4,0,⟨#[]⟩,[],⟨#[]⟩)) r3 (ok.new _) (show A.n + 1 < 50000 by omega) (p := p) (x := A.n) (show p < A.n + 1 by omega) (show A.n < A.n + 1 by omega) (ok.out A.n (Nat.le_refl _)).2 (k1 := []) (k2 := k2) ek z hzH.out).out _ (Kp.refl _ _)
  clear HADD X3 HA
  go_wp2_with fail
  refine HL.mono ?_
  rintro e w4 ⟨rfl,z4⟩
  clear HL
  have m4 := m3.trans z4.mv
  obtain ⟨ao5,n5,c5,w5,hrun,hS2,hfz,t5,p5,m5⟩ := z4.1.text (y := A.n) (show A.n < A.n + 1 by omega) s (by omega) (by rw [etx]; show 0 + s.size ≤ _; omega)
  rw [← Ar.raw_tell] at p5
  rw [etl,Ar.tell_new] at p5
  have hfin : Hid (∃ tag',Pa tag' _ b q Z.n Z.raw ∧ Mv tag w tag' _) := ⟨t5,by rw [hZ']; exact p5,m4.trans m5⟩
  have hS0 : (World.drew w4).cell? ⟨b,0,none⟩ = some (.slice (some ⟨g3,o3,none⟩) (A.n + 1) d3) ∧ (World.drew w4).cell? ⟨g3,o3 + A.n * 11 + 5,none⟩ = some (.slice (pl3 A.n).to (pl3 A.n).tn (pl3 A.n).tc) := ⟨z4.1.head.1,(z4.1.fields (show A.n < A.n + 1 by omega)).2.2.2.2.2⟩
  replace hS2 : w5.cell? ⟨b,0,none⟩ = some (.slice (some ⟨g3,o3,none⟩) (A.n + 1) d3) ∧ w5.cell? ⟨g3,o3 + A.n * 11 + 5,none⟩ = some (.slice (pl3 A.n).to (pl3 A.n).tn (pl3 A.n).tc) := hS2
  have hy0 : (0 : Int) ≤ (A.n : Int) := by omega
  have hy1 : (A.n : Int) < (A.n : Int) + 1 := by omega
  clear p5 m5 m4 z4 r3 m3 hZ'
  go_wp2_with fail
  refine wp_region_g (S := fun V => V.cell? ⟨b,0,none⟩ = some (.slice (some ⟨g3,o3,none⟩) (A.n + 1) d3) ∧ V.cell? ⟨g3,o3 + A.n * 11 + 5,none⟩ = some (.slice (pl3 A.n).to (pl3 A.n).tn (pl3 A.n).tc)) (T := [17]) (by kernel_rfl) hS0 (fun hHeld => ?_)
  refine g_pure 0 (some 47) (.move (.tmp 0)) ?_
  refine g_pure 1 (some 48) (.nilCheck (.tmp 47)) ?_
  refine g_pure 2 (some 49) (.fieldAddr 88 (.tmp 48) 0) ?_
  refine g_take 3 (some 50) (.load 86 (.tmp 49)) (by intro w hSw; (obtain ⟨q0,q5⟩ := hSw); go_simp; try with_reducible rfl) ?_
  refine g_pure 4 (some 51) (.move (.tmp 8)) ?_
  refine g_pure 5 (some 52) (.move (.tmp 0)) ?_
  refine g_pure 6 (some 53) (.nilCheck (.tmp 52)) ?_
  refine g_pure 7 (some 54) (.fieldAddr 88 (.tmp 53) 0) ?_
  refine g_take 8 (some 55) (.load 86 (.tmp 54)) (by intro w hSw; (obtain ⟨q0,q5⟩ := hSw); go_simp; try with_reducible rfl) ?_
  refine g_pure 9 (some 56) (.move (.tmp 8)) ?_
  refine g_pure 10 (some 57) (.indexAddr 86 (.tmp 55) (.tmp 56)) ?_
  refine g_pure 11 (some 58) (.fieldAddr 109 (.tmp 57) 5) ?_
  refine g_take 12 (some 59) (.load 49 (.tmp 58)) (by intro w hSw; (obtain ⟨q0,q5⟩ := hSw); go_simp; try with_reducible rfl) ?_
  refine g_pure 13 (some 60) (.move (.tmp 3)) ?_
  refine wpAnyG_ready (rs := [14]) (by kernel_rfl) (by simp) ?_
  refine AllReadyG.cons (o := ⟨some 61,.call { callee := .builtin .append,args := #[.tmp 59,.tmp 60],argTypes := #[49,9] },49,_,_,none⟩) rfl (fun K hK => ?_) AllReadyG.nil
  refine step_app2 (by rfl) _ _ 49 9 (by rfl) _ _ (by rfl) (by rfl) hrun ?_
  refine hK.out _ _ hS2 (fun hHeld1 => ?_)
  clear hK K hHeld
  try simp only [Act.put,pu1,pu2,pu3]
  refine g_pure 15 (some 62) (.indexAddr 86 (.tmp 50) (.tmp 51)) ?_
  refine g_pure 16 (some 63) (.fieldAddr 109 (.tmp 62) 5) ?_
  refine wpAnyG_free (by kernel_rfl) ?_
  refine wpAny_ready (rs := [17]) (by kernel_rfl) (by simp) ?_
  refine AllReady.cons (o := ⟨none,.store 49 (.tmp 63) (.tmp 61),0,_,_,none⟩) rfl (fun K hK => ?_) AllReady.nil
  obtain ⟨q0,q5⟩ := hS2
  go_simp
  refine hK _ _ ?_
  clear hK K
  try simp only [Act.put,pu1,pu2,pu3]
  refine wpAny_done (by kernel_rfl) ?_ _
  go_wp2
  go_end0
  exact ⟨rfl,hfin.out⟩
 ·rw [List.concat_eq_append] at ek hZ eah HA
  have hy : y < A.n := hkn y (.inl (by simp))
  have ela : laI (k3 ++ [y]) = (y : Int) := laI_app k3 y []
  rw [ela] at HA
  have eget : (if (k3 ++ [y]).length = 0 then none else (A.kids p)[(k3 ++ [y]).length - 1]?) = some y := by
   rw [ek,if_neg (by simp),List.append_assoc]
   simp
  rw [eget] at hZ
  replace hZ : (if (A.lb y).kind = 4 then A.tell y (4,(A.lb y).ns,(A.lb y).name,(A.lb y).attrs,(A.lb y).text ++ s) else (A.new (4,0,⟨#[]⟩,[],s)).put p (k3 ++ [y]).length A.n) = Z := hZ
  have t2 : ((y : Int) == -1) = false := beq_false_of_ne (by omega)
  have hy0' : (0 : Int) ≤ (y : Int) := by omega
  have hy1' : (y : Int) < (A.n : Int) := by omega
  obtain ⟨fy,_⟩ := h.fields hy
  rw [show (A.raw y).lb = A.lb y from rfl] at fy
  by_cases h4 : (A.lb y).kind = 4
  ·rw [if_pos h4] at hZ
   rw [h4] at fy
   obtain ⟨ao5,n5,c5,w5,hrun,hS2,hfz,t5,p5,m5⟩ := h.text (y := y) hy s (by omega) (by have := htx y; show (A.lb y).text.size + s.size ≤ _; omega)
   rw [show txtL (A.raw y).lb s = (4,(A.lb y).ns,(A.lb y).name,(A.lb y).attrs,(A.lb y).text ++ s) by show (((A.lb y).kind,(A.lb y).ns,(A.lb y).name,(A.lb y).attrs,(A.lb y).text ++ s) : Lb) = _; rw [h4],← Ar.raw_tell,hZ] at p5
   have hfin : Hid (∃ tag',Pa tag' _ b q Z.n Z.raw ∧ Mv tag w tag' _) := ⟨t5,by rw [show Z.n = A.n by rw [← hZ]; rfl]; exact p5,m5⟩
   have hS0 : (World.drew w).cell? ⟨b,0,none⟩ = some (.slice (some ⟨g,o,none⟩) A.n c) ∧ (World.drew w).cell? ⟨g,o + y * 11 + 5,none⟩ = some (.slice (pl y).to (pl y).tn (pl y).tc) := ⟨h.head.1,(h.fields hy).2.2.2.2.2⟩
   clear h pa0 hZ eah htx p5 m5 HADD etx etl eget h4
   go_enter Tryz.func111,Tryz.ntmps111
   go_wp2_with (go_at_call 127; refine same_of (HA) ?_)
   refine wp_region_g (S := fun V => V.cell? ⟨b,0,none⟩ = some (.slice (some ⟨g,o,none⟩) A.n c) ∧ V.cell? ⟨g,o + y * 11 + 5,none⟩ = some (.slice (pl y).to (pl y).tn (pl y).tc)) (T := [17]) (by kernel_rfl) hS0 (fun hHeld => ?_)
   refine g_pure 0 (some 47) (.move (.tmp 0)) ?_
   refine g_pure 1 (some 48) (.nilCheck (.tmp 47)) ?_
   refine g_pure 2 (some 49) (.fieldAddr 88 (.tmp 48) 0) ?_
   refine g_take 3 (some 50) (.load 86 (.tmp 49)) (by intro w hSw; (obtain ⟨q0,q5⟩ := hSw); go_simp; try with_reducible rfl) ?_
   refine g_pure 4 (some 51) (.move (.tmp 8)) ?_
   refine g_pure 5 (some 52) (.move (.tmp 0)) ?_
   refine g_pure 6 (some 53) (.nilCheck (.tmp 52)) ?_
   refine g_pure 7 (some 54) (.fieldAddr 88 (.tmp 53) 0) ?_
   refine g_take 8 (some 55) (.load 86 (.tmp 54)) (by intro w hSw; (obtain ⟨q0,q5⟩ := hSw); go_simp; try with_reducible rfl) ?_
   refine g_pure 9 (some 56) (.move (.tmp 8)) ?_
   refine g_pure 10 (some 57) (.indexAddr 86 (.tmp 55) (.tmp 56)) ?_
   refine g_pure 11 (some 58) (.fieldAddr 109 (.tmp 57) 5) ?_
   refine g_take 12 (some 59) (.load 49 (.tmp 58)) (by intro w hSw; (obtain ⟨q0,q5⟩ := hSw); go_simp; try with_reducible rfl) ?_
   refine g_pure 13 (some 60) (.move (.tmp 3)) ?_
   refine wpAnyG_ready (rs := [14]) (by kernel_rfl) (by simp) ?_
   refine AllReadyG.cons (o := ⟨some 61,.call { callee := .builtin .append,args := #[.tmp 59,.tmp 60],argTypes := #[49,9] },49,_,_,none⟩) rfl (fun K hK => ?_) AllReadyG.nil
   refine step_app2 (by rfl) _ _ 49 9 (by rfl) _ _ (by rfl) (by rfl) hrun ?_
   refine hK.out _ _ hS2 (fun hHeld1 => ?_)
   clear hK K hHeld
   try simp only [Act.put,pu1,pu2,pu3]
   refine g_pure 15 (some 62) (.indexAddr 86 (.tmp 50) (.tmp 51)) ?_
   refine g_pure 16 (some 63) (.fieldAddr 109 (.tmp 62) 5) ?_
   refine wpAnyG_free (by kernel_rfl) ?_
   refine wpAny_ready (rs := [17]) (by kernel_rfl) (by simp) ?_
   refine AllReady.cons (o := ⟨none,.store 49 (.tmp 63) (.tmp 61),0,_,_,none⟩) rfl (fun K hK => ?_) AllReady.nil
   obtain ⟨q0,q5⟩ := hS2
   go_simp
   refine hK _ _ ?_
   clear hK K
   try simp only [Act.put,pu1,pu2,pu3]
   refine wpAny_done (by kernel_rfl) ?_ _
   go_wp2
   go_end0
   exact ⟨rfl,hfin.out⟩
  ·rw [if_neg h4] at hZ
   have hZ' : Z = (A.new (4,0,⟨#[]⟩,[],s)).put p (k3 ++ [y]).length A.n := hZ.symm
   have t4 : ((A.lb y).kind != 4) = true := bne_iff_ne.2 h4
   generalize (A.lb y).kind = ky at fy t4
   clear h pa0 hZ eah htx eget h4
   go_enter Tryz.func111,Tryz.ntmps111
   (go_wp2_with (first | (go_at_call 127; refine same_of (HA) ?_) | (go_at_call 60; refine HADD.mono ?_; rintro e w3 ⟨rfl,X3⟩; refine Hid.out ?_)))
   unfold Hid
   obtain ⟨t3,g3,o3,d3,pl3,r3,m3⟩ := X3.out
   have HL := (hid_link (A := A.new (4,0,⟨#[]⟩,[],⟨#[]⟩)) r3 (ok.new _) (show A.n + 1 < 50000 by omega) (p := p) (x := A.n) (show p < A.n + 1 by omega) (show A.n < A.n + 1 by omega) (ok.out A.n (Nat.le_refl _)).2 (k1 := k3 ++ [y]) (k2 := k2) ek z hzH.out).out _ (Kp.refl _ _)
   clear HADD X3 HA
   go_wp2_with fail
   refine HL.mono ?_
   rintro e w4 ⟨rfl,z4⟩
   clear HL
   have m4 := m3.trans z4.mv
   obtain ⟨ao5,n5,c5,w5,hrun,hS2,hfz,t5,p5,m5⟩ := z4.1.text (y := A.n) (show A.n < A.n + 1 by omega) s (by omega) (by rw [etx]; show 0 + s.size ≤ _; omega)
   rw [← Ar.raw_tell] at p5
   rw [etl,Ar.tell_new] at p5
   have hfin : Hid (∃ tag',Pa tag' _ b q Z.n Z.raw ∧ Mv tag w tag' _) := ⟨t5,by rw [hZ']; exact p5,m4.trans m5⟩
   have hS0 : (World.drew w4).cell? ⟨b,0,none⟩ = some (.slice (some ⟨g3,o3,none⟩) (A.n + 1) d3) ∧ (World.drew w4).cell? ⟨g3,o3 + A.n * 11 + 5,none⟩ = some (.slice (pl3 A.n).to (pl3 A.n).tn (pl3 A.n).tc) := ⟨z4.1.head.1,(z4.1.fields (show A.n < A.n + 1 by omega)).2.2.2.2.2⟩
   replace hS2 : w5.cell? ⟨b,0,none⟩ = some (.slice (some ⟨g3,o3,none⟩) (A.n + 1) d3) ∧ w5.cell? ⟨g3,o3 + A.n * 11 + 5,none⟩ = some (.slice (pl3 A.n).to (pl3 A.n).tn (pl3 A.n).tc) := hS2
   have hy0 : (0 : Int) ≤ (A.n : Int) := by omega
   have hy1 : (A.n : Int) < (A.n : Int) + 1 := by omega
   clear p5 m5 m4 z4 r3 m3 hZ'
   go_wp2_with fail
   refine wp_region_g (S := fun V => V.cell? ⟨b,0,none⟩ = some (.slice (some ⟨g3,o3,none⟩) (A.n + 1) d3) ∧ V.cell? ⟨g3,o3 + A.n * 11 + 5,none⟩ = some (.slice (pl3 A.n).to (pl3 A.n).tn (pl3 A.n).tc)) (T := [17]) (by kernel_rfl) hS0 (fun hHeld => ?_)
   refine g_pure 0 (some 47) (.move (.tmp 0)) ?_
   refine g_pure 1 (some 48) (.nilCheck (.tmp 47)) ?_
   refine g_pure 2 (some 49) (.fieldAddr 88 (.tmp 48) 0) ?_
   refine g_take 3 (some 50) (.load 86 (.tmp 49)) (by intro w hSw; (obtain ⟨q0,q5⟩ := hSw); go_simp; try with_reducible rfl) ?_
   refine g_pure 4 (some 51) (.move (.tmp 8)) ?_
   refine g_pure 5 (some 52) (.move (.tmp 0)) ?_
   refine g_pure 6 (some 53) (.nilCheck (.tmp 52)) ?_
   refine g_pure 7 (some 54) (.fieldAddr 88 (.tmp 53) 0) ?_
   refine g_take 8 (some 55) (.load 86 (.tmp 54)) (by intro w hSw; (obtain ⟨q0,q5⟩ := hSw); go_simp; try with_reducible rfl) ?_
   refine g_pure 9 (some 56) (.move (.tmp 8)) ?_
   refine g_pure 10 (some 57) (.indexAddr 86 (.tmp 55) (.tmp 56)) ?_
   refine g_pure 11 (some 58) (.fieldAddr 109 (.tmp 57) 5) ?_
   refine g_take 12 (some 59) (.load 49 (.tmp 58)) (by intro w hSw; (obtain ⟨q0,q5⟩ := hSw); go_simp; try with_reducible rfl) ?_
   refine g_pure 13 (some 60) (.move (.tmp 3)) ?_
   refine wpAnyG_ready (rs := [14]) (by kernel_rfl) (by simp) ?_
   refine AllReadyG.cons (o := ⟨some 61,.call { callee := .builtin .append,args := #[.tmp 59,.tmp 60],argTypes := #[49,9] },49,_,_,none⟩) rfl (fun K hK => ?_) AllReadyG.nil
   refine step_app2 (by rfl) _ _ 49 9 (by rfl) _ _ (by rfl) (by rfl) hrun ?_
   refine hK.out _ _ hS2 (fun hHeld1 => ?_)
   clear hK K hHeld
   try simp only [Act.put,pu1,pu2,pu3]
   refine g_pure 15 (some 62) (.indexAddr 86 (.tmp 50) (.tmp 51)) ?_
   refine g_pure 16 (some 63) (.fieldAddr 109 (.tmp 62) 5) ?_
   refine wpAnyG_free (by kernel_rfl) ?_
   refine wpAny_ready (rs := [17]) (by kernel_rfl) (by simp) ?_
   refine AllReady.cons (o := ⟨none,.store 49 (.tmp 63) (.tmp 61),0,_,_,none⟩) rfl (fun K hK => ?_) AllReady.nil
   obtain ⟨q0,q5⟩ := hS2
   go_simp
   refine hK _ _ ?_
   clear hK K
   try simp only [Act.put,pu1,pu2,pu3]
   refine wpAny_done (by kernel_rfl) ?_ _
   go_wp2
   go_end0
   exact ⟨rfl,hfin.out⟩
end
end Go.Proofs.YtpkppobkagdhkaaGreat
