/-
 PrK.
-/
import Derived.Test.YtpkppobkagdhkaaGreatB19
set_option linter.unusedVariables false
set_option linter.unusedSimpArgs false
set_option maxRecDepth 100000
set_option maxHeartbeats 1000000
namespace Go.Proofs.YtpkppobkagdhkaaGreat
open Go.RowKit Go.Maps Utf
def Qp (tag : Nat → Nat) (x : Nat) : Prop := ¬ isP (tag x)
theorem Mv.rk {tag tag' : Nat → Nat} {w w' : World} {K : Nat} {ao : Option Addr} {n c : Nat} {xs : List Value} (m : Mv tag w tag' w') (h : Rk (Qp tag) K w ao n c xs) : Rk (Qp tag') K w' ao n c xs := by
 refine ⟨h.len,h.cap,fun hn => ?_⟩
 obtain ⟨b,off,cur,e,hq,h1,h2,h3⟩ := h.at' hn
 have hl := lt_of h2
 exact ⟨b,off,cur,e,by unfold Qp at hq ⊢; rw [m.tg b hl]; exact hq,h1,by rw [m.block b hl hq]; exact h2,h3⟩
def attL (l : Lb) (x : List Att) : Lb := (l.kind,l.ns,l.name,x,l.text)
section
variable {tag : Nat → Nat} {w : World} {b g o c : Nat} {q : Bool} {n : Nat} {N : Nat → Pn} {pl : Nat → Np}
theorem mor_step (h : Rw tag w b g o c q n N pl) {i mb : Nat} (hi : i < n) (hm : (pl i).nm = some mb) (a : Att) (hfa : a.1.size ≤ 140737488355328) (hl : (N i).lb.attrs.length < 50000) (hN : hasN (N i).lb.attrs a.1 = false) {w1 : World} (k1 : Kp [] w w1) :
  ∃ w2,(Instr.mapUpdate 107 (.map (some mb)) (.string a.1) (.agg #[])).run Tryz.prog w1 = .ok () w2 ∧ (w2.cell? ⟨g,o + i * 11 + 3,none⟩ = some (.slice (pl i).ao (pl i).an (pl i).ac)) ∧ Kp [mb] w1 w2 ∧ mb < w.heap.size ∧ g ≠ mb ∧
    ∀ w3,Kp [] w2 w3 → ∃ ao' n' c' w4,(∀ ty,(Builtin.append_ #[22,22] ty #[.slice (pl i).ao (pl i).an (pl i).ac,.slice (some ⟨w3.heap.size,0,none⟩) 1 1]).run Tryz.prog (w3.alloc (.cells #[.string a.1,.string a.2] 102)) = .ok (.slice ao' n' c') w4) ∧ (w4.cell? ⟨g,o + i * 11 + 3,none⟩ = some (.slice (pl i).ao (pl i).an (pl i).ac)) ∧ (w4.frozen? ⟨g,o + i * 11 + 3,none⟩ = false) ∧ (∀ x,w.heap.size ≤ x → x < w3.heap.size → w4.heap[x]? = w3.heap[x]?) ∧
      ∃ tag' pl',Rw tag' (w4.setCell ⟨g,o + i * 11 + 3,none⟩ (.slice ao' n' c')) b g o c q n (sLb N i (attL (N i).lb ((N i).lb.attrs ++ [a]))) pl' ∧ Mv tag w tag' (w4.setCell ⟨g,o + i * 11 + 3,none⟩ (.slice ao' n' c')) ∧ (pl' i).nm = some mb := by
 have sd := h.side i hi
 obtain ⟨hnt,htg⟩ := sd.nm mb hm
 have hmb := hnt.lt
 have hlt := h.lt
 have hgm : g ≠ mb := fun e => by rw [← e,h.tg] at htg; omega
 obtain ⟨w2,hrun,n2,k2⟩ := (hnt.same (k1.block mb hmb (by simp))).put a hfa (by omega)
 obtain ⟨cur,h1,h2,h3⟩ := h.body
 have hg2 : At w2 g cur 109 := (h1.kept k1 (by simp)).kept k2 (by simpa using hgm)
 have kw2 : Kp [mb] w w2 := (k1.mono (T := [mb]) (fun x hx => by simp at hx)).trans k2 (fun x hx => Or.inl hx)
 have at2 : OwnK 2 w2 102 (.slice (pl i).ao (pl i).an (pl i).ac) (pl i).an (cs (N i).lb.attrs) := sd.at'.keep kw2 (fun x hx hs => by
  have := sd.atT x hx; rw [List.mem_singleton.1 hs,htg] at this; omega)
 have hal := sd.alen
 refine ⟨w2,hrun,by rw [hg2.cell]; exact h3 i hi 3 (by omega),k2,hmb,hgm,fun w3 k3 => ?_⟩
 have at3 := at2.keep k3 (fun _ _ => by simp)
 have ka : Kp [] w3 (w3.alloc (.cells #[.string a.1,.string a.2] 102)) := (Kp.refl _ _).alloc _
 have hr := (rp_lit w3 #[.string a.1,.string a.2] [a] 1 rfl rfl (by omega)).rp
 obtain ⟨v',w4,hrun4,o4,k4,b4,a4,c4,rfl⟩ := appK Tryz.underlying22 info23 rfl (by decide) _ _ _ _ (at3.keep ka (fun _ _ => by simp)) _ 1 (cs [a]) (hr.src Tryz.underlying22) (fun _ => by omega) (by omega)
 have hbg : g ∉ blk (.slice (pl i).ao (pl i).an (pl i).ac) := fun hx => by have := sd.atT g hx; rw [h.tg] at this; omega
 have kw4 : Kp (mb :: blk (.slice (pl i).ao (pl i).an (pl i).ac)) w w4 := by
  refine ((kw2.mono (fun x hx => Or.inl (by rw [List.mem_singleton.1 hx]; simp))).trans (T := []) (k3.trans ka (fun x hx => Or.inl hx)) (fun x hx => by simp at hx)).trans k4 (fun x hx => Or.inl (List.mem_cons_of_mem _ hx))
 have hg4 : At w4 g cur 109 := ((hg2.kept k3 (by simp)).kept ka (by simp)).kept k4 hbg
 have hsz3 : w.heap.size ≤ w3.heap.size := Nat.le_trans kw2.size k3.size
 obtain ⟨T,hT⟩ : ∃ T : Nat → Nat,T = fun x => if x < w.heap.size then tag x else 8 + 3 * i := ⟨_,rfl⟩
 have T0 : ∀ x,x < w.heap.size → T x = tag x := fun x hx => by rw [hT]; simp only [if_pos hx]
 have hb4 : ∀ x,x ∈ blk (Value.slice (some a4) ((pl i).an + 1) c4) → T x = 8 + 3 * i ∧ (x ∈ blk (.slice (pl i).ao (pl i).an (pl i).ac) ∨ w.heap.size ≤ x) := fun x hx => by
  rcases b4 x hx with h5 | h5
  ·exact ⟨by rw [T0 x (sd.at'.lt x h5)]; exact sd.atT x h5,.inl h5⟩
  ·have hx2 : w.heap.size ≤ x := by rw [h5]; simp; omega
   exact ⟨by rw [hT]; simp only [if_neg (show ¬ x < w.heap.size by omega)],.inr hx2⟩
 have n4 : Nt w4 mb ((N i).lb.attrs ++ [a]) := by
  refine n2.same ?_
  have e1 : w4.heap[mb]? = (w3.alloc (.cells #[.string a.1,.string a.2] 102)).heap[mb]? := k4.block mb (by have := kw2.size; have := k3.size; simp; omega) (fun hx => by have := sd.atT mb hx; omega)
  rw [e1,ka.block mb (by have := kw2.size; have := k3.size; omega) (by simp),k3.block mb (by have := kw2.size; omega) (by simp)]
 have sd4 : Sd T w4 i (attL (N i).lb ((N i).lb.attrs ++ [a])) ⟨some a4,(pl i).an + 1,c4,some mb,(pl i).to,(pl i).tn,(pl i).tc⟩ := by
  refine ⟨by rw [show (attL (N i).lb ((N i).lb.attrs ++ [a])).attrs = (N i).lb.attrs ++ [a] from rfl,cs_append]; exact o4,fun x hx => (hb4 x hx).1,sd.tx.keep kw4 (fun x hx hs => ?_),fun x hx => by rw [T0 x (sd.tx.lt x hx)]; exact sd.txT x hx,fun z hz => ?_⟩
  ·have := sd.txT x hx
   rcases List.mem_cons.1 hs with rfl | hs
   ·omega
   ·have := sd.atT x hs; omega
  ·obtain rfl : mb = z := by simpa using hz
   exact ⟨n4,by rw [T0 mb hmb]; exact htg⟩
 obtain ⟨r5,m5⟩ := h.turn (tag' := T) (N' := sLb N i (attL (N i).lb ((N i).lb.attrs ++ [a]))) (pl' := fun j => if j = i then ⟨some a4,(pl i).an + 1,c4,some mb,(pl i).to,(pl i).tn,(pl i).tc⟩ else pl j) (k := 3) hi (by omega) (.slice (some a4) ((pl i).an + 1) c4) kw4
  (fun x hx _ => by
   rcases List.mem_cons.1 hx with rfl | hx
   ·exact .inr (.inl htg)
   ·exact .inl (sd.atT x hx)) T0 (by simp [sLb,el,attL,hm]) (fun j _ hj => ⟨by simp [sLb,hj],by simp [hj]⟩) (by simp only [sLb,if_pos]; exact sd4)
 exact ⟨_,_,_,w4,hrun4,by rw [hg4.cell]; exact h3 i hi 3 (by omega),hg4.free _,fun x hx1 hx2 => (k4.block x (by simp; omega) (fun hm => by have := sd.at'.lt x hm; omega)).trans (ka.block x hx2 (by simp)),T,_,r5,m5,by simp⟩
end
section
variable {tag : Nat → Nat} {w : World} {b g o c : Nat} {q : Bool} {A : Ar} {pl : Nat → Np}
theorem sLb_self (N : Nat → Pn) (i : Nat) : sLb N i (N i).lb = N := by
 funext j
 unfold sLb
 by_cases hj : j = i
 ·subst hj; rw [if_pos rfl]
 ·rw [if_neg hj]
theorem sLb_twice (N : Nat → Pn) (i : Nat) (x y : Lb) : sLb (sLb N i x) i y = sLb N i y := by
 funext j
 unfold sLb
 by_cases hj : j = i
 ·subst hj; simp
 ·simp [hj]
set_option maxHeartbeats 2000000 in
theorem mor_arena (h : Rw tag w b g o c q A.n A.raw pl) (hn : A.n < 40000) (z : Int) (l : List Att) (ao : Option Addr) (n' c' : Nat) (hr : Rk (Qp tag) 2 w ao n' c' (cs l)) (ha : n' ≤ 10000) (hf : fits l) (hat : ∀ x,(A.lb x).attrs.length ≤ 20000 ∧ fits (A.lb x).attrs) :
  Calls Tryz.prog 76 #[.pointer (some ⟨b,0,none⟩),.int .i64 z,.slice ao n' c'] w fun e w' => e = .returned (.int .i64 (A.morF z (fun x => more x l)).2) ∧ ∃ tag',Pa tag' w' b q (A.morF z (fun x => more x l)).1.n (A.morF z (fun x => more x l)).1.raw ∧ Mv tag w tag' w' := by
 have HH := fun z => has_any h (by omega) z
 obtain ⟨Z,hZ⟩ : ∃ Z,A.morF z (fun x => more x l) = Z := ⟨_,rfl⟩
 rw [hZ]
 unfold Ar.morF at hZ
 have pa0 : ∃ tag',Pa tag' w b q A.n A.raw ∧ Mv tag w tag' w := ⟨tag,⟨g,o,c,pl,h⟩,Mv.refl tag w⟩
 by_cases hz : A.there z = true
 case neg =>
  have hz : A.there z = false := by simpa using hz
  rw [if_pos hz] at hZ
  subst hZ
  rw [there_dec] at hz
  have pa : Hid _ := pa0
  clear pa0 h hr
  go_enter Tryz.func76,Tryz.ntmps76
  go_wp2_with (go_at_call 33; refine same_of (HH _) ?_)
  go_ret
  exact ⟨rfl,pa.out⟩
 rw [if_neg (by simp [hz])] at hZ
 obtain ⟨i,rfl,hi⟩ := there_nat hz
 rw [Int.toNat_natCast] at hZ
 rw [there_dec] at hz
 obtain ⟨c0,_⟩ := h.head
 obtain ⟨f1,_⟩ := h.fields hi
 rw [show (A.raw i).lb = A.lb i from rfl] at f1
 have hi0 : (0 : Int) ≤ (i : Int) := by omega
 have hi1 : (i : Int) < (A.n : Int) := by omega
 by_cases hk : (A.lb i).kind = 3
 case neg =>
  rw [if_pos hk] at hZ
  subst hZ
  have t3 : ((A.lb i).kind != 3) = true := bne_iff_ne.2 hk
  generalize (A.lb i).kind = k at f1 t3
  have pa : Hid _ := pa0
  clear pa0 h hr hk
  go_enter Tryz.func76,Tryz.ntmps76
  go_wp2_with (go_at_call 33; refine same_of (HH _) ?_)
  go_ret
  exact ⟨rfl,pa.out⟩
 rw [if_neg (by simpa using hk)] at hZ
 subst hZ
 rw [hk] at f1
 have HK := keep_any h (by omega) hi (hat i).1 (hat i).2
 have HU : Hid (∀ tag1 w1,Mv tag w tag1 w1 → Calls Tryz.prog 116 #[.slice ao n' c'] w1 fun e w' => ∃ ao' n' c',e = .returned (.slice ao' n' c') ∧ Mp w1 w' ao' n' c' (uniq l)) := fun tag1 w1 m1 => uniq_any w1 l ao n' c' (m1.rk hr).rp ha hf
 have hu1 : (uniq l).length ≤ l.length := by have := more_len l []; simpa [uniq] using this
 have hu2 : fits (uniq l) := fits_more l (fun a ha => by simp at ha) hf
 have hll : l.length ≤ 10000 := by have := hr.rp.len; omega
 have hmu : Hid (more (A.lb i).attrs (uniq l) = more (A.lb i).attrs l) := Ar.more_uniq _ _
 have hlab : Hid ((3,(A.lb i).ns,(A.lb i).name,more (A.lb i).attrs l,(A.lb i).text) = attL (A.lb i) (more (A.lb i).attrs l)) := by unfold attL; rw [hk]; exact rfl
 rw [Ar.raw_tell,hlab.out]
 have hat0 := (hat i).1
 have e0 : Hid (sLb A.raw i (attL (A.lb i) (A.lb i).attrs) = A.raw) := sLb_self A.raw i
 have esl : Hid (∀ x,((sLb A.raw i x) i).lb = x) := fun x => by unfold sLb; rw [if_pos rfl]
 have egr : Hid (∀ x y,attL (attL (A.lb i) x) y = attL (A.lb i) y) := fun x y => rfl
 have eat : Hid (∀ x,(attL (A.lb i) x).attrs = x) := fun x => rfl
 clear pa0 h hr hk hf hat
 generalize A.lb i = L at hmu hlab hat0 e0 egr eat f1 ⊢
 generalize uniq l = u at HU hu1 hu2 hmu
 go_enter Tryz.func76,Tryz.ntmps76
 go_wp2_with (first | (go_at_call 33; refine same_of (HH _) ?_) | (go_at_call 115; refine HK.mono ?_; rintro e w1 ⟨rfl,tag1,mb,r1,m1⟩; refine Hid.out ?_))
 unfold Hid
 have HU1 := HU.out _ _ m1
 clear HK HU HH f1 c0
 go_wp2_with fail
 refine HU1.mono ?_
 rintro e w2 ⟨au,nu,cu,rfl,M2⟩
 clear HU1
 obtain ⟨T2,hT2⟩ : ∃ T : Nat → Nat,T = fun x => if x < w1.heap.size then tag1 x else 0 := ⟨_,rfl⟩
 have m2 : Mv tag1 w1 T2 w2 := Mv.of_kp M2.kp (fun x hx => by simp at hx) (fun x hx => by rw [hT2]; simp only [if_pos hx])
 have r2 : Rw T2 w2 b g o c q A.n A.raw (nmP pl i mb) := r1.keep M2.kp (fun x hx => by simp at hx) m2.tg
 have ru : Rk (Qp T2) 2 w2 au nu cu (cs u) := M2.rk (fun x hx => by unfold Qp isP; rw [hT2]; simp only [if_neg (show ¬ x < w1.heap.size by omega)]; omega)
 have hnu : nu = u.length := M2.len
 have m02 : Hid (Mv tag w T2 w2) := m1.trans m2
 have RU : Hid (Rk (Qp T2) 2 w2 au nu cu (cs u)) := ru
 have R2 : Hid (Rw T2 w2 b g o c q A.n A.raw (nmP pl i mb)) := r2
 clear r1 m1 M2 m2 r2 ru hT2
 subst hnu
 go_wp2_with fail
 go_loopw [9,10,11,38] (fun _ _ _ kk wr => ∃ (k : Nat) (tagk : Nat → Nat) (plk : Nat → Np) (mk : Nat),k ≤ u.length ∧ kk = .int .i64 (k : Int) ∧ Rw tagk wr b g o c q A.n (sLb A.raw i (attL L (more L.attrs (u.take k)))) plk ∧ Mv T2 w2 tagk wr ∧ (plk i).nm = some mk) (fun _ _ _ kk _ => u.length - (intOf kk).toNat)
 case atStart => exact ⟨0,T2,nmP pl i mb,mb,Nat.zero_le _,rfl,by rw [List.take_zero]; show Rw T2 w2 b g o c q A.n (sLb A.raw i (attL L L.attrs)) _; rw [e0.out]; exact R2.out,Mv.refl _ _,by simp [nmP]⟩
 case round =>
  obtain ⟨k,tagk,plk,mk,hk,rfl,rk,mv,hmk⟩ := hrel
  clear R2 e0
  by_cases hlt : k < u.length
  ·obtain ⟨b1,o1,rfl,g1,g2⟩ := (mv.rk RU.out).rp.get k hlt
   have hts := take_snoc hlt
   have hfa := (hu2 u[k] (List.getElem_mem hlt)).1
   have hk0 : (0 : Int) ≤ (k : Int) := by omega
   have hk1 : (k : Int) < (u.length : Int) := by omega
   generalize u[k] = a at g1 g2 hts hfa
   have hb1 : b1 < wr.heap.size := block_lt_of_cell g1
   have sd := rk.side i hi
   obtain ⟨hnt,_⟩ := sd.nm mk hmk
   rw [esl.out,eat.out] at hnt
   have hmore : Hid (more L.attrs (u.take (k + 1)) = add (more L.attrs (u.take k)) a) := by rw [hts]; exact more_snoc _ _ _
   have hml : (more L.attrs (u.take k)).length < 50000 := by have := more_len (u.take k) L.attrs; rw [List.length_take] at this; omega
   generalize more L.attrs (u.take k) = cur at rk hnt hmore hml
   have kA : Kp [] wr (wr.alloc (.cells #[.string a.1,.string a.2] 102)) := (Kp.refl _ _).alloc _
   have kX : Kp [] wr ((wr.alloc (.cells #[.string a.1,.string a.2] 102)).alloc (.cells #[] 162)).drew := (((Kp.refl _ _).alloc _).alloc _).drew
   obtain ⟨_,_,_,f3,f4,_⟩ := rk.fields hi
   rw [hmk] at f4
   obtain ⟨hb,hN⟩ : ∃ hb,hasN cur a.1 = hb := ⟨_,rfl⟩
   have HS : Hid (∀ V,Kp [] (wr.alloc (.cells #[.string a.1,.string a.2] 102)) V → V.cell? ⟨g,o + i * 11 + 4,none⟩ = some (.map (some mk)) ∧ V.cell? ⟨wr.heap.size,0,none⟩ = some (.string a.1) ∧ (Instr.lookup 107 (.map (some mk)) (.string a.1) true).run Tryz.prog V = .ok (.tuple #[.agg #[],.bool hb]) V) := fun V kV => by
    have kwV := kA.trans kV (fun x hx => Or.inl hx)
    have e4 := ((rk.kept kwV).fields hi).2.2.2.2.1
    rw [hmk] at e4
    rw [← hN]
    exact ⟨e4,(kV.cell (by simp) (by simp)).trans ((At.new wr #[.string a.1,.string a.2] 102).cell 0),(hnt.same (kwV.block mk hnt.lt (by simp))).look a.1 hfa⟩
   cases hb with
   | true =>
     have X2 : Hid (Rw tagk ((wr.alloc (.cells #[.string a.1,.string a.2] 102)).alloc (.cells #[] 162)).drew b g o c q A.n (sLb A.raw i (attL L (more L.attrs (u.take (k + 1))))) plk ∧ Mv T2 w2 tagk ((wr.alloc (.cells #[.string a.1,.string a.2] 102)).alloc (.cells #[] 162)).drew ∧ (plk i).nm = some mk) := by
      refine ⟨?_,mv.trans (Mv.of_kp kX (fun x hx => by simp at hx) (fun _ _ => rfl)),hmk⟩
      rw [hmore.out]
      unfold add
      rw [hN,if_pos rfl]
      exact rk.kept kX
     clear f3 f4 kA hnt sd kX rk mv hmk hN
     go_wp2_with fail
     go_region_held3 (fun V => V.cell? ⟨g,o + i * 11 + 4,none⟩ = some (.map (some mk)) ∧ V.cell? ⟨wr.heap.size,0,none⟩ = some (.string a.1) ∧ (Instr.lookup 107 (.map (some mk)) (.string a.1) true).run Tryz.prog V = .ok (.tuple #[.agg #[],.bool true]) V)
      (first
       | with_reducible exact HS.out _ (Kp.refl _ _).drew
       | with_reducible exact HS.out _ ((Kp.refl _ _).drew.alloc _)
       | with_reducible exact HS.out _ ((Kp.refl _ _).alloc _).drew)
      (fail)
     all_goals
      go_wp2
      go_roundw
      case rel => exact ⟨k + 1,_,_,mk,by omega,by go_num,X2.out⟩
      case measure => simp [intOf]; omega
   | false =>
     obtain ⟨w5,hrun5,f5,k5,hmw,hgm,HY⟩ := mor_step rk hi hmk a hfa (by rw [esl.out,eat.out]; exact hml) (by rw [esl.out,eat.out]; exact hN) (w1 := (((wr.alloc (.cells #[.string a.1,.string a.2] 102)).alloc (.cells #[] 162)).drew).drew) kX.drew
     obtain ⟨ao6,n6,c6,w6,hrun6,f6,fz6,kp6,tag6,pl6,r6,m6,nm6⟩ := HY w5.drew (Kp.refl [] w5).drew
     rw [esl.out,eat.out,egr.out,sLb_twice] at r6
     have X2 : Hid (Rw tag6 _ b g o c q A.n (sLb A.raw i (attL L (more L.attrs (u.take (k + 1))))) pl6 ∧ Mv T2 w2 tag6 _ ∧ (pl6 i).nm = some mk) := ⟨by rw [hmore.out]; unfold add; rw [hN,if_neg (by simp)]; exact r6,mv.trans m6,nm6⟩
     obtain ⟨X,hX⟩ : ∃ X,X = ((wr.alloc (.cells #[.string a.1,.string a.2] 102)).alloc (.cells #[] 162)).drew := ⟨_,rfl⟩
     have AX : At X wr.heap.size #[.string a.1,.string a.2] 102 := by rw [hX]; exact (At.new wr #[.string a.1,.string a.2] 102).kept (((Kp.refl [] _).alloc _).drew) (by simp)
     rw [← hX] at hrun5 k5
     have hS12 : (World.drew X).cell? ⟨g,o + i * 11 + 4,none⟩ = some (.map (some mk)) ∧ (World.drew X).cell? ⟨wr.heap.size,0,none⟩ = some (.string a.1) := by
      rw [hX]
      obtain ⟨e1,e2,_⟩ := HS.out _ (((Kp.refl [] (wr.alloc (.cells #[.string a.1,.string a.2] 102))).alloc (.cells #[] 162)).drew)
      exact ⟨e1,e2⟩
     have A5 : At w5 wr.heap.size #[.string a.1,.string a.2] 102 := (AX.kept ((Kp.refl [] X).drew) (by simp)).kept k5 (by simp; omega)
     have A6 : At w6 wr.heap.size #[.string a.1,.string a.2] 102 := by unfold At; rw [kp6 wr.heap.size (Nat.le_refl _) A5.lt]; exact A5
     have hS13 : (World.drew w5).cell? ⟨g,o + i * 11 + 3,none⟩ = some (.slice (plk i).ao (plk i).an (plk i).ac) ∧ (World.drew w5).cell? ⟨wr.heap.size,0,none⟩ = some (.string a.1) ∧ (World.drew w5).cell? ⟨wr.heap.size,1,none⟩ = some (.string a.2) := ⟨f5,A5.cell 0,A5.cell 1⟩
     have hg5 : g < w5.heap.size := block_lt_of_cell f5
     have hw5 := A5.lt
     have hS13b : ((World.drew w5).alloc (.cells #[.string a.1,.string a.2] 102)).cell? ⟨g,o + i * 11 + 3,none⟩ = some (.slice (plk i).ao (plk i).an (plk i).ac) ∧ ((World.drew w5).alloc (.cells #[.string a.1,.string a.2] 102)).cell? ⟨wr.heap.size,0,none⟩ = some (.string a.1) ∧ ((World.drew w5).alloc (.cells #[.string a.1,.string a.2] 102)).cell? ⟨wr.heap.size,1,none⟩ = some (.string a.2) := by
      have ka : Kp [] (World.drew w5) ((World.drew w5).alloc (.cells #[.string a.1,.string a.2] 102)) := (Kp.refl _ _).alloc _
      exact ⟨(ka.cell hg5 (by simp)).trans f5,(ka.cell hw5 (by simp)).trans (A5.cell 0),(ka.cell hw5 (by simp)).trans (A5.cell 1)⟩
     have hS13c : w6.cell? ⟨g,o + i * 11 + 3,none⟩ = some (.slice (plk i).ao (plk i).an (plk i).ac) ∧ w6.cell? ⟨wr.heap.size,0,none⟩ = some (.string a.1) ∧ w6.cell? ⟨wr.heap.size,1,none⟩ = some (.string a.2) := ⟨f6,A6.cell 0,A6.cell 1⟩
     have HX : Hid (((wr.alloc (.cells #[.string a.1,.string a.2] 102)).alloc (.cells #[] 162)).drew = X) := hX.symm
     clear f3 f4 kA hnt sd kX rk mv hmk hN AX A5 A6 kp6 r6 m6 nm6 HY hX k5 f5 f6
     generalize (plk i).ao = pao at hS13 hS13b hS13c hrun6
     generalize (plk i).an = pan at hS13 hS13b hS13c hrun6
     generalize (plk i).ac = pac at hS13 hS13b hS13c hrun6
     go_wp2_with fail
     go_region_held3 (fun V => V.cell? ⟨g,o + i * 11 + 4,none⟩ = some (.map (some mk)) ∧ V.cell? ⟨wr.heap.size,0,none⟩ = some (.string a.1) ∧ (Instr.lookup 107 (.map (some mk)) (.string a.1) true).run Tryz.prog V = .ok (.tuple #[.agg #[],.bool false]) V)
      (first
       | with_reducible exact HS.out _ (Kp.refl _ _).drew
       | with_reducible exact HS.out _ ((Kp.refl _ _).drew.alloc _)
       | with_reducible exact HS.out _ ((Kp.refl _ _).alloc _).drew)
      (fail)
     all_goals
      rw [HX.out]
      clear HX HS
      go_wp2_with fail
      refine wp_region_g (S := fun V => V.cell? ⟨g,o + i * 11 + 4,none⟩ = some (.map (some mk)) ∧ V.cell? ⟨wr.heap.size,0,none⟩ = some (.string a.1)) (T := [7]) (by kernel_rfl) hS12 (fun hHeld => ?_)
      refine g_pure 0 (some 54) (.move (.tmp 7)) ?_
      refine g_pure 1 (some 55) (.nilCheck (.tmp 54)) ?_
      refine g_pure 2 (some 56) (.fieldAddr 109 (.tmp 55) 4) ?_
      refine g_take 3 (some 57) (.load 107 (.tmp 56)) (by intro w hSw; (obtain ⟨q0,q1⟩ := hSw); go_simp; try with_reducible rfl) ?_
      refine g_pure 4 (some 58) (.fieldAddr 102 (.tmp 9) 0) ?_
      refine g_take 5 (some 59) (.load 9 (.tmp 58)) (by intro w hSw; (obtain ⟨q0,q1⟩ := hSw); go_simp; try with_reducible rfl) ?_
      refine g_pure 6 (some 60) (.build 162 #[]) ?_
      refine wpAnyG_free (by kernel_rfl) ?_
      refine wpAny_ready (rs := [7]) (by kernel_rfl) (by simp) ?_
      refine AllReady.cons (o := ⟨none,.mapUpdate 107 (.tmp 57) (.tmp 59) (.tmp 60),0,_,_,none⟩) rfl (fun K hK => ?_) AllReady.nil
      refine step_updR (by rfl) _ _ _ 107 (by rfl) _ _ _ (by rfl) (by rfl) (by rfl) hrun5 ?_
      refine hK _ _ ?_
      clear hK K
      try simp only [Act.put,pu1,pu2,pu3]
      refine wpAny_done (by kernel_rfl) ?_ _
      go_wp2_with fail
      refine wp_region_g (S := fun V => V.cell? ⟨g,o + i * 11 + 3,none⟩ = some (.slice pao pan pac) ∧ V.cell? ⟨wr.heap.size,0,none⟩ = some (.string a.1) ∧ V.cell? ⟨wr.heap.size,1,none⟩ = some (.string a.2)) (T := [10]) (by kernel_rfl) hS13 (fun hHeld => ?_)
      refine g_pure 0 (some 61) (.move (.tmp 7)) ?_
      refine g_pure 1 (some 62) (.move (.tmp 7)) ?_
      refine g_pure 2 (some 63) (.nilCheck (.tmp 62)) ?_
      refine g_pure 3 (some 64) (.fieldAddr 109 (.tmp 63) 3) ?_
      refine g_take 4 (some 65) (.load 22 (.tmp 64)) (by intro w hSw; (obtain ⟨q0,q1,q2⟩ := hSw); go_simp; try with_reducible rfl) ?_
      refine g_take 5 (some 66) (.load 102 (.tmp 9)) (by intro w hSw; (obtain ⟨q0,q1,q2⟩ := hSw); go_simp; try with_reducible rfl) ?_
      refine wpAnyG_ready (rs := [6]) (by kernel_rfl) (by simp) ?_
      refine AllReadyG.cons (o := ⟨some 67,.buildSlice 22 1 #[(0,.tmp 66)],22,_,_,none⟩) rfl (fun K hK => ?_) AllReadyG.nil
      go_simp
      refine hK.out _ _ hS13b (fun hHeld1 => ?_)
      clear hK K hHeld
      try simp only [Act.put,pu1,pu2,pu3]
      refine wpAnyG_ready (rs := [7]) (by kernel_rfl) (by simp) ?_
      refine AllReadyG.cons (o := ⟨some 68,.call { callee := .builtin .append,args := #[.tmp 65,.tmp 67],argTypes := #[22,22] },22,_,_,none⟩) rfl (fun K hK => ?_) AllReadyG.nil
      refine step_app2 (by rfl) _ _ 22 22 (by rfl) _ _ (by rfl) (by rfl) hrun6 ?_
      refine hK.out _ _ hS13c (fun hHeld2 => ?_)
      clear hK K hHeld1
      try simp only [Act.put,pu1,pu2,pu3]
      refine g_pure 8 (some 69) (.nilCheck (.tmp 61)) ?_
      refine g_pure 9 (some 70) (.fieldAddr 109 (.tmp 69) 3) ?_
      refine wpAnyG_free (by kernel_rfl) ?_
      refine wpAny_ready (rs := [10]) (by kernel_rfl) (by simp) ?_
      refine AllReady.cons (o := ⟨none,.store 22 (.tmp 70) (.tmp 68),0,_,_,none⟩) rfl (fun K hK => ?_) AllReady.nil
      obtain ⟨q0,q1,q2⟩ := hS13c
      go_simp
      refine hK _ _ ?_
      clear hK K
      try simp only [Act.put,pu1,pu2,pu3]
      refine wpAny_done (by kernel_rfl) ?_ _
      go_wp2
      go_roundw
      case rel => exact ⟨k + 1,_,_,mk,by omega,by go_num,X2.out⟩
      case measure => simp [intOf]; omega
  ·obtain rfl : k = u.length := by omega
   rw [List.take_length] at rk
   have X2 : Hid (∃ tag',Pa tag' wr b q (A.tell i (attL L (more L.attrs l))).n (sLb A.raw i (attL L (more L.attrs l))) ∧ Mv tag w tag' wr) := ⟨tagk,⟨g,o,c,plk,by rw [← hmu.out]; exact rk⟩,m02.out.trans mv⟩
   clear rk mv
   go_wp2
   go_ret
   exact ⟨rfl,X2.out⟩
end
end Go.Proofs.YtpkppobkagdhkaaGreat
