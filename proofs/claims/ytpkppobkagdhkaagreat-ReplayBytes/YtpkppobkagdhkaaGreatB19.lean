/-
 PrI PrJ.
-/
import Derived.Test.YtpkppobkagdhkaaGreatB18
set_option linter.unusedVariables false
set_option linter.unusedSimpArgs false
set_option maxRecDepth 100000
set_option maxHeartbeats 1000000
namespace Go.Proofs.YtpkppobkagdhkaaGreat
open Go.RowKit Go.Maps Utf
section
variable {tag : Nat → Nat} {w : World} {b g o c : Nat} {q : Bool} {A : Ar} {pl : Nat → Np}
theorem wr_arena (h : Rw tag w b g o c q A.n A.raw pl) (ok : A.Ok) (hn : A.n < 40000) (z : Int) (s : ByteArray) (hs : s.size ≤ 1000) (htx : ∀ x,(A.lb x).text.size ≤ 900000) :
  Calls Tryz.prog 71 #[.pointer (some ⟨b,0,none⟩),.int .i64 z,.string s] w fun e w' => e = .returned (.int .i64 (A.wrF z s).2) ∧ ∃ tag',Pa tag' w' b q (A.wrF z s).1.n (A.wrF z s).1.raw ∧ Mv tag w tag' w' := by
 have HH := fun z => has_any h (by omega) z
 obtain ⟨Z,hZ⟩ : ∃ Z,A.wrF z s = Z := ⟨_,rfl⟩
 rw [hZ]
 unfold Ar.wrF at hZ
 have pa0 : ∃ tag',Pa tag' w b q A.n A.raw ∧ Mv tag w tag' w := ⟨tag,⟨g,o,c,pl,h⟩,Mv.refl tag w⟩
 by_cases hz : A.there z = true
 case neg =>
  have hz : A.there z = false := by simpa using hz
  rw [if_pos hz] at hZ
  subst hZ
  rw [there_dec] at hz
  have pa : Hid _ := pa0
  clear pa0 h
  go_enter Tryz.func71,Tryz.ntmps71
  go_wp2_with (go_at_call 33; refine same_of (HH _) ?_)
  go_ret
  exact ⟨rfl,pa.out⟩
 rw [if_neg (by simp [hz])] at hZ
 obtain ⟨p,rfl,hpn⟩ := there_nat hz
 rw [Int.toNat_natCast] at hZ
 rw [there_dec] at hz
 have HM := may_any h (by omega) p hpn
 rw [show (A.raw p).lb = A.lb p from rfl] at HM
 cases h1 : Ar.hld (A.lb p) with
 | false =>
   rw [h1] at HM
   rw [if_pos h1] at hZ
   subst hZ
   have pa : Hid _ := pa0
   clear pa0 h
   go_enter Tryz.func71,Tryz.ntmps71
   go_wp2_with (first | (go_at_call 33; refine same_of (HH _) ?_) | (go_at_call 105; refine same_of (HM) ?_))
   go_ret
   exact ⟨rfl,pa.out⟩
 | true =>
   rw [h1] at HM
   rw [if_neg (by rw [h1]; simp)] at hZ
   subst hZ
   have HP := put_arena h ok hn p hpn (A.kids p) [] (by rw [List.append_nil]) (-1) rfl s hs htx
   clear pa0 h
   go_enter Tryz.func71,Tryz.ntmps71
   go_wp2_with (first | (go_at_call 33; refine same_of (HH _) ?_) | (go_at_call 105; refine same_of (HM) ?_) | (go_at_call 111; refine HP.mono ?_; rintro e w3 ⟨rfl,X3⟩))
   go_ret
   exact ⟨rfl,X3⟩
theorem wb_arena (h : Rw tag w b g o c q A.n A.raw pl) (ok : A.Ok) (hn : A.n < 40000) (z : Int) (s : ByteArray) (hs : s.size ≤ 1000) (htx : ∀ x,(A.lb x).text.size ≤ 900000) :
  Calls Tryz.prog 112 #[.pointer (some ⟨b,0,none⟩),.int .i64 z,.string s] w fun e w' => e = .returned (.int .i64 (A.wbF z s).2) ∧ ∃ tag',Pa tag' w' b q (A.wbF z s).1.n (A.wbF z s).1.raw ∧ Mv tag w tag' w' := by
 have HH := fun z => has_any h (by omega) z
 obtain ⟨Z,hZ⟩ : ∃ Z,A.wbF z s = Z := ⟨_,rfl⟩
 rw [hZ]
 unfold Ar.wbF at hZ
 have pa0 : ∃ tag',Pa tag' w b q A.n A.raw ∧ Mv tag w tag' w := ⟨tag,⟨g,o,c,pl,h⟩,Mv.refl tag w⟩
 by_cases hz : A.there z = true
 case neg =>
  have hz : A.there z = false := by simpa using hz
  rw [if_pos hz] at hZ
  subst hZ
  rw [there_dec] at hz
  have pa : Hid _ := pa0
  clear pa0 h
  go_enter Tryz.func112,Tryz.ntmps112
  go_wp2_with (go_at_call 33; refine same_of (HH _) ?_)
  go_ret
  exact ⟨rfl,pa.out⟩
 rw [if_neg (by simp [hz])] at hZ
 obtain ⟨r,rfl,hpn⟩ := there_nat hz
 rw [Int.toNat_natCast] at hZ
 rw [there_dec] at hz
 have HM := follow_any h (by omega) r hpn
 rw [show (A.raw r).lb = A.lb r from rfl] at HM
 cases hr : A.up r with
 | none =>
   rw [hr] at hZ
   rw [up_eq hr,show (!Ar.fix (A.lb r) && decide ((-1 : Int) ≠ -1)) = false by simp] at HM
   subst hZ
   have pa : Hid _ := pa0
   clear pa0 h
   go_enter Tryz.func112,Tryz.ntmps112
   go_wp2_with (first | (go_at_call 33; refine same_of (HH _) ?_) | (go_at_call 109; refine same_of (HM) ?_))
   go_ret
   exact ⟨rfl,pa.out⟩
 | some p =>
 rw [hr] at hZ
 replace hZ : (if Ar.fix (A.lb r) = true then (A,23) else (A.txt p (A.place p r) s,0)) = Z := hZ
 cases h1 : Ar.fix (A.lb r) with
 | true =>
   rw [h1,show (!true && decide ((A.raw r).up ≠ -1)) = false from rfl] at HM
   rw [if_pos h1] at hZ
   subst hZ
   have pa : Hid _ := pa0
   clear pa0 h
   go_enter Tryz.func112,Tryz.ntmps112
   go_wp2_with (first | (go_at_call 33; refine same_of (HH _) ?_) | (go_at_call 109; refine same_of (HM) ?_))
   go_ret
   exact ⟨rfl,pa.out⟩
 | false =>
   rw [h1,up_some hr,show (!false && decide ((p : Int) ≠ -1)) = true by simp] at HM
   rw [if_neg (by rw [h1]; simp)] at hZ
   subst hZ
   obtain ⟨k1,k2,ek,ek1,_,_⟩ := ok.split hr
   have epl : A.place p r = k1.length := by
    unfold Ar.place
    rw [ek,List.idxOf_append,if_neg ek1,List.idxOf_cons_self]; simp
   rw [epl]
   have HP := put_arena h ok hn p (ok.lt hr).2 k1 (r :: k2) ek (r : Int) rfl s hs htx
   obtain ⟨c0,_⟩ := h.head
   obtain ⟨l1,_⟩ := h.links hpn
   rw [up_some hr] at l1
   have hr0 : (0 : Int) ≤ (r : Int) := by omega
   have hr1 : (r : Int) < (A.n : Int) := by omega
   clear pa0 h ek ek1 epl
   go_enter Tryz.func112,Tryz.ntmps112
   go_wp2_with (first | (go_at_call 33; refine same_of (HH _) ?_) | (go_at_call 109; refine same_of (HM) ?_) | (go_at_call 111; refine HP.mono ?_; rintro e w3 ⟨rfl,X3⟩))
   go_ret
   exact ⟨rfl,X3⟩
theorem mk_arena (h : Rw tag w b g o c q A.n A.raw pl) (ok : A.Ok) (hn : A.n < 40000) (kind ns : Int) (name text : ByteArray) (l : List Att) (ao : Option Addr) (n' c' : Nat) (hr : Rp w ao n' c' l) (ha : n' ≤ 10000) (hf : fits l) (h1 : name.size ≤ 1000000) (h2 : text.size ≤ 1000000) :
  Calls Tryz.prog 104 #[.pointer (some ⟨b,0,none⟩),.int .i64 kind,.int .i64 ns,.string name,.slice ao n' c',.string text] w fun e w' => e = .returned (.tuple #[.int .i64 (A.mkF kind ns name (uniq l) text).2.1,.int .i64 (A.mkF kind ns name (uniq l) text).2.2]) ∧ ∃ tag',Pa tag' w' b q (A.mkF kind ns name (uniq l) text).1.n (A.mkF kind ns name (uniq l) text).1.raw ∧ Mv tag w tag' w' := by
 obtain ⟨Z,hZ⟩ : ∃ Z,A.mkF kind ns name (uniq l) text = Z := ⟨_,rfl⟩
 rw [hZ]
 unfold Ar.mkF at hZ
 have pa0 : ∃ tag',Pa tag' w b q A.n A.raw ∧ Mv tag w tag' w := ⟨tag,⟨g,o,c,pl,h⟩,Mv.refl tag w⟩
 by_cases hk : kind < 2 ∨ 5 < kind
 ·rw [if_pos hk] at hZ
  subst hZ
  have t2 : (kind == 2) = false := beq_false_of_ne (by omega)
  have t3 : (kind == 3) = false := beq_false_of_ne (by omega)
  have t4 : (kind == 4) = false := beq_false_of_ne (by omega)
  have t5 : (kind == 5) = false := beq_false_of_ne (by omega)
  have pa : Hid _ := pa0
  clear pa0 h hk
  go_enter Tryz.func104,Tryz.ntmps104
  go_wp2
  go_ret2
  exact ⟨rfl,pa.out⟩
 rw [if_neg hk] at hZ
 by_cases e3 : kind = 3
 ·subst e3
  rw [if_pos rfl] at hZ
  by_cases hbad : (ns ≠ 1 ∧ ns ≠ 2) ∨ name.size = 0
  ·rw [if_pos hbad] at hZ
   subst hZ
   have pa : Hid _ := pa0
   rcases hbad with ⟨e1,e2⟩ | e0
   ·have t1 : (ns != 1) = true := bne_iff_ne.2 e1
    have t2 : (ns != 2) = true := bne_iff_ne.2 e2
    clear pa0 h hk e1 e2
    go_enter Tryz.func104,Tryz.ntmps104
    go_wp2
    go_ret2
    exact ⟨rfl,pa.out⟩
   ·have t9 : name.toList.isEmpty = true := emp_yes e0
    clear pa0 h hk e0
    by_cases e1 : ns = 1
    ·subst e1
     go_enter Tryz.func104,Tryz.ntmps104
     go_wp2
     go_ret2
     exact ⟨rfl,pa.out⟩
    ·have t1 : (ns != 1) = true := bne_iff_ne.2 e1
     by_cases e2 : ns = 2
     ·subst e2
      clear e1 t1
      go_enter Tryz.func104,Tryz.ntmps104
      go_wp2
      go_ret2
      exact ⟨rfl,pa.out⟩
     ·have t2 : (ns != 2) = true := bne_iff_ne.2 e2
      clear e1 e2
      go_enter Tryz.func104,Tryz.ntmps104
      go_wp2
      go_ret2
      exact ⟨rfl,pa.out⟩
  ·rw [if_neg hbad] at hZ
   have eK : keptL (3,ns,name,l,text) = (3,ns,name,uniq l,⟨#[]⟩) := rfl
   by_cases ht : tmplF (3,ns,name,uniq l,⟨#[]⟩) = true
   ·rw [if_pos ht] at hZ
    subst hZ
    obtain rfl : ns = 1 := by simp [tmplF,Lb.kind,Lb.ns] at ht; exact ht.1
    have := mk_tmpl h ok hn name text l ao n' c' hr ha hf h1 h2 (by omega) (by rw [eK]; exact ht)
    rw [eK] at this
    exact this
   ·rw [if_neg ht] at hZ
    subst hZ
    have := mk_good h ok hn 3 ns name text l ao n' c' hr ha hf h1 h2 (by omega) (by rw [eK]; simpa using ht)
    rw [eK] at this
    exact this
 ·rw [if_neg e3] at hZ
  by_cases e2 : kind = 2
  ·subst e2
   rw [if_pos rfl] at hZ
   subst hZ
   have eK : keptL (2,ns,name,l,text) = (2,0,name,[],⟨#[]⟩) := rfl
   have := mk_good h ok hn 2 ns name text l ao n' c' hr ha hf h1 h2 (by omega) (by rw [eK]; simp [tmplF,Lb.kind])
   rw [eK] at this
   exact this
  ·rw [if_neg e2] at hZ
   subst hZ
   have eK : keptL (kind,ns,name,l,text) = (kind,0,⟨#[]⟩,[],text) := by
    unfold keptL
    rw [if_neg e3,if_neg e2,if_pos (by show kind = 4 ∨ kind = 5; omega)]
   have := mk_good h ok hn kind ns name text l ao n' c' hr ha hf h1 h2 (by omega) (by rw [eK]; simp [tmplF,Lb.kind]; omega)
   rw [eK] at this
   exact this
end
theorem lawS : Keyed Tryz.prog 9 := string_keyed Tryz.underlying9
theorem zeroE (w : World) : (zeroValue 162).run Tryz.prog w = .ok (.agg #[]) w := by kernel_rfl
theorem hasN_snoc (l : List Att) (a : Att) (x : ByteArray) : hasN (l ++ [a]) x = (hasN l x || eqs a.1 x) := by
 unfold hasN
 rw [getF_append,getF_one]
 cases getF l x with
 | some y => rfl
 | none => cases eqs a.1 x <;> rfl
theorem Nt.look {w : World} {b : Nat} {l : List Att} (h : Nt w b l) (x : ByteArray) (hx : x.size ≤ 140737488355328) : (Instr.lookup 107 (.map (some b)) (.string x) true).run Tryz.prog w = .ok (.tuple #[.agg #[],.bool (hasN l x)]) w := by
 obtain ⟨D,k,h1,h2,h3⟩ := h
 obtain ⟨v,ps,hrun,hv⟩ := h1.look_ok lawS Tryz.underlying107 (zeroE w) unitElem_mk (key_of hx)
 obtain ⟨rfl,_⟩ := unitElem_inv hv
 rw [h3 x] at hrun
 exact hrun
theorem Nt.put {w : World} {b : Nat} {l : List Att} (h : Nt w b l) (a : Att) (hx : a.1.size ≤ 140737488355328) (hl : l.length < 100000) : ∃ w',(Instr.mapUpdate 107 (.map (some b)) (.string a.1) (.agg #[])).run Tryz.prog w = .ok () w' ∧ Nt w' b (l ++ [a]) ∧ Kp [b] w w' := by
 obtain ⟨D,k,h1,h2,h3⟩ := h
 obtain ⟨w',hrun,r1,r2⟩ := h1.update lawS Tryz.underlying107 (by unfold maxLen; omega) (key_of hx) (unitElem_mk (H := Unit))
 refine ⟨w',hrun,⟨_,k + 1,r1,by rw [List.length_append]; simp; exact h2,fun x => ?_⟩,kp_grown r2⟩
 rw [hasN_snoc]
 cases he : eqs a.1 x
 ·have hne : kl x ≠ kl a.1 := fun e => by rw [kl_inj e,eqs_refl] at he; cases he
  rw [Maps.has_put_other hne,h3 x,Bool.or_false]
 ·obtain rfl := eqs_iff.1 he
  rw [Maps.has_put_same (h1.tidy lawS).isMap (kl_key a.1),Bool.or_true]
theorem nt_new (w : World) : Nt (w.alloc (.map #[] 0)) w.heap.size [] := ⟨.map [],0,World.ownsMap_made w Tryz.prog 9 _,Nat.le_refl _,fun x => rfl⟩
theorem make_names (w : World) (n : Nat) : (Instr.makeMap 107 (some (.int .i64 (n : Int)))).run Tryz.prog w = .ok (.map (some w.heap.size)) (w.alloc (.map #[] 0)) := by
 simp [Instr.makeMap,run_underlying Tryz.underlying107,asInt,asIntOf,newObj]
 rfl
theorem step_updR {P : Program} {ops : Array Oper} {o : Oper} {a : Act} {w w' : World} {K : Act → World → Prop} {Q : Exit → Act → World → Prop} {E : Prop}
  (hg : o.guard = none) (m x v : Operand) (t : TypeId) (hop : o.op = Op.mapUpdate t m x v) (M X V : Value) (hm : a.eval m = M) (hx : a.eval x = X) (hv : a.eval v = V) (hrun : (Instr.mapUpdate t M X V).run P w = .ok () w') (hK : K (a.put o.dst undef) w') :
  if Region.wanted o (yielded ops a.tmps) = true then Oper.wp P o a w K Q else E := by
 have hw : Region.wanted o (yielded ops a.tmps) = true := by simp [Region.wanted,hg]
 rw [if_pos hw]
 unfold Oper.wp
 simp [execOp,hop,hm,hx,hv,hrun,Result.andThen]
 exact hK
section
variable {tag : Nat → Nat} {w : World} {b g o c : Nat} {q : Bool} {n : Nat} {N : Nat → Pn} {pl : Nat → Np}
theorem Rw.turnF {tag' : Nat → Nat} {S : List Nat} {wf : World} {N' : Nat → Pn} {pl' : Nat → Np} (h : Rw tag w b g o c q n N pl) {i k : Nat} (hi : i < n) (hk : k < 11) (u : Value) (kk : Kp (g :: S) w wf) (hS : ∀ x,x ∈ S → x < w.heap.size → tag x = 8 + 3 * i ∨ tag x = 9 + 3 * i ∨ tag x = 10 + 3 * i) (ht : ∀ x,x < w.heap.size → tag' x = tag x)
  (hcur : ∀ cur,At w g cur 109 → At wf g (cur.setIfInBounds (o + i * 11 + k) u) 109)
  (he : el (N' i) (pl' i) = (el (N i) (pl i)).set k u) (hN : ∀ j,j < n → j ≠ i → N' j = N j ∧ pl' j = pl j) (hs : Sd tag' wf i (N' i).lb (pl' i)) :
  Rw tag' wf b g o c q n N' pl' ∧ Mv tag w tag' wf := by
 have hne := h.ne
 have hlt := h.lt
 obtain ⟨cur,h1,h2,h3⟩ := h.body
 have hbS : b ∉ g :: S := fun hx => by
  rcases List.mem_cons.1 hx with e | hx
  ·exact hne e
  ·have := hS b hx hlt.1; rw [h.tb] at this; omega
 refine ⟨⟨h.hd.kept kk hbS,by rw [ht b hlt.1]; exact h.tb,h.cap,h.max,⟨_,hcur cur h1,by simpa using h2,fun j hj l hl => ?_⟩,by rw [ht g hlt.2]; exact h.tg,fun j hj => ?_⟩,?_⟩
 ·rw [Array.getElem?_setIfInBounds]
  have hcap := h.cap
  have hm : i * 11 + 11 ≤ c * 11 := by omega
  by_cases hjl : o + i * 11 + k = o + j * 11 + l
  ·obtain ⟨rfl,rfl⟩ := (idx11 (i := i) (j := j) hk hl).1 (by omega)
   rw [if_pos rfl,if_pos (by omega),he,List.getElem?_set_self (by rw [el_len]; exact hk)]
  ·rw [if_neg hjl]
   by_cases hji : j = i
   ·subst hji
    rw [he,List.getElem?_set_ne (fun e => hjl (by rw [e])),h3 j hj l hl]
   ·rw [(hN j hj hji).1,(hN j hj hji).2,h3 j hj l hl]
 ·by_cases hji : j = i
  ·subst hji; exact hs
  ·rw [(hN j hj hji).1,(hN j hj hji).2]
   refine (h.side j hj).keep kk (fun x hx hxl => ?_) ht
   rcases List.mem_cons.1 hx with rfl | hx
   ·rw [h.tg]; omega
   ·have := hS x hx hxl; omega
 ·refine Mv.of_kp kk (fun x hx hxl => ?_) ht
  rcases List.mem_cons.1 hx with rfl | hx
  ·exact .inr (.inl h.tg)
  ·have := hS x hx hxl; exact .inr (.inr (by omega))
def nmP (pl : Nat → Np) (i mb : Nat) : Nat → Np := fun j => if j = i then ⟨(pl i).ao,(pl i).an,(pl i).ac,some mb,(pl i).to,(pl i).tn,(pl i).tc⟩ else pl j
theorem Sd.alen {tag : Nat → Nat} {w : World} {i : Nat} {l : Lb} {p : Np} (h : Sd tag w i l p) : p.an = l.attrs.length := by
 have := h.at'.1
 rw [cs_len] at this
 omega
theorem keep_any (h : Rw tag w b g o c q n N pl) (hn : n < 100000) {i : Nat} (hi : i < n) (hl : (N i).lb.attrs.length ≤ 20000) (hf : fits (N i).lb.attrs) :
  Calls Tryz.prog 115 #[.pointer (some ⟨g,o + i * 11,none⟩)] w fun e w' => e = .returned (.tuple #[]) ∧ ∃ tag' mb,Rw tag' w' b g o c q n N (nmP pl i mb) ∧ Mv tag w tag' w' := by
 obtain ⟨_,_,_,c3,c4,_⟩ := h.fields hi
 have sd := h.side i hi
 have hal := sd.alen
 obtain ⟨nm,hnm⟩ : ∃ nm,(pl i).nm = nm := ⟨_,rfl⟩
 rw [hnm] at c4
 cases nm with
 | some mb =>
   have e : nmP pl i mb = pl := by
    funext j
    unfold nmP
    by_cases hj : j = i
    ·subst hj
     rw [if_pos rfl,← hnm]
    ·rw [if_neg hj]
   have X : Hid (∃ tag' mb,Rw tag' w b g o c q n N (nmP pl i mb) ∧ Mv tag w tag' w) := ⟨tag,mb,by rw [e]; exact h,Mv.refl _ _⟩
   have hneq : (binOp .neq 107 (.map (some mb)) (.map none)).run Tryz.prog w = .ok (.bool true) w := run_neq_map_nil w 107 9 162 (some mb) Tryz.underlying107
   clear h sd e
   go_enter Tryz.func115,Tryz.ntmps115
   go_wp2
   (try simp only [Exit.inBlock,Exit.then]); refine bodyPost_ret (results_none rfl _ _ _) rfl ?_
   exact ⟨rfl,X.out⟩
 | none =>
   have hmk := make_names w (pl i).an
   have hneq : (binOp .neq 107 (.map none) (.map none)).run Tryz.prog w = .ok (.bool false) w := run_neq_map_nil w 107 9 162 none Tryz.underlying107
   have hsl := h.lt
   have fr := h.free (o + i * 11 + 4)
   obtain ⟨cur,h1,h2,h3⟩ := h.body
   obtain ⟨B,hB⟩ : ∃ B,B = (w.setCell ⟨g,o + i * 11 + 4,none⟩ (.map (some w.heap.size))).alloc (.map #[] 0) := ⟨_,rfl⟩
   have kB : Kp [g] w B := by rw [hB]; exact ((Kp.refl _ _).setCell (Or.inl (by simp)) _).alloc _
   have hcB : At B g (cur.setIfInBounds (o + i * 11 + 4) (.map (some w.heap.size))) 109 := by rw [hB]; exact (h1.set _ _).kept ((Kp.refl [] _).alloc _) (by simp)
   have NB : Nt B w.heap.size [] := by
    have e := nt_new (w.setCell ⟨g,o + i * 11 + 4,none⟩ (.map (some w.heap.size)))
    rw [show (w.setCell ⟨g,o + i * 11 + 4,none⟩ (.map (some w.heap.size))).heap.size = w.heap.size by simp [World.setCell]] at e
    rw [hB]; exact e
   have hgx : g < w.heap.size := hsl.2
   have hcell : ∀ k,k < 11 → (cur.setIfInBounds (o + i * 11 + 4) (.map (some w.heap.size)))[o + i * 11 + k]? = ((el (N i) (pl i)).set 4 (.map (some w.heap.size)))[k]? := fun k hk => by
    rw [Array.getElem?_setIfInBounds]
    have := h.cap
    by_cases e : k = 4
    ·subst e; rw [if_pos rfl,if_pos (by omega)]; rfl
    ·rw [if_neg (by omega),h3 i hi k hk,List.getElem?_set_ne (by omega)]
   have HC : Hid (∀ V,Kp [w.heap.size] B V → V.cell? ⟨g,o + i * 11 + 3,none⟩ = some (.slice (pl i).ao (pl i).an (pl i).ac) ∧ V.cell? ⟨g,o + i * 11 + 4,none⟩ = some (.map (some w.heap.size)) ∧ Rp V (pl i).ao (pl i).an (pl i).ac (N i).lb.attrs) := fun V kV => by
    have hcV := hcB.kept kV (by simp; omega)
    refine ⟨(hcV.cell _).trans (hcell 3 (by omega)),(hcV.cell _).trans (hcell 4 (by omega)),Rp.of_own (e := 102) (m := (pl i).an) ?_⟩
    refine (sd.at'.keep kB (fun x hx hs => ?_)).keep kV (fun x hx hs => ?_)
    ·have := sd.atT x hx; rw [List.mem_singleton.1 hs,h.tg] at this; omega
    ·have := sd.at'.lt x hx; rw [List.mem_singleton.1 hs] at this; omega
   have HF : Hid (∀ V,Kp [w.heap.size] B V → Nt V w.heap.size (N i).lb.attrs → ∃ tag' mb,Rw tag' V b g o c q n N (nmP pl i mb) ∧ Mv tag w tag' V) := fun V kV hV => by
    obtain ⟨T,hT⟩ : ∃ T : Nat → Nat,T = fun x => if x < w.heap.size then tag x else 9 + 3 * i := ⟨_,rfl⟩
    have T0 : ∀ x,x < w.heap.size → T x = tag x := fun x hx => by rw [hT]; simp only [if_pos hx]
    have kwV : Kp [g] w V := kB.trans kV (fun x hx => Or.inr (by simp at hx; omega))
    obtain ⟨r1,m1⟩ := h.turnF (tag' := T) (S := []) (wf := V) (N' := N) (pl' := nmP pl i w.heap.size) (k := 4) hi (by omega) (.map (some w.heap.size)) kwV (fun x hx => by simp at hx) T0
     (fun cur' hc' => by
      have e : cur' = cur := by
       unfold At at h1 hc'
       rw [h1] at hc'
       simp only [Option.some.injEq,Obj.cells.injEq,and_true] at hc'
       exact hc'.symm
      rw [e]
      exact hcB.kept kV (by simp; omega)) (by simp [nmP,el]) (fun j _ hj => ⟨rfl,by simp [nmP,hj]⟩) (by
      unfold nmP
      rw [if_pos rfl]
      have s2 := sd.keep (tag' := T) kwV (fun x hx _ => by rw [List.mem_singleton.1 hx,h.tg]; omega) T0
      refine ⟨s2.at',s2.atT,s2.tx,s2.txT,fun z hz => ?_⟩
      obtain rfl : w.heap.size = z := by simpa using hz
      exact ⟨hV,by rw [hT]; simp only [if_neg (Nat.lt_irrefl _)]⟩)
    exact ⟨T,w.heap.size,r1,m1⟩
   have HB : Hid ((w.setCell ⟨g,o + i * 11 + 4,none⟩ (.map (some w.heap.size))).alloc (.map #[] 0) = B) := hB.symm
   have hsB : w.heap.size < B.heap.size := NB.lt
   generalize (N i).lb.attrs = l at HC HF hl hf hal
   clear h sd hB kB hcB hcell h1 h2 h3 hnm
   generalize (pl i).ao = ao at c3 HC
   generalize (pl i).an = an at c3 HC hal hmk
   generalize (pl i).ac = ac at c3 HC
   subst hal
   go_enter Tryz.func115,Tryz.ntmps115
   go_upto_region 2 with fail
   rw [HB.out]
   clear hmk HB fr c3 c4 hneq
   obtain ⟨d3,d4,_⟩ := HC.out B (Kp.refl _ _)
   go_wp2_with fail
   go_loopw [3,23] (fun _ k wr => ∃ j : Nat,j ≤ l.length ∧ k = .int .i64 (j : Int) ∧ Kp [w.heap.size] B wr ∧ Nt wr w.heap.size (l.take j)) (fun _ k _ => l.length - (intOf k).toNat)
   case atStart => exact ⟨0,Nat.zero_le _,rfl,Kp.refl _ _,NB⟩
   case round =>
    obtain ⟨j,hj,rfl,kr,nr⟩ := hrel
    clear d3 d4 NB
    by_cases hlt : j < l.length
    ·obtain ⟨d3,d4,hr⟩ := HC.out wr kr
     obtain ⟨b1,o1,rfl,g1,g2⟩ := hr.get j hlt
     have hts := take_snoc hlt
     have hfa := (hf l[j] (List.getElem_mem hlt)).1
     have hj0 : (0 : Int) ≤ (j : Int) := by omega
     have hj1 : (j : Int) < (l.length : Int) := by omega
     have hb1 := hr.len
     generalize l[j] = a at g1 g2 hts hfa
     have hbw : b1 < wr.heap.size := block_lt_of_cell g1
     have kA : Kp [] wr (wr.alloc (.cells #[.string a.1,.string a.2] 102)).drew := ((Kp.refl _ _).alloc _).drew
     have nA : Nt (wr.alloc (.cells #[.string a.1,.string a.2] 102)).drew w.heap.size (l.take j) := nr.same (kA.block _ nr.lt (by simp))
     obtain ⟨w3,hrun,n3,k3⟩ := nA.put a hfa (by rw [List.length_take]; omega)
     rw [← hts] at n3
     have K3 : Hid (Kp [w.heap.size] B w3) := (kr.trans kA (fun x hx => by simp at hx)).trans k3 (fun x hx => Or.inl hx)
     have hgm := nr.lt
     have hS0 : ((wr.alloc (.cells #[.string a.1,.string a.2] 102)).drew).cell? ⟨g,o + i * 11 + 4,none⟩ = some (.map (some w.heap.size)) ∧ ((wr.alloc (.cells #[.string a.1,.string a.2] 102)).drew).cell? ⟨wr.heap.size,0,none⟩ = some (.string a.1) := by
      refine ⟨((HC.out _ (kr.trans kA (fun x hx => by simp at hx))).2.1),?_⟩
      exact (At.new wr #[.string a.1,.string a.2] 102).cell 0
     clear kr nr hr hb1 kA nA k3 HC
     go_wp2_with fail
     refine wp_region_g (S := fun V => V.cell? ⟨g,o + i * 11 + 4,none⟩ = some (.map (some w.heap.size)) ∧ V.cell? ⟨wr.heap.size,0,none⟩ = some (.string a.1)) (T := [7]) (by kernel_rfl) hS0 (fun hHeld => ?_)
     refine g_pure 0 (some 27) (.move (.tmp 0)) ?_
     refine g_pure 1 (some 28) (.nilCheck (.tmp 27)) ?_
     refine g_pure 2 (some 29) (.fieldAddr 109 (.tmp 28) 4) ?_
     refine g_take 3 (some 30) (.load 107 (.tmp 29)) (by intro w hSw; (obtain ⟨q0,q1⟩ := hSw); go_simp; try with_reducible rfl) ?_
     refine g_pure 4 (some 31) (.fieldAddr 102 (.tmp 3) 0) ?_
     refine g_take 5 (some 32) (.load 9 (.tmp 31)) (by intro w hSw; (obtain ⟨q0,q1⟩ := hSw); go_simp; try with_reducible rfl) ?_
     refine g_pure 6 (some 33) (.build 162 #[]) ?_
     refine wpAnyG_free (by kernel_rfl) ?_
     refine wpAny_ready (rs := [7]) (by kernel_rfl) (by simp) ?_
     refine AllReady.cons (o := ⟨none,.mapUpdate 107 (.tmp 30) (.tmp 32) (.tmp 33),0,_,_,none⟩) rfl (fun K hK => ?_) AllReady.nil
     refine step_updR (by rfl) _ _ _ 107 (by rfl) _ _ _ (by rfl) (by rfl) (by rfl) hrun ?_
     refine hK _ _ ?_
     clear hK K
     try simp only [Act.put,pu1,pu2,pu3]
     refine wpAny_done (by kernel_rfl) ?_ _
     go_wp2
     go_roundw
     case rel => exact ⟨j + 1,by omega,by go_num,K3.out,n3⟩
     case measure => simp [intOf]; omega
    ·obtain rfl : j = l.length := by omega
     rw [List.take_length] at nr
     have X := HF.out _ kr nr
     have X2 : Hid _ := X
     clear X HF HC kr nr
     go_wp2
     go_end0
     exact ⟨rfl,X2.out⟩
end
end Go.Proofs.YtpkppobkagdhkaaGreat
