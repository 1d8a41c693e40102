/-
 Small Pile Held Hold Stp Rbt.
-/
import Derived.Test.YtpkppobkagdhkaaGreatB1
import Derived.Lib.SliceRun
import Derived.Deep.RegionHeld3
set_option linter.unusedVariables false
set_option linter.unusedSimpArgs false
set_option maxRecDepth 100000
set_option maxHeartbeats 1000000
namespace Go.Proofs.YtpkppobkagdhkaaGreat
open Go.RowKit Utf
theorem cut_any (w : World) (s : ByteArray) (m : Nat) (hm : m ≤ 1000) : Calls Tryz.prog 25 #[.string s,.int .i64 (m : Int)] w fun e w' => e = .returned (.string (if m < s.size then s.extract 0 m else s)) ∧ w' = w := by
 by_cases h : m < s.size
 ·rw [if_pos h]
  go_enter Tryz.func25,Tryz.ntmps25
  go_wp2
  go_ret
  exact ⟨rfl,rfl⟩
 ·rw [if_neg h]
  go_enter Tryz.func25,Tryz.ntmps25
  go_wp2
  go_ret
  exact ⟨rfl,rfl⟩
def wi (n : Int) (m : Nat) : Nat := (if n.tmod ((m : Int) + 1) < 0 then n.tmod ((m : Int) + 1) + ((m : Int) + 1) else n.tmod ((m : Int) + 1)).toNat
theorem wi_le (n : Int) (m : Nat) : wi n m ≤ m := by
 have t1 : n.tmod ((m : Int) + 1) < (m : Int) + 1 := Int.tmod_lt_of_pos n (by omega)
 have t2 : -((m : Int) + 1) < n.tmod ((m : Int) + 1) := Int.lt_tmod_of_pos n (by omega)
 unfold wi
 split <;> omega
theorem within_any (w : World) (n : Int) (lo hi : Nat) (hl : lo ≤ hi) (hm : hi ≤ 1099511627776) : Calls Tryz.prog 22 #[.int .i64 n,.int .i64 (lo : Int),.int .i64 (hi : Int)] w fun e w' => e = .returned (.int .i64 ((lo + wi n (hi - lo) : Nat) : Int)) ∧ w' = w := by
 have e1 : (hi : Int) - (lo : Int) + 1 = ((hi - lo : Nat) : Int) + 1 := by omega
 have t1 : n.tmod ((hi : Int) - lo + 1) < (hi : Int) - lo + 1 := Int.tmod_lt_of_pos n (by omega)
 have t2 : -((hi : Int) - lo + 1) < n.tmod ((hi : Int) - lo + 1) := Int.lt_tmod_of_pos n (by omega)
 by_cases h : n.tmod ((hi : Int) - lo + 1) < 0
 ·have hw : ((lo + wi n (hi - lo) : Nat) : Int) = hi + 1 + n.tmod ((hi : Int) - lo + 1) := by
   unfold wi
   rw [← e1,if_pos h]
   omega
  rw [hw]
  clear hw e1
  go_enter Tryz.func22,Tryz.ntmps22
  go_wp2
  go_ret
  refine ⟨?_,rfl⟩
  show Ending.returned (.int .i64 _) = _
  congr 2
  omega
 ·have hw : ((lo + wi n (hi - lo) : Nat) : Int) = lo + n.tmod ((hi : Int) - lo + 1) := by
   unfold wi
   rw [← e1,if_neg h]
   omega
  rw [hw]
  clear hw e1
  go_enter Tryz.func22,Tryz.ntmps22
  go_wp2
  go_ret
  exact ⟨rfl,rfl⟩
end Go.Proofs.YtpkppobkagdhkaaGreat
namespace Go.Proofs.YtpkppobkagdhkaaGreat
open Go.RowKit
def Pk (K : Nat) (w : World) (T e : TypeId) (p : Nat) (v : Value) (n : Nat) (xs : List Value) : Prop :=
 w.heap[p]? = some (.cells #[v] T (0,0)) ∧ OwnK K w e v n xs ∧ p ∉ blk v
def Tk (K : Nat) (w w' : World) (T e : TypeId) (p : Nat) (v : Value) (n' : Nat) (xs' : List Value) : Prop :=
 ∃ v',Pk K w' T e p v' n' xs' ∧ Kp (p :: blk v) w w' ∧ ∀ k,k ∈ blk v' → k ∈ blk v ∨ w.heap.size ≤ k
theorem Pk.keep {K : Nat} {w w' : World} {S : List Nat} {T e : TypeId} {p : Nat} {v : Value} {n : Nat} {xs : List Value} (h : Pk K w T e p v n xs) (k : Kp S w w') (hp : p ∉ S) (hv : ∀ x,x ∈ blk v → x ∉ S) : Pk K w' T e p v n xs :=
 ⟨by rw [k.block p (Array.getElem?_eq_some_iff.1 h.1).1 hp]; exact h.1,h.2.1.keep k hv,h.2.2⟩
theorem Tk.mk {K : Nat} {w w2 : World} {T e : TypeId} {p : Nat} {v v' : Value} {n' : Nat} {xs' : List Value} (hpl : p < w.heap.size) (hp2 : w2.heap[p]? = some (.cells #[v] T (0,0))) (hpb : p ∉ blk v) (hown : OwnK K w2 e v' n' xs') (hk : Kp (p :: blk v) w w2)
  (hb : ∀ k,k ∈ blk v' → k ∈ blk v ∨ w.heap.size ≤ k) : Tk K w (w2.setCell ⟨p,0,none⟩ v') T e p v n' xs' := by
 have hpn : p ∉ blk v' := fun hx => by
  rcases hb p hx with h1 | h1
  ·exact hpb h1
  ·omega
 exact ⟨v',⟨by rw [setCell_block hp2]; rfl,hown.keep ((Kp.refl [p] w2).setCell (Or.inl (by simp)) v') (fun y hy => by simp; intro e; subst e; exact hpn hy),hpn⟩,hk.setCell (Or.inl (by simp)) v',hb⟩
theorem Pk.out {K : Nat} {w : World} {T e : TypeId} {p : Nat} {v : Value} {n : Nat} {xs : List Value} (h : Pk K w T e p v n xs) : ∃ ao c,v = .slice ao n c ∧ w.cell? ⟨p,0,none⟩ = some (.slice ao n c) ∧ w.frozen? ⟨p,0,none⟩ = false ∧ n ≤ c ∧ p < w.heap.size ∧
  (0 < n → ∃ g o,ao = some ⟨g,o,none⟩ ∧ g ≠ p ∧ ∀ j,j < n * K → w.cell? ⟨g,o + j,none⟩ = xs[j]? ∧ w.frozen? ⟨g,o + j,none⟩ = false) := by
 obtain ⟨hp,hown,hpb⟩ := h
 have hc : w.cell? ⟨p,0,none⟩ = some v := by rw [cell_of hp]; rfl
 rcases hown.2 with ⟨rfl,h0⟩ | ⟨g,o,cap,cur,rfl,hg,h1,h2,h3,h4⟩
 ·subst h0
  exact ⟨none,0,rfl,hc,frozen_of hp 0,Nat.le_refl _,(Array.getElem?_eq_some_iff.1 hp).1,fun hn => by omega⟩
 ·exact ⟨some ⟨g,o,none⟩,cap,rfl,hc,frozen_of hp 0,h1,(Array.getElem?_eq_some_iff.1 hp).1,fun hn => ⟨g,o,rfl,by simp [blk] at hpb; omega,fun j hj => ⟨by rw [cell_of hg,h4 j hj],frozen_of hg _⟩⟩⟩
theorem clear_one {P : Program} (w : World) (t e ty : TypeId) (z : Value) (zs : List Value) (ht : P.underlying t = some (.slice e)) (hv : ∀ w,(zeroValue e).run P w = .ok z w) (hz : z.cells = zs.toArray) (h1 : ∀ u,u ∈ zs → u.oneCell' = true) (b o c : Nat)
  (hc : ∀ j,j < zs.length → (w.cell? ⟨b,o + j,none⟩).isSome = true) (hf : ∀ j,j < zs.length → w.frozen? ⟨b,o + j,none⟩ = false) :
  (Builtin.clear_ #[t] ty #[.slice (some ⟨b,o,none⟩) 1 c]).run P w = .ok (.tuple #[]) (w.setCells b o zs) := by
 have hzc : (Builtin.zeroCells z.cells 1).toList = zs := by
  rw [hz]
  simp [Builtin.zeroCells]
  apply List.ext_getElem
  ·simp
  ·intro i h1 h2
   simp [Nat.mod_eq_of_lt h2,List.getElem?_eq_getElem h2]
 have hst := run_storeCells_cells (P := P) b o zs 0 w (by simpa using hc) (by simpa using hf) (by intro v hv'; exact h1 v hv')
 simp only [Nat.add_zero] at hst
 simp [Builtin.clear_,run_underlying ht,hv,hzc,hst]
theorem OwnK.pop {K : Nat} {w : World} {e : TypeId} {g o n cap : Nat} {xs ys zs : List Value} (h : OwnK K w e (.slice (some ⟨g,o,none⟩) (n + 1) cap) (n + 1) (xs ++ ys)) (hx : xs.length = n * K) (hz : zs.length = K) :
  OwnK K (w.setCells g (o + n * K) zs) e (.slice (some ⟨g,o,none⟩) n cap) n xs := by
 obtain ⟨h0,h⟩ := h
 rcases h with ⟨h1,_⟩ | ⟨g',o',cap',cur,hv,hg,h1,h2,h3,h4⟩
 ·cases h1
 ·simp only [Value.slice.injEq,Option.some.injEq,Addr.mk.injEq] at hv
  obtain ⟨⟨rfl,rfl,_⟩,_,rfl⟩ := hv
  obtain ⟨cur',hg',hs'⟩ := setCells_block g e zs (o + n * K) w cur hg
  have hm : (n + 1) * K ≤ cap * K := Nat.mul_le_mul_right K h1
  rw [Nat.add_mul,Nat.one_mul] at hm
  have hget := setCells_get g e zs (o + n * K) w cur cur' hg hg' (by omega)
  refine ⟨hx,Or.inr ⟨g,o,cap,cur',rfl,hg',by omega,h2,by omega,fun j hj => ?_⟩⟩
  rw [hget,if_neg (by omega),h4 j (by rw [Nat.add_mul]; omega),List.getElem?_append_left (by omega)]
theorem step_appR {P : Program} {ops : Array Oper} {o : Oper} {a : Act} {w w' : World} {K : Act → World → Prop} {Q : Exit → Act → World → Prop} {E : Prop}
  (hg : o.guard = none) (s x : Operand) (t : TypeId) (hop : o.op = Op.call { callee := Callee.builtin Builtin.append,args := #[s,x],argTypes := #[t,t] })
  (v u : Value) {v' : Value} (hs : a.eval s = v) (hx : a.eval x = u) (hrun : ∀ ty,(Builtin.append_ #[t,t] ty #[v,u]).run P w = .ok v' w') (hK : K (a.put o.dst v') w') :
  if Region.wanted o (yielded ops a.tmps) = true then Oper.wp P o a w K Q else E := by
 have hw : Region.wanted o (yielded ops a.tmps) = true := by simp [Region.wanted,hg]
 rw [if_pos hw]
 have hr := hrun o.type
 unfold Oper.wp
 simp [execOp,hop,resolve,invoke,builtin,hs,hx,hr,Result.andThen]
 exact hK
theorem step_delR {P : Program} {ops : Array Oper} {o : Oper} {a : Act} {w w' : World} {K : Act → World → Prop} {Q : Exit → Act → World → Prop} {E : Prop}
  (hg : o.guard = none) (s x : Operand) (t t' : TypeId) (hop : o.op = Op.call { callee := Callee.builtin Builtin.delete,args := #[s,x],argTypes := #[t,t'] })
  (v u : Value) (hs : a.eval s = v) (hx : a.eval x = u) (hrun : ∀ ty,(Builtin.delete_ #[t,t'] ty #[v,u]).run P w = .ok (.tuple #[]) w') (hK : K (a.put o.dst (.tuple #[])) w') :
  if Region.wanted o (yielded ops a.tmps) = true then Oper.wp P o a w K Q else E := by
 have hw : Region.wanted o (yielded ops a.tmps) = true := by simp [Region.wanted,hg]
 rw [if_pos hw]
 have hr := hrun o.type
 unfold Oper.wp
 simp [execOp,hop,resolve,invoke,builtin,hs,hx,hr,Result.andThen]
 exact hK
theorem wpList_clear_run {P : Program} (w : World) {ops : Array Oper} {rest : List Oper} {o : Oper} {a : Act} {Q : Exit → Act → World → Prop} (hg : o.guard = none) (s : Operand) (t : TypeId)
  (hop : o.op = Op.call { callee := Callee.builtin Builtin.clear,args := #[s],argTypes := #[t] }) (v : Value) (hs : a.eval s = v) {w' : World} (hrun : ∀ ty,(Builtin.clear_ #[t] ty #[v]).run P w = .ok (.tuple #[]) w')
  (hK : wpList P ops Q rest (a.put o.dst (.tuple #[])) w') : wpList P ops Q (o :: rest) a w := by
 refine wpList_plain hg fun K' hK' => ?_
 have hr := hrun o.type
 unfold Oper.wp
 simp [execOp,hop,resolve,invoke,builtin,hs,hr,Result.andThen]
 exact hK' _ _ hK
theorem app_none {P : Program} {t e : TypeId} {z : Value} {bytes k : Nat} (ht : P.underlying t = some (.slice e)) (hi : (P.info? e).map (fun i => (i.zero,i.size,i.bytes)) = some (some z,k,bytes)) (w : World) (g o n c : Nat) (x : Addr) (cc : Nat) (hn : n ≤ c) :
  ∀ ty,(Builtin.append_ #[t,t] ty #[.slice (some ⟨g,o,none⟩) n c,.slice (some x) 0 cc]).run P w = .ok (.slice (some ⟨g,o,none⟩) n c) w := fun ty => by
 obtain ⟨i,hi0,hi1,hi2,hi3⟩ := info_parts hi
 have := run_append_room_src (P := P) w t t ty e i ht hi0 g o n c (.slice (some x) 0 cc) 0 [] (Src.ofSlice w ht x 0 cc [] (by simp) (fun j u hj => by simp at hj) (fun u hu => by simp at hu)) (by omega) (fun j hj => by simp at hj) (fun j hj => by simp at hj)
 simpa [World.setCells] using this
theorem src_new {P : Program} {t e : TypeId} (ht : P.underlying t = some (.slice e)) {w : World} {q : Nat} {cur : Array Value} {e' : TypeId} (h : w.heap[q]? = some (.cells cur e' (0,0))) (us : List Value) (hc : cur = us.toArray) (hu : ∀ u,u ∈ us → u.oneCell' = true) : Src P us.length t (.slice (some ⟨q,0,none⟩) 1 1) 1 us w :=
 Src.ofSlice _ ht ⟨q,0,none⟩ 1 1 us (by simp) (fun j y hj => by
  rw [Addr.add_lit,cell_of h,hc,Nat.zero_add]
  simpa using hj) hu
section
variable {P : Program} {ops : Array Oper} {Q : Exit → Act → World → Prop} {md : Region.Mode} {S : World → Prop} {T : List Nat}
def Opn (T : List Nat) (listed : Array Bool) : Prop := ∀ j,j ∈ T → listed.getD j true = false
def wpAnyG (P : Program) (md : Region.Mode) (ops : Array Oper) (Q : Exit → Act → World → Prop) (S : World → Prop) (T : List Nat) : Nat → Array Bool → Act → World → Prop
 | 0,listed,a,w => Region.ready md ops listed = [] ∧ Q .normal a w
 | fuel + 1,listed,a,w =>
   (Region.ready md ops listed = [] → Q .normal a w) ∧
   ∀ i ∈ Region.ready md ops listed,wpOp P ops Q i (fun a' w' => (Opn T (listed.setIfInBounds i true) → S w') ∧ wpAnyG P md ops Q S T fuel (listed.setIfInBounds i true) a' w') a w
theorem wpAny_of_g : ∀ (fuel : Nat) (listed : Array Bool) (a : Act) (w : World),wpAnyG P md ops Q S T fuel listed a w → wpAny P md ops Q fuel listed a w
 | 0,_,_,_,h => h
 | fuel + 1,_,_,_,h => ⟨h.1,fun i hi => wpOp_mono (fun a' w' h' => wpAny_of_g fuel _ a' w' h'.2) (h.2 i hi)⟩
def lastOf (md : Region.Mode) (ops : Array Oper) (T : List Nat) (i : Nat) : Bool :=
 T.all fun j => match ops[j]? with
  | some oj => oj.after.any (fun e => Region.binds md e && e.on == i)
  | none => false
theorem not_after {i : Nat} {oj : Oper} {listed : Array Bool} (hr : i ∈ Region.ready md ops listed) (hall : ∀ e ∈ oj.after,Region.binds md e = true → listed.getD e.on false = true) : ∀ e ∈ oj.after,Region.binds md e = true → e.on ≠ i := fun e he hb heq => by
 have h1 := hall e he hb
 have h0 := (mem_ready.1 hr).1
 rw [heq] at h1
 rcases Nat.lt_or_ge i listed.size with h' | h'
 ·simp [h'] at h0 h1; rw [h0] at h1; cases h1
 ·simp [Array.getElem?_eq_none h'] at h1
theorem not_last {i j : Nat} {oj : Oper} (hT : lastOf md ops T i = true) (hoj : ops[j]? = some oj) (hnot : ∀ e ∈ oj.after,Region.binds md e = true → e.on ≠ i) : j ∉ T := fun hm => by
 have h2 := List.all_eq_true.1 hT j hm
 rw [hoj] at h2
 simp only [Array.any_eq_true',Bool.and_eq_true,beq_iff_eq] at h2
 obtain ⟨e,he,hb,heq⟩ := h2
 exact hnot e he hb heq
theorem Opn.set {listed : Array Bool} (h : Opn T listed) {i : Nat} (hi : i ∉ T) : Opn T (listed.setIfInBounds i true) := fun j hj => by
 have hne : i ≠ j := fun e => hi (by rw [e]; exact hj)
 rw [getD_set_ne true hne]; exact h j hj
theorem Opn.unset {listed : Array Bool} {i : Nat} (h : Opn T (listed.setIfInBounds i true)) (hi : i ∉ T) : Opn T listed := fun j hj => by
 have := h j hj
 have hne : i ≠ j := fun e => hi (by rw [e]; exact hj)
 rwa [getD_set_ne true hne] at this
theorem wpAnyG_first {i : Nat} {oi : Oper} {v : Value} (hi : ops[i]? = some oi) (hsel : ∀ (j : Nat) (o : Oper) cs b,ops[j]? = some o → o.op ≠ .select cs b)
  (hQ : ∀ c a w,Q (.panic c) (a.put oi.dst v) w → Q (.panic c) a w) (hT : lastOf md ops T i = true) (hiT : i ∉ T) :
  ∀ (fuel : Nat) (listed : Array Bool) (a : Act) (w : World),
    (∀ j oj,ops[j]? = some oj → j ≠ i → listed.getD j true = false → (∀ e ∈ oj.after,Region.binds md e = true → e.on ≠ i) → oi.apart ops oj = true) →
    i ∈ Region.ready md ops listed → Opn T listed → YieldsIf P ops S oi v a → S w →
    wpAnyG P md ops Q S T fuel (listed.setIfInBounds i true) (a.put oi.dst v) w → wpAnyG P md ops Q S T (fuel + 1) listed a w := by
 intro fuel
 induction fuel with
 | zero =>
   intro listed a w _ hr hop hy hS H
   refine ⟨fun h => (by rw [h] at hr; cases hr),fun j hj => ?_⟩
   by_cases hji : j = i
   ·subst hji; exact hy.wpOp hi hS ⟨fun _ => hS,H⟩
   ·have := ready_mono hj hji
    rw [H.1] at this
    cases this
 | succ fuel ih =>
   intro listed a w hfree hr hop hy hS H
   refine ⟨fun h => (by rw [h] at hr; cases hr),fun j hj => ?_⟩
   by_cases hji : j = i
   ·subst hji; exact hy.wpOp hi hS ⟨fun _ => hS,H⟩
   ·have h1 := H.2 j (ready_mono hj hji)
    obtain ⟨hjun,oj,hoj,hall⟩ := mem_ready.1 hj
    have hnot := not_after hr hall
    have hjT := not_last hT hoj hnot
    have h2 := wpOp_putIf hoj (hfree j oj hoj hji hjun hnot) (fun cs b => hsel i oi cs b hi) (fun cs b => hsel j oj cs b hoj) hQ hy h1
    have hfree' : ∀ k ok,ops[k]? = some ok → k ≠ i → (listed.setIfInBounds j true).getD k true = false →
      (∀ e ∈ ok.after,Region.binds md e = true → e.on ≠ i) → oi.apart ops ok = true := fun k ok hk hki hun hno => by
     refine hfree k ok hk hki ?_ hno
     by_cases hjk : j = k
     ·subst hjk; exact hjun
     ·rw [getD_set_ne true hjk] at hun; exact hun
    refine wpOp_mono (fun a' w' h3 => ?_) h2
    have hS' := h3.2.1 ((hop.set hiT).set hjT)
    refine ⟨fun _ => hS',ih (listed.setIfInBounds j true) a' w' hfree' (ready_mono hr (Ne.symm hji)) (hop.set hjT) h3.1 hS' ?_⟩
    rw [Array.setIfInBounds_comm _ _ hji]
    exact h3.2.2
theorem wpAnyG_firstP {i : Nat} {oi : Oper} {v : Value} (hi : ops[i]? = some oi) (hsel : ∀ (j : Nat) (o : Oper) cs b,ops[j]? = some o → o.op ≠ .select cs b)
  (hQ : ∀ c a w,Q (.panic c) (a.put oi.dst v) w → Q (.panic c) a w) (hiT : i ∉ T) :
  ∀ (fuel : Nat) (listed : Array Bool) (a : Act) (w : World),
    (∀ j oj,ops[j]? = some oj → j ≠ i → listed.getD j true = false → (∀ e ∈ oj.after,Region.binds md e = true → e.on ≠ i) → oi.apart ops oj = true) →
    i ∈ Region.ready md ops listed → Yields P ops oi v a → (Opn T listed → S w) →
    wpAnyG P md ops Q S T fuel (listed.setIfInBounds i true) (a.put oi.dst v) w → wpAnyG P md ops Q S T (fuel + 1) listed a w := by
 intro fuel
 induction fuel with
 | zero =>
   intro listed a w _ hr hy hS H
   refine ⟨fun h => (by rw [h] at hr; cases hr),fun j hj => ?_⟩
   by_cases hji : j = i
   ·subst hji; exact hy.wpOp hi ⟨fun ho => hS (ho.unset hiT),H⟩
   ·have := ready_mono hj hji
    rw [H.1] at this
    cases this
 | succ fuel ih =>
   intro listed a w hfree hr hy hS H
   refine ⟨fun h => (by rw [h] at hr; cases hr),fun j hj => ?_⟩
   by_cases hji : j = i
   ·subst hji; exact hy.wpOp hi ⟨fun ho => hS (ho.unset hiT),H⟩
   ·have h1 := H.2 j (ready_mono hj hji)
    obtain ⟨hjun,oj,hoj,hall⟩ := mem_ready.1 hj
    have hnot := not_after hr hall
    have h2 := wpOp_put hoj (hfree j oj hoj hji hjun hnot) (fun cs b => hsel i oi cs b hi) (fun cs b => hsel j oj cs b hoj) hQ hy h1
    have hfree' : ∀ k ok,ops[k]? = some ok → k ≠ i → (listed.setIfInBounds j true).getD k true = false →
      (∀ e ∈ ok.after,Region.binds md e = true → e.on ≠ i) → oi.apart ops ok = true := fun k ok hk hki hun hno => by
     refine hfree k ok hk hki ?_ hno
     by_cases hjk : j = k
     ·subst hjk; exact hjun
     ·rw [getD_set_ne true hjk] at hun; exact hun
    refine wpOp_mono (fun a' w' h3 => ?_) h2
    have hS' : Opn T (listed.setIfInBounds j true) → S w' := fun ho => h3.2.1 (by
     rw [Array.setIfInBounds_comm _ _ (Ne.symm hji)]
     exact ho.set hiT)
    refine ⟨hS',ih (listed.setIfInBounds j true) a' w' hfree' (ready_mono hr (Ne.symm hji)) h3.1 hS' ?_⟩
    rw [Array.setIfInBounds_comm _ _ hji]
    exact h3.2.2
theorem opn_of {listed : Array Bool} (h : T.all (fun j => !listed.getD j true) = true) : Opn T listed := fun j hj => by
 have := List.all_eq_true.1 h j hj
 cases h' : listed.getD j true with
 | false => rfl
 | true => rw [h'] at this; cases this
theorem wpAnyG_take {i : Nat} {oi : Oper} {v : Value} {fuel : Nat} {listed : Array Bool} {a : Act} {w : World} (hi : ops[i]? = some oi)
  (hs : Region.noSelect ops = true) (hf : Region.free md ops listed i = true) (hr : (Region.ready md ops listed).contains i = true) (hT : (lastOf md ops T i && !T.contains i && T.all (fun j => !listed.getD j true)) = true)
  (hQ : ∀ c a w,Q (.panic c) (a.put oi.dst v) w → Q (.panic c) a w) (hy : YieldsIf P ops S oi v a) (hS : S w)
  (h : wpAnyG P md ops Q S T fuel (listed.setIfInBounds i true) (a.put oi.dst v) w) : wpAnyG P md ops Q S T (fuel + 1) listed a w := by
 rw [Bool.and_eq_true,Bool.and_eq_true] at hT
 exact wpAnyG_first hi (Region.noSelect_spec hs) hQ hT.1.1 (by have := hT.1.2; simpa using this) fuel listed a w (Region.free_spec hi hf) (by simpa using hr) (opn_of hT.2) hy hS h
theorem wpAnyG_pure {i : Nat} {oi : Oper} {v : Value} {fuel : Nat} {listed : Array Bool} {a : Act} {w : World} (hi : ops[i]? = some oi)
  (hs : Region.noSelect ops = true) (hf : Region.free md ops listed i = true) (hr : (Region.ready md ops listed).contains i = true) (hT : (!T.contains i) = true)
  (hQ : ∀ c a w,Q (.panic c) (a.put oi.dst v) w → Q (.panic c) a w) (hy : Yields P ops oi v a) (hS : S w)
  (h : wpAnyG P md ops Q S T fuel (listed.setIfInBounds i true) (a.put oi.dst v) w) : wpAnyG P md ops Q S T (fuel + 1) listed a w :=
 wpAnyG_firstP hi (Region.noSelect_spec hs) hQ (by simpa using hT) fuel listed a w (Region.free_spec hi hf) (by simpa using hr) hy (fun _ => hS) h
theorem wpAnyG_free' : ∀ (fuel : Nat) (listed : Array Bool) (a : Act) (w : World),(∀ j,j ∈ T ∨ listed.getD j true = true) → wpAny P md ops Q fuel listed a w → wpAnyG P md ops Q S T fuel listed a w
 | 0,_,_,_,_,h => h
 | fuel + 1,listed,_,_,hl,h => by
   refine ⟨h.1,fun i hi => wpOp_mono (fun a' w' h' => ?_) (h.2 i hi)⟩
   have h0 := (mem_ready.1 hi).1
   have hi : i ∈ T := by
    rcases hl i with h1 | h1
    ·exact h1
    ·rw [h1] at h0; cases h0
   refine ⟨fun hn => ?_,wpAnyG_free' fuel _ a' w' (fun j => ?_) h'⟩
   ·have := hn i hi
    rcases Nat.lt_or_ge i listed.size with h' | h'
    ·simp [h'] at this
    ·simp [Array.getElem?_eq_none (show (listed.setIfInBounds i true).size ≤ i by simpa using h')] at this
   rcases hl j with h1 | h1
   ·exact Or.inl h1
   ·by_cases hij : i = j
    ·subst hij; exact Or.inl hi
    ·exact Or.inr (by rw [getD_set_ne true hij]; exact h1)
theorem wpAnyG_free {fuel : Nat} {listed : Array Bool} {a : Act} {w : World} (hl : (List.range listed.size).all (fun j => T.contains j || listed.getD j true) = true) (h : wpAny P md ops Q fuel listed a w) : wpAnyG P md ops Q S T fuel listed a w :=
 wpAnyG_free' fuel listed a w (fun j => by
  by_cases hj : j < listed.size
  ·have := List.all_eq_true.1 hl j (List.mem_range.2 hj)
   simp only [Bool.or_eq_true,List.contains_iff_mem] at this
   exact this
  ·exact Or.inr (by simp [Array.getD,hj])) h
def AllReadyG (P : Program) (md : Region.Mode) (ops : Array Oper) (Q : Exit → Act → World → Prop) (S : World → Prop) (T : List Nat) (fuel : Nat) (listed : Array Bool) (a : Act) (w : World) (rs : List Nat) : Prop :=
 ∀ i ∈ rs,wpOp P ops Q i (fun a' w' => (Opn T (listed.setIfInBounds i true) → S w') ∧ wpAnyG P md ops Q S T fuel (listed.setIfInBounds i true) a' w') a w
theorem AllReadyG.nil {fuel : Nat} {listed : Array Bool} {a : Act} {w : World} : AllReadyG P md ops Q S T fuel listed a w [] := fun _ h => by cases h
theorem AllReadyG.cons {fuel : Nat} {listed : Array Bool} {a : Act} {w : World} {i : Nat} {o : Oper} {rs : List Nat} (ho : ops[i]? = some o)
  (h : ∀ K' : Act → World → Prop,Shut (∀ a w,S w → (S w → wpAnyG P md ops Q S T fuel (listed.setIfInBounds i true) a w) → K' a w) → if Region.wanted o (yielded ops a.tmps) = true then Oper.wp P o a w K' Q else K' (a.put o.dst undef) w)
  (hs : AllReadyG P md ops Q S T fuel listed a w rs) : AllReadyG P md ops Q S T fuel listed a w (i :: rs) := fun j hj => by
 rcases List.mem_cons.1 hj with rfl | hj
 ·exact wpOp_step ho (fun K' hK => h K' (fun a w hS hW => hK a w ⟨fun _ => hS,hW hS⟩))
 ·exact hs j hj
theorem wpAnyG_ready {rs : List Nat} {fuel : Nat} {listed : Array Bool} {a : Act} {w : World} (hr : Region.ready md ops listed = rs) (hne : rs ≠ [])
  (h : AllReadyG P md ops Q S T fuel listed a w rs) : wpAnyG P md ops Q S T (fuel + 1) listed a w := ⟨fun h0 => absurd (hr ▸ h0) hne,hr ▸ h⟩
theorem wp_region_g {id : Nat} {a : Act} {w : World} (hm : P.follows .mixedOrders = true) (hS : S w.drew)
  (h : S w.drew → wpAnyG P .any ops Q S T ops.size (Array.replicate ops.size false) a w.drew) : (Code.region id ops true).wp P Q a w :=
 wp_region_any hm (wpAny_of_g _ _ _ _ (h hS))
end
section
variable {P : Program} {ops : Array Oper} {Q : Exit → Act → World → Prop} {md : Region.Mode} {S : World → Prop} {T : List Nat}
def Clo (md : Region.Mode) (ops : Array Oper) (listed : Array Bool) : Prop := ∀ (j : Nat) (oj : Oper),ops[j]? = some oj → listed.getD j false = true → ∀ e ∈ oj.after,Region.binds md e = true → listed.getD e.on false = true
def cloB (md : Region.Mode) (ops : Array Oper) (listed : Array Bool) : Bool :=
 (List.range ops.size).all fun j => match ops[j]? with
  | some oj => !listed.getD j false || oj.after.all (fun e => !Region.binds md e || listed.getD e.on false)
  | none => true
theorem clo_of {listed : Array Bool} (h : cloB md ops listed = true) : Clo md ops listed := fun j oj hj hl e he hb => by
 have hlt : j < ops.size := by
  rcases Nat.lt_or_ge j ops.size with h1 | h1
  ·exact h1
  ·rw [Array.getElem?_eq_none h1] at hj; cases hj
 have h1 := List.all_eq_true.1 h j (List.mem_range.2 hlt)
 rw [hj] at h1
 simp only [hl,Bool.not_true,Bool.false_or] at h1
 have h2 := Array.all_eq_true'.1 h1 e he
 rw [hb] at h2
 simpa using h2
def wait (md : Region.Mode) (ops : Array Oper) : Nat → Nat → Nat → Bool
 | 0,_,_ => false
 | f + 1,j,i => match ops[j]? with
   | some oj => oj.after.any (fun e => Region.binds md e && (e.on == i || wait md ops f e.on i))
   | none => false
theorem wait_listed {listed : Array Bool} (hc : Clo md ops listed) : ∀ (f j i : Nat) (oj : Oper),ops[j]? = some oj → (∀ e ∈ oj.after,Region.binds md e = true → listed.getD e.on false = true) → wait md ops f j i = true → listed.getD i false = true
 | 0,j,i,oj,_,_,h => by cases h
 | f + 1,j,i,oj,hj,ha,h => by
   unfold wait at h
   rw [hj] at h
   simp only [Array.any_eq_true',Bool.and_eq_true,Bool.or_eq_true,beq_iff_eq] at h
   obtain ⟨e,he,hb,h2⟩ := h
   rcases h2 with h2 | h2
   ·rw [← h2]; exact ha e he hb
   ·cases hk : ops[e.on]? with
    | none =>
      cases f with
      | zero => cases h2
      | succ f => unfold wait at h2; rw [hk] at h2; cases h2
    | some ok => exact wait_listed hc f e.on i ok hk (fun e' he' hb' => hc e.on ok hk (ha e he hb) e' he' hb') h2
theorem clo_set {listed : Array Bool} (hc : Clo md ops listed) {i : Nat} {oi : Oper} (hi : ops[i]? = some oi) (ha : ∀ e ∈ oi.after,Region.binds md e = true → listed.getD e.on false = true) : Clo md ops (listed.setIfInBounds i true) := fun j oj hj hl e he hb => by
 have up : ∀ k,listed.getD k false = true → (listed.setIfInBounds i true).getD k false = true := fun k hk => by
  by_cases h1 : i = k
  ·subst h1
   rcases Nat.lt_or_ge i listed.size with h' | h'
   ·simp [h']
   ·simp [Array.getElem?_eq_none h'] at hk
  ·rw [getD_set_ne false h1]; exact hk
 refine up _ ?_
 by_cases h1 : i = j
 ·subst h1
  rw [hi] at hj
  obtain rfl := Option.some.inj hj
  exact ha e he hb
 ·rw [getD_set_ne false h1] at hl
  exact hc j oj hj hl e he hb
theorem wpAnyG_firstC {i : Nat} {oi : Oper} {v : Value} (hi : ops[i]? = some oi) (hsel : ∀ (j : Nat) (o : Oper) cs b,ops[j]? = some o → o.op ≠ .select cs b)
  (hQ : ∀ c a w,Q (.panic c) (a.put oi.dst v) w → Q (.panic c) a w) (hT : ∀ j,j ∈ T → wait md ops ops.size j i = true) (hiT : i ∉ T) :
  ∀ (fuel : Nat) (listed : Array Bool) (a : Act) (w : World),Clo md ops listed →
    (∀ j oj,ops[j]? = some oj → j ≠ i → listed.getD j true = false → (∀ e ∈ oj.after,Region.binds md e = true → e.on ≠ i) → oi.apart ops oj = true) →
    i ∈ Region.ready md ops listed → Opn T listed → YieldsIf P ops S oi v a → S w →
    wpAnyG P md ops Q S T fuel (listed.setIfInBounds i true) (a.put oi.dst v) w → wpAnyG P md ops Q S T (fuel + 1) listed a w := by
 intro fuel
 induction fuel with
 | zero =>
   intro listed a w _ _ hr hop hy hS H
   refine ⟨fun h => (by rw [h] at hr; cases hr),fun j hj => ?_⟩
   by_cases hji : j = i
   ·subst hji; exact hy.wpOp hi hS ⟨fun _ => hS,H⟩
   ·have := ready_mono hj hji
    rw [H.1] at this
    cases this
 | succ fuel ih =>
   intro listed a w hc hfree hr hop hy hS H
   refine ⟨fun h => (by rw [h] at hr; cases hr),fun j hj => ?_⟩
   by_cases hji : j = i
   ·subst hji; exact hy.wpOp hi hS ⟨fun _ => hS,H⟩
   ·have h1 := H.2 j (ready_mono hj hji)
    obtain ⟨hjun,oj,hoj,hall⟩ := mem_ready.1 hj
    have hnot := not_after hr hall
    have hjT : j ∉ T := fun hm => by
     have h0 := (mem_ready.1 hr).1
     have h2 := wait_listed hc ops.size j i oj hoj hall (hT j hm)
     rcases Nat.lt_or_ge i listed.size with h' | h'
     ·simp [h'] at h0 h2; rw [h0] at h2; cases h2
     ·simp [Array.getElem?_eq_none h'] at h2
    have h2 := wpOp_putIf hoj (hfree j oj hoj hji hjun hnot) (fun cs b => hsel i oi cs b hi) (fun cs b => hsel j oj cs b hoj) hQ hy h1
    have hfree' : ∀ k ok,ops[k]? = some ok → k ≠ i → (listed.setIfInBounds j true).getD k true = false →
      (∀ e ∈ ok.after,Region.binds md e = true → e.on ≠ i) → oi.apart ops ok = true := fun k ok hk hki hun hno => by
     refine hfree k ok hk hki ?_ hno
     by_cases hjk : j = k
     ·subst hjk; exact hjun
     ·rw [getD_set_ne true hjk] at hun; exact hun
    refine wpOp_mono (fun a' w' h3 => ?_) h2
    have hS' := h3.2.1 ((hop.set hiT).set hjT)
    refine ⟨fun _ => hS',ih (listed.setIfInBounds j true) a' w' (clo_set hc hoj hall) hfree' (ready_mono hr (Ne.symm hji)) (hop.set hjT) h3.1 hS' ?_⟩
    rw [Array.setIfInBounds_comm _ _ hji]
    exact h3.2.2
theorem wpAnyG_takeC {i : Nat} {oi : Oper} {v : Value} {fuel : Nat} {listed : Array Bool} {a : Act} {w : World} (hi : ops[i]? = some oi)
  (hs : Region.noSelect ops = true) (hf : Region.free md ops listed i = true) (hr : (Region.ready md ops listed).contains i = true) (hT : (T.all (fun j => wait md ops ops.size j i) && !T.contains i && T.all (fun j => !listed.getD j true) && cloB md ops listed) = true)
  (hQ : ∀ c a w,Q (.panic c) (a.put oi.dst v) w → Q (.panic c) a w) (hy : YieldsIf P ops S oi v a) (hS : S w)
  (h : wpAnyG P md ops Q S T fuel (listed.setIfInBounds i true) (a.put oi.dst v) w) : wpAnyG P md ops Q S T (fuel + 1) listed a w := by
 simp only [Bool.and_eq_true] at hT
 exact wpAnyG_firstC hi (Region.noSelect_spec hs) hQ (fun j hj => List.all_eq_true.1 hT.1.1.1 j hj) (by have := hT.1.1.2; simpa using this) fuel listed a w (clo_of hT.2) (Region.free_spec hi hf) (by simpa using hr) (opn_of hT.1.2) hy hS h
end
theorem pu1 {α : Type} (l : List α) (i : Nat) (a : α) : l.toArray.setIfInBounds i a = (l.set i a).toArray := List.setIfInBounds_toArray ..
theorem pu2 {α : Type} (x : α) (xs : List α) (a : α) : (x :: xs).set 0 a = a :: xs := List.set_cons_zero
theorem pu3 {α : Type} (x : α) (xs : List α) (i : Nat) (a : α) : (x :: xs).set (i + 1) a = x :: xs.set i a := List.set_cons_succ
section
variable {P : Program} {ops : Array Oper} {Q : Exit → Act → World → Prop} {md : Region.Mode} {S : World → Prop} {T : List Nat} {v : Value} {fuel : Nat} {listed : Array Bool} {a a' : Act} {w : World} {ty : TypeId} {po : String} {af : Array Edge} {gd : Option (Nat × Bool)}
theorem g_pure (i : Nat) (ds : Option Nat) (op : Op) (h : wpAnyG P md ops Q S T fuel (listed.setIfInBounds i true) a' w) (hi : ops[i]? = some ⟨ds,op,ty,po,af,gd⟩ := by exact rfl) (hw : Region.wanted ⟨ds,op,ty,po,af,gd⟩ (yielded ops a.tmps) = true := by exact rfl) (hy : ∀ w,(execOp a.eval ⟨ds,op,ty,po,af,gd⟩).run P w = .ok (.value v) w := by intro w; go_simp; try with_reducible rfl) (hp : a.put ds v = a' := by simp only [Act.put,pu1,pu2,pu3]; exact rfl) (hS : S w := by assumption)
  (hb : (Region.noSelect ops && Region.free md ops listed i && (Region.ready md ops listed).contains i && !T.contains i) = true := by kernel_rfl) (hQ : ∀ c a w,Q (.panic c) (a.put ds v) w → Q (.panic c) a w := by exact fun _ _ _ h => h) : wpAnyG P md ops Q S T (fuel + 1) listed a w := by
 simp only [Bool.and_eq_true] at hb
 subst hp
 exact wpAnyG_pure hi hb.1.1.1 hb.1.1.2 hb.1.2 hb.2 hQ (Or.inl ⟨hw,hy⟩) hS h
theorem g_skip (i : Nat) (ds : Option Nat) (op : Op) (h : wpAnyG P md ops Q S T fuel (listed.setIfInBounds i true) a' w) (hi : ops[i]? = some ⟨ds,op,ty,po,af,gd⟩ := by exact rfl) (hw : Region.wanted ⟨ds,op,ty,po,af,gd⟩ (yielded ops a.tmps) = false := by exact rfl) (hp : a.put ds undef = a' := by simp only [Act.put,pu1,pu2,pu3]; exact rfl) (hS : S w := by assumption)
  (hb : (Region.noSelect ops && Region.free md ops listed i && (Region.ready md ops listed).contains i && !T.contains i) = true := by kernel_rfl) (hQ : ∀ c a w,Q (.panic c) (a.put ds undef) w → Q (.panic c) a w := by exact fun _ _ _ h => h) : wpAnyG P md ops Q S T (fuel + 1) listed a w := by
 simp only [Bool.and_eq_true] at hb
 subst hp
 exact wpAnyG_pure hi hb.1.1.1 hb.1.1.2 hb.1.2 hb.2 hQ (Or.inr ⟨hw,rfl⟩) hS h
theorem g_take (i : Nat) (ds : Option Nat) (op : Op) (hy : ∀ w,S w → (execOp a.eval ⟨ds,op,ty,po,af,gd⟩).run P w = .ok (.value v) w) (h : wpAnyG P md ops Q S T fuel (listed.setIfInBounds i true) a' w) (hi : ops[i]? = some ⟨ds,op,ty,po,af,gd⟩ := by exact rfl) (hw : Region.wanted ⟨ds,op,ty,po,af,gd⟩ (yielded ops a.tmps) = true := by exact rfl) (hp : a.put ds v = a' := by simp only [Act.put,pu1,pu2,pu3]; exact rfl) (hS : S w := by assumption)
  (hb : (Region.noSelect ops && Region.free md ops listed i && (Region.ready md ops listed).contains i && (lastOf md ops T i && !T.contains i && T.all (fun j => !listed.getD j true))) = true := by kernel_rfl) (hQ : ∀ c a w,Q (.panic c) (a.put ds v) w → Q (.panic c) a w := by exact fun _ _ _ h => h) : wpAnyG P md ops Q S T (fuel + 1) listed a w := by
 rw [Bool.and_eq_true,Bool.and_eq_true,Bool.and_eq_true] at hb
 subst hp
 exact wpAnyG_take hi hb.1.1.1 hb.1.1.2 hb.1.2 hb.2 hQ (Or.inl ⟨hw,hy⟩) hS h
theorem g_takeC (i : Nat) (ds : Option Nat) (op : Op) (hy : ∀ w,S w → (execOp a.eval ⟨ds,op,ty,po,af,gd⟩).run P w = .ok (.value v) w) (h : wpAnyG P md ops Q S T fuel (listed.setIfInBounds i true) a' w) (hi : ops[i]? = some ⟨ds,op,ty,po,af,gd⟩ := by exact rfl) (hw : Region.wanted ⟨ds,op,ty,po,af,gd⟩ (yielded ops a.tmps) = true := by exact rfl) (hp : a.put ds v = a' := by simp only [Act.put,pu1,pu2,pu3]; exact rfl) (hS : S w := by assumption)
  (hb : (Region.noSelect ops && Region.free md ops listed i && (Region.ready md ops listed).contains i && (T.all (fun j => wait md ops ops.size j i) && !T.contains i && T.all (fun j => !listed.getD j true) && cloB md ops listed)) = true := by kernel_rfl) (hQ : ∀ c a w,Q (.panic c) (a.put ds v) w → Q (.panic c) a w := by exact fun _ _ _ h => h) : wpAnyG P md ops Q S T (fuel + 1) listed a w := by
 rw [Bool.and_eq_true,Bool.and_eq_true,Bool.and_eq_true] at hb
 subst hp
 exact wpAnyG_takeC hi hb.1.1.1 hb.1.1.2 hb.1.2 hb.2 hQ (Or.inl ⟨hw,hy⟩) hS h
theorem g_any (i : Nat) (ds : Option Nat) (op : Op) (h : wpAny P md ops Q fuel (listed.setIfInBounds i true) a' w) (hi : ops[i]? = some ⟨ds,op,ty,po,af,gd⟩ := by exact rfl) (hw : Region.wanted ⟨ds,op,ty,po,af,gd⟩ (yielded ops a.tmps) = true := by exact rfl) (hy : ∀ w,(execOp a.eval ⟨ds,op,ty,po,af,gd⟩).run P w = .ok (.value v) w := by intro w; go_simp; try with_reducible rfl) (hp : a.put ds v = a' := by simp only [Act.put,pu1,pu2,pu3]; exact rfl)
  (hb : (Region.noSelect ops && Region.free md ops listed i && (Region.ready md ops listed).contains i) = true := by kernel_rfl) (hQ : ∀ c a w,Q (.panic c) (a.put ds v) w → Q (.panic c) a w := by exact fun _ _ _ h => h) : wpAny P md ops Q (fuel + 1) listed a w := by
 rw [Bool.and_eq_true,Bool.and_eq_true] at hb
 subst hp
 exact wpAny_take hi hb.1.1 hb.1.2 hb.2 hQ (Or.inl ⟨hw,hy⟩) h
end
end Go.Proofs.YtpkppobkagdhkaaGreat
namespace Go.Proofs.YtpkppobkagdhkaaGreat
open Go.RowKit Utf
def offAt (ao : Option Addr) (k c : Nat) : Option Addr := if c = k then ao else ao.map (·.add (k * 1))
theorem Rb.drop {w : World} {ao : Option Addr} {n c : Nat} {xs : List Value} (h : Rb w ao n c xs) (k : Nat) (hk : k ≤ n) : Rb w (offAt ao k c) (n - k) (c - k) (xs.drop k) := by
 have hl := h.len
 have hc := h.cap
 refine ⟨by simp; omega,by omega,fun j hj => ?_⟩
 obtain ⟨b,off,h1,h2⟩ := h.at' (k + j) (by omega)
 refine ⟨b,off + k,?_,?_⟩
 ·subst h1
  unfold offAt
  rw [if_neg (by omega)]
  simp [Addr.add_lit]
 ·rw [Nat.add_assoc,h2]
  simp
theorem Rb.take {w : World} {ao : Option Addr} {n c : Nat} {xs : List Value} (h : Rb w ao n c xs) (k : Nat) (hk : k ≤ n) : Rb w ao k c (xs.take k) := by
 have hl := h.len
 have hc := h.cap
 refine ⟨by simp; omega,by omega,fun j hj => ?_⟩
 obtain ⟨b,off,h1,h2⟩ := h.at' j (by omega)
 exact ⟨b,off,h1,by rw [h2,List.getElem?_take_of_lt hj]⟩
theorem b8_take (l : List Int) (k : Nat) : (b8 l).take k = b8 (l.take k) := by simp [b8]
theorem b8_drop (l : List Int) (k : Nat) : (b8 l).drop k = b8 (l.drop k) := by simp [b8]
theorem Rb.b8_at {w : World} {ao : Option Addr} {n c : Nat} {l : List Int} (h : Rb w ao n c (b8 l)) (k : Nat) (hk : k < l.length) : ∃ b off,ao = some ⟨b,off,none⟩ ∧ w.cell? ⟨b,off + k,none⟩ = some (Value.int .u8 l[k]) := by
 have hl := h.len
 rw [b8_len] at hl
 obtain ⟨b,off,h1,h2⟩ := h.at' k (by omega)
 exact ⟨b,off,h1,by rw [h2]; simp [b8,hk]⟩
theorem byt_drop {l : List Int} (h : byt l) (k : Nat) : byt (l.drop k) := fun x hx => h x (List.mem_of_mem_drop hx)
theorem byt_take {l : List Int} (h : byt l) (k : Nat) : byt (l.take k) := fun x hx => h x (List.mem_of_mem_take hx)
theorem byt_at {l : List Int} (h : byt l) (k : Nat) (hk : k < l.length) : 0 ≤ l[k] ∧ l[k] < 256 := h _ (List.getElem_mem hk)
end Go.Proofs.YtpkppobkagdhkaaGreat
