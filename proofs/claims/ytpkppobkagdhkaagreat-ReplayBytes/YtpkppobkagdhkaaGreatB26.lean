/-
 Pla Plb Plc.
-/
import Derived.Test.YtpkppobkagdhkaaGreatB25
import Derived.Deep.Cut
set_option linter.unusedVariables false
set_option linter.unusedSimpArgs false
set_option maxRecDepth 100000
set_option maxHeartbeats 1000000
namespace Go.Proofs.YtpkppobkagdhkaaGreat
open Go.RowKit Go.Maps Utf
theorem lawI : Keyed Tryz.prog 3 := int_keyed Tryz.underlying3
def wf64 (x : Int) : Prop := (Lit.int .i64 x).wf = true
theorem wf_of {x : Int} (h1 : -9223372036854775808 ≤ x) (h2 : x ≤ 9223372036854775807) : wf64 x := by
 unfold wf64
 simp only [Lit.wf,Bool.and_eq_true,decide_eq_true_eq]
 exact ⟨h1,h2⟩
theorem il_key (x : Int) : WideAt.IsKeyLit (.int .i64 x) := trivial
def Nb (w : World) (b : Nat) (M : List (Int × Nat)) : Prop :=
 ∃ D : DataW Unit,w.ownsMap Tryz.prog 3 (plainElem Tryz.prog 3) b M.length D ∧
   ∀ x,Maps.has D (.int .i64 x) = (num M x).isSome ∧ D.atKey (.int .i64 x) (.lit (.int .i64 0)) = .lit (.int .i64 (((num M x).getD 0 : Nat) : Int))
theorem Nb.lt {w : World} {b : Nat} {M : List (Int × Nat)} (h : Nb w b M) : b < w.heap.size := by
 obtain ⟨D,h,_⟩ := h
 exact h.lt
theorem Nb.same {w w' : World} {b : Nat} {M : List (Int × Nat)} (h : Nb w b M) (hb : w'.heap[b]? = w.heap[b]?) : Nb w' b M := by
 obtain ⟨D,⟨es,clock,h1,r⟩,r2⟩ := h
 exact ⟨D,⟨es,clock,by rw [hb]; exact h1,r⟩,r2⟩
theorem nb_new (w : World) : Nb (w.alloc (.map #[] 0)) w.heap.size [] := ⟨.map [],World.ownsMap_made w Tryz.prog 3 _,fun x => ⟨rfl,rfl⟩⟩
theorem Nb.look {w : World} {b : Nat} {M : List (Int × Nat)} (h : Nb w b M) {x : Int} (hx : wf64 x) : (Instr.lookup 74 (.map (some b)) (.int .i64 x) true).run Tryz.prog w = .ok (.tuple #[.int .i64 (((num M x).getD 0 : Nat) : Int),.bool (num M x).isSome]) w := by
 obtain ⟨D,h1,h2⟩ := h
 obtain ⟨v,ps,hrun,hv⟩ := h1.look_ok lawI Tryz.underlying74 (zero3 w) (plainElem_int Tryz.underlying3 (by decide)) (keyOf_int_mk Tryz.underlying3 hx)
 obtain ⟨a,rfl,e,_⟩ := plainElem_int_inv Tryz.underlying3 hv
 rw [(h2 x).2] at e
 simp only [Prod.mk.injEq,DataW.lit.injEq,Lit.int.injEq,true_and] at e
 rw [(h2 x).1] at hrun
 rw [hrun,e.1]
theorem Nb.put {w : World} {b : Nat} {M : List (Int × Nat)} (h : Nb w b M) {x : Int} (hx : wf64 x) {n : Nat} (hn : n < 1000000) (hM : M.length < 1000000) (hno : num M x = none) : ∃ w',(Instr.mapUpdate 74 (.map (some b)) (.int .i64 x) (.int .i64 (n : Int))).run Tryz.prog w = .ok () w' ∧ Nb w' b (M ++ [(x,n)]) ∧ Kp [b] w w' := by
 obtain ⟨D,h1,h2⟩ := h
 obtain ⟨w',hrun,r1,r2⟩ := h1.update lawI Tryz.underlying74 (by unfold maxLen; omega) (keyOf_int_mk Tryz.underlying3 hx) (plainElem_int (H := Unit) Tryz.underlying3 (wf_of (x := (n : Int)) (by omega) (by omega)))
 refine ⟨w',hrun,⟨_,by rw [List.length_append]; exact r1,fun y => ?_⟩,kp_grown r2⟩
 rw [num_snoc]
 by_cases hy : x = y
 ·subst hy
  rw [hno,if_pos rfl]
  exact ⟨Maps.has_put_same (h1.tidy lawI).isMap (il_key x) _,by rw [Maps.atKey_put_same (h1.tidy lawI).isMap (il_key x)]; rfl⟩
 ·have hne : (Lit.int .i64 y) ≠ (Lit.int .i64 x) := fun e => hy (by simp only [Lit.int.injEq,true_and] at e; exact e.symm)
  rw [Maps.has_put_other hne,Maps.atKey_put_other hne,(h2 y).1,(h2 y).2]
  cases num M y with
  | some z => exact ⟨rfl,rfl⟩
  | none => rw [if_neg hy]; exact ⟨rfl,rfl⟩
structure Pp (tag : Nat → Nat) (w : World) (b a m : Nat) (s : Py) (k : Nat) : Prop where
 hd : At w b #[.pointer (some ⟨a,0,none⟩),.map (some m)] 76
 tb : tag b = 6
 ps : Ps tag w a s.q s.A k
 nb : Nb w m s.M
 tm : tag m = 6
 fit : s.Fit k
structure Pv (tag : Nat → Nat) (w : World) (tag' : Nat → Nat) (w' : World) : Prop where
 os : w'.os = w.os
 tape : w'.tape = w.tape
 output : w'.output = w.output
 size : w.heap.size ≤ w'.heap.size
 block : ∀ k,k < w.heap.size → ¬ isP (tag k) → tag k ≠ 6 → w'.heap[k]? = w.heap[k]?
 tg : ∀ k,k < w.heap.size → tag' k = tag k
section
variable {tag tag' tag'' : Nat → Nat} {w w' w'' : World} {b a m k : Nat} {s : Py}
theorem Ps.sm {q : Bool} {A : Ar} (h : Ps tag w b q A k) (hs : w.heap.size ≤ w'.heap.size) (ho : w'.os = w.os) (ht : w'.tape = w.tape) (hu : w'.output = w.output) (hb : ∀ x,x < w.heap.size → isP (tag x) → w'.heap[x]? = w.heap[x]?) (hg : ∀ x,x < w.heap.size → tag' x = tag x) : Ps tag' w' b q A k := by
 classical
 obtain ⟨g,o,c,pl,r⟩ := h.pa
 have kp : Kp ((List.range w.heap.size).filter fun x => decide (¬ isP (tag x))) w w' := ⟨ho,ht,hu,hs,fun x hx hn => hb x hx (by
  simp only [List.mem_filter,List.mem_range,decide_eq_true_eq,not_and,Classical.not_not] at hn
  exact hn hx)⟩
 exact ⟨⟨g,o,c,pl,r.keep kp (fun x hx _ => by simp only [List.mem_filter,decide_eq_true_eq] at hx; exact hx.2) hg⟩,h.ful,h.sz,h.hk⟩
theorem Ps.re {q : Bool} {A : Ar} (h : Ps tag w b q A k) (kp : Kp [] w w') (hg : ∀ x,x < w.heap.size → tag' x = tag x) : Ps tag' w' b q A k := h.sm kp.size kp.os kp.tape kp.output (fun x hx _ => kp.block x hx (by simp)) hg
theorem Mv.kp (h : Mv tag w tag' w') (h0 : ∀ x,x < w.heap.size → tag x = 0) : Kp [] w w' := ⟨h.os,h.tape,h.output,h.size,fun x hx _ => h.block x hx (by rw [h0 x hx]; unfold isP; omega)⟩
theorem Pv.refl (tag : Nat → Nat) (w : World) : Pv tag w tag w := ⟨rfl,rfl,rfl,Nat.le_refl _,fun _ _ _ _ => rfl,fun _ _ => rfl⟩
theorem Pv.trans (h : Pv tag w tag' w') (g : Pv tag' w' tag'' w'') : Pv tag w tag'' w'' :=
 ⟨g.os.trans h.os,g.tape.trans h.tape,g.output.trans h.output,Nat.le_trans h.size g.size,fun x hx hn h6 => (g.block x (Nat.lt_of_lt_of_le hx h.size) (by rw [h.tg x hx]; exact hn) (by rw [h.tg x hx]; exact h6)).trans (h.block x hx hn h6),fun x hx => (g.tg x (Nat.lt_of_lt_of_le hx h.size)).trans (h.tg x hx)⟩
theorem Mv.pv (h : Mv tag w tag' w') : Pv tag w tag' w' := ⟨h.os,h.tape,h.output,h.size,fun x hx hn _ => h.block x hx hn,h.tg⟩
theorem Pv.of_kp {S : List Nat} (k : Kp S w w') (hS : ∀ x,x ∈ S → x < w.heap.size → tag x = 6) (ht : ∀ x,x < w.heap.size → tag' x = tag x) : Pv tag w tag' w' := ⟨k.os,k.tape,k.output,k.size,fun x hx _ h6 => k.block x hx (fun hs => h6 (hS x hs hx)),ht⟩
theorem Pv.of_kp0 (k : Kp [] w w') : Pv tag w tag w' := Pv.of_kp k (fun x hx => by simp at hx) (fun _ _ => rfl)
theorem Pv.kp (h : Pv tag w tag' w') (h0 : ∀ x,x < w.heap.size → tag x = 0) : Kp [] w w' := ⟨h.os,h.tape,h.output,h.size,fun x hx _ => h.block x hx (by rw [h0 x hx]; unfold isP; omega) (by rw [h0 x hx]; omega)⟩
theorem Pp.re (h : Pp tag w b a m s k) (kp : Kp [] w w') (hg : ∀ x,x < w.heap.size → tag' x = tag x) : Pp tag' w' b a m s k :=
 ⟨h.hd.kept kp (by simp),by rw [hg b h.hd.lt]; exact h.tb,h.ps.re kp hg,h.nb.same (kp.block m h.nb.lt (by simp)),by rw [hg m h.nb.lt]; exact h.tm,h.fit⟩
theorem Pp.kept (h : Pp tag w b a m s k) (kp : Kp [] w w') : Pp tag w' b a m s k := h.re kp (fun _ _ => rfl)
theorem Pp.mv (h : Pp tag w b a m s k) (mv : Mv tag w tag' w') {q : Bool} {A : Ar} {j : Nat} (p : Ps tag' w' a q A j) (f : (Py.mk A q s.M).Fit j) : Pp tag' w' b a m ⟨A,q,s.M⟩ j := by
 have n6 : ∀ x,tag x = 6 → ¬ isP (tag x) := fun x e => by rw [e]; unfold isP; omega
 refine ⟨?_,by rw [mv.tg b h.hd.lt]; exact h.tb,p,h.nb.same (mv.block m h.nb.lt (n6 m h.tm)),by rw [mv.tg m h.nb.lt]; exact h.tm,f⟩
 unfold At
 rw [mv.block b h.hd.lt (n6 b h.tb)]
 exact h.hd
theorem Pp.ne (h : Pp tag w b a m s k) : b ≠ m := fun e => by
 obtain ⟨D,⟨es,clock,h1,_⟩,_⟩ := h.nb
 have h2 := h.hd
 unfold At at h2
 rw [e,h1] at h2
 cases h2
theorem Pp.snoc (h : Pp tag w b a m s k) (kp : Kp [m] w w') {x : Int} {n : Nat} (hn : Nb w' m (s.M ++ [(x,n)])) {j : Nat} (hj : k ≤ j) (hj2 : j ≤ 3000) (f : (Py.mk s.A s.q (s.M ++ [(x,n)])).Fit j) : Pp tag w' b a m ⟨s.A,s.q,s.M ++ [(x,n)]⟩ j := by
 refine ⟨h.hd.kept kp (by simpa using h.ne),h.tb,?_,hn,h.tm,f⟩
 have := h.ps.sm (tag' := tag) kp.size kp.os kp.tape kp.output (fun y hy hp => kp.block y hy (fun hm => by rw [List.mem_singleton.1 hm,h.tm] at hp; unfold isP at hp; omega)) (fun _ _ => rfl)
 exact ⟨this.pa,this.ful,this.sz.succ hj,hj2⟩
theorem Ps.up' {q : Bool} {A : Ar} (h : Ps tag w a q A k) {j : Nat} (hj : k ≤ j) (hj2 : j ≤ 3000) : Ps tag w a q A j := ⟨h.pa,h.ful,h.sz.succ hj,hj2⟩
theorem Pp.up (h : Pp tag w b a m s k) (hk : k < 1300) : Pp tag w b a m s (k + 1) := ⟨h.hd,h.tb,h.ps.up' (Nat.le_succ _) (by omega),h.nb,h.tm,h.fit.succ hk⟩
end
section
variable {tag : Nat → Nat} {w : World} {b a m k : Nat} {s : Py}
theorem Pp.head (h : Pp tag w b a m s k) : w.cell? ⟨b,0,none⟩ = some (.pointer (some ⟨a,0,none⟩)) ∧ w.cell? ⟨b,1,none⟩ = some (.map (some m)) := ⟨h.hd.cell 0,h.hd.cell 1⟩
theorem Py.Fit.up_par {s : Py} {k : Nat} (h : s.Fit k) {r : Nat} (hr : r < s.A.n) : ∃ z,s.A.parF (r : Int) = (z,(s.A.up r).isSome) := by
 have hth : s.A.there (r : Int) = true := by unfold Ar.there; exact decide_eq_true (by omega)
 unfold Ar.parF
 rw [if_pos hth,Int.toNat_natCast]
 cases s.A.up r with
 | none => exact ⟨0,rfl⟩
 | some p => exact ⟨p,rfl⟩
theorem foster_any (h : Pp tag w b a m s k) (r p n : Nat) (hr : r < s.A.n) (hf : (s.fosF r p n).1.Fit (k + 1)) :
  Calls Tryz.prog 70 #[.pointer (some ⟨b,0,none⟩),.int .i64 (r : Int),.int .i64 (p : Int),.int .i64 (n : Int)] w fun e w' => e = .returned (.int .i64 (s.fosF r p n).2) ∧ ∃ tag',Pp tag' w' b a m (s.fosF r p n).1 (k + 1) ∧ Pv tag w tag' w' := by
 obtain ⟨c0,_⟩ := h.head
 have hk := hf.hk
 obtain ⟨z,hz⟩ := h.fit.up_par hr
 have HP := h.ps.par (r : Int)
 rw [hz] at HP
 have HB := h.ps.bef (r : Int) (n : Int)
 have HA := h.ps.app (p : Int) (n : Int)
 unfold Py.fosF at hf ⊢
 cases hu : (s.A.up r).isSome with
 | true =>
   rw [hu] at HP
   rw [hu,if_pos rfl] at hf
   rw [if_pos rfl]
   have H9 : Hid (∀ W,Ps tag W a s.q (s.A.befF r n).1 k → Mv tag w tag W → ∃ tag',Pp tag' W b a m (s.upd (s.A.befF r n)).1 (k + 1) ∧ Pv tag w tag' W) := fun W p1 m1 => ⟨tag,h.mv m1 (p1.up' (Nat.le_succ _) (by omega)) hf,m1.pv⟩
   clear h HA hz
   go_enter Tryz.func70,Tryz.ntmps70
   go_wp2_with (first | (go_at_call 110; refine same_of (HP) ?_) | (go_at_call 69; refine HB.mono ?_; rintro e W ⟨rfl,p1,m1⟩))
   go_ret
   exact ⟨rfl,H9.out _ p1 m1⟩
 | false =>
   rw [hu] at HP
   rw [hu,if_neg (by simp)] at hf
   rw [if_neg (by simp)]
   have H9 : Hid (∀ W,Ps tag W a s.q (s.A.appF p n).1 k → Mv tag w tag W → ∃ tag',Pp tag' W b a m (s.upd (s.A.appF p n)).1 (k + 1) ∧ Pv tag w tag' W) := fun W p1 m1 => ⟨tag,h.mv m1 (p1.up' (Nat.le_succ _) (by omega)) hf,m1.pv⟩
   clear h HB hz
   go_enter Tryz.func70,Tryz.ntmps70
   go_wp2_with (first | (go_at_call 110; refine same_of (HP) ?_) | (go_at_call 68; refine HA.mono ?_; rintro e W ⟨rfl,p1,m1⟩))
   go_ret
   exact ⟨rfl,H9.out _ p1 m1⟩
theorem pour_any (h : Pp tag w b a m s k) (hk : k < 1300) (r p : Nat) (t : ByteArray) (ht : t.size ≤ 10) (hr : r < s.A.n) (hf : (s.pouF r p t).1.Fit (k + 1)) :
  Calls Tryz.prog 72 #[.pointer (some ⟨b,0,none⟩),.int .i64 (r : Int),.int .i64 (p : Int),.string t] w fun e w' => e = .returned (.int .i64 (s.pouF r p t).2) ∧ ∃ tag',Pp tag' w' b a m (s.pouF r p t).1 (k + 1) ∧ Pv tag w tag' w' := by
 obtain ⟨c0,_⟩ := h.head
 obtain ⟨z,hz⟩ := h.fit.up_par hr
 have HP := h.ps.par (r : Int)
 rw [hz] at HP
 have HB := h.ps.wb (by omega) (r : Int) t ht
 have HA := h.ps.wr (by omega) (p : Int) t ht
 unfold Py.pouF at hf ⊢
 cases hu : (s.A.up r).isSome with
 | true =>
   rw [hu] at HP
   rw [hu,if_pos rfl] at hf
   rw [if_pos rfl]
   have H9 : Hid (∀ tag1 W,Ps tag1 W a s.q (s.A.wbF r t).1 (k + 1) → Mv tag w tag1 W → ∃ tag',Pp tag' W b a m (s.upd (s.A.wbF r t)).1 (k + 1) ∧ Pv tag w tag' W) := fun tag1 W p1 m1 => ⟨tag1,h.mv m1 p1 hf,m1.pv⟩
   clear h HA hz
   go_enter Tryz.func72,Tryz.ntmps72
   go_wp2_with (first | (go_at_call 110; refine same_of (HP) ?_) | (go_at_call 112; refine HB.mono ?_; rintro e W ⟨rfl,tag1,p1,m1⟩))
   go_ret
   exact ⟨rfl,H9.out _ _ p1 m1⟩
 | false =>
   rw [hu] at HP
   rw [hu,if_neg (by simp)] at hf
   rw [if_neg (by simp)]
   have H9 : Hid (∀ tag1 W,Ps tag1 W a s.q (s.A.wrF p t).1 (k + 1) → Mv tag w tag1 W → ∃ tag',Pp tag' W b a m (s.upd (s.A.wrF p t)).1 (k + 1) ∧ Pv tag w tag' W) := fun tag1 W p1 m1 => ⟨tag1,h.mv m1 p1 hf,m1.pv⟩
   clear h HB hz
   go_enter Tryz.func72,Tryz.ntmps72
   go_wp2_with (first | (go_at_call 110; refine same_of (HP) ?_) | (go_at_call 71; refine HA.mono ?_; rintro e W ⟨rfl,tag1,p1,m1⟩))
   go_ret
   exact ⟨rfl,H9.out _ _ p1 m1⟩
end
theorem wpList_updR {P : Program} {ops : Array Oper} {rest : List Oper} {o : Oper} {a : Act} {w w' : World} {Q : Exit → Act → World → Prop}
  (hg : o.guard = none) (m x v : Operand) (t : TypeId) (hop : o.op = Op.mapUpdate t m x v ∨ o.op = Op.insert t m x v) (M X V : Value) (hm : a.eval m = M) (hx : a.eval x = X) (hv : a.eval v = V) (hrun : (Instr.mapUpdate t M X V).run P w = .ok () w') (hK : wpList P ops Q rest (a.put o.dst undef) w') :
  wpList P ops Q (o :: rest) a w := by
 refine wpList_plain hg fun K' hK' => ?_
 unfold Oper.wp
 rcases hop with hop | hop
 ·simp [execOp,hop,hm,hx,hv,hrun,Result.andThen]
  exact hK' _ _ hK
 ·simp [execOp,hop,hm,hx,hv,hrun,Result.andThen]
  exact hK' _ _ hK
section
variable {tag : Nat → Nat} {w : World} {b a m k : Nat} {s : Py}
theorem player_any (w : World) (tag : Nat → Nat) :
  Calls Tryz.prog 12 #[] w fun e w' => ∃ b a m tag',e = .returned (.pointer (some ⟨b,0,none⟩)) ∧ Pp tag' w' b a m Py.first 0 ∧ Pv tag w tag' w' := by
 have HN := Ps.new w tag
 have HF : Hid (∀ a tag1 W1 W3,Ps tag1 W1 a false Ar.first 0 → Mv tag w tag1 W1 → Kp [W1.heap.size] (W1.alloc (.map #[] 0)) W3 → Nb W3 W1.heap.size [(0,0)] → ∃ b' a' m' tag',(some ⟨W3.heap.size,0,none⟩ : Option Addr) = some ⟨b',0,none⟩ ∧ Pp tag' (W3.alloc (.cells #[.pointer (some ⟨a,0,none⟩),.map (some W1.heap.size)] 76)) b' a' m' Py.first 0 ∧ Pv tag w tag' (W3.alloc (.cells #[.pointer (some ⟨a,0,none⟩),.map (some W1.heap.size)] 76))) := fun a tag1 W1 W3 p1 m1 k3 n3 => by
  have hs1 : W1.heap.size + 1 ≤ W3.heap.size := by have := k3.size; simpa using this
  have k13 : Kp [W1.heap.size] W1 (W3.alloc (.cells #[.pointer (some ⟨a,0,none⟩),.map (some W1.heap.size)] 76)) := (((Kp.refl [W1.heap.size] W1).alloc _).trans k3 (fun x hx => Or.inl hx)).alloc _
  have hg : ∀ x,x < W1.heap.size → (fun x => if x < W1.heap.size then tag1 x else 6) x = tag1 x := fun x hx => if_pos hx
  refine ⟨W3.heap.size,a,W1.heap.size,fun x => if x < W1.heap.size then tag1 x else 6,rfl,⟨At.new _ _ _,if_neg (by omega),?_,n3.same ?_,if_neg (by omega),Py.first_fit⟩,?_⟩
  ·exact p1.sm k13.size k13.os k13.tape k13.output (fun x hx _ => k13.block x hx (fun e => by rw [List.mem_singleton.1 e] at hx; omega)) hg
  ·exact ((Kp.refl [] W3).alloc _).block _ n3.lt (by simp)
  ·refine m1.pv.trans ⟨k13.os,k13.tape,k13.output,k13.size,fun x hx _ _ => k13.block x hx (fun e => by rw [List.mem_singleton.1 e] at hx; omega),hg⟩
 have HM : Hid (∀ W : World,∃ W3,(Instr.mapUpdate 74 (.map (some W.heap.size)) (.int .i64 0) (.int .i64 0)).run Tryz.prog (W.alloc (.map #[] 0)) = .ok () W3 ∧ Nb W3 W.heap.size [(0,0)] ∧ Kp [W.heap.size] (W.alloc (.map #[] 0)) W3) := fun W => by
  have h1 : ([] : List (Int × Nat)).length < 1000000 := by rw [List.length_nil]; omega
  have h2 : wf64 0 := wf_of (by omega) (by omega)
  exact (nb_new W).put (x := 0) (n := 0) h2 (by omega) h1 rfl
 have hmk : ∀ W : World,(Instr.makeMap 74 none).run Tryz.prog W = .ok (.map (some W.heap.size)) (W.alloc (.map #[] 0)) := fun W => by
  simp [Instr.makeMap,run_underlying Tryz.underlying74,newObj]
  rfl
 go_enter Tryz.func12,Tryz.ntmps12
 go_wp2_with (first | (go_at_call 32; refine HN.mono ?_; rintro e W1 ⟨a,tag1,rfl,p1,m1,_⟩; obtain ⟨W3,hrun,n3,k3⟩ := HM.out W1; have hmk := hmk W1) | (refine wpList_updR (by rfl) _ _ _ 74 (Or.inr (by rfl)) _ _ _ (by rfl) (by rfl) (by rfl) hrun ?_; have X9 := HF.out a tag1 W1 W3 p1 m1 k3 n3; have X9 : Hid _ := X9))
 go_ret
 obtain ⟨b',a',m',tag',e,r⟩ := X9.out
 cases e
 exact ⟨_,a',m',tag',rfl,r⟩
theorem enter_any (h : Pp tag w b a m s k) (x : Int) (hx : wf64 x) (hno : num s.M x = none) (r : Nat) (hf : (s.entF x r).1.Fit (k + 1)) :
  Calls Tryz.prog 75 #[.pointer (some ⟨b,0,none⟩),.int .i64 x,.int .i64 (r : Int)] w fun e w' => e = .returned (.int .i64 (s.entF x r).2) ∧ ∃ tag',Pp tag' w' b a m (s.entF x r).1 (k + 1) ∧ Pv tag w tag' w' := by
 obtain ⟨c0,c1⟩ := h.head
 have hk := hf.hk
 have HC := h.ps.con (r : Int)
 unfold Py.entF at hf ⊢
 cases hc : (s.A.conF r).2 with
 | true =>
   obtain ⟨c,e1,e2⟩ := Ar.conF_lt h.fit.ful hc
   rw [hc,if_pos rfl,e1,Int.toNat_natCast] at hf
   rw [if_pos rfl,e1,Int.toNat_natCast]
   rw [hc,e1] at HC
   have hn := h.ps.n_lt
   have hl := h.fit.len
   obtain ⟨W,hrun,n1,k1⟩ := h.nb.put (n := c) hx (by omega) (by omega) hno
   have H9 : Hid (∃ tag',Pp tag' W b a m ⟨s.A,s.q,s.M ++ [(x,c)]⟩ (k + 1) ∧ Pv tag w tag' W) := ⟨tag,h.snoc k1 n1 (Nat.le_succ _) (by omega) hf,Pv.of_kp k1 (fun y hy _ => by rw [List.mem_singleton.1 hy]; exact h.tm) (fun _ _ => rfl)⟩
   clear h n1 k1 hf e1 e2 hc hno
   go_enter Tryz.func75,Tryz.ntmps75
   go_wp2_with (first | (go_at_call 114; refine same_of (HC) ?_) | (refine wpList_updR (by rfl) _ _ _ 74 (Or.inl (by rfl)) _ _ _ (by rfl) (by rfl) (by rfl) hrun ?_))
   go_ret
   exact ⟨rfl,H9.out⟩
 | false =>
   rw [if_neg (by simp)]
   rw [hc] at HC
   have H9 : Hid (∃ tag',Pp tag' w b a m s (k + 1) ∧ Pv tag w tag' w) := ⟨tag,h.up (by omega),Pv.refl _ _⟩
   clear h hf
   generalize (s.A.conF r).1 = z at HC
   go_enter Tryz.func75,Tryz.ntmps75
   go_wp2_with (go_at_call 114; refine same_of (HC) ?_)
   go_ret
   exact ⟨rfl,H9.out⟩
theorem nine_at {w : World} {g : Nat} {o : Ot} {p : Sl} (h : At w g (oc o p) 24) : Nine w g 0 o p := ⟨h.cell 0,h.cell 1,h.cell 2,h.cell 3,h.cell 4,h.cell 5,h.cell 6,h.cell 7,h.cell 8⟩
theorem build_any (h : Pp tag w b a m s k) (hk : k < 1300) (o : Ot) (p : Sl) (ho : tinyO o) (hr : Rp w p.1 p.2.1 p.2.2 o.al) (hx : wf64 o.nd) (hno : num s.M o.nd = none) (hf : (s.bldF o).1.Fit (k + 1)) :
  Calls Tryz.prog 67 #[.pointer (some ⟨b,0,none⟩),ov o p] w fun e w' => e = .returned (.int .i64 (s.bldF o).2) ∧ ∃ tag',Pp tag' w' b a m (s.bldF o).1 (k + 1) ∧ Pv tag w tag' w' := by
 obtain ⟨W1,hW1⟩ : ∃ W,W = w.alloc (.cells (oc o p) 24) := ⟨_,rfl⟩
 have k1 : Kp [] w W1 := by rw [hW1]; exact (Kp.refl _ _).alloc _
 have A1 : At W1 w.heap.size (oc o p) 24 := by rw [hW1]; exact At.new _ _ _
 have HW : Hid (w.alloc (.cells (oc o p) 24) = W1) := hW1.symm
 obtain ⟨g,hg⟩ : ∃ g,w.heap.size = g := ⟨_,rfl⟩
 have hg2 : ∀ x,x < w.heap.size → (fun x => if x < w.heap.size then tag x else 0) x = tag x := fun x hx => if_pos hx
 obtain ⟨tag1,ht1⟩ : ∃ t,(fun x => if x < w.heap.size then tag x else 0) = t := ⟨_,rfl⟩
 rw [ht1] at hg2
 have t0 : tag1 g = 0 := by rw [← ht1,← hg]; exact if_neg (by omega)
 have h1 := h.re k1 hg2
 have pv1 : Pv tag w tag1 W1 := Pv.of_kp k1 (fun x hx => by simp at hx) hg2
 rw [hg] at A1
 clear hW1 ht1 hg2 h
 obtain ⟨B,z,ec,hB⟩ : ∃ B z ec,s.A.mkF o.ty o.ns o.nm (uniq o.al) o.tt = (B,z,ec) := ⟨_,_,_,rfl⟩
 have hmn := (Ar.mkF_n s.A o.ty o.ns o.nm (uniq o.al) o.tt).2
 have HM : Hid (∀ V,Kp [] W1 V → Calls Tryz.prog 104 #[.pointer (some ⟨a,0,none⟩),.int .i64 o.ty,.int .i64 o.ns,.string o.nm,.slice p.1 p.2.1 p.2.2,.string o.tt] V fun e w' => e = .returned (.tuple #[.int .i64 z,.int .i64 ec]) ∧ ∃ tag',Ps tag' w' a s.q B (k + 1) ∧ Mv tag1 V tag' w') := fun V kV => by
  have := (h1.kept kV).ps.mk' (by omega) o.ty o.ns o.nm o.tt o.al p.1 p.2.1 p.2.2 ((hr.kept k1).kept kV) ho.al ho.each ho.nm ho.tt
  rw [hB] at this
  exact this
 unfold Py.bldF at hf ⊢
 rw [hB] at hf hmn ⊢
 have HS : Hid (∀ V,Kp [] W1 V → V.cell? ⟨b,0,none⟩ = some (.pointer (some ⟨a,0,none⟩)) ∧ Nine V g 0 o p) := fun V kV => ⟨(h1.kept kV).head.1,(nine_at A1).kept kV (by simp)⟩
 have H2 : Hid (∀ V W2 tag2,Kp [] W1 V → Ps tag2 W2 a s.q B (k + 1) → Mv tag1 V tag2 W2 → (W2.cell? ⟨b,0,none⟩ = some (.pointer (some ⟨a,0,none⟩)) ∧ Nine W2 g 0 o p) ∧ W2.cell? ⟨b,1,none⟩ = some (.map (some m)) ∧ Nb W2 m s.M ∧ tag2 m = 6 ∧ Pv tag w tag2 W2 ∧ ((Py.mk B s.q s.M).Fit (k + 1) → Pp tag2 W2 b a m ⟨B,s.q,s.M⟩ (k + 1))) := fun V W2 tag2 kV p2 m2 => by
  have hV := h1.kept kV
  have aV := A1.kept kV (by simp)
  have n6 : ∀ x,tag1 x = 6 → ¬ isP (tag1 x) := fun x e => by rw [e]; unfold isP; omega
  have hb : At W2 b #[.pointer (some ⟨a,0,none⟩),.map (some m)] 76 := by
   unfold At
   rw [m2.block b hV.hd.lt (n6 b hV.tb)]
   exact hV.hd
  have ho2 : At W2 g (oc o p) 24 := by
   unfold At
   rw [m2.block g aV.lt (by rw [t0]; unfold isP; omega)]
   exact aV
  exact ⟨⟨hb.cell 0,nine_at ho2⟩,hb.cell 1,hV.nb.same (m2.block m hV.nb.lt (n6 m hV.tm)),by rw [m2.tg m hV.nb.lt]; exact hV.tm,pv1.trans ((Pv.of_kp0 kV).trans m2.pv),fun f => hV.mv m2 p2 f⟩
 have hlM := h1.fit.len
 have hBn : B = (s.A.mkF o.ty o.ns o.nm (uniq o.al) o.tt).1 := by rw [hB]
 have F1 : Hid (ec ≠ 0 → B = s.A) := fun he => by
  rw [hBn]
  have : (s.A.mkF o.ty o.ns o.nm (uniq o.al) o.tt).2.2 ≠ 0 := by rw [hB]; exact he
  revert this
  unfold Ar.mkF
  repeat' split
  all_goals first | exact fun _ => rfl | exact fun h => absurd rfl h
 have F2 : Hid ((Py.mk s.A s.q s.M).Fit (k + 1)) := h1.fit.succ hk
 have hnA := h1.ps.n_lt
 have hb2 := h1.ps
 clear h1 A1 k1 hr ho pv1 t0 hb2 hBn
 by_cases he : ec = 0
 ·subst he
  simp only [if_pos] at hf ⊢
  obtain ⟨rfl,hBl⟩ := hmn rfl
  rw [Int.toNat_natCast] at hf ⊢
  unfold ov
  rw [show oc o p = #[.int .i64 o.kd,.int .i64 o.nd,.int .i64 o.pa,.int .i64 o.rf,.int .i64 o.ty,.int .i64 o.ns,.string o.nm,.slice p.1 p.2.1 p.2.2,.string o.tt] from rfl] at HW
  go_enter Tryz.func67,Tryz.ntmps67
  go_upto_region 1 with fail
  rw [HW.out]
  clear HW hB hmn
  refine wp_region_g (S := fun V => V.cell? ⟨b,0,none⟩ = some (.pointer (some ⟨a,0,none⟩)) ∧ Nine V g 0 o p) (T := []) (by kernel_rfl) (HS.out _ (Kp.refl _ _).drew) (fun hHeld => ?_)
  refine g_pure 0 (some 8) (.move (.tmp 0)) ?_
  refine g_pure 1 (some 9) (.nilCheck (.tmp 8)) ?_
  refine g_pure 2 (some 10) (.fieldAddr 76 (.tmp 9) 0) ?_
  refine g_take 3 (some 11) (.load 36 (.tmp 10)) (by intro w hSw; (obtain ⟨q0,q1,q2,q3,q4,q5,q6,q7,q8,q9⟩ := hSw); go_simp; try with_reducible rfl) ?_
  refine g_pure 4 (some 12) (.fieldAddr 24 (.tmp 3) 4) ?_
  refine g_take 5 (some 13) (.load 3 (.tmp 12)) (by intro w hSw; (obtain ⟨q0,q1,q2,q3,q4,q5,q6,q7,q8,q9⟩ := hSw); go_simp; try with_reducible rfl) ?_
  refine g_pure 6 (some 14) (.fieldAddr 24 (.tmp 3) 5) ?_
  refine g_take 7 (some 15) (.load 3 (.tmp 14)) (by intro w hSw; (obtain ⟨q0,q1,q2,q3,q4,q5,q6,q7,q8,q9⟩ := hSw); go_simp; try with_reducible rfl) ?_
  refine g_pure 8 (some 16) (.fieldAddr 24 (.tmp 3) 6) ?_
  refine g_take 9 (some 17) (.load 9 (.tmp 16)) (by intro w hSw; (obtain ⟨q0,q1,q2,q3,q4,q5,q6,q7,q8,q9⟩ := hSw); go_simp; try with_reducible rfl) ?_
  refine g_pure 10 (some 18) (.fieldAddr 24 (.tmp 3) 7) ?_
  refine g_take 11 (some 19) (.load 22 (.tmp 18)) (by intro w hSw; (obtain ⟨q0,q1,q2,q3,q4,q5,q6,q7,q8,q9⟩ := hSw); go_simp; try with_reducible rfl) ?_
  refine g_pure 12 (some 20) (.fieldAddr 24 (.tmp 3) 8) ?_
  refine g_take 13 (some 21) (.load 9 (.tmp 20)) (by intro w hSw; (obtain ⟨q0,q1,q2,q3,q4,q5,q6,q7,q8,q9⟩ := hSw); go_simp; try with_reducible rfl) ?_
  refine wpAnyG_ready (rs := [14]) (by kernel_rfl) (by simp) ?_
  refine AllReadyG.cons (o := ⟨some 22,.call { callee := .value (.func 104),args := #[.tmp 11,.tmp 13,.tmp 15,.tmp 17,.tmp 19,.tmp 21],argTypes := #[36,3,3,9,22,9] },158,_,_,none⟩) rfl (fun K hK => ?_) AllReadyG.nil
  go_simp
  go_at_call 104
  refine (HM.out _ (Kp.refl _ _).drew).mono ?_
  rintro e W2 ⟨rfl,tag2,p2,m2⟩
  go_wp2_with fail
  have X2 := H2.out _ _ _ (Kp.refl _ _).drew p2 m2
  refine hK.out _ _ X2.1 (fun hHeld1 => ?_)
  clear hK K hHeld
  try simp only [Act.put,pu1,pu2,pu3]
  refine g_pure 15 (some 7) (.move (.tmp 22)) ?_
  refine g_pure 16 (some 23) (.extract (.tmp 7) 0) ?_
  refine g_pure 17 (some 24) (.extract (.tmp 7) 1) ?_
  refine g_pure 18 (some 5) (.assign (.tmp 23)) ?_
  refine g_pure 19 (some 6) (.assign (.tmp 24)) ?_
  refine wpAnyG_free (by kernel_rfl) ?_
  refine wpAny_done (by kernel_rfl) ?_ _
  clear HS H2 HM hHeld1
  obtain ⟨⟨_,N2⟩,c1,nb2,t6,pv2,F9⟩ := X2
  have P2 := (F9 ⟨p2.ful,p2.sz,hk,F2.out.z0,fun y n e => Nat.lt_trans (F2.out.lt y n e) hBl,F2.out.len⟩).kept (Kp.refl [] W2).drew
  obtain ⟨W3,hrun,n3,k3⟩ := P2.nb.put (n := s.A.n) hx (by omega) (by show s.M.length < _; omega) hno
  have H9 : Hid (∃ tag',Pp tag' W3 b a m ⟨B,s.q,s.M ++ [(o.nd,s.A.n)]⟩ (k + 1) ∧ Pv tag w tag' W3) := ⟨tag2,P2.snoc k3 n3 (Nat.le_refl _) (by omega) hf,pv2.trans ((Pv.of_kp0 (Kp.refl [] W2).drew).trans (Pv.of_kp k3 (fun y hy _ => by rw [List.mem_singleton.1 hy]; exact t6) (fun _ _ => rfl)))⟩
  have hS3 : W2.drew.cell? ⟨b,1,none⟩ = some (.map (some m)) ∧ W2.drew.cell? ⟨g,1,none⟩ = some (.int .i64 o.nd) := ⟨c1,N2.2.1⟩
  clear F9 P2 n3 k3 p2 m2 N2 nb2 t6 pv2 F1 F2 hf hBl hno hlM c1
  go_upto_region 3 with fail
  refine wp_region_g (S := fun V => V.cell? ⟨b,1,none⟩ = some (.map (some m)) ∧ V.cell? ⟨g,1,none⟩ = some (.int .i64 o.nd)) (T := [7]) (by kernel_rfl) hS3 (fun hHeld => ?_)
  refine g_pure 0 (some 27) (.move (.tmp 0)) ?_
  refine g_pure 1 (some 28) (.nilCheck (.tmp 27)) ?_
  refine g_pure 2 (some 29) (.fieldAddr 76 (.tmp 28) 1) ?_
  refine g_take 3 (some 30) (.load 74 (.tmp 29)) (by intro w hSw; (obtain ⟨q0,q1⟩ := hSw); go_simp; try with_reducible rfl) ?_
  refine g_pure 4 (some 31) (.fieldAddr 24 (.tmp 3) 1) ?_
  refine g_take 5 (some 32) (.load 3 (.tmp 31)) (by intro w hSw; (obtain ⟨q0,q1⟩ := hSw); go_simp; try with_reducible rfl) ?_
  refine g_pure 6 (some 33) (.move (.tmp 5)) ?_
  refine wpAnyG_free (by kernel_rfl) ?_
  refine wpAny_ready (rs := [7]) (by kernel_rfl) (by simp) ?_
  refine AllReady.cons (o := ⟨none,.mapUpdate 74 (.tmp 30) (.tmp 32) (.tmp 33),0,_,_,none⟩) rfl (fun K hK => ?_) AllReady.nil
  refine step_updR (by rfl) _ _ _ 74 (by rfl) _ _ _ (by rfl) (by rfl) (by rfl) hrun ?_
  refine hK _ _ ?_
  clear hK K
  try simp only [Act.put,pu1,pu2,pu3]
  refine wpAny_done (by kernel_rfl) ?_ _
  clear hS3
  go_wp2
  go_ret
  exact ⟨rfl,H9.out⟩
 ·have hc : (ec == 0) = false := by simpa using he
  rw [if_neg he] at hf ⊢
  obtain rfl := F1.out he
  unfold ov
  rw [show oc o p = #[.int .i64 o.kd,.int .i64 o.nd,.int .i64 o.pa,.int .i64 o.rf,.int .i64 o.ty,.int .i64 o.ns,.string o.nm,.slice p.1 p.2.1 p.2.2,.string o.tt] from rfl] at HW
  go_enter Tryz.func67,Tryz.ntmps67
  go_upto_region 1 with fail
  rw [HW.out]
  clear HW hB hmn
  refine wp_region_g (S := fun V => V.cell? ⟨b,0,none⟩ = some (.pointer (some ⟨a,0,none⟩)) ∧ Nine V g 0 o p) (T := []) (by kernel_rfl) (HS.out _ (Kp.refl _ _).drew) (fun hHeld => ?_)
  refine g_pure 0 (some 8) (.move (.tmp 0)) ?_
  refine g_pure 1 (some 9) (.nilCheck (.tmp 8)) ?_
  refine g_pure 2 (some 10) (.fieldAddr 76 (.tmp 9) 0) ?_
  refine g_take 3 (some 11) (.load 36 (.tmp 10)) (by intro w hSw; (obtain ⟨q0,q1,q2,q3,q4,q5,q6,q7,q8,q9⟩ := hSw); go_simp; try with_reducible rfl) ?_
  refine g_pure 4 (some 12) (.fieldAddr 24 (.tmp 3) 4) ?_
  refine g_take 5 (some 13) (.load 3 (.tmp 12)) (by intro w hSw; (obtain ⟨q0,q1,q2,q3,q4,q5,q6,q7,q8,q9⟩ := hSw); go_simp; try with_reducible rfl) ?_
  refine g_pure 6 (some 14) (.fieldAddr 24 (.tmp 3) 5) ?_
  refine g_take 7 (some 15) (.load 3 (.tmp 14)) (by intro w hSw; (obtain ⟨q0,q1,q2,q3,q4,q5,q6,q7,q8,q9⟩ := hSw); go_simp; try with_reducible rfl) ?_
  refine g_pure 8 (some 16) (.fieldAddr 24 (.tmp 3) 6) ?_
  refine g_take 9 (some 17) (.load 9 (.tmp 16)) (by intro w hSw; (obtain ⟨q0,q1,q2,q3,q4,q5,q6,q7,q8,q9⟩ := hSw); go_simp; try with_reducible rfl) ?_
  refine g_pure 10 (some 18) (.fieldAddr 24 (.tmp 3) 7) ?_
  refine g_take 11 (some 19) (.load 22 (.tmp 18)) (by intro w hSw; (obtain ⟨q0,q1,q2,q3,q4,q5,q6,q7,q8,q9⟩ := hSw); go_simp; try with_reducible rfl) ?_
  refine g_pure 12 (some 20) (.fieldAddr 24 (.tmp 3) 8) ?_
  refine g_take 13 (some 21) (.load 9 (.tmp 20)) (by intro w hSw; (obtain ⟨q0,q1,q2,q3,q4,q5,q6,q7,q8,q9⟩ := hSw); go_simp; try with_reducible rfl) ?_
  refine wpAnyG_ready (rs := [14]) (by kernel_rfl) (by simp) ?_
  refine AllReadyG.cons (o := ⟨some 22,.call { callee := .value (.func 104),args := #[.tmp 11,.tmp 13,.tmp 15,.tmp 17,.tmp 19,.tmp 21],argTypes := #[36,3,3,9,22,9] },158,_,_,none⟩) rfl (fun K hK => ?_) AllReadyG.nil
  go_simp
  go_at_call 104
  refine (HM.out _ (Kp.refl _ _).drew).mono ?_
  rintro e W2 ⟨rfl,tag2,p2,m2⟩
  go_wp2_with fail
  have X2 := H2.out _ _ _ (Kp.refl _ _).drew p2 m2
  refine hK.out _ _ X2.1 (fun hHeld1 => ?_)
  clear hK K hHeld
  try simp only [Act.put,pu1,pu2,pu3]
  refine g_pure 15 (some 7) (.move (.tmp 22)) ?_
  refine g_pure 16 (some 23) (.extract (.tmp 7) 0) ?_
  refine g_pure 17 (some 24) (.extract (.tmp 7) 1) ?_
  refine g_pure 18 (some 5) (.assign (.tmp 23)) ?_
  refine g_pure 19 (some 6) (.assign (.tmp 24)) ?_
  refine wpAnyG_free (by kernel_rfl) ?_
  refine wpAny_done (by kernel_rfl) ?_ _
  clear HS H2 HM hHeld1
  obtain ⟨_,c1,nb2,t6,pv2,F9⟩ := X2
  have H9 : Hid (∃ tag',Pp tag' W2 b a m s (k + 1) ∧ Pv tag w tag' W2) := ⟨tag2,F9 F2.out,pv2⟩
  clear F9 p2 m2 nb2 t6 pv2 F1 F2 hf hno hlM c1
  go_wp2
  go_ret
  exact ⟨rfl,H9.out⟩
end
end Go.Proofs.YtpkppobkagdhkaaGreat
