/-
  Joined: Small Hold Stp Short.
-/
import Derived.Test.YtpkppobkagdhkaaGreatJ1
import Derived.Test.YtpkppobkagdhkaaGreatJ4
import Derived.Test.YtpkppobkagdhkaaGreatJ2
import Derived.Deep.RegionHeld3

/-
  Head and Within.
-/
namespace Go.Proofs.YtpkppobkagdhkaaGreat
open Go.RowKit Utf

/-- No more of a text than m bytes. -/
theorem cut_any (w : World) (s : ByteArray) (m : Nat) (hm : m ≤ 1000) : Calls Tryz.prog 25 #[.string s, .int .i64 (m : Int)] w fun e w' => e = .returned (.string (if m < s.size then s.extract 0 m else s)) ∧ w' = w := by
  by_cases h : m < s.size
  · rw [if_pos h]
    go_enter Tryz.func25, Tryz.ntmps25
    go_wp2
    go_ret
    exact ⟨rfl, rfl⟩
  · rw [if_neg h]
    go_enter Tryz.func25, Tryz.ntmps25
    go_wp2
    go_ret
    exact ⟨rfl, rfl⟩

/-- A number brought into the range from 0 to m. -/
def wi (n : Int) (m : Nat) : Nat := (if n.tmod ((m : Int) + 1) < 0 then n.tmod ((m : Int) + 1) + ((m : Int) + 1) else n.tmod ((m : Int) + 1)).toNat

theorem wi_le (n : Int) (m : Nat) : wi n m ≤ m := by
  have t1 : n.tmod ((m : Int) + 1) < (m : Int) + 1 := Int.tmod_lt_of_pos n (by omega)
  have t2 : -((m : Int) + 1) < n.tmod ((m : Int) + 1) := Int.lt_tmod_of_pos n (by omega)
  unfold wi
  split <;> omega

/-- Within, of any range of places. -/
theorem within_any (w : World) (n : Int) (lo hi : Nat) (hl : lo ≤ hi) (hm : hi ≤ 1099511627776) : Calls Tryz.prog 22 #[.int .i64 n, .int .i64 (lo : Int), .int .i64 (hi : Int)] w fun e w' => e = .returned (.int .i64 ((lo + wi n (hi - lo) : Nat) : Int)) ∧ w' = w := by
  have e1 : (hi : Int) - (lo : Int) + 1 = ((hi - lo : Nat) : Int) + 1 := by omega
  have t1 : n.tmod ((hi : Int) - lo + 1) < (hi : Int) - lo + 1 := Int.tmod_lt_of_pos n (by omega)
  have t2 : -((hi : Int) - lo + 1) < n.tmod ((hi : Int) - lo + 1) := Int.lt_tmod_of_pos n (by omega)
  by_cases h : n.tmod ((hi : Int) - lo + 1) < 0
  · have hw : ((lo + wi n (hi - lo) : Nat) : Int) = hi + 1 + n.tmod ((hi : Int) - lo + 1) := by
      unfold wi
      rw [← e1, if_pos h]
      omega
    rw [hw]
    clear hw e1
    go_enter Tryz.func22, Tryz.ntmps22
    go_wp2
    go_ret
    refine ⟨?_, rfl⟩
    show Ending.returned (.int .i64 _) = _
    congr 2
    omega
  · have hw : ((lo + wi n (hi - lo) : Nat) : Int) = lo + n.tmod ((hi : Int) - lo + 1) := by
      unfold wi
      rw [← e1, if_neg h]
      omega
    rw [hw]
    clear hw e1
    go_enter Tryz.func22, Tryz.ntmps22
    go_wp2
    go_ret
    exact ⟨rfl, rfl⟩

end Go.Proofs.YtpkppobkagdhkaaGreat

/-
  A region that draws its order, whose last operation is a call that waits for its loads by way of others. No program.
-/
namespace Go.Proofs.YtpkppobkagdhkaaGreat
open Go.RowKit
set_option linter.unusedVariables false

section
variable {P : Program} {ops : Array Oper} {Q : Exit → Act → World → Prop} {md : Region.Mode} {S : World → Prop} {T : List Nat}

/-- What one waits for has come up ahead of it. -/
def Clo (md : Region.Mode) (ops : Array Oper) (listed : Array Bool) : Prop := ∀ (j : Nat) (oj : Oper), ops[j]? = some oj → listed.getD j false = true → ∀ e ∈ oj.after, Region.binds md e = true → listed.getD e.on false = true

def cloB (md : Region.Mode) (ops : Array Oper) (listed : Array Bool) : Bool :=
  (List.range ops.size).all fun j => match ops[j]? with
    | some oj => !listed.getD j false || oj.after.all (fun e => !Region.binds md e || listed.getD e.on false)
    | none => true

theorem clo_of {listed : Array Bool} (h : cloB md ops listed = true) : Clo md ops listed := fun j oj hj hl e he hb => by
  have hlt : j < ops.size := by
    rcases Nat.lt_or_ge j ops.size with h1 | h1
    · exact h1
    · rw [Array.getElem?_eq_none h1] at hj; cases hj
  have h1 := List.all_eq_true.1 h j (List.mem_range.2 hlt)
  rw [hj] at h1
  simp only [hl, Bool.not_true, Bool.false_or] at h1
  have h2 := Array.all_eq_true'.1 h1 e he
  rw [hb] at h2
  simpa using h2

/-- So many steps down from j stands i. -/
def wait (md : Region.Mode) (ops : Array Oper) : Nat → Nat → Nat → Bool
  | 0, _, _ => false
  | f + 1, j, i => match ops[j]? with
    | some oj => oj.after.any (fun e => Region.binds md e && (e.on == i || wait md ops f e.on i))
    | none => false

theorem wait_listed {listed : Array Bool} (hc : Clo md ops listed) : ∀ (f j i : Nat) (oj : Oper), ops[j]? = some oj → (∀ e ∈ oj.after, Region.binds md e = true → listed.getD e.on false = true) → wait md ops f j i = true → listed.getD i false = true
  | 0, j, i, oj, _, _, h => by cases h
  | f + 1, j, i, oj, hj, ha, h => by
    unfold wait at h
    rw [hj] at h
    simp only [Array.any_eq_true', Bool.and_eq_true, Bool.or_eq_true, beq_iff_eq] at h
    obtain ⟨e, he, hb, h2⟩ := h
    rcases h2 with h2 | h2
    · rw [← h2]; exact ha e he hb
    · cases hk : ops[e.on]? with
      | none =>
        cases f with
        | zero => cases h2
        | succ f => unfold wait at h2; rw [hk] at h2; cases h2
      | some ok => exact wait_listed hc f e.on i ok hk (fun e' he' hb' => hc e.on ok hk (ha e he hb) e' he' hb') h2

theorem clo_set {listed : Array Bool} (hc : Clo md ops listed) {i : Nat} {oi : Oper} (hi : ops[i]? = some oi) (ha : ∀ e ∈ oi.after, Region.binds md e = true → listed.getD e.on false = true) : Clo md ops (listed.setIfInBounds i true) := fun j oj hj hl e he hb => by
  have up : ∀ k, listed.getD k false = true → (listed.setIfInBounds i true).getD k false = true := fun k hk => by
    by_cases h1 : i = k
    · subst h1
      rcases Nat.lt_or_ge i listed.size with h' | h'
      · simp [h']
      · simp [Array.getElem?_eq_none h'] at hk
    · rw [getD_set_ne false h1]; exact hk
  refine up _ ?_
  by_cases h1 : i = j
  · subst h1
    rw [hi] at hj
    obtain rfl := Option.some.inj hj
    exact ha e he hb
  · rw [getD_set_ne false h1] at hl
    exact hc j oj hj hl e he hb

theorem wpAnyG_firstC {i : Nat} {oi : Oper} {v : Value} (hi : ops[i]? = some oi) (hsel : ∀ (j : Nat) (o : Oper) cs b, ops[j]? = some o → o.op ≠ .select cs b)
    (hQ : ∀ c a w, Q (.panic c) (a.put oi.dst v) w → Q (.panic c) a w) (hT : ∀ j, j ∈ T → wait md ops ops.size j i = true) (hiT : i ∉ T) :
    ∀ (fuel : Nat) (listed : Array Bool) (a : Act) (w : World), Clo md ops listed →
      (∀ j oj, ops[j]? = some oj → j ≠ i → listed.getD j true = false → (∀ e ∈ oj.after, Region.binds md e = true → e.on ≠ i) → oi.apart ops oj = true) →
      i ∈ Region.ready md ops listed → Opn T listed → YieldsIf P ops S oi v a → S w →
      wpAnyG P md ops Q S T fuel (listed.setIfInBounds i true) (a.put oi.dst v) w → wpAnyG P md ops Q S T (fuel + 1) listed a w := by
  intro fuel
  induction fuel with
  | zero =>
    intro listed a w _ _ hr hop hy hS H
    refine ⟨fun h => (by rw [h] at hr; cases hr), fun j hj => ?_⟩
    by_cases hji : j = i
    · subst hji; exact hy.wpOp hi hS ⟨fun _ => hS, H⟩
    · have := ready_mono hj hji
      rw [H.1] at this
      cases this
  | succ fuel ih =>
    intro listed a w hc hfree hr hop hy hS H
    refine ⟨fun h => (by rw [h] at hr; cases hr), fun j hj => ?_⟩
    by_cases hji : j = i
    · subst hji; exact hy.wpOp hi hS ⟨fun _ => hS, H⟩
    · have h1 := H.2 j (ready_mono hj hji)
      obtain ⟨hjun, oj, hoj, hall⟩ := mem_ready.1 hj
      have hnot := not_after hr hall
      have hjT : j ∉ T := fun hm => by
        have h0 := (mem_ready.1 hr).1
        have h2 := wait_listed hc ops.size j i oj hoj hall (hT j hm)
        rcases Nat.lt_or_ge i listed.size with h' | h'
        · simp [h'] at h0 h2; rw [h0] at h2; cases h2
        · simp [Array.getElem?_eq_none h'] at h2
      have h2 := wpOp_putIf hoj (hfree j oj hoj hji hjun hnot) (fun cs b => hsel i oi cs b hi) (fun cs b => hsel j oj cs b hoj) hQ hy h1
      have hfree' : ∀ k ok, ops[k]? = some ok → k ≠ i → (listed.setIfInBounds j true).getD k true = false →
          (∀ e ∈ ok.after, Region.binds md e = true → e.on ≠ i) → oi.apart ops ok = true := fun k ok hk hki hun hno => by
        refine hfree k ok hk hki ?_ hno
        by_cases hjk : j = k
        · subst hjk; exact hjun
        · rw [getD_set_ne true hjk] at hun; exact hun
      refine wpOp_mono (fun a' w' h3 => ?_) h2
      have hS' := h3.2.1 ((hop.set hiT).set hjT)
      refine ⟨fun _ => hS', ih (listed.setIfInBounds j true) a' w' (clo_set hc hoj hall) hfree' (ready_mono hr (Ne.symm hji)) (hop.set hjT) h3.1 hS' ?_⟩
      rw [Array.setIfInBounds_comm _ _ hji]
      exact h3.2.2

/-- Take number i first: a load for which the last ones wait, by way of others. -/
theorem wpAnyG_takeC {i : Nat} {oi : Oper} {v : Value} {fuel : Nat} {listed : Array Bool} {a : Act} {w : World} (hi : ops[i]? = some oi)
    (hs : Region.noSelect ops = true) (hf : Region.free md ops listed i = true) (hr : (Region.ready md ops listed).contains i = true) (hT : (T.all (fun j => wait md ops ops.size j i) && !T.contains i && T.all (fun j => !listed.getD j true) && cloB md ops listed) = true)
    (hQ : ∀ c a w, Q (.panic c) (a.put oi.dst v) w → Q (.panic c) a w) (hy : YieldsIf P ops S oi v a) (hS : S w)
    (h : wpAnyG P md ops Q S T fuel (listed.setIfInBounds i true) (a.put oi.dst v) w) : wpAnyG P md ops Q S T (fuel + 1) listed a w := by
  simp only [Bool.and_eq_true] at hT
  exact wpAnyG_firstC hi (Region.noSelect_spec hs) hQ (fun j hj => List.all_eq_true.1 hT.1.1.1 j hj) (by have := hT.1.1.2; simpa using this) fuel listed a w (clo_of hT.2) (Region.free_spec hi hf) (by simpa using hr) (opn_of hT.1.2) hy hS h

end

end Go.Proofs.YtpkppobkagdhkaaGreat

/-
  The steps of a region that draws its order, in short words: what an operation waits for is read off the region, and what comes of it is reckoned.
-/
namespace Go.Proofs.YtpkppobkagdhkaaGreat
open Go.RowKit
set_option linter.unusedVariables false

theorem pu1 {α : Type} (l : List α) (i : Nat) (a : α) : l.toArray.setIfInBounds i a = (l.set i a).toArray := List.setIfInBounds_toArray ..
theorem pu2 {α : Type} (x : α) (xs : List α) (a : α) : (x :: xs).set 0 a = a :: xs := List.set_cons_zero
theorem pu3 {α : Type} (x : α) (xs : List α) (i : Nat) (a : α) : (x :: xs).set (i + 1) a = x :: xs.set i a := List.set_cons_succ

section
variable {P : Program} {ops : Array Oper} {Q : Exit → Act → World → Prop} {md : Region.Mode} {S : World → Prop} {T : List Nat} {v : Value} {fuel : Nat} {listed : Array Bool} {a a' : Act} {w : World} {ty : TypeId} {po : String} {af : Array Edge} {gd : Option (Nat × Bool)}

theorem g_pure (i : Nat) (ds : Option Nat) (op : Op) (h : wpAnyG P md ops Q S T fuel (listed.setIfInBounds i true) a' w) (hi : ops[i]? = some ⟨ds, op, ty, po, af, gd⟩ := by exact rfl) (hw : Region.wanted ⟨ds, op, ty, po, af, gd⟩ (yielded ops a.tmps) = true := by exact rfl) (hy : ∀ w, (execOp a.eval ⟨ds, op, ty, po, af, gd⟩).run P w = .ok (.value v) w := by intro w; go_simp; try with_reducible rfl) (hp : a.put ds v = a' := by simp only [Act.put, pu1, pu2, pu3]; exact rfl) (hS : S w := by assumption)
    (hb : (Region.noSelect ops && Region.free md ops listed i && (Region.ready md ops listed).contains i && !T.contains i) = true := by kernel_rfl) (hQ : ∀ c a w, Q (.panic c) (a.put ds v) w → Q (.panic c) a w := by exact fun _ _ _ h => h) : wpAnyG P md ops Q S T (fuel + 1) listed a w := by
  simp only [Bool.and_eq_true] at hb
  subst hp
  exact wpAnyG_pure hi hb.1.1.1 hb.1.1.2 hb.1.2 hb.2 hQ (Or.inl ⟨hw, hy⟩) hS h

theorem g_skip (i : Nat) (ds : Option Nat) (op : Op) (h : wpAnyG P md ops Q S T fuel (listed.setIfInBounds i true) a' w) (hi : ops[i]? = some ⟨ds, op, ty, po, af, gd⟩ := by exact rfl) (hw : Region.wanted ⟨ds, op, ty, po, af, gd⟩ (yielded ops a.tmps) = false := by exact rfl) (hp : a.put ds undef = a' := by simp only [Act.put, pu1, pu2, pu3]; exact rfl) (hS : S w := by assumption)
    (hb : (Region.noSelect ops && Region.free md ops listed i && (Region.ready md ops listed).contains i && !T.contains i) = true := by kernel_rfl) (hQ : ∀ c a w, Q (.panic c) (a.put ds undef) w → Q (.panic c) a w := by exact fun _ _ _ h => h) : wpAnyG P md ops Q S T (fuel + 1) listed a w := by
  simp only [Bool.and_eq_true] at hb
  subst hp
  exact wpAnyG_pure hi hb.1.1.1 hb.1.1.2 hb.1.2 hb.2 hQ (Or.inr ⟨hw, rfl⟩) hS h

theorem g_take (i : Nat) (ds : Option Nat) (op : Op) (hy : ∀ w, S w → (execOp a.eval ⟨ds, op, ty, po, af, gd⟩).run P w = .ok (.value v) w) (h : wpAnyG P md ops Q S T fuel (listed.setIfInBounds i true) a' w) (hi : ops[i]? = some ⟨ds, op, ty, po, af, gd⟩ := by exact rfl) (hw : Region.wanted ⟨ds, op, ty, po, af, gd⟩ (yielded ops a.tmps) = true := by exact rfl) (hp : a.put ds v = a' := by simp only [Act.put, pu1, pu2, pu3]; exact rfl) (hS : S w := by assumption)
    (hb : (Region.noSelect ops && Region.free md ops listed i && (Region.ready md ops listed).contains i && (lastOf md ops T i && !T.contains i && T.all (fun j => !listed.getD j true))) = true := by kernel_rfl) (hQ : ∀ c a w, Q (.panic c) (a.put ds v) w → Q (.panic c) a w := by exact fun _ _ _ h => h) : wpAnyG P md ops Q S T (fuel + 1) listed a w := by
  rw [Bool.and_eq_true, Bool.and_eq_true, Bool.and_eq_true] at hb
  subst hp
  exact wpAnyG_take hi hb.1.1.1 hb.1.1.2 hb.1.2 hb.2 hQ (Or.inl ⟨hw, hy⟩) hS h

theorem g_takeC (i : Nat) (ds : Option Nat) (op : Op) (hy : ∀ w, S w → (execOp a.eval ⟨ds, op, ty, po, af, gd⟩).run P w = .ok (.value v) w) (h : wpAnyG P md ops Q S T fuel (listed.setIfInBounds i true) a' w) (hi : ops[i]? = some ⟨ds, op, ty, po, af, gd⟩ := by exact rfl) (hw : Region.wanted ⟨ds, op, ty, po, af, gd⟩ (yielded ops a.tmps) = true := by exact rfl) (hp : a.put ds v = a' := by simp only [Act.put, pu1, pu2, pu3]; exact rfl) (hS : S w := by assumption)
    (hb : (Region.noSelect ops && Region.free md ops listed i && (Region.ready md ops listed).contains i && (T.all (fun j => wait md ops ops.size j i) && !T.contains i && T.all (fun j => !listed.getD j true) && cloB md ops listed)) = true := by kernel_rfl) (hQ : ∀ c a w, Q (.panic c) (a.put ds v) w → Q (.panic c) a w := by exact fun _ _ _ h => h) : wpAnyG P md ops Q S T (fuel + 1) listed a w := by
  rw [Bool.and_eq_true, Bool.and_eq_true, Bool.and_eq_true] at hb
  subst hp
  exact wpAnyG_takeC hi hb.1.1.1 hb.1.1.2 hb.1.2 hb.2 hQ (Or.inl ⟨hw, hy⟩) hS h

theorem g_any (i : Nat) (ds : Option Nat) (op : Op) (h : wpAny P md ops Q fuel (listed.setIfInBounds i true) a' w) (hi : ops[i]? = some ⟨ds, op, ty, po, af, gd⟩ := by exact rfl) (hw : Region.wanted ⟨ds, op, ty, po, af, gd⟩ (yielded ops a.tmps) = true := by exact rfl) (hy : ∀ w, (execOp a.eval ⟨ds, op, ty, po, af, gd⟩).run P w = .ok (.value v) w := by intro w; go_simp; try with_reducible rfl) (hp : a.put ds v = a' := by simp only [Act.put, pu1, pu2, pu3]; exact rfl)
    (hb : (Region.noSelect ops && Region.free md ops listed i && (Region.ready md ops listed).contains i) = true := by kernel_rfl) (hQ : ∀ c a w, Q (.panic c) (a.put ds v) w → Q (.panic c) a w := by exact fun _ _ _ h => h) : wpAny P md ops Q (fuel + 1) listed a w := by
  rw [Bool.and_eq_true, Bool.and_eq_true] at hb
  subst hp
  exact wpAny_take hi hb.1.1 hb.1.2 hb.2 hQ (Or.inl ⟨hw, hy⟩) h

end

end Go.Proofs.YtpkppobkagdhkaaGreat

/-
  Short: the first six attributes, none of them long.
-/
namespace Go.Proofs.YtpkppobkagdhkaaGreat
open Go.RowKit

/-- append of one, as a step of a region that draws its order. -/
theorem step_one {ops : Array Oper} {o : Oper} {a : Act} {w w1 : World} {K : Act → World → Prop} {Q : Exit → Act → World → Prop} {E : Prop}
    (hg : o.guard = none) (s x : Operand) (hop : o.op = Op.call { callee := Callee.builtin Builtin.append, args := #[s, x], argTypes := #[22, 22] })
    {ao : Option Addr} {n c q : Nat} {l : List Att} (hs : a.eval s = .slice ao n c) (hx : a.eval x = .slice (some ⟨q, 0, none⟩) 1 1) (hM : Mp w w1 ao n c l) (y : Att) (hq : w1.heap[q]? = some (.cells #[.string y.1, .string y.2] 102)) (hlen : n + 1 ≤ 1000000)
    (hK : ∀ ao' n' c' w', Mp w w' ao' n' c' (l ++ [y]) → K (a.put o.dst (.slice ao' n' c')) w') :
    if Region.wanted o (yielded ops a.tmps) = true then Oper.wp Tryz.prog o a w1 K Q else E := by
  have hw : Region.wanted o (yielded ops a.tmps) = true := by simp [Region.wanted, hg]
  rw [if_pos hw]
  have hr : Rp w1 (some ⟨q, 0, none⟩) 1 1 [y] := ⟨rfl, Nat.le_refl _, fun j hj => ⟨q, 0, rfl, by
    rw [cell_of hq]
    match j, hj with
    | 0, _ => rfl
    | 1, _ => rfl⟩⟩
  obtain ⟨a2, n2, c2, w2, hrun, M2⟩ := hM.app (hr.src Tryz.underlying22) (fun _ => by omega) hlen
  have hr2 := hrun o.type
  unfold Oper.wp
  simp [execOp, hop, resolve, invoke, builtin, hs, hx, hr2, Result.andThen]
  exact hK a2 n2 c2 w2 M2


/-- No more of a text than m bytes. -/
def cutB (s : ByteArray) (m : Nat) : ByteArray := if m < s.size then s.extract 0 m else s

/-- The first six, none of them long. -/
def short (l : List Att) : List Att := (l.take 6).map fun a => (cutB a.1 20, cutB a.2 30)

theorem short_len (l : List Att) : (short l).length ≤ 6 := by
  unfold short
  simp
  omega

/-- The first k of them. -/
def shortTo (l : List Att) (k : Nat) : List Att := (l.take k).map fun a => (cutB a.1 20, cutB a.2 30)

theorem shortTo_snoc {l : List Att} {k : Nat} (h : k < l.length) : shortTo l (k + 1) = shortTo l k ++ [(cutB l[k].1 20, cutB l[k].2 30)] := by
  unfold shortTo
  rw [take_snoc h, List.map_append]
  rfl

theorem shortTo_len (l : List Att) (k : Nat) : (shortTo l k).length ≤ k := by
  unfold shortTo
  simp
  omega

set_option maxRecDepth 100000 in
set_option maxHeartbeats 1000000 in
theorem short_any (w : World) (l : List Att) (ao : Option Addr) (n c : Nat) (hr : Rp w ao n c l) (hl : n ≤ 140737488355328) :
    Calls Tryz.prog 26 #[.slice ao n c] w fun e w' => ∃ ao' n' c', e = .returned (.slice ao' n' c') ∧ Mp w w' ao' n' c' (short l) := by
  obtain rfl := hr.len
  go_enter Tryz.func26, Tryz.ntmps26
  go_wp2
  go_loopw [3, 4] (fun v i wr => ∃ (k : Nat) (ao' : Option Addr) (n' c' : Nat), k ≤ l.length ∧ k ≤ 6 ∧ i = .int .i64 k ∧ v = .slice ao' n' c' ∧ Mp w wr ao' n' c' (shortTo l k)) (fun _ i _ => 6 - (intOf i).toNat)
  case atStart => exact ⟨0, _, _, _, Nat.zero_le _, Nat.zero_le _, rfl, rfl, Mp.nil w⟩
  case round =>
    obtain ⟨k, ao', n', c', hk, hk6, rfl, rfl, M⟩ := hrel
    by_cases hlt : k < l.length
    · by_cases hlt6 : k < 6
      · obtain ⟨b1, o1, rfl, h1, h2⟩ := (hr.kept M.kp).get k hlt
        have hsn : Hid (shortTo l (k + 1) = shortTo l k ++ [(cutB l[k].1 20, cutB l[k].2 30)]) := shortTo_snoc hlt
        have hn : n' ≤ 1000 := by have := M.len; have := shortTo_len l k; omega
        have HX := fun w => cut_any w l[k].1 20 (by omega)
        have HY := fun w => cut_any w l[k].2 30 (by omega)
        have HC : ∀ v, Kp [] w v → v.cell? ⟨b1, o1 + k * 2, none⟩ = some (.string l[k].1) ∧ v.cell? ⟨b1, o1 + k * 2 + 1, none⟩ = some (.string l[k].2) := fun v kv => by
          obtain ⟨b2, o2, e, g1, g2⟩ := (hr.kept kv).get k hlt
          simp only [Option.some.injEq, Addr.mk.injEq, and_true] at e
          obtain ⟨rfl, rfl⟩ := e
          exact ⟨g1, g2⟩
        clear hr
        rw [show (if 20 < l[k].1.size then l[k].1.extract 0 20 else l[k].1) = cutB l[k].1 20 from rfl] at HX
        rw [show (if 30 < l[k].2.size then l[k].2.extract 0 30 else l[k].2) = cutB l[k].2 30 from rfl] at HY
        generalize l[k] = a at h1 h2 hsn HX HY HC
        generalize cutB a.1 20 = x at hsn HX
        generalize cutB a.2 30 = y at hsn HY
        have C1 : Hid (∀ v, Kp [] w v → v.cell? ⟨b1, o1 + k * 2, none⟩ = some (.string a.1) ∧ v.cell? ⟨b1, o1 + k * 2 + 1, none⟩ = some (.string a.2)) := HC
        clear HC
        have kp := M.kp
        go_wp2_with fail
        go_region_held3 (fun w' => w'.cell? ⟨b1, o1 + k * 2, none⟩ = some (.string a.1) ∧ w'.cell? ⟨b1, o1 + k * 2 + 1, none⟩ = some (.string a.2))
          (first
            | exact C1.out _ M4.kp
            | exact C1.out _ (kp.drew.alloc _)
            | exact C1.out _ kp.drew)
          (first
            | (go_at_call 25; have D2 := D1.out; refine (HY _).mono ?_; rintro e v1 ⟨rfl, rfl⟩)
            | (go_at_call 25; refine (HX _).mono ?_; rintro e v1 ⟨rfl, rfl⟩; have D1 : Hid True := trivial)
            | (refine step_one (by rfl) _ _ (by rfl) (by rfl) (by rfl) ((M.kept (Kp.refl _ _).drew).kept ((Kp.refl _ _).alloc _)) (x, y) (heap_new _ _) (by omega) ?_; intro a4 n4 c4 w4 M4))
        clear C1 HX HY h1 h2 M kp
        go_wp2
        go_roundw
        case rel => exact ⟨k + 1, _, _, _, by omega, by omega, by go_num, rfl, by rw [hsn.out]; exact M4⟩
        case measure => simp [intOf]; omega
      · obtain rfl : k = 6 := by omega
        go_wp2
        go_ret
        exact ⟨_, _, _, rfl, M⟩
    · obtain rfl : k = l.length := by omega
      have e1 : Hid (shortTo l l.length = short l) := by unfold shortTo short; rw [List.take_of_length_le (Nat.le_refl _), List.take_of_length_le hk6]; exact rfl
      go_wp2
      go_ret
      exact ⟨_, _, _, rfl, by rw [← e1.out]; exact M⟩

end Go.Proofs.YtpkppobkagdhkaaGreat
