/-
  A token's attributes in memory of their own: the program's ownAttrs; where the run of Texts ends: its runEnd.
-/
import Derived.Test.YtgeebmlincddkaaToks
import Derived.Test.YtgeebmlincddkaaJoined
namespace Go.Proofs.Ytgeebmlincddkaa
open Go.RowKit

/-- append of one, as a step of a region that draws its order; what lies elsewhere is kept. -/
theorem step_kept {ops : Array Oper} {o : Oper} {a : Act} {w w1 : World} {K : Act → World → Prop} {Q : Exit → Act → World → Prop} {E : Prop}
    (hg : o.guard = none) (s x : Operand) (hop : o.op = Op.call { callee := Callee.builtin Builtin.append, args := #[s, x], argTypes := #[22, 22] })
    {ao : Option Addr} {n c q : Nat} {l : List Att} (hs : a.eval s = .slice ao n c) (hx : a.eval x = .slice (some ⟨q, 0, none⟩) 1 1) (hM : Mp w w1 ao n c l) (y : Att) (hq : w1.heap[q]? = some (.cells #[.string y.1, .string y.2] 26)) (hlen : n + 1 ≤ 1000000)
    (hK : ∀ ao' n' c' w', Mp w w' ao' n' c' (l ++ [y]) → Kp (blk (.slice ao n c)) w1 w' → K (a.put o.dst (.slice ao' n' c')) w') :
    if Region.wanted o (yielded ops a.tmps) = true then Oper.wp Try.prog o a w1 K Q else E := by
  have hw : Region.wanted o (yielded ops a.tmps) = true := by simp [Region.wanted, hg]
  rw [if_pos hw]
  have hr : Rp w1 (some ⟨q, 0, none⟩) 1 1 [y] := ⟨rfl, Nat.le_refl _, fun j hj => ⟨q, 0, rfl, by
    rw [cell_of hq]
    match j, hj with
    | 0, _ => rfl
    | 1, _ => rfl⟩⟩
  obtain ⟨h1, h2, h3⟩ := hM
  obtain ⟨v', w2, hrun, o2, k2, b2, a2, c2, rfl⟩ := appK Try.underlying22 info23 rfl (by decide) w1 _ _ _ h1 _ 1 (cs [y]) (hr.src Try.underlying22) (fun _ => by omega) hlen
  have M2 : Mp w w2 (some a2) (n + 1) c2 (l ++ [y]) := ⟨by rw [cs_append]; exact o2, h2.trans k2 (fun x hx => Or.inr (h3 x hx)), fun k hk => by
    rcases b2 k hk with h4 | h4
    · exact h3 k h4
    · have := h2.size
      omega⟩
  have hr2 := hrun o.type
  unfold Oper.wp
  simp [execOp, hop, resolve, invoke, builtin, hs, hx, hr2, Result.andThen]
  exact hK _ _ _ w2 M2 k2

set_option maxHeartbeats 1000000 in
theorem ownattrs_any (w : World) (l : List Att) (ao : Option Addr) (n c : Nat) (hr : Rp w ao n c l) (hl : n ≤ 1000) (hf : fits l) :
    Calls Try.prog 36 #[.slice ao n c] w fun e w' => ∃ ao' n' c', e = .returned (.slice ao' n' c') ∧ Mp w w' ao' n' c' l := by
  obtain rfl := hr.len
  go_enter Try.func36, Try.ntmps36
  go_wp2
  go_loopw [3, 8] (fun v i wr => ∃ (k : Nat) (ao' : Option Addr) (n' c' : Nat), k ≤ l.length ∧ i = .int .i64 k ∧ v = .slice ao' n' c' ∧ Mp w wr ao' n' c' (l.take k)) (fun _ i _ => l.length - (intOf i).toNat)
  case atStart => exact ⟨0, _, _, _, Nat.zero_le _, rfl, rfl, Mp.nil w⟩
  case round =>
    obtain ⟨k, ao', n', c', hk, rfl, rfl, M⟩ := hrel
    by_cases hlt : k < l.length
    · obtain ⟨b1, o1, rfl, h1, h2⟩ := (hr.kept M.kp).get k hlt
      have hsn : Hid (l.take (k + 1) = l.take k ++ [l[k]]) := take_snoc hlt
      have hn : n' ≤ 1000 := by have := M.len; simp at this; omega
      obtain ⟨z1, z2⟩ := hf l[k] (List.getElem_mem hlt)
      have HX := fun W => clone_any W l[k].1 (by omega)
      have HY := fun W => clone_any W l[k].2 (by omega)
      clear hr z1 z2
      generalize l[k] = a at h1 h2 hsn HX HY
      have M1 := M.kept ((Kp.refl [] wr).alloc (.cells #[.string a.1, .string a.2] 26))
      have C0 : (wr.alloc (.cells #[.string a.1, .string a.2] 26)).heap[wr.heap.size]? = some (.cells #[.string a.1, .string a.2] 26) := heap_new wr _
      go_wp2_with fail
      generalize wr.alloc (.cells #[.string a.1, .string a.2] 26) = V at M1 C0
      have C1 : Hid (∀ v, Kp [] V v → v.cell? ⟨wr.heap.size, 0, none⟩ = some (.string a.1) ∧ v.cell? ⟨wr.heap.size, 1, none⟩ = some (.string a.2)) := fun v kv => by
        have : v.heap[wr.heap.size]? = some (.cells #[.string a.1, .string a.2] 26) := by rw [kv.block _ (lt_of C0) (by simp)]; exact C0
        exact ⟨by rw [cell_of this]; rfl, by rw [cell_of this]; rfl⟩
      obtain ⟨g1, g2⟩ := C1.out V (Kp.refl _ _)
      have hbl : ∀ x, x ∈ blk (.slice ao' n' c') → x < wr.heap.size := M.1.lt
      have C3 : Hid (∀ v v', Kp [] V v → Kp (blk (.slice ao' n' c')) v v' → v'.cell? ⟨wr.heap.size, 0, none⟩ = some (.string a.1) ∧ v'.cell? ⟨wr.heap.size, 1, none⟩ = some (.string a.2)) := fun v v' kv kv' => by
        obtain ⟨q1, q2⟩ := C1.out v kv
        have hne : wr.heap.size ∉ blk (.slice ao' n' c') := fun h => by have := hbl _ h; omega
        exact ⟨by rw [kv'.cell (block_lt_of_cell q1) hne]; exact q1, by rw [kv'.cell (block_lt_of_cell q2) hne]; exact q2⟩
      clear C0 h1 h2 M hbl
      go_region_held3 (fun w' => w'.cell? ⟨wr.heap.size, 0, none⟩ = some (.string a.1) ∧ w'.cell? ⟨wr.heap.size, 1, none⟩ = some (.string a.2))
        (first
          | exact C3.out _ _ S3.out S4.out
          | exact C1.out _ S3.out
          | exact C1.out _ S2.out
          | exact C1.out _ S1.out
          | exact C1.out _ (Kp.refl [] V).drew)
        (first
          | (go_at_call 35; have D2 := S1.out; refine (HY _).mono ?_; rintro e v2 ⟨rfl, kk⟩; have S2 : Hid (Kp [] V v2) := S1.out.trans kk (fun x hx => by simp at hx); clear kk; have S3 : Hid (Kp [] V (v2.alloc (.cells #[.string a.1, .string a.2] 26))) := S2.out.alloc _)
          | (go_at_call 35; refine (HX _).mono ?_; rintro e v1 ⟨rfl, kk⟩; have S1 : Hid (Kp [] V v1) := (Kp.refl [] V).drew.trans kk (fun x hx => by simp at hx); clear kk)
          | (refine step_kept (by rfl) _ _ (by rfl) (by rfl) (by rfl) (M1.kept S3.out) a (heap_new _ _) (by omega) ?_; intro a4 n4 c4 w4 M4 kk; have S4 : Hid (Kp (blk (.slice ao' n' c')) _ w4) := kk; clear kk))
      clear C1 C3 HX HY g1 g2 S1 S2 S3 S4 M1
      go_wp2
      go_roundw
      case rel => exact ⟨k + 1, _, _, _, by omega, by go_num, rfl, by rw [hsn.out]; exact M4⟩
      case measure => simp [intOf]; omega
    · obtain rfl : k = l.length := by omega
      rw [List.take_length] at M
      go_wp2
      go_ret
      exact ⟨_, _, _, rfl, M⟩

set_option maxHeartbeats 1000000 in
theorem runend_any (w : World) (q : List Q) (ao : Option Addr) (n c : Nat) (hr : Rq w ao n c q) (hn : n ≤ 1000) (k : Nat) (hk : k < q.length) :
    Calls Try.prog 19 #[.slice ao n c, .int .i64 (k : Int)] w fun e w' => ∃ t : Nat, e = .returned (.int .i64 (t : Int)) ∧ RunTo (q.map Prod.fst) k t ∧ w' = w := by
  obtain rfl := hr.len
  obtain ⟨b1, o1, rfl, h0, _⟩ := hr.get k hk
  by_cases h4 : q[k].1.1 = 4
  · have hrun : Hid (∀ t, k < t → t ≤ q.length → (∀ j (hj : j < q.length), k ≤ j → j < t → q[j].1.1 = 4) → (∀ ht : t < q.length, ¬ q[t].1.1 = 4) → RunTo (q.map Prod.fst) k t) := fun t h1 h2 h3 h5 =>
      ⟨h1, by simpa using h2, fun h e => absurd (by simpa using h4) e, fun h _ j hj a b => by simpa using h3 j (by simpa using hj) a b, fun h _ he => by simpa using h5 (by simpa using he)⟩
    rw [h4] at h0
    go_enter Try.func19, Try.ntmps19
    go_wp2
    go_loopw [5] (fun i wr => ∃ t : Nat, i = .int .i64 (t : Int) ∧ w = wr ∧ k < t ∧ t ≤ q.length ∧ Hid (∀ j (hj : j < q.length), k ≤ j → j < t → q[j].1.1 = 4)) (fun i _ => q.length - (intOf i).toNat)
    case atStart => exact ⟨k + 1, by go_num, rfl, by omega, by omega, fun j hj a b => by
      obtain rfl : j = k := by omega
      exact h4⟩
    case round =>
      obtain ⟨t, rfl, rfl, h1, h2, h3⟩ := hrel
      by_cases hlt : t < q.length
      · obtain ⟨b2, o2, e, g0, _⟩ := hr.get t hlt
        simp only [Option.some.injEq, Addr.mk.injEq, and_true] at e
        obtain ⟨rfl, rfl⟩ := e
        by_cases h5 : q[t].1.1 = 4
        · have h6 : Hid (∀ j (hj : j < q.length), k ≤ j → j < t + 1 → q[j].1.1 = 4) := fun j hj a b => by
            by_cases e : j < t
            · exact h3.out j hj a e
            · obtain rfl : j = t := by omega
              exact h5
          rw [h5] at g0
          clear h3 h5 hrun hr
          go_wp2
          go_roundw
          case rel => exact ⟨t + 1, by go_num, by first | trivial | rfl, by omega, by omega, h6.out⟩
          case measure => simp [intOf]; omega
        · have hz := hrun.out t h1 h2 h3.out (fun _ => h5)
          have h6 : (q[t].1.1 == 4) = false := by simpa using h5
          clear h3 hrun hr
          generalize q[t].1.1 = m at g0 h5 h6
          go_wp2
          go_ret
          exact ⟨t, rfl, hz, rfl⟩
      · obtain rfl : t = q.length := by omega
        have hz := hrun.out _ h1 h2 h3.out (fun h => by omega)
        clear h3 hrun hr
        go_wp2
        go_ret
        exact ⟨q.length, rfl, hz, rfl⟩
  · have hz : RunTo (q.map Prod.fst) k (k + 1) := ⟨by omega, by simp; omega, fun _ _ => rfl, fun h e => absurd (by simpa using e) h4, fun h e => absurd (by simpa using e) h4⟩
    have h6 : (q[k].1.1 != 4) = true := by simpa using h4
    clear hr
    generalize q[k].1.1 = m at h0 h4 h6
    go_enter Try.func19, Try.ntmps19
    go_wp2
    go_ret
    exact ⟨k + 1, by go_num, hz, rfl⟩

end Go.Proofs.Ytgeebmlincddkaa
