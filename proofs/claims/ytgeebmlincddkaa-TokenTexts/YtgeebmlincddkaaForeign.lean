/-
  Foreign, of the program and of the document.
-/
import Derived.Test.YtgeebmlincddkaaAlike
namespace Go.Proofs.Ytgeebmlincddkaa
open Go.RowKit

/-- The first k of l as SVG writes them, the others as they are. -/
def part (l : List Att) (k : Nat) : List Att := foreign (l.take k) ++ l.drop k

theorem part_len (l : List Att) (k : Nat) : (part l k).length = l.length := by
  unfold part foreign
  simp
  omega

theorem part_get {l : List Att} {k : Nat} (h : k < l.length) : (part l k)[k]? = some l[k] := by
  unfold part foreign
  rw [List.getElem?_append_right (by simp; omega)]
  simp
  rw [show k - min k l.length = 0 by omega]
  simp [h]

theorem part_step {l : List Att} {k : Nat} (h : k < l.length) : part l (k + 1) = (part l k).set k (fix l[k].1, l[k].2) := by
  unfold part foreign
  have hz : k - (List.map (fun a : Att => (fix a.1, a.2)) (l.take k)).length = 0 := by simp; omega
  rw [take_snoc h, List.map_append, List.append_assoc, List.drop_eq_getElem_cons h, List.set_append_right _ _ (by simp; omega), hz]
  rfl

theorem part_end (l : List Att) : part l l.length = foreign l := by
  unfold part
  simp

/-- A name turned, in the cells. -/
theorem cs_set : ∀ (l : List Att) (k : Nat) (x : ByteArray) (h : k < l.length), cs (l.set k (x, l[k].2)) = (cs l).set (k * 2) (.string x)
  | a :: l, 0, x, _ => by simp [cs]
  | a :: l, k + 1, x, h => by
    rw [show (k + 1) * 2 = k * 2 + 1 + 1 by omega]
    simp only [List.set_cons_succ, cs, List.getElem_cons_succ]
    rw [cs_set l k x (by simpa using h)]

/-- A name is stored into a slice that a call made. -/
theorem Mp.store {w w1 : World} {ao : Option Addr} {n c : Nat} {l : List Att} (h : Mp w w1 ao n c l) (k : Nat) (x : ByteArray) (hk : k < l.length) :
    ∃ b off, ao = some ⟨b, off, none⟩ ∧ w1.cell? ⟨b, off + k * 2, none⟩ = some (.string l[k].1) ∧ w1.frozen? ⟨b, off + k * 2, none⟩ = false ∧ Mp w (w1.setCell ⟨b, off + k * 2, none⟩ (.string x)) ao n c (l.set k (x, l[k].2)) := by
  have hl := h.len
  obtain ⟨⟨h0, h1⟩, h2, h3⟩ := h
  rcases h1 with ⟨_, h5⟩ | ⟨g, o, cap, cur, hv, hg, e1, e2, e3, e4⟩
  · omega
  · simp only [Value.slice.injEq] at hv
    obtain ⟨rfl, _, rfl⟩ := hv
    have hb : w.heap.size ≤ g := h3 g (by simp [blk])
    refine ⟨g, o, rfl, by rw [cell_of hg, e4 _ (by omega), cs_fst l k hk], frozen_of hg _, ⟨?_, Or.inr ⟨g, o, c, _, rfl, setCell_block hg _ _, e1, e2, by simpa using e3, fun j hj => ?_⟩⟩, h2.setCell (Or.inr hb) _, h3⟩
    · rw [cs_len] at *
      simpa using h0
    · rw [cs_set l k x hk, Array.getElem?_setIfInBounds, List.getElem?_set]
      by_cases hjk : k * 2 = j
      · subst hjk
        rw [if_pos rfl, if_pos (by have := Nat.mul_le_mul_right 2 e1; omega), if_pos rfl, if_pos (by rw [h0]; exact hj)]
      · rw [if_neg (by omega), if_neg hjk, e4 j hj]


theorem foreign_snoc {l : List Att} {k : Nat} (h : k < l.length) : foreign (l.take (k + 1)) = foreign (l.take k) ++ [(fix l[k].1, l[k].2)] := by
  unfold foreign
  rw [take_snoc h, List.map_append]
  rfl

/-- append of one, as a step of a region that draws its order. -/
theorem step_one {ops : Array Oper} {o : Oper} {a : Act} {w w1 : World} {K : Act → World → Prop} {Q : Exit → Act → World → Prop} {E : Prop}
    (hg : o.guard = none) (s x : Operand) (hop : o.op = Op.call { callee := Callee.builtin Builtin.append, args := #[s, x], argTypes := #[22, 22] })
    {ao : Option Addr} {n c q : Nat} {l : List Att} (hs : a.eval s = .slice ao n c) (hx : a.eval x = .slice (some ⟨q, 0, none⟩) 1 1) (hM : Mp w w1 ao n c l) (y : Att) (hq : w1.heap[q]? = some (.cells #[.string y.1, .string y.2] 26)) (hlen : n + 1 ≤ 1000000)
    (hK : ∀ ao' n' c' w', Mp w w' ao' n' c' (l ++ [y]) → K (a.put o.dst (.slice ao' n' c')) w') :
    if Region.wanted o (yielded ops a.tmps) = true then Oper.wp Try.prog o a w1 K Q else E := by
  have hw : Region.wanted o (yielded ops a.tmps) = true := by simp [Region.wanted, hg]
  rw [if_pos hw]
  have hr : Rp w1 (some ⟨q, 0, none⟩) 1 1 [y] := ⟨rfl, Nat.le_refl _, fun j hj => ⟨q, 0, rfl, by
    rw [cell_of hq]
    match j, hj with
    | 0, _ => rfl
    | 1, _ => rfl⟩⟩
  obtain ⟨a2, n2, c2, w2, hrun, M2⟩ := hM.app (hr.src Try.underlying22) (fun _ => by omega) hlen
  have hr2 := hrun o.type
  unfold Oper.wp
  simp [execOp, hop, resolve, invoke, builtin, hs, hx, hr2, Result.andThen]
  exact hK a2 n2 c2 w2 M2


/-- No more of a text than m bytes. -/
def cutB (s : ByteArray) (m : Nat) : ByteArray := if m < s.size then s.extract 0 m else s

/-- The first six, none of them long. -/
def short (l : List Att) : List Att := (l.take 6).map fun a => (cutB a.1 20, cutB a.2 30)

theorem short_len (l : List Att) : (short l).length ≤ 6 := by
  unfold short
  simp
  omega

theorem short_fits (l : List Att) : fits (short l) := by
  intro a ha
  unfold short at ha
  obtain ⟨x, _, rfl⟩ := List.mem_map.1 ha
  have h1 := cut_size x.1 20
  have h2 := cut_size x.2 30
  exact ⟨Nat.le_trans h1 (by omega), Nat.le_trans h2 (by omega)⟩

/-- The first k of them. -/
def shortTo (l : List Att) (k : Nat) : List Att := (l.take k).map fun a => (cutB a.1 20, cutB a.2 30)

theorem shortTo_snoc {l : List Att} {k : Nat} (h : k < l.length) : shortTo l (k + 1) = shortTo l k ++ [(cutB l[k].1 20, cutB l[k].2 30)] := by
  unfold shortTo
  rw [take_snoc h, List.map_append]
  rfl

theorem shortTo_len (l : List Att) (k : Nat) : (shortTo l k).length ≤ k := by
  unfold shortTo
  simp
  omega

set_option maxHeartbeats 1000000 in
theorem short_any (w : World) (l : List Att) (ao : Option Addr) (n c : Nat) (hr : Rp w ao n c l) (hl : n ≤ 140737488355328) :
    Calls Try.prog 22 #[.slice ao n c] w fun e w' => ∃ ao' n' c', e = .returned (.slice ao' n' c') ∧ Mp w w' ao' n' c' (short l) := by
  obtain rfl := hr.len
  go_enter Try.func22, Try.ntmps22
  go_wp2
  go_loopw [3, 4] (fun v i wr => ∃ (k : Nat) (ao' : Option Addr) (n' c' : Nat), k ≤ l.length ∧ k ≤ 6 ∧ i = .int .i64 k ∧ v = .slice ao' n' c' ∧ Mp w wr ao' n' c' (shortTo l k)) (fun _ i _ => 6 - (intOf i).toNat)
  case atStart => exact ⟨0, _, _, _, Nat.zero_le _, Nat.zero_le _, rfl, rfl, Mp.nil w⟩
  case round =>
    obtain ⟨k, ao', n', c', hk, hk6, rfl, rfl, M⟩ := hrel
    by_cases hlt : k < l.length
    · by_cases hlt6 : k < 6
      · obtain ⟨b1, o1, rfl, h1, h2⟩ := (hr.kept M.kp).get k hlt
        have hsn : Hid (shortTo l (k + 1) = shortTo l k ++ [(cutB l[k].1 20, cutB l[k].2 30)]) := shortTo_snoc hlt
        have hn : n' ≤ 1000 := by have := M.len; have := shortTo_len l k; omega
        have HX := fun w => cut_any w l[k].1 20 (by omega)
        have HY := fun w => cut_any w l[k].2 30 (by omega)
        have HC : ∀ v, Kp [] w v → v.cell? ⟨b1, o1 + k * 2, none⟩ = some (.string l[k].1) ∧ v.cell? ⟨b1, o1 + k * 2 + 1, none⟩ = some (.string l[k].2) := fun v kv => by
          obtain ⟨b2, o2, e, g1, g2⟩ := (hr.kept kv).get k hlt
          simp only [Option.some.injEq, Addr.mk.injEq, and_true] at e
          obtain ⟨rfl, rfl⟩ := e
          exact ⟨g1, g2⟩
        clear hr
        rw [show (if 20 < l[k].1.size then l[k].1.extract 0 20 else l[k].1) = cutB l[k].1 20 from rfl] at HX
        rw [show (if 30 < l[k].2.size then l[k].2.extract 0 30 else l[k].2) = cutB l[k].2 30 from rfl] at HY
        generalize l[k] = a at h1 h2 hsn HX HY HC
        generalize cutB a.1 20 = x at hsn HX
        generalize cutB a.2 30 = y at hsn HY
        have C1 : Hid (∀ v, Kp [] w v → v.cell? ⟨b1, o1 + k * 2, none⟩ = some (.string a.1) ∧ v.cell? ⟨b1, o1 + k * 2 + 1, none⟩ = some (.string a.2)) := HC
        clear HC
        have kp := M.kp
        go_wp2_with fail
        go_region_held3 (fun w' => w'.cell? ⟨b1, o1 + k * 2, none⟩ = some (.string a.1) ∧ w'.cell? ⟨b1, o1 + k * 2 + 1, none⟩ = some (.string a.2))
          (first
            | exact C1.out _ M4.kp
            | exact C1.out _ (kp.drew.alloc _)
            | exact C1.out _ kp.drew)
          (first
            | (go_at_call 21; have D2 := D1.out; refine (HY _).mono ?_; rintro e v1 ⟨rfl, rfl⟩)
            | (go_at_call 21; refine (HX _).mono ?_; rintro e v1 ⟨rfl, rfl⟩; have D1 : Hid True := trivial)
            | (refine step_one (by rfl) _ _ (by rfl) (by rfl) (by rfl) ((M.kept (Kp.refl _ _).drew).kept ((Kp.refl _ _).alloc _)) (x, y) (heap_new _ _) (by omega) ?_; intro a4 n4 c4 w4 M4))
        clear C1 HX HY h1 h2 M kp
        go_wp2
        go_roundw
        case rel => exact ⟨k + 1, _, _, _, by omega, by omega, by go_num, rfl, by rw [hsn.out]; exact M4⟩
        case measure => simp [intOf]; omega
      · obtain rfl : k = 6 := by omega
        go_wp2
        go_ret
        exact ⟨_, _, _, rfl, M⟩
    · obtain rfl : k = l.length := by omega
      have e1 : Hid (shortTo l l.length = short l) := by unfold shortTo short; rw [List.take_of_length_le (Nat.le_refl _), List.take_of_length_le hk6]; exact rfl
      go_wp2
      go_ret
      exact ⟨_, _, _, rfl, by rw [← e1.out]; exact M⟩

end Go.Proofs.Ytgeebmlincddkaa
