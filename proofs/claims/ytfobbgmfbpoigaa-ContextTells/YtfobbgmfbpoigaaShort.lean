/-
  Short of the laws.
-/
import Derived.Test.YtfobbgmfbpoigaaLists
import Derived.Test.YtfobbgmfbpoigaaUniq
namespace Go.Proofs.Ytfobbgmfbpoigaa
open Go.RowKit Utf
set_option linter.unusedSimpArgs false

/-- append of one, as a step of a region that draws its order. -/
theorem step_one {ops : Array Oper} {o : Oper} {a : Act} {w w1 : World} {K : Act → World → Prop} {Q : Exit → Act → World → Prop} {E : Prop}
    (hg : o.guard = none) (s x : Operand) (hop : o.op = Op.call { callee := Callee.builtin Builtin.append, args := #[s, x], argTypes := #[24, 24] })
    {ao : Option Addr} {n c q : Nat} {l : List Att} (hs : a.eval s = .slice ao n c) (hx : a.eval x = .slice (some ⟨q, 0, none⟩) 1 1) (hM : Mp w w1 ao n c l) (y : Att) (hq : w1.heap[q]? = some (.cells #[.string y.1, .string y.2] 36)) (hlen : n + 1 ≤ 1000000)
    (hK : ∀ ao' n' c' w', Mp w w' ao' n' c' (l ++ [y]) → K (a.put o.dst (.slice ao' n' c')) w') :
    if Region.wanted o (yielded ops a.tmps) = true then Oper.wp Try.prog o a w1 K Q else E := by
  have hw : Region.wanted o (yielded ops a.tmps) = true := by simp [Region.wanted, hg]
  rw [if_pos hw]
  have hr : Rp w1 (some ⟨q, 0, none⟩) 1 1 [y] := ⟨rfl, Nat.le_refl _, fun j hj => ⟨q, 0, rfl, by
    rw [cell_of hq]
    match j, hj with
    | 0, _ => rfl
    | 1, _ => rfl⟩⟩
  obtain ⟨a2, n2, c2, w2, hrun, M2⟩ := hM.app (hr.src Try.underlying24) (fun _ => by omega) hlen
  have hr2 := hrun o.type
  unfold Oper.wp
  simp [execOp, hop, resolve, invoke, builtin, hs, hx, hr2, Result.andThen]
  exact hK a2 n2 c2 w2 M2


/-- No more of a text than m bytes. -/
def cutB (s : ByteArray) (m : Nat) : ByteArray := if m < s.size then s.extract 0 m else s

/-- The first six, none of them long. -/
def short (l : List Att) : List Att := (l.take 6).map fun a => (cutB a.1 20, cutB a.2 30)

theorem short_len (l : List Att) : (short l).length ≤ 6 := by
  unfold short
  simp
  omega

theorem short_fits (l : List Att) : fits (short l) := by
  intro a ha
  unfold short at ha
  obtain ⟨x, _, rfl⟩ := List.mem_map.1 ha
  have h1 := cut_size x.1 20
  have h2 := cut_size x.2 30
  exact ⟨Nat.le_trans h1 (by omega), Nat.le_trans h2 (by omega)⟩

/-- The first k of them. -/
def shortTo (l : List Att) (k : Nat) : List Att := (l.take k).map fun a => (cutB a.1 20, cutB a.2 30)

theorem shortTo_snoc {l : List Att} {k : Nat} (h : k < l.length) : shortTo l (k + 1) = shortTo l k ++ [(cutB l[k].1 20, cutB l[k].2 30)] := by
  unfold shortTo
  rw [take_snoc h, List.map_append]
  rfl

theorem shortTo_len (l : List Att) (k : Nat) : (shortTo l k).length ≤ k := by
  unfold shortTo
  simp
  omega

set_option maxHeartbeats 1000000 in
theorem short_any (w : World) (l : List Att) (ao : Option Addr) (n c : Nat) (hr : Rp w ao n c l) (hl : n ≤ 140737488355328) :
    Calls Try.prog 13 #[.slice ao n c] w fun e w' => ∃ ao' n' c', e = .returned (.slice ao' n' c') ∧ Mp w w' ao' n' c' (short l) := by
  obtain rfl := hr.len
  go_enter Try.func13, Try.ntmps13
  go_wp2
  go_loopw [3, 4] (fun v i wr => ∃ (k : Nat) (ao' : Option Addr) (n' c' : Nat), k ≤ l.length ∧ k ≤ 6 ∧ i = .int .i64 k ∧ v = .slice ao' n' c' ∧ Mp w wr ao' n' c' (shortTo l k)) (fun _ i _ => 6 - (intOf i).toNat)
  case atStart => exact ⟨0, _, _, _, Nat.zero_le _, Nat.zero_le _, rfl, rfl, Mp.nil w⟩
  case round =>
    obtain ⟨k, ao', n', c', hk, hk6, rfl, rfl, M⟩ := hrel
    by_cases hlt : k < l.length
    · by_cases hlt6 : k < 6
      · obtain ⟨b1, o1, rfl, h1, h2⟩ := (hr.kept M.kp).get k hlt
        have hsn : Hid (shortTo l (k + 1) = shortTo l k ++ [(cutB l[k].1 20, cutB l[k].2 30)]) := shortTo_snoc hlt
        have hn : n' ≤ 1000 := by have := M.len; have := shortTo_len l k; omega
        have HX := fun w => cut_any w l[k].1 20 (by omega)
        have HY := fun w => cut_any w l[k].2 30 (by omega)
        have HC : ∀ v, Kp [] w v → v.cell? ⟨b1, o1 + k * 2, none⟩ = some (.string l[k].1) ∧ v.cell? ⟨b1, o1 + k * 2 + 1, none⟩ = some (.string l[k].2) := fun v kv => by
          obtain ⟨b2, o2, e, g1, g2⟩ := (hr.kept kv).get k hlt
          simp only [Option.some.injEq, Addr.mk.injEq, and_true] at e
          obtain ⟨rfl, rfl⟩ := e
          exact ⟨g1, g2⟩
        clear hr
        rw [show (if 20 < l[k].1.size then l[k].1.extract 0 20 else l[k].1) = cutB l[k].1 20 from rfl] at HX
        rw [show (if 30 < l[k].2.size then l[k].2.extract 0 30 else l[k].2) = cutB l[k].2 30 from rfl] at HY
        generalize l[k] = a at h1 h2 hsn HX HY HC
        generalize cutB a.1 20 = x at hsn HX
        generalize cutB a.2 30 = y at hsn HY
        have C1 : Hid (∀ v, Kp [] w v → v.cell? ⟨b1, o1 + k * 2, none⟩ = some (.string a.1) ∧ v.cell? ⟨b1, o1 + k * 2 + 1, none⟩ = some (.string a.2)) := HC
        clear HC
        have kp := M.kp
        go_wp2_with fail
        go_region_held3 (fun w' => w'.cell? ⟨b1, o1 + k * 2, none⟩ = some (.string a.1) ∧ w'.cell? ⟨b1, o1 + k * 2 + 1, none⟩ = some (.string a.2))
          (first
            | exact C1.out _ M4.kp
            | exact C1.out _ (kp.drew.alloc _)
            | exact C1.out _ kp.drew)
          (first
            | (go_at_call 12; have D2 := D1.out; refine (HY _).mono ?_; rintro e v1 ⟨rfl, rfl⟩)
            | (go_at_call 12; refine (HX _).mono ?_; rintro e v1 ⟨rfl, rfl⟩; have D1 : Hid True := trivial)
            | (refine step_one (by rfl) _ _ (by rfl) (by rfl) (by rfl) ((M.kept (Kp.refl _ _).drew).kept ((Kp.refl _ _).alloc _)) (x, y) (heap_new _ _) (by omega) ?_; intro a4 n4 c4 w4 M4))
        clear C1 HX HY h1 h2 M kp
        go_wp2
        go_roundw
        case rel => exact ⟨k + 1, _, _, _, by omega, by omega, by go_num, rfl, by rw [hsn.out]; exact M4⟩
        case measure => simp [intOf]; omega
      · obtain rfl : k = 6 := by omega
        go_wp2
        go_ret
        exact ⟨_, _, _, rfl, M⟩
    · obtain rfl : k = l.length := by omega
      have e1 : Hid (shortTo l l.length = short l) := by unfold shortTo short; rw [List.take_of_length_le (Nat.le_refl _), List.take_of_length_le hk6]; exact rfl
      go_wp2
      go_ret
      exact ⟨_, _, _, rfl, by rw [← e1.out]; exact M⟩

end Go.Proofs.Ytfobbgmfbpoigaa
