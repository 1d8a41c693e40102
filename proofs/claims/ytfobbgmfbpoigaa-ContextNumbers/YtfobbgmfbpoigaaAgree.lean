/-
  A literal of texts; Head and Within of any range; the names that are asked most.
-/
import Derived.Test.YtfobbgmfbpoigaaBase
import Derived.Test.YtfobbgmfbpoigaaWords
import Derived.BigQuiet
import Derived.Great.BuildSlice
import Derived.Deep.Cut
import Derived.Deep.QuietTactic
namespace Go.Proofs.Ytfobbgmfbpoigaa
open Go.RowKit Utf
set_option linter.unusedSimpArgs false

/-- A literal of texts. -/
theorem build_texts {P : Program} {ops : Array Oper} {rest : List Oper} {o : Oper} {a : Act} {w : World} {Q : Exit → Act → World → Prop} (hg : o.guard = none) (t e : TypeId) (len : Nat) (parts : Array (Nat × Operand)) (ho : o.op = .buildSlice t len parts)
    (zs : List ByteArray)
    (hu : P.underlying t = some (.slice e)) (hsz : (P.info? e).map (·.size) = some 1) (hz : ((P.info? e).bind (·.zero)).isSome = true)
    (hlen : len = zs.length) (hpos : 0 < len) (hsmall : len ≤ 2 ^ 24)
    (hparts : parts.toList = (zs.zipIdx 0).map fun x => (x.2, Operand.const (Value.string x.1)))
    (h : wpList P ops Q rest (a.put o.dst (.slice (some ⟨w.heap.size, 0, none⟩) len len)) (w.alloc (.cells (tx zs).toArray e))) : wpList P ops Q (o :: rest) a w := by
  cases hie : P.info? e with
  | none => simp [hie] at hsz
  | some ie =>
    simp only [hie, Option.map_some, Option.some.injEq, Option.bind_some] at hsz hz
    obtain ⟨z, hzz⟩ := Option.isSome_iff_exists.1 hz
    refine wpList_buildSlice hg t e len parts ho _ ie z hu hie hzz (by rw [hsz]; omega) (by rw [hsz]; omega) ?_ h
    have he : (parts.map fun (i, x) => (i, a.eval x)).toList = ((tx zs).zipIdx 0).map fun x => (x.2, x.1) := by
      rw [Array.toList_map, hparts, tx, List.zipIdx_map, List.map_map, List.map_map]
      rfl
    rw [he, hsz]
    exact Great.fill_flat _ _ (fun v hv => by obtain ⟨n, _, rfl⟩ := List.mem_map.1 hv; rfl) (by simp [hlen, tx])


/-- What came of a call, seen from further back. -/
theorem from_back {f : FuncId} {args : Array Value} {E : Ending} {w0 w1 : World} (h : Calls Try.prog f args w1 fun e w' => e = E ∧ Kp [] w1 w') (k : Kp [] w0 w1) : Calls Try.prog f args w1 fun e w' => e = E ∧ Kp [] w0 w' :=
  h.mono fun _ _ x => ⟨x.1, k.trans x.2 (fun y hy => by simp at hy)⟩












/-- No more of a text than m bytes. -/
theorem cut_any (w : World) (s : ByteArray) (m : Nat) (hm : m ≤ 1000) : Calls Try.prog 12 #[.string s, .int .i64 (m : Int)] w fun e w' => e = .returned (.string (if m < s.size then s.extract 0 m else s)) ∧ w' = w := by
  by_cases h : m < s.size
  · rw [if_pos h]
    go_enter Try.func12, Try.ntmps12
    go_wp2
    go_ret
    exact ⟨rfl, rfl⟩
  · rw [if_neg h]
    go_enter Try.func12, Try.ntmps12
    go_wp2
    go_ret
    exact ⟨rfl, rfl⟩

theorem cut_size (s : ByteArray) (m : Nat) : (if m < s.size then s.extract 0 m else s).size ≤ m := by
  split
  · simp
    omega
  · omega

/-- A number brought into the range from 0 to m. -/
def wi (n : Int) (m : Nat) : Nat := (if n.tmod ((m : Int) + 1) < 0 then n.tmod ((m : Int) + 1) + ((m : Int) + 1) else n.tmod ((m : Int) + 1)).toNat

theorem wi_le (n : Int) (m : Nat) : wi n m ≤ m := by
  have t1 : n.tmod ((m : Int) + 1) < (m : Int) + 1 := Int.tmod_lt_of_pos n (by omega)
  have t2 : -((m : Int) + 1) < n.tmod ((m : Int) + 1) := Int.lt_tmod_of_pos n (by omega)
  unfold wi
  split <;> omega

theorem within_any (w : World) (n : Int) (m : Nat) (hm : m ≤ 2000000) : Calls Try.prog 15 #[.int .i64 n, .int .i64 0, .int .i64 (m : Int)] w fun e w' => e = .returned (.int .i64 (wi n m : Int)) ∧ w' = w := by
  have t1 : n.tmod ((m : Int) + 1) < (m : Int) + 1 := Int.tmod_lt_of_pos n (by omega)
  have t2 : -((m : Int) + 1) < n.tmod ((m : Int) + 1) := Int.lt_tmod_of_pos n (by omega)
  by_cases h : n.tmod ((m : Int) + 1) < 0
  · have hw : (wi n m : Int) = n.tmod ((m : Int) + 1) + ((m : Int) + 1) := by
      unfold wi
      rw [if_pos h]
      omega
    rw [hw]
    clear hw
    go_enter Try.func15, Try.ntmps15
    go_wp2
    go_ret
    refine ⟨?_, rfl⟩
    show Ending.returned (.int .i64 _) = _
    congr 2
    omega
  · have hw : (wi n m : Int) = n.tmod ((m : Int) + 1) := by
      unfold wi
      rw [if_neg h]
      omega
    rw [hw]
    clear hw
    go_enter Try.func15, Try.ntmps15
    go_wp2
    go_ret
    refine ⟨?_, rfl⟩
    show Ending.returned (.int .i64 _) = _
    congr 2


def NAMES : List (List UInt8) := [[112], [98], [105], [97], [100, 105, 118], [116, 97, 98, 108, 101], [116, 114], [116, 100], [116, 98, 111, 100, 121], [108, 105], [117, 108], [115, 118, 103], [116, 101, 109, 112, 108, 97, 116, 101], [102, 111, 114, 109], [98, 117, 116, 116, 111, 110], [110, 111, 98, 114], [104, 49], [104, 50], [98, 114], [116, 105, 116, 108, 101], [116, 101, 120, 116, 97, 114, 101, 97], [115, 116, 121, 108, 101], [115, 99, 114, 105, 112, 116], [112, 114, 101], [111, 98, 106, 101, 99, 116], [100, 100], [100, 116], [98, 111, 100, 121], [104, 116, 109, 108], [104, 101, 97, 100], [102, 111, 114, 101, 105, 103, 110, 111, 98, 106, 101, 99, 116], [100, 101, 115, 99], [115, 112, 97, 110], [102, 111, 110, 116], [116, 104], [116, 104, 101, 97, 100], [105, 110, 112, 117, 116], [104, 114], [120, 109, 112], [112, 108, 97, 105, 110, 116, 101, 120, 116], [110, 111, 115, 99, 114, 105, 112, 116], [105, 109, 103], [105, 109, 97, 103, 101], [108, 105, 110, 107], [97, 100, 100, 114, 101, 115, 115], [97, 112, 112, 108, 101, 116], [101, 109], [115, 101, 108, 101, 99, 116]]

theorem names_len : (NAMES.map txt).length = 48 := by kernel_rfl

theorem names_size : ∀ x, x ∈ NAMES.map txt → x.size ≤ 13 := by decide +kernel

end Go.Proofs.Ytfobbgmfbpoigaa
