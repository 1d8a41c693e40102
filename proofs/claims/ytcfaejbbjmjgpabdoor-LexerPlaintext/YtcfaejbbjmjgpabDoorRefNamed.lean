/-
  The document's table and its Named, of any text.
-/
import Derived.Test.YtcfaejbbjmjgpabDoorGroundA
import Derived.BigQuiet
import Derived.Great.BuildSlice
import Derived.Deep.Cut
import Derived.Deep.QuietTactic
namespace Go.Proofs.YtcfaejbbjmjgpabDoor
open Go.RowKit Utf

/-- A literal of texts. -/
theorem build_texts {P : Program} {ops : Array Oper} {rest : List Oper} {o : Oper} {a : Act} {w : World} {Q : Exit → Act → World → Prop} (hg : o.guard = none) (t e : TypeId) (len : Nat) (parts : Array (Nat × Operand)) (ho : o.op = .buildSlice t len parts)
    (zs : List ByteArray)
    (hu : P.underlying t = some (.slice e)) (hsz : (P.info? e).map (·.size) = some 1) (hz : ((P.info? e).bind (·.zero)).isSome = true)
    (hlen : len = zs.length) (hpos : 0 < len) (hsmall : len ≤ 2 ^ 24)
    (hparts : parts.toList = (zs.zipIdx 0).map fun x => (x.2, Operand.const (Value.string x.1)))
    (h : wpList P ops Q rest (a.put o.dst (.slice (some ⟨w.heap.size, 0, none⟩) len len)) (w.alloc (.cells (tx zs).toArray e))) : wpList P ops Q (o :: rest) a w := by
  cases hie : P.info? e with
  | none => simp [hie] at hsz
  | some ie =>
    simp only [hie, Option.map_some, Option.some.injEq, Option.bind_some] at hsz hz
    obtain ⟨z, hzz⟩ := Option.isSome_iff_exists.1 hz
    refine wpList_buildSlice hg t e len parts ho _ ie z hu hie hzz (by rw [hsz]; omega) (by rw [hsz]; omega) ?_ h
    have he : (parts.map fun (i, x) => (i, a.eval x)).toList = ((tx zs).zipIdx 0).map fun x => (x.2, x.1) := by
      rw [Array.toList_map, hparts, tx, List.zipIdx_map, List.map_map, List.map_map]
      rfl
    rw [he, hsz]
    exact Great.fill_flat _ _ (fun v hv => by obtain ⟨n, _, rfl⟩ := List.mem_map.1 hv; rfl) (by simp [hlen, tx])


theorem zip_len : (NM.zip MN).length = 51 := by kernel_rfl

theorem rn_step (s : ByteArray) (k : Nat) (hk : k < 51) (x m : ByteArray) (hx : NM[k]? = some x) (hm : MN[k]? = some m) (b : ByteArray) (n : Nat) :
    rn s ((NM.zip MN).drop k) (b, n) = rn s ((NM.zip MN).drop (k + 1)) (if n < x.size ∧ pre x s = true then (m, x.size) else (b, n)) := by
  rw [List.drop_eq_getElem_cons (by rw [zip_len]; exact hk), rn]
  have e1 : ((NM.zip MN)[k]'(by rw [zip_len]; exact hk)) = (x, m) := by
    rw [List.getElem_zip]
    rw [List.getElem?_eq_some_iff] at hx hm
    obtain ⟨_, rfl⟩ := hx
    obtain ⟨_, rfl⟩ := hm
    rfl
  rw [e1]

theorem zip_none : (NM.zip MN).drop 51 = [] := by kernel_rfl

end Go.Proofs.YtcfaejbbjmjgpabDoor
