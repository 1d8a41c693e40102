/-
  Keys of maps.
-/
import Derived.Test.YtfobbgmfbpoigaaUniq
import Derived.Maps.OwnSet
import Derived.Maps.OwnOps
namespace Go.Proofs.Ytfobbgmfbpoigaa
open Go.RowKit Go.Maps
set_option linter.unusedSimpArgs false

/-- How a key reads. -/
def kl (x : ByteArray) : Lit := .string x.data.toList

theorem law9 : Keyed Try.prog 9 := string_keyed Try.underlying9

theorem kp_grown {w w' : World} {b : Nat} (h : w.grownBy w' (some b)) : Kp [b] w w' :=
  ⟨h.os, h.tape, h.output, h.size, fun k hk hn => h.block k hk (fun e => by simp at e; exact hn (by simp [e]))⟩

theorem key_of {x : ByteArray} (h : x.size ≤ 140737488355328) : keyOf Try.prog 9 (.string x) = some (kl x) := WideMaps.keyOf_string_mk Try.underlying9 (by unfold maxLen; omega)

theorem kl_key (x : ByteArray) : WideAt.IsKeyLit (kl x) := trivial

theorem kl_inj {x y : ByteArray} (h : kl x = kl y) : x = y := by
  unfold kl at h
  simp only [Lit.string.injEq] at h
  exact ByteArray.ext (Array.ext' h)

end Go.Proofs.Ytfobbgmfbpoigaa
