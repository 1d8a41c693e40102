/-
  OpBack: what is asked of the bytes.
-/
import Derived.Test.YtpjkpobdkmcedaaDoorBacA
import Derived.Test.YtpjkpobdkmcedaaDoorDecE
import Derived.Test.YtpjkpobdkmcedaaDoorRoomy
namespace Go.Proofs.YtpjkpobdkmcedaaDoor
open Go.RowKit Utf
set_option linter.unusedVariables false

theorem full_take {W : World} {a : Addr} {n : Nat} {zs : List Int} (hn : n = zs.length) (h : Rb W (some a) (n + 80) (n + 80) (b8 (roomy zs))) : Rb W (some a) n (n + 80) (b8 zs) := by
  have h2 := h.take n (by omega)
  rw [b8_take, hn, roomy_take] at h2
  rw [hn] at h ⊢
  exact h2

theorem given_of {w W : World} {a : Option Addr} {n c : Nat} {M : List Q} (h : Mq w W a n c M) (hok : ∀ q, q ∈ M → okO q.1 = true) (hl : (obs (os M)).length ≤ 50000) : Given W a n c M :=
  ⟨h.rq, fun q hq => ⟨(h.ar q hq).rp, by
    have h1 := Rp.len (h.ar q hq).rp
    have h2 := (ok_parts (hok q hq)).2.2.2.1
    omega⟩, by
    have h1 := h.len
    have h2 := obs_len_ge (os M)
    rw [os_len] at h2
    omega⟩

end Go.Proofs.YtpjkpobdkmcedaaDoor
