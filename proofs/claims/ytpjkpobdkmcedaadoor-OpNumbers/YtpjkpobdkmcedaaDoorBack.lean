/-
  Calls that turn nothing, and what came of a call, seen from further back.
-/
import Derived.Test.YtpjkpobdkmcedaaDoorBase
namespace Go.Proofs.YtpjkpobdkmcedaaDoor
open Go.RowKit Utf

/-- A call that turns nothing. -/
theorem still {f : FuncId} {args : Array Value} {E : Ending} {w : World} (h : Calls Tryd.prog f args w fun e w' => e = E ∧ w' = w) : Calls Tryd.prog f args w fun e w' => e = E ∧ Kp [] w w' :=
  h.mono fun _ _ x => ⟨x.1, by rw [x.2]; exact Kp.refl _ _⟩

/-- What came of a call, seen from further back. -/
theorem from_back {f : FuncId} {args : Array Value} {E : Ending} {w0 w1 : World} (h : Calls Tryd.prog f args w1 fun e w' => e = E ∧ Kp [] w1 w') (k : Kp [] w0 w1) : Calls Tryd.prog f args w1 fun e w' => e = E ∧ Kp [] w0 w' :=
  h.mono fun _ _ x => ⟨x.1, k.trans x.2 (fun y hy => by simp at hy)⟩

end Go.Proofs.YtpjkpobdkmcedaaDoor
