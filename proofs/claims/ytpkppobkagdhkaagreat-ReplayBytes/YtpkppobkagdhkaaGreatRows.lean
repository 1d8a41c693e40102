/-
  No cell of these rows narrows 'for every input' (looked for: loops, veiled, ifaces, maps, wideKeys, modest, calm, conditions, laid).
  DERIVED. THE GIVEN ROWS OF THIS SEAT. 5 by the template 'for every input the law returns true; each argument reads behind the call as it read before'; 0 by the template 'total and deterministic' (their statements: YtpkppobkagdhkaaGreatTotals.lean).
  GIVEN WITH THE SEED: the statements are not yours to turn. If you find one false, say at which input.
  Laid BY PROGRAM, IN A SANDBOX (cutbox-rows.mjs): the forced cells as the released guide's own fill.sh prints them over the translation 0a203635e427c37e… (all of the seat's roots in one cut). By AI agents, Wed Nov 11 2026. No macro, syntax, notation, axiom, sorry.
-/
import Derived.Test.YtpkppobkagdhkaaGreatChecked
import GoSem.Claim
import GoSem.ClaimJoined
import GoSem.ClaimMapViews
import Derived.JoinedTies
import Derived.KernelRfl
namespace Go.Proofs.YtpkppobkagdhkaaGreat
/- THE CELL 'sum', in the pinned program and in every row, IS THE sha256 OF THE DUMP (.gsa) THAT YtpkppobkagdhkaaGreatProg.lean LOADS. Nothing in Lean hashes anything: it is a label: what it is worth is what the hold of that sum in a sandbox is worth. -/
noncomputable def Tryz.pinned : Pinned := { name := "ytpkppobkagdhkaagreat", sum := "0a203635e427c37effb23ce44966682d9d3560a1c0046c7a3bf520cf85540b45", checked := Tryz.checked }
namespace Rows
def none {H : Type} : Left H := { results := [], args := [] }

/-- 'arbourlaw17.ReplayNumbers': WHATEVER THE INPUT: true; the input reads as it did. -/
def replayNumbersSpec : ChangeSpec := { name := "replayNumbers", fn := fun _ => fun
  | [] => { results := [.lit (.bool true)], args := [] }
  | _ => none }
def replayNumbersRow : OpenClaim := { program := "ytpkppobkagdhkaagreat", sum := "0a203635e427c37effb23ce44966682d9d3560a1c0046c7a3bf520cf85540b45", func := "arbour/arbourlaw17.ReplayNumbers", spec := "replayNumbers", recurses := true, apart := false }
def ReplayNumbersSaid : Prop := replayNumbersRow.holds Tryz.pinned (OpenSpec.ofChange replayNumbersSpec)

/-- ITS FALSE NEIGHBOUR: 'it returns false'. Refute it at one input. -/
def replayNumbersWrong : ChangeSpec := { name := "replayNumbers", fn := fun _ => fun
  | [] => { results := [.lit (.bool false)], args := [] }
  | _ => none }
def ReplayNumbersWrongFalsely : Prop := replayNumbersRow.holds Tryz.pinned (OpenSpec.ofChange replayNumbersWrong)

/-- 'arbourlaw17.ReplayTells': WHATEVER THE INPUT: true; the input reads as it did. -/
def replayTellsSpec : ChangeSpec := { name := "replayTells", fn := fun _ => fun
  | [d] => { results := [.lit (.bool true)], args := [d] }
  | _ => none }
def replayTellsRow : OpenClaim := { program := "ytpkppobkagdhkaagreat", sum := "0a203635e427c37effb23ce44966682d9d3560a1c0046c7a3bf520cf85540b45", func := "arbour/arbourlaw17.ReplayTells", spec := "replayTells", recurses := true, apart := false }
def ReplayTellsSaid : Prop := replayTellsRow.holds Tryz.pinned (OpenSpec.ofChange replayTellsSpec)

/-- ITS FALSE NEIGHBOUR: 'it returns false'. Refute it at one input. -/
def replayTellsWrong : ChangeSpec := { name := "replayTells", fn := fun _ => fun
  | [d] => { results := [.lit (.bool false)], args := [d] }
  | _ => none }
def ReplayTellsWrongFalsely : Prop := replayTellsRow.holds Tryz.pinned (OpenSpec.ofChange replayTellsWrong)

/-- 'arbourlaw17.ReplayPlays': WHATEVER THE INPUT: true; the input reads as it did. -/
def replayPlaysSpec : ChangeSpec := { name := "replayPlays", fn := fun _ => fun
  | [d] => { results := [.lit (.bool true)], args := [d] }
  | _ => none }
def replayPlaysRow : OpenClaim := { program := "ytpkppobkagdhkaagreat", sum := "0a203635e427c37effb23ce44966682d9d3560a1c0046c7a3bf520cf85540b45", func := "arbour/arbourlaw17.ReplayPlays", spec := "replayPlays", recurses := true, apart := false }
def ReplayPlaysSaid : Prop := replayPlaysRow.holds Tryz.pinned (OpenSpec.ofChange replayPlaysSpec)

/-- ITS FALSE NEIGHBOUR: 'it returns false'. Refute it at one input. -/
def replayPlaysWrong : ChangeSpec := { name := "replayPlays", fn := fun _ => fun
  | [d] => { results := [.lit (.bool false)], args := [d] }
  | _ => none }
def ReplayPlaysWrongFalsely : Prop := replayPlaysRow.holds Tryz.pinned (OpenSpec.ofChange replayPlaysWrong)

/-- 'arbourlaw17.ReplayBytes': WHATEVER THE INPUT: true; the input reads as it did. -/
def replayBytesSpec : ChangeSpec := { name := "replayBytes", fn := fun _ => fun
  | [d1, d2] => { results := [.lit (.bool true)], args := [d1, d2] }
  | _ => none }
def replayBytesRow : OpenClaim := { program := "ytpkppobkagdhkaagreat", sum := "0a203635e427c37effb23ce44966682d9d3560a1c0046c7a3bf520cf85540b45", func := "arbour/arbourlaw17.ReplayBytes", spec := "replayBytes", apart := false }
def ReplayBytesSaid : Prop := replayBytesRow.holds Tryz.pinned (OpenSpec.ofChange replayBytesSpec)

/-- ITS FALSE NEIGHBOUR: 'it returns false'. Refute it at one input. -/
def replayBytesWrong : ChangeSpec := { name := "replayBytes", fn := fun _ => fun
  | [d1, d2] => { results := [.lit (.bool false)], args := [d1, d2] }
  | _ => none }
def ReplayBytesWrongFalsely : Prop := replayBytesRow.holds Tryz.pinned (OpenSpec.ofChange replayBytesWrong)

/-- 'arbourlaw17.ReplayHandles': WHATEVER THE INPUT: true; the input reads as it did. -/
def replayHandlesSpec : ChangeSpec := { name := "replayHandles", fn := fun _ => fun
  | [d1, d2] => { results := [.lit (.bool true)], args := [d1, d2] }
  | _ => none }
def replayHandlesRow : OpenClaim := { program := "ytpkppobkagdhkaagreat", sum := "0a203635e427c37effb23ce44966682d9d3560a1c0046c7a3bf520cf85540b45", func := "arbour/arbourlaw17.ReplayHandles", spec := "replayHandles", recurses := true, apart := false }
def ReplayHandlesSaid : Prop := replayHandlesRow.holds Tryz.pinned (OpenSpec.ofChange replayHandlesSpec)

/-- ITS FALSE NEIGHBOUR: 'it returns false'. Refute it at one input. -/
def replayHandlesWrong : ChangeSpec := { name := "replayHandles", fn := fun _ => fun
  | [d1, d2] => { results := [.lit (.bool false)], args := [d1, d2] }
  | _ => none }
def ReplayHandlesWrongFalsely : Prop := replayHandlesRow.holds Tryz.pinned (OpenSpec.ofChange replayHandlesWrong)

/- THE SECOND FORM. 'bulk': how many values and letters a reading holds, each counted each time it is reached (what is shared counts as often as it is met; a slice's spare places count too). A statement '..UptoSaid' is the law's where the arguments, and the package variables that the reading takes, are together of bulk at most 1048576: NARROWER than '..Said'. Prove '..Said' where nothing that the law and all that it calls make is longer than what came in: it says more and counts as full. Else prove '..UptoSaid'. A law counts once. -/
mutual
def uptoBulk {H : Type} : DataW H → Nat
  | .lit (.string bytes) => bytes.length + 1
  | .lit _ => 1
  | .nil => 1
  | .ptr d => uptoBulk d + 1
  | .slice elems spare => uptoBulkAll elems + uptoBulkAll spare + 1
  | .agg parts => uptoBulkAll parts + 1
  | .iface _ d => uptoBulk d + 1
  | .map entries => uptoBulkEntries entries + 1
  | .held _ => 1
def uptoBulkAll {H : Type} : List (DataW H) → Nat
  | [] => 0
  | d :: r => uptoBulk d + uptoBulkAll r
def uptoBulkEntries {H : Type} : List (Lit × DataW H) → Nat
  | [] => 0
  | x :: r => uptoBulkEntry x + uptoBulkEntries r
def uptoBulkEntry {H : Type} : Lit × DataW H → Nat
  | (.string bytes, d) => bytes.length + uptoBulk d + 1
  | (_, d) => uptoBulk d + 1
 end
def uptoSmall : (H : Type) → List (DataW H) → Bool := fun _ ds => decide (uptoBulkAll ds ≤ 1048576)
def OpenSpec.upto (s : _root_.Go.ChangeSpec) : _root_.Go.OpenSpec := { _root_.Go.OpenSpec.ofChange s with cond := some uptoSmall }

/-- 'arbourlaw17.ReplayNumbers', WHERE WHAT IT READS IS OF BULK AT MOST 1048576: true; the input reads as it did. -/
def replayNumbersUptoRow : OpenClaim := { program := "ytpkppobkagdhkaagreat", sum := "0a203635e427c37effb23ce44966682d9d3560a1c0046c7a3bf520cf85540b45", func := "arbour/arbourlaw17.ReplayNumbers", spec := "replayNumbers", recurses := true, apart := false, narrowed := true }
def ReplayNumbersUptoSaid : Prop := replayNumbersUptoRow.holds Tryz.pinned (OpenSpec.upto replayNumbersSpec)

/-- 'arbourlaw17.ReplayTells', WHERE WHAT IT READS IS OF BULK AT MOST 1048576: true; the input reads as it did. -/
def replayTellsUptoRow : OpenClaim := { program := "ytpkppobkagdhkaagreat", sum := "0a203635e427c37effb23ce44966682d9d3560a1c0046c7a3bf520cf85540b45", func := "arbour/arbourlaw17.ReplayTells", spec := "replayTells", recurses := true, apart := false, narrowed := true }
def ReplayTellsUptoSaid : Prop := replayTellsUptoRow.holds Tryz.pinned (OpenSpec.upto replayTellsSpec)

/-- 'arbourlaw17.ReplayPlays', WHERE WHAT IT READS IS OF BULK AT MOST 1048576: true; the input reads as it did. -/
def replayPlaysUptoRow : OpenClaim := { program := "ytpkppobkagdhkaagreat", sum := "0a203635e427c37effb23ce44966682d9d3560a1c0046c7a3bf520cf85540b45", func := "arbour/arbourlaw17.ReplayPlays", spec := "replayPlays", recurses := true, apart := false, narrowed := true }
def ReplayPlaysUptoSaid : Prop := replayPlaysUptoRow.holds Tryz.pinned (OpenSpec.upto replayPlaysSpec)

/-- 'arbourlaw17.ReplayBytes', WHERE WHAT IT READS IS OF BULK AT MOST 1048576: true; the input reads as it did. -/
def replayBytesUptoRow : OpenClaim := { program := "ytpkppobkagdhkaagreat", sum := "0a203635e427c37effb23ce44966682d9d3560a1c0046c7a3bf520cf85540b45", func := "arbour/arbourlaw17.ReplayBytes", spec := "replayBytes", apart := false, narrowed := true }
def ReplayBytesUptoSaid : Prop := replayBytesUptoRow.holds Tryz.pinned (OpenSpec.upto replayBytesSpec)

/-- 'arbourlaw17.ReplayHandles', WHERE WHAT IT READS IS OF BULK AT MOST 1048576: true; the input reads as it did. -/
def replayHandlesUptoRow : OpenClaim := { program := "ytpkppobkagdhkaagreat", sum := "0a203635e427c37effb23ce44966682d9d3560a1c0046c7a3bf520cf85540b45", func := "arbour/arbourlaw17.ReplayHandles", spec := "replayHandles", recurses := true, apart := false, narrowed := true }
def ReplayHandlesUptoSaid : Prop := replayHandlesUptoRow.holds Tryz.pinned (OpenSpec.upto replayHandlesSpec)

end Rows
end Go.Proofs.YtpkppobkagdhkaaGreat
