/-
  No cell of these rows narrows 'for every input' (looked for: loops, veiled, ifaces, maps, wideKeys, modest, calm, conditions, laid).
  DERIVED. THE GIVEN ROWS OF THIS SEAT. 4 by the template 'for every input the law returns true; each argument reads behind the call as it read before'; 0 by the template 'total and deterministic' (their statements: YtadcpkdnpfmphaaTotals.lean).
  GIVEN WITH THE SEED: the statements are not yours to turn. If you find one false, say at which input.
  Laid BY PROGRAM, IN A SANDBOX (cutbox-rows.mjs): the forced cells as the released guide's own fill.sh prints them over the translation 14dabc0c1b59609f… (all of the seat's roots in one cut). By AI agents, Wed Nov 11 2026. No macro, syntax, notation, axiom, sorry.
-/
import Derived.Test.YtadcpkdnpfmphaaChecked
import GoSem.Claim
import GoSem.ClaimJoined
import GoSem.ClaimMapViews
import Derived.JoinedTies
import Derived.KernelRfl
namespace Go.Proofs.Ytadcpkdnpfmphaa
/- THE CELL 'sum', in the pinned program and in every row, IS THE sha256 OF THE DUMP (.gsa) THAT YtadcpkdnpfmphaaProg.lean LOADS. Nothing in Lean hashes anything: it is a label: what it is worth is what the hold of that sum in a sandbox is worth. -/
noncomputable def Try.pinned : Pinned := { name := "ytadcpkdnpfmphaa", sum := "14dabc0c1b59609fd4d3142583bb228e680308e72da80d7affd2f35a2c87b8a5", checked := Try.checked }
namespace Rows
def none {H : Type} : Left H := { results := [], args := [] }

/-- 'arbourlaw19.ActiveNumbers': WHATEVER THE INPUT: true; the input reads as it did. -/
def activeNumbersSpec : ChangeSpec := { name := "activeNumbers", fn := fun _ => fun
  | [] => { results := [.lit (.bool true)], args := [] }
  | _ => none }
def activeNumbersRow : OpenClaim := { program := "ytadcpkdnpfmphaa", sum := "14dabc0c1b59609fd4d3142583bb228e680308e72da80d7affd2f35a2c87b8a5", func := "arbour/arbourlaw19.ActiveNumbers", spec := "activeNumbers", inPlace := ["slices.overlaps[*arbour/active.Entry[int]]"], unfollowed := true, recurses := true, apart := false }
def ActiveNumbersSaid : Prop := activeNumbersRow.holds Try.pinned (OpenSpec.ofChange activeNumbersSpec)

/-- ITS FALSE NEIGHBOUR: 'it returns false'. Refute it at one input. -/
def activeNumbersWrong : ChangeSpec := { name := "activeNumbers", fn := fun _ => fun
  | [] => { results := [.lit (.bool false)], args := [] }
  | _ => none }
def ActiveNumbersWrongFalsely : Prop := activeNumbersRow.holds Try.pinned (OpenSpec.ofChange activeNumbersWrong)

/-- 'arbourlaw19.ActivePlays': WHATEVER THE INPUT: true; the input reads as it did. -/
def activePlaysSpec : ChangeSpec := { name := "activePlays", fn := fun _ => fun
  | [d] => { results := [.lit (.bool true)], args := [d] }
  | _ => none }
def activePlaysRow : OpenClaim := { program := "ytadcpkdnpfmphaa", sum := "14dabc0c1b59609fd4d3142583bb228e680308e72da80d7affd2f35a2c87b8a5", func := "arbour/arbourlaw19.ActivePlays", spec := "activePlays", inPlace := ["slices.overlaps[*arbour/active.Entry[int]]"], unfollowed := true, recurses := true, apart := false }
def ActivePlaysSaid : Prop := activePlaysRow.holds Try.pinned (OpenSpec.ofChange activePlaysSpec)

/-- ITS FALSE NEIGHBOUR: 'it returns false'. Refute it at one input. -/
def activePlaysWrong : ChangeSpec := { name := "activePlays", fn := fun _ => fun
  | [d] => { results := [.lit (.bool false)], args := [d] }
  | _ => none }
def ActivePlaysWrongFalsely : Prop := activePlaysRow.holds Try.pinned (OpenSpec.ofChange activePlaysWrong)

/-- 'arbourlaw19.ActiveThree': WHATEVER THE INPUT: true; the input reads as it did. -/
def activeThreeSpec : ChangeSpec := { name := "activeThree", fn := fun _ => fun
  | [d] => { results := [.lit (.bool true)], args := [d] }
  | _ => none }
def activeThreeRow : OpenClaim := { program := "ytadcpkdnpfmphaa", sum := "14dabc0c1b59609fd4d3142583bb228e680308e72da80d7affd2f35a2c87b8a5", func := "arbour/arbourlaw19.ActiveThree", spec := "activeThree", apart := false }
def ActiveThreeSaid : Prop := activeThreeRow.holds Try.pinned (OpenSpec.ofChange activeThreeSpec)

/-- ITS FALSE NEIGHBOUR: 'it returns false'. Refute it at one input. -/
def activeThreeWrong : ChangeSpec := { name := "activeThree", fn := fun _ => fun
  | [d] => { results := [.lit (.bool false)], args := [d] }
  | _ => none }
def ActiveThreeWrongFalsely : Prop := activeThreeRow.holds Try.pinned (OpenSpec.ofChange activeThreeWrong)

/-- 'arbourlaw19.ActiveMarks': WHATEVER THE INPUT: true; the input reads as it did. -/
def activeMarksSpec : ChangeSpec := { name := "activeMarks", fn := fun _ => fun
  | [d1, d2] => { results := [.lit (.bool true)], args := [d1, d2] }
  | _ => none }
def activeMarksRow : OpenClaim := { program := "ytadcpkdnpfmphaa", sum := "14dabc0c1b59609fd4d3142583bb228e680308e72da80d7affd2f35a2c87b8a5", func := "arbour/arbourlaw19.ActiveMarks", spec := "activeMarks", unfollowed := true, recurses := true, apart := false }
def ActiveMarksSaid : Prop := activeMarksRow.holds Try.pinned (OpenSpec.ofChange activeMarksSpec)

/-- ITS FALSE NEIGHBOUR: 'it returns false'. Refute it at one input. -/
def activeMarksWrong : ChangeSpec := { name := "activeMarks", fn := fun _ => fun
  | [d1, d2] => { results := [.lit (.bool false)], args := [d1, d2] }
  | _ => none }
def ActiveMarksWrongFalsely : Prop := activeMarksRow.holds Try.pinned (OpenSpec.ofChange activeMarksWrong)

/- THE SECOND FORM. 'bulk': how many values and letters a reading holds, each counted each time it is reached (what is shared counts as often as it is met; a slice's spare places count too). A statement '..UptoSaid' is the law's where the arguments, and the package variables that the reading takes, are together of bulk at most 1048576: NARROWER than '..Said'. Prove '..Said' where nothing that the law and all that it calls make is longer than what came in: it says more and counts as full. Else prove '..UptoSaid'. A law counts once. -/
mutual
def uptoBulk {H : Type} : DataW H → Nat
  | .lit (.string bytes) => bytes.length + 1
  | .lit _ => 1
  | .nil => 1
  | .ptr d => uptoBulk d + 1
  | .slice elems spare => uptoBulkAll elems + uptoBulkAll spare + 1
  | .agg parts => uptoBulkAll parts + 1
  | .iface _ d => uptoBulk d + 1
  | .map entries => uptoBulkEntries entries + 1
  | .held _ => 1
def uptoBulkAll {H : Type} : List (DataW H) → Nat
  | [] => 0
  | d :: r => uptoBulk d + uptoBulkAll r
def uptoBulkEntries {H : Type} : List (Lit × DataW H) → Nat
  | [] => 0
  | x :: r => uptoBulkEntry x + uptoBulkEntries r
def uptoBulkEntry {H : Type} : Lit × DataW H → Nat
  | (.string bytes, d) => bytes.length + uptoBulk d + 1
  | (_, d) => uptoBulk d + 1
 end
def uptoSmall : (H : Type) → List (DataW H) → Bool := fun _ ds => decide (uptoBulkAll ds ≤ 1048576)
def OpenSpec.upto (s : _root_.Go.ChangeSpec) : _root_.Go.OpenSpec := { _root_.Go.OpenSpec.ofChange s with cond := some uptoSmall }

/-- 'arbourlaw19.ActiveNumbers', WHERE WHAT IT READS IS OF BULK AT MOST 1048576: true; the input reads as it did. -/
def activeNumbersUptoRow : OpenClaim := { program := "ytadcpkdnpfmphaa", sum := "14dabc0c1b59609fd4d3142583bb228e680308e72da80d7affd2f35a2c87b8a5", func := "arbour/arbourlaw19.ActiveNumbers", spec := "activeNumbers", inPlace := ["slices.overlaps[*arbour/active.Entry[int]]"], unfollowed := true, recurses := true, apart := false, narrowed := true }
def ActiveNumbersUptoSaid : Prop := activeNumbersUptoRow.holds Try.pinned (OpenSpec.upto activeNumbersSpec)

/-- 'arbourlaw19.ActivePlays', WHERE WHAT IT READS IS OF BULK AT MOST 1048576: true; the input reads as it did. -/
def activePlaysUptoRow : OpenClaim := { program := "ytadcpkdnpfmphaa", sum := "14dabc0c1b59609fd4d3142583bb228e680308e72da80d7affd2f35a2c87b8a5", func := "arbour/arbourlaw19.ActivePlays", spec := "activePlays", inPlace := ["slices.overlaps[*arbour/active.Entry[int]]"], unfollowed := true, recurses := true, apart := false, narrowed := true }
def ActivePlaysUptoSaid : Prop := activePlaysUptoRow.holds Try.pinned (OpenSpec.upto activePlaysSpec)

/-- 'arbourlaw19.ActiveThree', WHERE WHAT IT READS IS OF BULK AT MOST 1048576: true; the input reads as it did. -/
def activeThreeUptoRow : OpenClaim := { program := "ytadcpkdnpfmphaa", sum := "14dabc0c1b59609fd4d3142583bb228e680308e72da80d7affd2f35a2c87b8a5", func := "arbour/arbourlaw19.ActiveThree", spec := "activeThree", apart := false, narrowed := true }
def ActiveThreeUptoSaid : Prop := activeThreeUptoRow.holds Try.pinned (OpenSpec.upto activeThreeSpec)

/-- 'arbourlaw19.ActiveMarks', WHERE WHAT IT READS IS OF BULK AT MOST 1048576: true; the input reads as it did. -/
def activeMarksUptoRow : OpenClaim := { program := "ytadcpkdnpfmphaa", sum := "14dabc0c1b59609fd4d3142583bb228e680308e72da80d7affd2f35a2c87b8a5", func := "arbour/arbourlaw19.ActiveMarks", spec := "activeMarks", unfollowed := true, recurses := true, apart := false, narrowed := true }
def ActiveMarksUptoSaid : Prop := activeMarksUptoRow.holds Try.pinned (OpenSpec.upto activeMarksSpec)

end Rows
end Go.Proofs.Ytadcpkdnpfmphaa
