/-
  No cell of these rows narrows 'for every input' (looked for: loops, veiled, ifaces, maps, wideKeys, modest, calm, conditions, laid).
  DERIVED. THE GIVEN ROWS OF THIS SEAT. 5 by the template 'for every input the law returns true; each argument reads behind the call as it read before'; 0 by the template 'total and deterministic' (their statements: YtpadnfpifldoaaaTotals.lean).
  GIVEN WITH THE SEED: the statements are not yours to turn. If you find one false, say at which input.
  Laid BY PROGRAM, IN A SANDBOX (cutbox-rows.mjs): the forced cells as the released guide's own fill.sh prints them over the translation 4779722794ecdd5c… (all of the seat's roots in one cut). By AI agents, Wed Nov 11 2026. No macro, syntax, notation, axiom, sorry.
-/
import Derived.Test.YtpadnfpifldoaaaChecked
import GoSem.Claim
import GoSem.ClaimJoined
import GoSem.ClaimMapViews
import Derived.JoinedTies
import Derived.KernelRfl
namespace Go.Proofs.Ytpadnfpifldoaaa
/- THE CELL 'sum', in the pinned program and in every row, IS THE sha256 OF THE DUMP (.gsa) THAT YtpadnfpifldoaaaProg.lean LOADS. Nothing in Lean hashes anything: it is a label: what it is worth is what the hold of that sum in a sandbox is worth. -/
noncomputable def Try.pinned : Pinned := { name := "ytpadnfpifldoaaa", sum := "4779722794ecdd5ca700bd022b2ec7c224b55999d45119be87ba5de30d87a1d9", checked := Try.checked }
namespace Rows
def none {H : Type} : Left H := { results := [], args := [] }

/-- 'arbourlaw18.OpenNumbers': WHATEVER THE INPUT: true; the input reads as it did. -/
def openNumbersSpec : ChangeSpec := { name := "openNumbers", fn := fun _ => fun
  | [] => { results := [.lit (.bool true)], args := [] }
  | _ => none }
def openNumbersRow : OpenClaim := { program := "ytpadnfpifldoaaa", sum := "4779722794ecdd5ca700bd022b2ec7c224b55999d45119be87ba5de30d87a1d9", func := "arbour/arbourlaw18.OpenNumbers", spec := "openNumbers", inPlace := ["slices.overlaps[*arbour/open.Item[int]]"], unfollowed := true, recurses := true, apart := false }
def OpenNumbersSaid : Prop := openNumbersRow.holds Try.pinned (OpenSpec.ofChange openNumbersSpec)

/-- ITS FALSE NEIGHBOUR: 'it returns false'. Refute it at one input. -/
def openNumbersWrong : ChangeSpec := { name := "openNumbers", fn := fun _ => fun
  | [] => { results := [.lit (.bool false)], args := [] }
  | _ => none }
def OpenNumbersWrongFalsely : Prop := openNumbersRow.holds Try.pinned (OpenSpec.ofChange openNumbersWrong)

/-- 'arbourlaw18.OpenPlays': WHATEVER THE INPUT: true; the input reads as it did. -/
def openPlaysSpec : ChangeSpec := { name := "openPlays", fn := fun _ => fun
  | [d] => { results := [.lit (.bool true)], args := [d] }
  | _ => none }
def openPlaysRow : OpenClaim := { program := "ytpadnfpifldoaaa", sum := "4779722794ecdd5ca700bd022b2ec7c224b55999d45119be87ba5de30d87a1d9", func := "arbour/arbourlaw18.OpenPlays", spec := "openPlays", inPlace := ["slices.overlaps[*arbour/open.Item[int]]"], unfollowed := true, recurses := true, apart := false }
def OpenPlaysSaid : Prop := openPlaysRow.holds Try.pinned (OpenSpec.ofChange openPlaysSpec)

/-- ITS FALSE NEIGHBOUR: 'it returns false'. Refute it at one input. -/
def openPlaysWrong : ChangeSpec := { name := "openPlays", fn := fun _ => fun
  | [d] => { results := [.lit (.bool false)], args := [d] }
  | _ => none }
def OpenPlaysWrongFalsely : Prop := openPlaysRow.holds Try.pinned (OpenSpec.ofChange openPlaysWrong)

/-- 'arbourlaw18.OpenTexts': WHATEVER THE INPUT: true; the input reads as it did. -/
def openTextsSpec : ChangeSpec := { name := "openTexts", fn := fun _ => fun
  | [d1, d2] => { results := [.lit (.bool true)], args := [d1, d2] }
  | _ => none }
def openTextsRow : OpenClaim := { program := "ytpadnfpifldoaaa", sum := "4779722794ecdd5ca700bd022b2ec7c224b55999d45119be87ba5de30d87a1d9", func := "arbour/arbourlaw18.OpenTexts", spec := "openTexts", unfollowed := true, recurses := true, apart := false }
def OpenTextsSaid : Prop := openTextsRow.holds Try.pinned (OpenSpec.ofChange openTextsSpec)

/-- ITS FALSE NEIGHBOUR: 'it returns false'. Refute it at one input. -/
def openTextsWrong : ChangeSpec := { name := "openTexts", fn := fun _ => fun
  | [d1, d2] => { results := [.lit (.bool false)], args := [d1, d2] }
  | _ => none }
def OpenTextsWrongFalsely : Prop := openTextsRow.holds Try.pinned (OpenSpec.ofChange openTextsWrong)

/-- 'arbourlaw18.OpenScopes': WHATEVER THE INPUT: true; the input reads as it did. -/
def openScopesSpec : ChangeSpec := { name := "openScopes", fn := fun _ => fun
  | [d1, d2] => { results := [.lit (.bool true)], args := [d1, d2] }
  | _ => none }
def openScopesRow : OpenClaim := { program := "ytpadnfpifldoaaa", sum := "4779722794ecdd5ca700bd022b2ec7c224b55999d45119be87ba5de30d87a1d9", func := "arbour/arbourlaw18.OpenScopes", spec := "openScopes", unfollowed := true, recurses := true, apart := false }
def OpenScopesSaid : Prop := openScopesRow.holds Try.pinned (OpenSpec.ofChange openScopesSpec)

/-- ITS FALSE NEIGHBOUR: 'it returns false'. Refute it at one input. -/
def openScopesWrong : ChangeSpec := { name := "openScopes", fn := fun _ => fun
  | [d1, d2] => { results := [.lit (.bool false)], args := [d1, d2] }
  | _ => none }
def OpenScopesWrongFalsely : Prop := openScopesRow.holds Try.pinned (OpenSpec.ofChange openScopesWrong)

/-- 'arbourlaw18.OpenImplies': WHATEVER THE INPUT: true; the input reads as it did. -/
def openImpliesSpec : ChangeSpec := { name := "openImplies", fn := fun _ => fun
  | [d1, d2, d3] => { results := [.lit (.bool true)], args := [d1, d2, d3] }
  | _ => none }
def openImpliesRow : OpenClaim := { program := "ytpadnfpifldoaaa", sum := "4779722794ecdd5ca700bd022b2ec7c224b55999d45119be87ba5de30d87a1d9", func := "arbour/arbourlaw18.OpenImplies", spec := "openImplies", unfollowed := true, recurses := true, apart := false }
def OpenImpliesSaid : Prop := openImpliesRow.holds Try.pinned (OpenSpec.ofChange openImpliesSpec)

/-- ITS FALSE NEIGHBOUR: 'it returns false'. Refute it at one input. -/
def openImpliesWrong : ChangeSpec := { name := "openImplies", fn := fun _ => fun
  | [d1, d2, d3] => { results := [.lit (.bool false)], args := [d1, d2, d3] }
  | _ => none }
def OpenImpliesWrongFalsely : Prop := openImpliesRow.holds Try.pinned (OpenSpec.ofChange openImpliesWrong)

/- THE SECOND FORM. 'bulk': how many values and letters a reading holds, each counted each time it is reached (what is shared counts as often as it is met; a slice's spare places count too). A statement '..UptoSaid' is the law's where the arguments, and the package variables that the reading takes, are together of bulk at most 1048576: NARROWER than '..Said'. Prove '..Said' where nothing that the law and all that it calls make is longer than what came in: it says more and counts as full. Else prove '..UptoSaid'. A law counts once. -/
mutual
def uptoBulk {H : Type} : DataW H → Nat
  | .lit (.string bytes) => bytes.length + 1
  | .lit _ => 1
  | .nil => 1
  | .ptr d => uptoBulk d + 1
  | .slice elems spare => uptoBulkAll elems + uptoBulkAll spare + 1
  | .agg parts => uptoBulkAll parts + 1
  | .iface _ d => uptoBulk d + 1
  | .map entries => uptoBulkEntries entries + 1
  | .held _ => 1
def uptoBulkAll {H : Type} : List (DataW H) → Nat
  | [] => 0
  | d :: r => uptoBulk d + uptoBulkAll r
def uptoBulkEntries {H : Type} : List (Lit × DataW H) → Nat
  | [] => 0
  | x :: r => uptoBulkEntry x + uptoBulkEntries r
def uptoBulkEntry {H : Type} : Lit × DataW H → Nat
  | (.string bytes, d) => bytes.length + uptoBulk d + 1
  | (_, d) => uptoBulk d + 1
 end
def uptoSmall : (H : Type) → List (DataW H) → Bool := fun _ ds => decide (uptoBulkAll ds ≤ 1048576)
def OpenSpec.upto (s : _root_.Go.ChangeSpec) : _root_.Go.OpenSpec := { _root_.Go.OpenSpec.ofChange s with cond := some uptoSmall }

/-- 'arbourlaw18.OpenNumbers', WHERE WHAT IT READS IS OF BULK AT MOST 1048576: true; the input reads as it did. -/
def openNumbersUptoRow : OpenClaim := { program := "ytpadnfpifldoaaa", sum := "4779722794ecdd5ca700bd022b2ec7c224b55999d45119be87ba5de30d87a1d9", func := "arbour/arbourlaw18.OpenNumbers", spec := "openNumbers", inPlace := ["slices.overlaps[*arbour/open.Item[int]]"], unfollowed := true, recurses := true, apart := false, narrowed := true }
def OpenNumbersUptoSaid : Prop := openNumbersUptoRow.holds Try.pinned (OpenSpec.upto openNumbersSpec)

/-- 'arbourlaw18.OpenPlays', WHERE WHAT IT READS IS OF BULK AT MOST 1048576: true; the input reads as it did. -/
def openPlaysUptoRow : OpenClaim := { program := "ytpadnfpifldoaaa", sum := "4779722794ecdd5ca700bd022b2ec7c224b55999d45119be87ba5de30d87a1d9", func := "arbour/arbourlaw18.OpenPlays", spec := "openPlays", inPlace := ["slices.overlaps[*arbour/open.Item[int]]"], unfollowed := true, recurses := true, apart := false, narrowed := true }
def OpenPlaysUptoSaid : Prop := openPlaysUptoRow.holds Try.pinned (OpenSpec.upto openPlaysSpec)

/-- 'arbourlaw18.OpenTexts', WHERE WHAT IT READS IS OF BULK AT MOST 1048576: true; the input reads as it did. -/
def openTextsUptoRow : OpenClaim := { program := "ytpadnfpifldoaaa", sum := "4779722794ecdd5ca700bd022b2ec7c224b55999d45119be87ba5de30d87a1d9", func := "arbour/arbourlaw18.OpenTexts", spec := "openTexts", unfollowed := true, recurses := true, apart := false, narrowed := true }
def OpenTextsUptoSaid : Prop := openTextsUptoRow.holds Try.pinned (OpenSpec.upto openTextsSpec)

/-- 'arbourlaw18.OpenScopes', WHERE WHAT IT READS IS OF BULK AT MOST 1048576: true; the input reads as it did. -/
def openScopesUptoRow : OpenClaim := { program := "ytpadnfpifldoaaa", sum := "4779722794ecdd5ca700bd022b2ec7c224b55999d45119be87ba5de30d87a1d9", func := "arbour/arbourlaw18.OpenScopes", spec := "openScopes", unfollowed := true, recurses := true, apart := false, narrowed := true }
def OpenScopesUptoSaid : Prop := openScopesUptoRow.holds Try.pinned (OpenSpec.upto openScopesSpec)

/-- 'arbourlaw18.OpenImplies', WHERE WHAT IT READS IS OF BULK AT MOST 1048576: true; the input reads as it did. -/
def openImpliesUptoRow : OpenClaim := { program := "ytpadnfpifldoaaa", sum := "4779722794ecdd5ca700bd022b2ec7c224b55999d45119be87ba5de30d87a1d9", func := "arbour/arbourlaw18.OpenImplies", spec := "openImplies", unfollowed := true, recurses := true, apart := false, narrowed := true }
def OpenImpliesUptoSaid : Prop := openImpliesUptoRow.holds Try.pinned (OpenSpec.upto openImpliesSpec)

end Rows
end Go.Proofs.Ytpadnfpifldoaaa
