/-
  NARROWER THAN 'FOR EVERY INPUT', by the rows' own cells (each row's printed sentence says how): TagNumbers: laid · TagTells: laid · TagAttrs: laid · TagRight: laid · TagValues: laid · TagLost: laid.
  DERIVED. THE GIVEN ROWS OF THIS SEAT. 6 by the template 'for every input the law returns true; each argument reads behind the call as it read before'; 0 by the template 'total and deterministic' (their statements: YtgebdaanglmnnaaDoorTotals.lean).
  GIVEN WITH THE SEED: the statements are not yours to turn. If you find one false, say at which input.
  Laid BY PROGRAM, IN A SANDBOX (cutbox-rows.mjs): the forced cells as the released guide's own fill.sh prints them over the translation 70b855d98c7f48eb… (all of the seat's roots in one cut). By AI agents, Wed Nov 11 2026. No macro, syntax, notation, axiom, sorry.
-/
import Derived.Test.YtgebdaanglmnnaaDoorChecked
import GoSem.Claim
import GoSem.ClaimJoined
import GoSem.ClaimMapViews
import Derived.JoinedTies
import Derived.KernelRfl
namespace Go.Proofs.YtgebdaanglmnnaaDoor
/- THE CELL 'sum', in the pinned program and in every row, IS THE sha256 OF THE DUMP (.gsa) THAT YtgebdaanglmnnaaDoorProg.lean LOADS. Nothing in Lean hashes anything: it is a label: what it is worth is what the hold of that sum in a sandbox is worth. -/
noncomputable def Tryd.pinned : Pinned := { name := "ytgebdaanglmnnaadoor", sum := "70b855d98c7f48ebc0fc9e321d5ed1e03ef654a9fc8d730d03d8ed028e09c5f2", checked := Tryd.checked }
namespace Rows
def none {H : Type} : Left H := { results := [], args := [] }

/- WHAT THE LISTED PACKAGE-LEVEL VARIABLES READ AS WHEN THE CALL BEGINS. Each datum BY PROGRAM (the guide's laid-datum.mjs) off the statement by which the dump's own 'gosem.cut.vars' lays the variable. In a bare row this is a premise. The card (YtgebdaanglmnnaaDoorCards.lean) ties it to the program's text. -/
def laid_arbour_refs_names {H : Type} : DataW H := .slice [.lit (.string [65, 77, 80]), .lit (.string [65, 77, 80, 59]), .lit (.string [67, 79, 80, 89]), .lit (.string [67, 79, 80, 89, 59]), .lit (.string [71, 84]), .lit (.string [71, 84, 59]), .lit (.string [76, 84]), .lit (.string [76, 84, 59]), .lit (.string [78, 111, 116, 69, 113, 117, 97, 108, 84, 105, 108, 100, 101, 59]), .lit (.string [81, 85, 79, 84]), .lit (.string [81, 85, 79, 84, 59]), .lit (.string [97, 109, 112]), .lit (.string [97, 109, 112, 59]), .lit (.string [97, 112, 111, 115, 59]), .lit (.string [99, 101, 110, 116, 59]), .lit (.string [99, 111, 112, 121]), .lit (.string [99, 111, 112, 121, 59]), .lit (.string [100, 101, 103]), .lit (.string [100, 101, 103, 59]), .lit (.string [101, 97, 99, 117, 116, 101]), .lit (.string [101, 97, 99, 117, 116, 101, 59]), .lit (.string [103, 116]), .lit (.string [103, 116, 59]), .lit (.string [104, 101, 108, 108, 105, 112, 59]), .lit (.string [108, 97, 113, 117, 111]), .lit (.string [108, 97, 113, 117, 111, 59]), .lit (.string [108, 116]), .lit (.string [108, 116, 59]), .lit (.string [109, 100, 97, 115, 104, 59]), .lit (.string [110, 98, 115, 112]), .lit (.string [110, 98, 115, 112, 59]), .lit (.string [110, 100, 97, 115, 104, 59]), .lit (.string [110, 111, 116]), .lit (.string [110, 111, 116, 59]), .lit (.string [110, 111, 116, 105, 110, 59]), .lit (.string [111, 117, 109, 108]), .lit (.string [111, 117, 109, 108, 59]), .lit (.string [113, 117, 111, 116]), .lit (.string [113, 117, 111, 116, 59]), .lit (.string [114, 97, 113, 117, 111]), .lit (.string [114, 97, 113, 117, 111, 59]), .lit (.string [114, 101, 103]), .lit (.string [114, 101, 103, 59]), .lit (.string [115, 122, 108, 105, 103]), .lit (.string [115, 122, 108, 105, 103, 59]), .lit (.string [116, 105, 109, 101, 115]), .lit (.string [116, 105, 109, 101, 115, 59]), .lit (.string [117, 117, 109, 108]), .lit (.string [117, 117, 109, 108, 59]), .lit (.string [121, 101, 110]), .lit (.string [121, 101, 110, 59])] []
def laid_arbour_refs_instead {H : Type} : DataW H := .slice [.lit (.int .i32 8364), .lit (.int .i32 129), .lit (.int .i32 8218), .lit (.int .i32 402), .lit (.int .i32 8222), .lit (.int .i32 8230), .lit (.int .i32 8224), .lit (.int .i32 8225), .lit (.int .i32 710), .lit (.int .i32 8240), .lit (.int .i32 352), .lit (.int .i32 8249), .lit (.int .i32 338), .lit (.int .i32 141), .lit (.int .i32 381), .lit (.int .i32 143), .lit (.int .i32 144), .lit (.int .i32 8216), .lit (.int .i32 8217), .lit (.int .i32 8220), .lit (.int .i32 8221), .lit (.int .i32 8226), .lit (.int .i32 8211), .lit (.int .i32 8212), .lit (.int .i32 732), .lit (.int .i32 8482), .lit (.int .i32 353), .lit (.int .i32 8250), .lit (.int .i32 339), .lit (.int .i32 157), .lit (.int .i32 382), .lit (.int .i32 376)] []

/-- 'arbourlaw11.TagNumbers': WHATEVER THE INPUT: true; the input reads as it did. -/
def tagNumbersSpec : ChangeSpec := { name := "tagNumbers", fn := fun _ => fun
  | [] => { results := [.lit (.bool true)], args := [] }
  | _ => none }
def tagNumbersRow : OpenClaim := { program := "ytgebdaanglmnnaadoor", sum := "70b855d98c7f48ebc0fc9e321d5ed1e03ef654a9fc8d730d03d8ed028e09c5f2", func := "arbour/arbourlaw11.TagNumbers", spec := "tagNumbers", inPlace := ["internal/abi.NoEscape"], named := ["arbour/refs.instead", "arbour/refs.names"], apart := false, laid := [("arbour/refs.names", laid_arbour_refs_names), ("arbour/refs.instead", laid_arbour_refs_instead)] }
def TagNumbersSaid : Prop := tagNumbersRow.holds Tryd.pinned (OpenSpec.ofChange tagNumbersSpec)

/-- ITS FALSE NEIGHBOUR: 'it returns false'. Refute it at one input. -/
def tagNumbersWrong : ChangeSpec := { name := "tagNumbers", fn := fun _ => fun
  | [] => { results := [.lit (.bool false)], args := [] }
  | _ => none }
def TagNumbersWrongFalsely : Prop := tagNumbersRow.holds Tryd.pinned (OpenSpec.ofChange tagNumbersWrong)

/-- 'arbourlaw11.TagTells': WHATEVER THE INPUT: true; the input reads as it did. -/
def tagTellsSpec : ChangeSpec := { name := "tagTells", fn := fun _ => fun
  | [d1, d2, d3, d4] => { results := [.lit (.bool true)], args := [d1, d2, d3, d4] }
  | _ => none }
def tagTellsRow : OpenClaim := { program := "ytgebdaanglmnnaadoor", sum := "70b855d98c7f48ebc0fc9e321d5ed1e03ef654a9fc8d730d03d8ed028e09c5f2", func := "arbour/arbourlaw11.TagTells", spec := "tagTells", inPlace := ["internal/abi.NoEscape"], named := ["arbour/refs.instead", "arbour/refs.names"], apart := false, laid := [("arbour/refs.names", laid_arbour_refs_names), ("arbour/refs.instead", laid_arbour_refs_instead)] }
def TagTellsSaid : Prop := tagTellsRow.holds Tryd.pinned (OpenSpec.ofChange tagTellsSpec)

/-- ITS FALSE NEIGHBOUR: 'it returns false'. Refute it at one input. -/
def tagTellsWrong : ChangeSpec := { name := "tagTells", fn := fun _ => fun
  | [d1, d2, d3, d4] => { results := [.lit (.bool false)], args := [d1, d2, d3, d4] }
  | _ => none }
def TagTellsWrongFalsely : Prop := tagTellsRow.holds Tryd.pinned (OpenSpec.ofChange tagTellsWrong)

/-- 'arbourlaw11.TagAttrs': WHATEVER THE INPUT: true; the input reads as it did. -/
def tagAttrsSpec : ChangeSpec := { name := "tagAttrs", fn := fun _ => fun
  | [d1, d2, d3] => { results := [.lit (.bool true)], args := [d1, d2, d3] }
  | _ => none }
def tagAttrsRow : OpenClaim := { program := "ytgebdaanglmnnaadoor", sum := "70b855d98c7f48ebc0fc9e321d5ed1e03ef654a9fc8d730d03d8ed028e09c5f2", func := "arbour/arbourlaw11.TagAttrs", spec := "tagAttrs", inPlace := ["internal/abi.NoEscape"], named := ["arbour/refs.instead", "arbour/refs.names"], apart := false, laid := [("arbour/refs.names", laid_arbour_refs_names), ("arbour/refs.instead", laid_arbour_refs_instead)] }
def TagAttrsSaid : Prop := tagAttrsRow.holds Tryd.pinned (OpenSpec.ofChange tagAttrsSpec)

/-- ITS FALSE NEIGHBOUR: 'it returns false'. Refute it at one input. -/
def tagAttrsWrong : ChangeSpec := { name := "tagAttrs", fn := fun _ => fun
  | [d1, d2, d3] => { results := [.lit (.bool false)], args := [d1, d2, d3] }
  | _ => none }
def TagAttrsWrongFalsely : Prop := tagAttrsRow.holds Tryd.pinned (OpenSpec.ofChange tagAttrsWrong)

/-- 'arbourlaw11.TagRight': WHATEVER THE INPUT: true; the input reads as it did. -/
def tagRightSpec : ChangeSpec := { name := "tagRight", fn := fun _ => fun
  | [d1, d2, d3] => { results := [.lit (.bool true)], args := [d1, d2, d3] }
  | _ => none }
def tagRightRow : OpenClaim := { program := "ytgebdaanglmnnaadoor", sum := "70b855d98c7f48ebc0fc9e321d5ed1e03ef654a9fc8d730d03d8ed028e09c5f2", func := "arbour/arbourlaw11.TagRight", spec := "tagRight", inPlace := ["internal/abi.NoEscape"], named := ["arbour/refs.instead", "arbour/refs.names"], apart := false, laid := [("arbour/refs.names", laid_arbour_refs_names), ("arbour/refs.instead", laid_arbour_refs_instead)] }
def TagRightSaid : Prop := tagRightRow.holds Tryd.pinned (OpenSpec.ofChange tagRightSpec)

/-- ITS FALSE NEIGHBOUR: 'it returns false'. Refute it at one input. -/
def tagRightWrong : ChangeSpec := { name := "tagRight", fn := fun _ => fun
  | [d1, d2, d3] => { results := [.lit (.bool false)], args := [d1, d2, d3] }
  | _ => none }
def TagRightWrongFalsely : Prop := tagRightRow.holds Tryd.pinned (OpenSpec.ofChange tagRightWrong)

/-- 'arbourlaw11.TagValues': WHATEVER THE INPUT: true; the input reads as it did. -/
def tagValuesSpec : ChangeSpec := { name := "tagValues", fn := fun _ => fun
  | [d1, d2] => { results := [.lit (.bool true)], args := [d1, d2] }
  | _ => none }
def tagValuesRow : OpenClaim := { program := "ytgebdaanglmnnaadoor", sum := "70b855d98c7f48ebc0fc9e321d5ed1e03ef654a9fc8d730d03d8ed028e09c5f2", func := "arbour/arbourlaw11.TagValues", spec := "tagValues", inPlace := ["internal/abi.NoEscape"], named := ["arbour/refs.instead", "arbour/refs.names"], apart := false, laid := [("arbour/refs.names", laid_arbour_refs_names), ("arbour/refs.instead", laid_arbour_refs_instead)] }
def TagValuesSaid : Prop := tagValuesRow.holds Tryd.pinned (OpenSpec.ofChange tagValuesSpec)

/-- ITS FALSE NEIGHBOUR: 'it returns false'. Refute it at one input. -/
def tagValuesWrong : ChangeSpec := { name := "tagValues", fn := fun _ => fun
  | [d1, d2] => { results := [.lit (.bool false)], args := [d1, d2] }
  | _ => none }
def TagValuesWrongFalsely : Prop := tagValuesRow.holds Tryd.pinned (OpenSpec.ofChange tagValuesWrong)

/-- 'arbourlaw11.TagLost': WHATEVER THE INPUT: true; the input reads as it did. -/
def tagLostSpec : ChangeSpec := { name := "tagLost", fn := fun _ => fun
  | [d1, d2] => { results := [.lit (.bool true)], args := [d1, d2] }
  | _ => none }
def tagLostRow : OpenClaim := { program := "ytgebdaanglmnnaadoor", sum := "70b855d98c7f48ebc0fc9e321d5ed1e03ef654a9fc8d730d03d8ed028e09c5f2", func := "arbour/arbourlaw11.TagLost", spec := "tagLost", inPlace := ["internal/abi.NoEscape"], named := ["arbour/refs.instead", "arbour/refs.names"], apart := false, laid := [("arbour/refs.names", laid_arbour_refs_names), ("arbour/refs.instead", laid_arbour_refs_instead)] }
def TagLostSaid : Prop := tagLostRow.holds Tryd.pinned (OpenSpec.ofChange tagLostSpec)

/-- ITS FALSE NEIGHBOUR: 'it returns false'. Refute it at one input. -/
def tagLostWrong : ChangeSpec := { name := "tagLost", fn := fun _ => fun
  | [d1, d2] => { results := [.lit (.bool false)], args := [d1, d2] }
  | _ => none }
def TagLostWrongFalsely : Prop := tagLostRow.holds Tryd.pinned (OpenSpec.ofChange tagLostWrong)

/- THE SECOND FORM. 'bulk': how many values and letters a reading holds, each counted each time it is reached (what is shared counts as often as it is met; a slice's spare places count too). A statement '..UptoSaid' is the law's where the arguments, and the package variables that the reading takes, are together of bulk at most 1048576: NARROWER than '..Said'. Prove '..Said' where nothing that the law and all that it calls make is longer than what came in: it says more and counts as full. Else prove '..UptoSaid'. A law counts once. -/
mutual
def uptoBulk {H : Type} : DataW H → Nat
  | .lit (.string bytes) => bytes.length + 1
  | .lit _ => 1
  | .nil => 1
  | .ptr d => uptoBulk d + 1
  | .slice elems spare => uptoBulkAll elems + uptoBulkAll spare + 1
  | .agg parts => uptoBulkAll parts + 1
  | .iface _ d => uptoBulk d + 1
  | .map entries => uptoBulkEntries entries + 1
  | .held _ => 1
def uptoBulkAll {H : Type} : List (DataW H) → Nat
  | [] => 0
  | d :: r => uptoBulk d + uptoBulkAll r
def uptoBulkEntries {H : Type} : List (Lit × DataW H) → Nat
  | [] => 0
  | x :: r => uptoBulkEntry x + uptoBulkEntries r
def uptoBulkEntry {H : Type} : Lit × DataW H → Nat
  | (.string bytes, d) => bytes.length + uptoBulk d + 1
  | (_, d) => uptoBulk d + 1
 end
def uptoSmall : (H : Type) → List (DataW H) → Bool := fun _ ds => decide (uptoBulkAll ds ≤ 1048576)
def OpenSpec.upto (s : _root_.Go.ChangeSpec) : _root_.Go.OpenSpec := { _root_.Go.OpenSpec.ofChange s with cond := some uptoSmall }

/-- 'arbourlaw11.TagNumbers', WHERE WHAT IT READS IS OF BULK AT MOST 1048576: true; the input reads as it did. -/
def tagNumbersUptoRow : OpenClaim := { program := "ytgebdaanglmnnaadoor", sum := "70b855d98c7f48ebc0fc9e321d5ed1e03ef654a9fc8d730d03d8ed028e09c5f2", func := "arbour/arbourlaw11.TagNumbers", spec := "tagNumbers", inPlace := ["internal/abi.NoEscape"], named := ["arbour/refs.instead", "arbour/refs.names"], apart := false, laid := [("arbour/refs.names", laid_arbour_refs_names), ("arbour/refs.instead", laid_arbour_refs_instead)], narrowed := true }
def TagNumbersUptoSaid : Prop := tagNumbersUptoRow.holds Tryd.pinned (OpenSpec.upto tagNumbersSpec)

/-- 'arbourlaw11.TagTells', WHERE WHAT IT READS IS OF BULK AT MOST 1048576: true; the input reads as it did. -/
def tagTellsUptoRow : OpenClaim := { program := "ytgebdaanglmnnaadoor", sum := "70b855d98c7f48ebc0fc9e321d5ed1e03ef654a9fc8d730d03d8ed028e09c5f2", func := "arbour/arbourlaw11.TagTells", spec := "tagTells", inPlace := ["internal/abi.NoEscape"], named := ["arbour/refs.instead", "arbour/refs.names"], apart := false, laid := [("arbour/refs.names", laid_arbour_refs_names), ("arbour/refs.instead", laid_arbour_refs_instead)], narrowed := true }
def TagTellsUptoSaid : Prop := tagTellsUptoRow.holds Tryd.pinned (OpenSpec.upto tagTellsSpec)

/-- 'arbourlaw11.TagAttrs', WHERE WHAT IT READS IS OF BULK AT MOST 1048576: true; the input reads as it did. -/
def tagAttrsUptoRow : OpenClaim := { program := "ytgebdaanglmnnaadoor", sum := "70b855d98c7f48ebc0fc9e321d5ed1e03ef654a9fc8d730d03d8ed028e09c5f2", func := "arbour/arbourlaw11.TagAttrs", spec := "tagAttrs", inPlace := ["internal/abi.NoEscape"], named := ["arbour/refs.instead", "arbour/refs.names"], apart := false, laid := [("arbour/refs.names", laid_arbour_refs_names), ("arbour/refs.instead", laid_arbour_refs_instead)], narrowed := true }
def TagAttrsUptoSaid : Prop := tagAttrsUptoRow.holds Tryd.pinned (OpenSpec.upto tagAttrsSpec)

/-- 'arbourlaw11.TagRight', WHERE WHAT IT READS IS OF BULK AT MOST 1048576: true; the input reads as it did. -/
def tagRightUptoRow : OpenClaim := { program := "ytgebdaanglmnnaadoor", sum := "70b855d98c7f48ebc0fc9e321d5ed1e03ef654a9fc8d730d03d8ed028e09c5f2", func := "arbour/arbourlaw11.TagRight", spec := "tagRight", inPlace := ["internal/abi.NoEscape"], named := ["arbour/refs.instead", "arbour/refs.names"], apart := false, laid := [("arbour/refs.names", laid_arbour_refs_names), ("arbour/refs.instead", laid_arbour_refs_instead)], narrowed := true }
def TagRightUptoSaid : Prop := tagRightUptoRow.holds Tryd.pinned (OpenSpec.upto tagRightSpec)

/-- 'arbourlaw11.TagValues', WHERE WHAT IT READS IS OF BULK AT MOST 1048576: true; the input reads as it did. -/
def tagValuesUptoRow : OpenClaim := { program := "ytgebdaanglmnnaadoor", sum := "70b855d98c7f48ebc0fc9e321d5ed1e03ef654a9fc8d730d03d8ed028e09c5f2", func := "arbour/arbourlaw11.TagValues", spec := "tagValues", inPlace := ["internal/abi.NoEscape"], named := ["arbour/refs.instead", "arbour/refs.names"], apart := false, laid := [("arbour/refs.names", laid_arbour_refs_names), ("arbour/refs.instead", laid_arbour_refs_instead)], narrowed := true }
def TagValuesUptoSaid : Prop := tagValuesUptoRow.holds Tryd.pinned (OpenSpec.upto tagValuesSpec)

/-- 'arbourlaw11.TagLost', WHERE WHAT IT READS IS OF BULK AT MOST 1048576: true; the input reads as it did. -/
def tagLostUptoRow : OpenClaim := { program := "ytgebdaanglmnnaadoor", sum := "70b855d98c7f48ebc0fc9e321d5ed1e03ef654a9fc8d730d03d8ed028e09c5f2", func := "arbour/arbourlaw11.TagLost", spec := "tagLost", inPlace := ["internal/abi.NoEscape"], named := ["arbour/refs.instead", "arbour/refs.names"], apart := false, laid := [("arbour/refs.names", laid_arbour_refs_names), ("arbour/refs.instead", laid_arbour_refs_instead)], narrowed := true }
def TagLostUptoSaid : Prop := tagLostUptoRow.holds Tryd.pinned (OpenSpec.upto tagLostSpec)

end Rows
end Go.Proofs.YtgebdaanglmnnaaDoor
