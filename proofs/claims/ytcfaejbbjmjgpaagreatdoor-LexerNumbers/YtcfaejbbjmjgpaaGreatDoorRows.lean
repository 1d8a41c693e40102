/-
  NARROWER THAN 'FOR EVERY INPUT', by the rows' own cells (each row's printed sentence says how): LexerNumbers: laid · LexerTells: laid · LexerPlays: laid.
  DERIVED. THE GIVEN ROWS OF THIS SEAT. 3 by the template 'for every input the law returns true; each argument reads behind the call as it read before'; 0 by the template 'total and deterministic' (their statements: YtcfaejbbjmjgpaaGreatDoorTotals.lean).
  GIVEN WITH THE SEED: the statements are not yours to turn. If you find one false, say at which input.
  Laid BY PROGRAM, IN A SANDBOX (cutbox-rows.mjs): the forced cells as the released guide's own fill.sh prints them over the translation 690a558252544ef3… (all of the seat's roots in one cut). By AI agents, Wed Nov 11 2026. No macro, syntax, notation, axiom, sorry.
-/
import Derived.Test.YtcfaejbbjmjgpaaGreatDoorChecked
import GoSem.Claim
import GoSem.ClaimJoined
import GoSem.ClaimMapViews
import Derived.JoinedTies
import Derived.KernelRfl
namespace Go.Proofs.YtcfaejbbjmjgpaaGreatDoor
/- THE CELL 'sum', in the pinned program and in every row, IS THE sha256 OF THE DUMP (.gsa) THAT YtcfaejbbjmjgpaaGreatDoorProg.lean LOADS. Nothing in Lean hashes anything: it is a label: what it is worth is what the hold of that sum in a sandbox is worth. -/
noncomputable def Tryz.pinned : Pinned := { name := "ytcfaejbbjmjgpaagreatdoor", sum := "690a558252544ef38f5e7b59b73741db77f5a02abc2e63189b6c8a759072f584", checked := Tryz.checked }
namespace Rows
def none {H : Type} : Left H := { results := [], args := [] }

/- WHAT THE LISTED PACKAGE-LEVEL VARIABLES READ AS WHEN THE CALL BEGINS. Each datum BY PROGRAM (the guide's laid-datum.mjs) off the statement by which the dump's own 'gosem.cut.vars' lays the variable. In a bare row this is a premise. The card (YtcfaejbbjmjgpaaGreatDoorCards.lean) ties it to the program's text. -/
def laid_arbour_refs_names {H : Type} : DataW H := .slice [.lit (.string [65, 77, 80]), .lit (.string [65, 77, 80, 59]), .lit (.string [67, 79, 80, 89]), .lit (.string [67, 79, 80, 89, 59]), .lit (.string [71, 84]), .lit (.string [71, 84, 59]), .lit (.string [76, 84]), .lit (.string [76, 84, 59]), .lit (.string [78, 111, 116, 69, 113, 117, 97, 108, 84, 105, 108, 100, 101, 59]), .lit (.string [81, 85, 79, 84]), .lit (.string [81, 85, 79, 84, 59]), .lit (.string [97, 109, 112]), .lit (.string [97, 109, 112, 59]), .lit (.string [97, 112, 111, 115, 59]), .lit (.string [99, 101, 110, 116, 59]), .lit (.string [99, 111, 112, 121]), .lit (.string [99, 111, 112, 121, 59]), .lit (.string [100, 101, 103]), .lit (.string [100, 101, 103, 59]), .lit (.string [101, 97, 99, 117, 116, 101]), .lit (.string [101, 97, 99, 117, 116, 101, 59]), .lit (.string [103, 116]), .lit (.string [103, 116, 59]), .lit (.string [104, 101, 108, 108, 105, 112, 59]), .lit (.string [108, 97, 113, 117, 111]), .lit (.string [108, 97, 113, 117, 111, 59]), .lit (.string [108, 116]), .lit (.string [108, 116, 59]), .lit (.string [109, 100, 97, 115, 104, 59]), .lit (.string [110, 98, 115, 112]), .lit (.string [110, 98, 115, 112, 59]), .lit (.string [110, 100, 97, 115, 104, 59]), .lit (.string [110, 111, 116]), .lit (.string [110, 111, 116, 59]), .lit (.string [110, 111, 116, 105, 110, 59]), .lit (.string [111, 117, 109, 108]), .lit (.string [111, 117, 109, 108, 59]), .lit (.string [113, 117, 111, 116]), .lit (.string [113, 117, 111, 116, 59]), .lit (.string [114, 97, 113, 117, 111]), .lit (.string [114, 97, 113, 117, 111, 59]), .lit (.string [114, 101, 103]), .lit (.string [114, 101, 103, 59]), .lit (.string [115, 122, 108, 105, 103]), .lit (.string [115, 122, 108, 105, 103, 59]), .lit (.string [116, 105, 109, 101, 115]), .lit (.string [116, 105, 109, 101, 115, 59]), .lit (.string [117, 117, 109, 108]), .lit (.string [117, 117, 109, 108, 59]), .lit (.string [121, 101, 110]), .lit (.string [121, 101, 110, 59])] []
def laid_arbour_refs_instead {H : Type} : DataW H := .slice [.lit (.int .i32 8364), .lit (.int .i32 129), .lit (.int .i32 8218), .lit (.int .i32 402), .lit (.int .i32 8222), .lit (.int .i32 8230), .lit (.int .i32 8224), .lit (.int .i32 8225), .lit (.int .i32 710), .lit (.int .i32 8240), .lit (.int .i32 352), .lit (.int .i32 8249), .lit (.int .i32 338), .lit (.int .i32 141), .lit (.int .i32 381), .lit (.int .i32 143), .lit (.int .i32 144), .lit (.int .i32 8216), .lit (.int .i32 8217), .lit (.int .i32 8220), .lit (.int .i32 8221), .lit (.int .i32 8226), .lit (.int .i32 8211), .lit (.int .i32 8212), .lit (.int .i32 732), .lit (.int .i32 8482), .lit (.int .i32 353), .lit (.int .i32 8250), .lit (.int .i32 339), .lit (.int .i32 157), .lit (.int .i32 382), .lit (.int .i32 376)] []

/-- 'arbourlaw13.LexerNumbers': WHATEVER THE INPUT: true; the input reads as it did. -/
def lexerNumbersSpec : ChangeSpec := { name := "lexerNumbers", fn := fun _ => fun
  | [] => { results := [.lit (.bool true)], args := [] }
  | _ => none }
def lexerNumbersRow : OpenClaim := { program := "ytcfaejbbjmjgpaagreatdoor", sum := "690a558252544ef38f5e7b59b73741db77f5a02abc2e63189b6c8a759072f584", func := "arbour/arbourlaw13.LexerNumbers", spec := "lexerNumbers", inPlace := ["internal/abi.NoEscape"], named := ["arbour/refs.instead", "arbour/refs.names"], apart := false, laid := [("arbour/refs.names", laid_arbour_refs_names), ("arbour/refs.instead", laid_arbour_refs_instead)] }
def LexerNumbersSaid : Prop := lexerNumbersRow.holds Tryz.pinned (OpenSpec.ofChange lexerNumbersSpec)

/-- ITS FALSE NEIGHBOUR: 'it returns false'. Refute it at one input. -/
def lexerNumbersWrong : ChangeSpec := { name := "lexerNumbers", fn := fun _ => fun
  | [] => { results := [.lit (.bool false)], args := [] }
  | _ => none }
def LexerNumbersWrongFalsely : Prop := lexerNumbersRow.holds Tryz.pinned (OpenSpec.ofChange lexerNumbersWrong)

/-- 'arbourlaw13.LexerTells': WHATEVER THE INPUT: true; the input reads as it did. -/
def lexerTellsSpec : ChangeSpec := { name := "lexerTells", fn := fun _ => fun
  | [d1, d2] => { results := [.lit (.bool true)], args := [d1, d2] }
  | _ => none }
def lexerTellsRow : OpenClaim := { program := "ytcfaejbbjmjgpaagreatdoor", sum := "690a558252544ef38f5e7b59b73741db77f5a02abc2e63189b6c8a759072f584", func := "arbour/arbourlaw13.LexerTells", spec := "lexerTells", inPlace := ["internal/abi.NoEscape"], named := ["arbour/refs.instead", "arbour/refs.names"], apart := false, laid := [("arbour/refs.names", laid_arbour_refs_names), ("arbour/refs.instead", laid_arbour_refs_instead)] }
def LexerTellsSaid : Prop := lexerTellsRow.holds Tryz.pinned (OpenSpec.ofChange lexerTellsSpec)

/-- ITS FALSE NEIGHBOUR: 'it returns false'. Refute it at one input. -/
def lexerTellsWrong : ChangeSpec := { name := "lexerTells", fn := fun _ => fun
  | [d1, d2] => { results := [.lit (.bool false)], args := [d1, d2] }
  | _ => none }
def LexerTellsWrongFalsely : Prop := lexerTellsRow.holds Tryz.pinned (OpenSpec.ofChange lexerTellsWrong)

/-- 'arbourlaw13.LexerPlays': WHATEVER THE INPUT: true; the input reads as it did. -/
def lexerPlaysSpec : ChangeSpec := { name := "lexerPlays", fn := fun _ => fun
  | [d1, d2, d3] => { results := [.lit (.bool true)], args := [d1, d2, d3] }
  | _ => none }
def lexerPlaysRow : OpenClaim := { program := "ytcfaejbbjmjgpaagreatdoor", sum := "690a558252544ef38f5e7b59b73741db77f5a02abc2e63189b6c8a759072f584", func := "arbour/arbourlaw13.LexerPlays", spec := "lexerPlays", inPlace := ["internal/abi.NoEscape"], named := ["arbour/refs.instead", "arbour/refs.names"], apart := false, laid := [("arbour/refs.names", laid_arbour_refs_names), ("arbour/refs.instead", laid_arbour_refs_instead)] }
def LexerPlaysSaid : Prop := lexerPlaysRow.holds Tryz.pinned (OpenSpec.ofChange lexerPlaysSpec)

/-- ITS FALSE NEIGHBOUR: 'it returns false'. Refute it at one input. -/
def lexerPlaysWrong : ChangeSpec := { name := "lexerPlays", fn := fun _ => fun
  | [d1, d2, d3] => { results := [.lit (.bool false)], args := [d1, d2, d3] }
  | _ => none }
def LexerPlaysWrongFalsely : Prop := lexerPlaysRow.holds Tryz.pinned (OpenSpec.ofChange lexerPlaysWrong)

/- THE SECOND FORM. 'bulk': how many values and letters a reading holds, each counted each time it is reached (what is shared counts as often as it is met; a slice's spare places count too). A statement '..UptoSaid' is the law's where the arguments, and the package variables that the reading takes, are together of bulk at most 1048576: NARROWER than '..Said'. Prove '..Said' where nothing that the law and all that it calls make is longer than what came in: it says more and counts as full. Else prove '..UptoSaid'. A law counts once. -/
mutual
def uptoBulk {H : Type} : DataW H → Nat
  | .lit (.string bytes) => bytes.length + 1
  | .lit _ => 1
  | .nil => 1
  | .ptr d => uptoBulk d + 1
  | .slice elems spare => uptoBulkAll elems + uptoBulkAll spare + 1
  | .agg parts => uptoBulkAll parts + 1
  | .iface _ d => uptoBulk d + 1
  | .map entries => uptoBulkEntries entries + 1
  | .held _ => 1
def uptoBulkAll {H : Type} : List (DataW H) → Nat
  | [] => 0
  | d :: r => uptoBulk d + uptoBulkAll r
def uptoBulkEntries {H : Type} : List (Lit × DataW H) → Nat
  | [] => 0
  | x :: r => uptoBulkEntry x + uptoBulkEntries r
def uptoBulkEntry {H : Type} : Lit × DataW H → Nat
  | (.string bytes, d) => bytes.length + uptoBulk d + 1
  | (_, d) => uptoBulk d + 1
 end
def uptoSmall : (H : Type) → List (DataW H) → Bool := fun _ ds => decide (uptoBulkAll ds ≤ 1048576)
def OpenSpec.upto (s : _root_.Go.ChangeSpec) : _root_.Go.OpenSpec := { _root_.Go.OpenSpec.ofChange s with cond := some uptoSmall }

/-- 'arbourlaw13.LexerNumbers', WHERE WHAT IT READS IS OF BULK AT MOST 1048576: true; the input reads as it did. -/
def lexerNumbersUptoRow : OpenClaim := { program := "ytcfaejbbjmjgpaagreatdoor", sum := "690a558252544ef38f5e7b59b73741db77f5a02abc2e63189b6c8a759072f584", func := "arbour/arbourlaw13.LexerNumbers", spec := "lexerNumbers", inPlace := ["internal/abi.NoEscape"], named := ["arbour/refs.instead", "arbour/refs.names"], apart := false, laid := [("arbour/refs.names", laid_arbour_refs_names), ("arbour/refs.instead", laid_arbour_refs_instead)], narrowed := true }
def LexerNumbersUptoSaid : Prop := lexerNumbersUptoRow.holds Tryz.pinned (OpenSpec.upto lexerNumbersSpec)

/-- 'arbourlaw13.LexerTells', WHERE WHAT IT READS IS OF BULK AT MOST 1048576: true; the input reads as it did. -/
def lexerTellsUptoRow : OpenClaim := { program := "ytcfaejbbjmjgpaagreatdoor", sum := "690a558252544ef38f5e7b59b73741db77f5a02abc2e63189b6c8a759072f584", func := "arbour/arbourlaw13.LexerTells", spec := "lexerTells", inPlace := ["internal/abi.NoEscape"], named := ["arbour/refs.instead", "arbour/refs.names"], apart := false, laid := [("arbour/refs.names", laid_arbour_refs_names), ("arbour/refs.instead", laid_arbour_refs_instead)], narrowed := true }
def LexerTellsUptoSaid : Prop := lexerTellsUptoRow.holds Tryz.pinned (OpenSpec.upto lexerTellsSpec)

/-- 'arbourlaw13.LexerPlays', WHERE WHAT IT READS IS OF BULK AT MOST 1048576: true; the input reads as it did. -/
def lexerPlaysUptoRow : OpenClaim := { program := "ytcfaejbbjmjgpaagreatdoor", sum := "690a558252544ef38f5e7b59b73741db77f5a02abc2e63189b6c8a759072f584", func := "arbour/arbourlaw13.LexerPlays", spec := "lexerPlays", inPlace := ["internal/abi.NoEscape"], named := ["arbour/refs.instead", "arbour/refs.names"], apart := false, laid := [("arbour/refs.names", laid_arbour_refs_names), ("arbour/refs.instead", laid_arbour_refs_instead)], narrowed := true }
def LexerPlaysUptoSaid : Prop := lexerPlaysUptoRow.holds Tryz.pinned (OpenSpec.upto lexerPlaysSpec)

end Rows
end Go.Proofs.YtcfaejbbjmjgpaaGreatDoor
