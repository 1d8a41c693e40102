/-
  DERIVED. GIVEN WITH THE SEED: THE CARDS: each row of YtcfaejbbjmjgpaaGreatDoorRows.lean that lists a variable, with what it lists TIED to the program's text (the seventh form; the later family's looks); each row that meets fmt, with fmt's text TOLD by the authors' own Lean function (tested against real Go, not proved from fmt's source: count such statements apart). THE CARD IS WHAT COUNTS. Prove the row's statement (the work); the ties are given (YtcfaejbbjmjgpaaGreatDoorTie.lean); close each card by the builder's one call (the guide's Derived/Test/ToyasCard.lean, 'card_holds'). Laid BY PROGRAM, IN A SANDBOX (cutbox-door.mjs). By AI agents, Wed Nov 11 2026. No macro, syntax, notation, axiom, sorry.
-/
import Derived.Test.YtcfaejbbjmjgpaaGreatDoorRows
import GoSem.ClaimSeven
namespace Go.Proofs.YtcfaejbbjmjgpaaGreatDoor
namespace Rows

/-- THE TIED CARD OF 'arbourlaw13.LexerNumbers'. -/
def lexerNumbersCard : Claim7 := { stood := { row := lexerNumbersRow, standIns := [], harness := (true, "559ac67fd6cfe7a57a2a728a6cf929b6c7465f15cf044b84b654f26ec7553313"), looks := false }, kinds := [], alts := [], laidByText := true, laidKinds := [.data, .data], laidTests := true, laidLooks := .later }
def LexerNumbersCardSaid : Prop := Claim7.holds Tryz.pinned (.plain (OpenSpec.ofChange lexerNumbersSpec)) lexerNumbersCard

/-- THE TIED CARD OF 'arbourlaw13.LexerTells'. -/
def lexerTellsCard : Claim7 := { stood := { row := lexerTellsRow, standIns := [], harness := (true, "559ac67fd6cfe7a57a2a728a6cf929b6c7465f15cf044b84b654f26ec7553313"), looks := false }, kinds := [], alts := [], laidByText := true, laidKinds := [.data, .data], laidTests := true, laidLooks := .later }
def LexerTellsCardSaid : Prop := Claim7.holds Tryz.pinned (.plain (OpenSpec.ofChange lexerTellsSpec)) lexerTellsCard

/-- THE TIED CARD OF 'arbourlaw13.LexerPlays'. -/
def lexerPlaysCard : Claim7 := { stood := { row := lexerPlaysRow, standIns := [], harness := (true, "559ac67fd6cfe7a57a2a728a6cf929b6c7465f15cf044b84b654f26ec7553313"), looks := false }, kinds := [], alts := [], laidByText := true, laidKinds := [.data, .data], laidTests := true, laidLooks := .later }
def LexerPlaysCardSaid : Prop := Claim7.holds Tryz.pinned (.plain (OpenSpec.ofChange lexerPlaysSpec)) lexerPlaysCard

/-- THE SECOND FORM's CARD OF 'arbourlaw13.LexerNumbers'. -/
def lexerNumbersUptoCard : Claim7 := { stood := { row := lexerNumbersUptoRow, standIns := [], harness := (true, "559ac67fd6cfe7a57a2a728a6cf929b6c7465f15cf044b84b654f26ec7553313"), looks := false }, kinds := [], alts := [], laidByText := true, laidKinds := [.data, .data], laidTests := true, laidLooks := .later }
def LexerNumbersUptoCardSaid : Prop := Claim7.holds Tryz.pinned (.plain (OpenSpec.upto lexerNumbersSpec)) lexerNumbersUptoCard

/-- THE SECOND FORM's CARD OF 'arbourlaw13.LexerTells'. -/
def lexerTellsUptoCard : Claim7 := { stood := { row := lexerTellsUptoRow, standIns := [], harness := (true, "559ac67fd6cfe7a57a2a728a6cf929b6c7465f15cf044b84b654f26ec7553313"), looks := false }, kinds := [], alts := [], laidByText := true, laidKinds := [.data, .data], laidTests := true, laidLooks := .later }
def LexerTellsUptoCardSaid : Prop := Claim7.holds Tryz.pinned (.plain (OpenSpec.upto lexerTellsSpec)) lexerTellsUptoCard

/-- THE SECOND FORM's CARD OF 'arbourlaw13.LexerPlays'. -/
def lexerPlaysUptoCard : Claim7 := { stood := { row := lexerPlaysUptoRow, standIns := [], harness := (true, "559ac67fd6cfe7a57a2a728a6cf929b6c7465f15cf044b84b654f26ec7553313"), looks := false }, kinds := [], alts := [], laidByText := true, laidKinds := [.data, .data], laidTests := true, laidLooks := .later }
def LexerPlaysUptoCardSaid : Prop := Claim7.holds Tryz.pinned (.plain (OpenSpec.upto lexerPlaysSpec)) lexerPlaysUptoCard
end Rows
end Go.Proofs.YtcfaejbbjmjgpaaGreatDoor
