/-
  DERIVED. GIVEN WITH THE SEED: THE CARDS: each row of YtcfaejbbjmjgpabDoorRows.lean that lists a variable, with what it lists TIED to the program's text (the seventh form; the later family's looks); each row that meets fmt, with fmt's text TOLD by the authors' own Lean function (tested against real Go, not proved from fmt's source: count such statements apart). THE CARD IS WHAT COUNTS. Prove the row's statement (the work); the ties are given (YtcfaejbbjmjgpabDoorTie.lean); close each card by the builder's one call (the guide's Derived/Test/ToyasCard.lean, 'card_holds'). Laid BY PROGRAM, IN A SANDBOX (cutbox-door.mjs). By AI agents, Wed Nov 11 2026. No macro, syntax, notation, axiom, sorry.
-/
import Derived.Test.YtcfaejbbjmjgpabDoorRows
import GoSem.ClaimSeven
namespace Go.Proofs.YtcfaejbbjmjgpabDoor
namespace Rows

/-- THE TIED CARD OF 'arbourlaw13.LexerPlaintext'. -/
def lexerPlaintextCard : Claim7 := { stood := { row := lexerPlaintextRow, standIns := [], harness := (true, "e507068d20aa6f8d5fe398950dccc44fee5fd034215a10c8b818d82a2b2bbc3e"), looks := false }, kinds := [], alts := [], laidByText := true, laidKinds := [.data, .data], laidTests := true, laidLooks := .later }
def LexerPlaintextCardSaid : Prop := Claim7.holds Tryd.pinned (.plain (OpenSpec.ofChange lexerPlaintextSpec)) lexerPlaintextCard

/-- THE SECOND FORM's CARD OF 'arbourlaw13.LexerPlaintext'. -/
def lexerPlaintextUptoCard : Claim7 := { stood := { row := lexerPlaintextUptoRow, standIns := [], harness := (true, "e507068d20aa6f8d5fe398950dccc44fee5fd034215a10c8b818d82a2b2bbc3e"), looks := false }, kinds := [], alts := [], laidByText := true, laidKinds := [.data, .data], laidTests := true, laidLooks := .later }
def LexerPlaintextUptoCardSaid : Prop := Claim7.holds Tryd.pinned (.plain (OpenSpec.upto lexerPlaintextSpec)) lexerPlaintextUptoCard
end Rows
end Go.Proofs.YtcfaejbbjmjgpabDoor
