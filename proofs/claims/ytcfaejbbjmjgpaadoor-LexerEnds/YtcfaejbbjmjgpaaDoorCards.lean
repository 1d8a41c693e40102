/-
  DERIVED. GIVEN WITH THE SEED: THE CARDS: each row of YtcfaejbbjmjgpaaDoorRows.lean that lists a variable, with what it lists TIED to the program's text (the seventh form; the later family's looks); each row that meets fmt, with fmt's text TOLD by the authors' own Lean function (tested against real Go, not proved from fmt's source: count such statements apart). THE CARD IS WHAT COUNTS. Prove the row's statement (the work); the ties are given (YtcfaejbbjmjgpaaDoorTie.lean); close each card by the builder's one call (the guide's Derived/Test/ToyasCard.lean, 'card_holds'). Laid BY PROGRAM, IN A SANDBOX (cutbox-door.mjs). By AI agents, Wed Nov 11 2026. No macro, syntax, notation, axiom, sorry.
-/
import Derived.Test.YtcfaejbbjmjgpaaDoorRows
import GoSem.ClaimSeven
namespace Go.Proofs.YtcfaejbbjmjgpaaDoor
namespace Rows

/-- THE TIED CARD OF 'arbourlaw13.LexerEnds'. -/
def lexerEndsCard : Claim7 := { stood := { row := lexerEndsRow, standIns := [], harness := (true, "b8639c0ab80a689e03d8839f7d106f5deb58c7049996efff0669708e42bbbdb1"), looks := false }, kinds := [], alts := [], laidByText := true, laidKinds := [.data, .data], laidTests := true, laidLooks := .later }
def LexerEndsCardSaid : Prop := Claim7.holds Tryd.pinned (.plain (OpenSpec.ofChange lexerEndsSpec)) lexerEndsCard

/-- THE TIED CARD OF 'arbourlaw13.LexerPlain'. -/
def lexerPlainCard : Claim7 := { stood := { row := lexerPlainRow, standIns := [], harness := (true, "b8639c0ab80a689e03d8839f7d106f5deb58c7049996efff0669708e42bbbdb1"), looks := false }, kinds := [], alts := [], laidByText := true, laidKinds := [.data, .data], laidTests := true, laidLooks := .later }
def LexerPlainCardSaid : Prop := Claim7.holds Tryd.pinned (.plain (OpenSpec.ofChange lexerPlainSpec)) lexerPlainCard

/-- THE TIED CARD OF 'arbourlaw13.LexerRaw'. -/
def lexerRawCard : Claim7 := { stood := { row := lexerRawRow, standIns := [], harness := (true, "b8639c0ab80a689e03d8839f7d106f5deb58c7049996efff0669708e42bbbdb1"), looks := false }, kinds := [], alts := [], laidByText := true, laidKinds := [.data, .data], laidTests := true, laidLooks := .later }
def LexerRawCardSaid : Prop := Claim7.holds Tryd.pinned (.plain (OpenSpec.ofChange lexerRawSpec)) lexerRawCard

/-- THE SECOND FORM's CARD OF 'arbourlaw13.LexerEnds'. -/
def lexerEndsUptoCard : Claim7 := { stood := { row := lexerEndsUptoRow, standIns := [], harness := (true, "b8639c0ab80a689e03d8839f7d106f5deb58c7049996efff0669708e42bbbdb1"), looks := false }, kinds := [], alts := [], laidByText := true, laidKinds := [.data, .data], laidTests := true, laidLooks := .later }
def LexerEndsUptoCardSaid : Prop := Claim7.holds Tryd.pinned (.plain (OpenSpec.upto lexerEndsSpec)) lexerEndsUptoCard

/-- THE SECOND FORM's CARD OF 'arbourlaw13.LexerPlain'. -/
def lexerPlainUptoCard : Claim7 := { stood := { row := lexerPlainUptoRow, standIns := [], harness := (true, "b8639c0ab80a689e03d8839f7d106f5deb58c7049996efff0669708e42bbbdb1"), looks := false }, kinds := [], alts := [], laidByText := true, laidKinds := [.data, .data], laidTests := true, laidLooks := .later }
def LexerPlainUptoCardSaid : Prop := Claim7.holds Tryd.pinned (.plain (OpenSpec.upto lexerPlainSpec)) lexerPlainUptoCard

/-- THE SECOND FORM's CARD OF 'arbourlaw13.LexerRaw'. -/
def lexerRawUptoCard : Claim7 := { stood := { row := lexerRawUptoRow, standIns := [], harness := (true, "b8639c0ab80a689e03d8839f7d106f5deb58c7049996efff0669708e42bbbdb1"), looks := false }, kinds := [], alts := [], laidByText := true, laidKinds := [.data, .data], laidTests := true, laidLooks := .later }
def LexerRawUptoCardSaid : Prop := Claim7.holds Tryd.pinned (.plain (OpenSpec.upto lexerRawSpec)) lexerRawUptoCard
end Rows
end Go.Proofs.YtcfaejbbjmjgpaaDoor
