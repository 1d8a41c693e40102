/-
  DERIVED. GIVEN WITH THE SEED: THE CARDS: each row of YtidkcfblfibaaaaDoorRows.lean that lists a variable, with what it lists TIED to the program's text (the seventh form; the later family's looks); each row that meets fmt, with fmt's text TOLD by the authors' own Lean function (tested against real Go, not proved from fmt's source: count such statements apart). THE CARD IS WHAT COUNTS. Prove the row's statement (the work); the ties are given (YtidkcfblfibaaaaDoorTie.lean); close each card by the builder's one call (the guide's Derived/Test/ToyasCard.lean, 'card_holds'). Laid BY PROGRAM, IN A SANDBOX (cutbox-door.mjs). By AI agents, Wed Nov 11 2026. No macro, syntax, notation, axiom, sorry.
-/
import Derived.Test.YtidkcfblfibaaaaDoorRows
import GoSem.ClaimSeven
namespace Go.Proofs.YtidkcfblfibaaaaDoor
namespace Rows

/-- THE TIED CARD OF 'arbourlaw5.RefsNumbers'. -/
def refsNumbersCard : Claim7 := { stood := { row := refsNumbersRow, standIns := [], harness := (true, "98e5b5bb5add3ae17db47e70c707ec407d3726955cbdf27088225ed206ebcb47"), looks := false }, kinds := [], alts := [], laidByText := true, laidKinds := [.data, .data], laidTests := true, laidLooks := .later }
def RefsNumbersCardSaid : Prop := Claim7.holds Tryd.pinned (.plain (OpenSpec.ofChange refsNumbersSpec)) refsNumbersCard

/-- THE TIED CARD OF 'arbourlaw5.RefsTells'. -/
def refsTellsCard : Claim7 := { stood := { row := refsTellsRow, standIns := [], harness := (true, "98e5b5bb5add3ae17db47e70c707ec407d3726955cbdf27088225ed206ebcb47"), looks := false }, kinds := [], alts := [], laidByText := true, laidKinds := [.data, .data], laidTests := true, laidLooks := .later }
def RefsTellsCardSaid : Prop := Claim7.holds Tryd.pinned (.plain (OpenSpec.ofChange refsTellsSpec)) refsTellsCard

/-- THE TIED CARD OF 'arbourlaw5.RefsLongest'. -/
def refsLongestCard : Claim7 := { stood := { row := refsLongestRow, standIns := [], harness := (true, "98e5b5bb5add3ae17db47e70c707ec407d3726955cbdf27088225ed206ebcb47"), looks := false }, kinds := [], alts := [], laidByText := true, laidKinds := [.data], laidTests := true, laidLooks := .later }
def RefsLongestCardSaid : Prop := Claim7.holds Tryd.pinned (.plain (OpenSpec.ofChange refsLongestSpec)) refsLongestCard

/-- THE TIED CARD OF 'arbourlaw5.RefsRunes'. -/
def refsRunesCard : Claim7 := { stood := { row := refsRunesRow, standIns := [], harness := (true, "98e5b5bb5add3ae17db47e70c707ec407d3726955cbdf27088225ed206ebcb47"), looks := false }, kinds := [], alts := [], laidByText := true, laidKinds := [.data, .data], laidTests := true, laidLooks := .later }
def RefsRunesCardSaid : Prop := Claim7.holds Tryd.pinned (.plain (OpenSpec.ofChange refsRunesSpec)) refsRunesCard

/-- THE SECOND FORM's CARD OF 'arbourlaw5.RefsNumbers'. -/
def refsNumbersUptoCard : Claim7 := { stood := { row := refsNumbersUptoRow, standIns := [], harness := (true, "98e5b5bb5add3ae17db47e70c707ec407d3726955cbdf27088225ed206ebcb47"), looks := false }, kinds := [], alts := [], laidByText := true, laidKinds := [.data, .data], laidTests := true, laidLooks := .later }
def RefsNumbersUptoCardSaid : Prop := Claim7.holds Tryd.pinned (.plain (OpenSpec.upto refsNumbersSpec)) refsNumbersUptoCard

/-- THE SECOND FORM's CARD OF 'arbourlaw5.RefsTells'. -/
def refsTellsUptoCard : Claim7 := { stood := { row := refsTellsUptoRow, standIns := [], harness := (true, "98e5b5bb5add3ae17db47e70c707ec407d3726955cbdf27088225ed206ebcb47"), looks := false }, kinds := [], alts := [], laidByText := true, laidKinds := [.data, .data], laidTests := true, laidLooks := .later }
def RefsTellsUptoCardSaid : Prop := Claim7.holds Tryd.pinned (.plain (OpenSpec.upto refsTellsSpec)) refsTellsUptoCard

/-- THE SECOND FORM's CARD OF 'arbourlaw5.RefsLongest'. -/
def refsLongestUptoCard : Claim7 := { stood := { row := refsLongestUptoRow, standIns := [], harness := (true, "98e5b5bb5add3ae17db47e70c707ec407d3726955cbdf27088225ed206ebcb47"), looks := false }, kinds := [], alts := [], laidByText := true, laidKinds := [.data], laidTests := true, laidLooks := .later }
def RefsLongestUptoCardSaid : Prop := Claim7.holds Tryd.pinned (.plain (OpenSpec.upto refsLongestSpec)) refsLongestUptoCard

/-- THE SECOND FORM's CARD OF 'arbourlaw5.RefsRunes'. -/
def refsRunesUptoCard : Claim7 := { stood := { row := refsRunesUptoRow, standIns := [], harness := (true, "98e5b5bb5add3ae17db47e70c707ec407d3726955cbdf27088225ed206ebcb47"), looks := false }, kinds := [], alts := [], laidByText := true, laidKinds := [.data, .data], laidTests := true, laidLooks := .later }
def RefsRunesUptoCardSaid : Prop := Claim7.holds Tryd.pinned (.plain (OpenSpec.upto refsRunesSpec)) refsRunesUptoCard
end Rows
end Go.Proofs.YtidkcfblfibaaaaDoor
