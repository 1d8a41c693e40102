/-
  DERIVED. GIVEN WITH THE SEED: THE CARDS: each row of YtdakgkkcikmcnaaDoorRows.lean that lists a variable, with what it lists TIED to the program's text (the seventh form; the later family's looks); each row that meets fmt, with fmt's text TOLD by the authors' own Lean function (tested against real Go, not proved from fmt's source: count such statements apart). THE CARD IS WHAT COUNTS. Prove the row's statement (the work); the ties are given (YtdakgkkcikmcnaaDoorTie.lean); close each card by the builder's one call (the guide's Derived/Test/ToyasCard.lean, 'card_holds'). Laid BY PROGRAM, IN A SANDBOX (cutbox-door.mjs). By AI agents, Wed Nov 11 2026. No macro, syntax, notation, axiom, sorry.
-/
import Derived.Test.YtdakgkkcikmcnaaDoorRows
import GoSem.ClaimSeven
namespace Go.Proofs.YtdakgkkcikmcnaaDoor
namespace Rows

/-- THE TIED CARD OF 'arbourlaw10.RefNumbers'. -/
def refNumbersCard : Claim7 := { stood := { row := refNumbersRow, standIns := [], harness := (true, "ab48391ec7975ae8fc8d1d2aac164872cc57126e762bcf91c7d99df256cb6c2a"), looks := false }, kinds := [], alts := [], laidByText := true, laidKinds := [.data, .data], laidTests := true, laidLooks := .later }
def RefNumbersCardSaid : Prop := Claim7.holds Tryd.pinned (.plain (OpenSpec.ofChange refNumbersSpec)) refNumbersCard

/-- THE TIED CARD OF 'arbourlaw10.RefTells'. -/
def refTellsCard : Claim7 := { stood := { row := refTellsRow, standIns := [], harness := (true, "ab48391ec7975ae8fc8d1d2aac164872cc57126e762bcf91c7d99df256cb6c2a"), looks := false }, kinds := [], alts := [], laidByText := true, laidKinds := [.data, .data], laidTests := true, laidLooks := .later }
def RefTellsCardSaid : Prop := Claim7.holds Tryd.pinned (.plain (OpenSpec.ofChange refTellsSpec)) refTellsCard

/-- THE TIED CARD OF 'arbourlaw10.RefPlain'. -/
def refPlainCard : Claim7 := { stood := { row := refPlainRow, standIns := [], harness := (true, "ab48391ec7975ae8fc8d1d2aac164872cc57126e762bcf91c7d99df256cb6c2a"), looks := false }, kinds := [], alts := [], laidByText := true, laidKinds := [.data, .data], laidTests := true, laidLooks := .later }
def RefPlainCardSaid : Prop := Claim7.holds Tryd.pinned (.plain (OpenSpec.ofChange refPlainSpec)) refPlainCard

/-- THE TIED CARD OF 'arbourlaw10.RefNumbersRead'. -/
def refNumbersReadCard : Claim7 := { stood := { row := refNumbersReadRow, standIns := [], harness := (true, "ab48391ec7975ae8fc8d1d2aac164872cc57126e762bcf91c7d99df256cb6c2a"), looks := false }, kinds := [], alts := [], laidByText := true, laidKinds := [.data, .data], laidTests := true, laidLooks := .later }
def RefNumbersReadCardSaid : Prop := Claim7.holds Tryd.pinned (.plain (OpenSpec.ofChange refNumbersReadSpec)) refNumbersReadCard

/-- THE SECOND FORM's CARD OF 'arbourlaw10.RefNumbers'. -/
def refNumbersUptoCard : Claim7 := { stood := { row := refNumbersUptoRow, standIns := [], harness := (true, "ab48391ec7975ae8fc8d1d2aac164872cc57126e762bcf91c7d99df256cb6c2a"), looks := false }, kinds := [], alts := [], laidByText := true, laidKinds := [.data, .data], laidTests := true, laidLooks := .later }
def RefNumbersUptoCardSaid : Prop := Claim7.holds Tryd.pinned (.plain (OpenSpec.upto refNumbersSpec)) refNumbersUptoCard

/-- THE SECOND FORM's CARD OF 'arbourlaw10.RefTells'. -/
def refTellsUptoCard : Claim7 := { stood := { row := refTellsUptoRow, standIns := [], harness := (true, "ab48391ec7975ae8fc8d1d2aac164872cc57126e762bcf91c7d99df256cb6c2a"), looks := false }, kinds := [], alts := [], laidByText := true, laidKinds := [.data, .data], laidTests := true, laidLooks := .later }
def RefTellsUptoCardSaid : Prop := Claim7.holds Tryd.pinned (.plain (OpenSpec.upto refTellsSpec)) refTellsUptoCard

/-- THE SECOND FORM's CARD OF 'arbourlaw10.RefPlain'. -/
def refPlainUptoCard : Claim7 := { stood := { row := refPlainUptoRow, standIns := [], harness := (true, "ab48391ec7975ae8fc8d1d2aac164872cc57126e762bcf91c7d99df256cb6c2a"), looks := false }, kinds := [], alts := [], laidByText := true, laidKinds := [.data, .data], laidTests := true, laidLooks := .later }
def RefPlainUptoCardSaid : Prop := Claim7.holds Tryd.pinned (.plain (OpenSpec.upto refPlainSpec)) refPlainUptoCard

/-- THE SECOND FORM's CARD OF 'arbourlaw10.RefNumbersRead'. -/
def refNumbersReadUptoCard : Claim7 := { stood := { row := refNumbersReadUptoRow, standIns := [], harness := (true, "ab48391ec7975ae8fc8d1d2aac164872cc57126e762bcf91c7d99df256cb6c2a"), looks := false }, kinds := [], alts := [], laidByText := true, laidKinds := [.data, .data], laidTests := true, laidLooks := .later }
def RefNumbersReadUptoCardSaid : Prop := Claim7.holds Tryd.pinned (.plain (OpenSpec.upto refNumbersReadSpec)) refNumbersReadUptoCard
end Rows
end Go.Proofs.YtdakgkkcikmcnaaDoor
