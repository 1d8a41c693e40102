/-
  DERIVED. GIVEN WITH THE SEED: THE CARDS: each row of YtgebdaanglmnnaaDoorRows.lean that lists a variable, with what it lists TIED to the program's text (the seventh form; the later family's looks); each row that meets fmt, with fmt's text TOLD by the authors' own Lean function (tested against real Go, not proved from fmt's source: count such statements apart). THE CARD IS WHAT COUNTS. Prove the row's statement (the work); the ties are given (YtgebdaanglmnnaaDoorTie.lean); close each card by the builder's one call (the guide's Derived/Test/ToyasCard.lean, 'card_holds'). Laid BY PROGRAM, IN A SANDBOX (cutbox-door.mjs). By AI agents, Wed Nov 11 2026. No macro, syntax, notation, axiom, sorry.
-/
import Derived.Test.YtgebdaanglmnnaaDoorRows
import GoSem.ClaimSeven
namespace Go.Proofs.YtgebdaanglmnnaaDoor
namespace Rows

/-- THE TIED CARD OF 'arbourlaw11.TagNumbers'. -/
def tagNumbersCard : Claim7 := { stood := { row := tagNumbersRow, standIns := [], harness := (true, "b30d9929db3db153c22512098c7bbf38cf977080a1ae7b641399118b23538e1a"), looks := false }, kinds := [], alts := [], laidByText := true, laidKinds := [.data, .data], laidTests := true, laidLooks := .later }
def TagNumbersCardSaid : Prop := Claim7.holds Tryd.pinned (.plain (OpenSpec.ofChange tagNumbersSpec)) tagNumbersCard

/-- THE TIED CARD OF 'arbourlaw11.TagTells'. -/
def tagTellsCard : Claim7 := { stood := { row := tagTellsRow, standIns := [], harness := (true, "b30d9929db3db153c22512098c7bbf38cf977080a1ae7b641399118b23538e1a"), looks := false }, kinds := [], alts := [], laidByText := true, laidKinds := [.data, .data], laidTests := true, laidLooks := .later }
def TagTellsCardSaid : Prop := Claim7.holds Tryd.pinned (.plain (OpenSpec.ofChange tagTellsSpec)) tagTellsCard

/-- THE TIED CARD OF 'arbourlaw11.TagAttrs'. -/
def tagAttrsCard : Claim7 := { stood := { row := tagAttrsRow, standIns := [], harness := (true, "b30d9929db3db153c22512098c7bbf38cf977080a1ae7b641399118b23538e1a"), looks := false }, kinds := [], alts := [], laidByText := true, laidKinds := [.data, .data], laidTests := true, laidLooks := .later }
def TagAttrsCardSaid : Prop := Claim7.holds Tryd.pinned (.plain (OpenSpec.ofChange tagAttrsSpec)) tagAttrsCard

/-- THE TIED CARD OF 'arbourlaw11.TagRight'. -/
def tagRightCard : Claim7 := { stood := { row := tagRightRow, standIns := [], harness := (true, "b30d9929db3db153c22512098c7bbf38cf977080a1ae7b641399118b23538e1a"), looks := false }, kinds := [], alts := [], laidByText := true, laidKinds := [.data, .data], laidTests := true, laidLooks := .later }
def TagRightCardSaid : Prop := Claim7.holds Tryd.pinned (.plain (OpenSpec.ofChange tagRightSpec)) tagRightCard

/-- THE TIED CARD OF 'arbourlaw11.TagValues'. -/
def tagValuesCard : Claim7 := { stood := { row := tagValuesRow, standIns := [], harness := (true, "b30d9929db3db153c22512098c7bbf38cf977080a1ae7b641399118b23538e1a"), looks := false }, kinds := [], alts := [], laidByText := true, laidKinds := [.data, .data], laidTests := true, laidLooks := .later }
def TagValuesCardSaid : Prop := Claim7.holds Tryd.pinned (.plain (OpenSpec.ofChange tagValuesSpec)) tagValuesCard

/-- THE TIED CARD OF 'arbourlaw11.TagLost'. -/
def tagLostCard : Claim7 := { stood := { row := tagLostRow, standIns := [], harness := (true, "b30d9929db3db153c22512098c7bbf38cf977080a1ae7b641399118b23538e1a"), looks := false }, kinds := [], alts := [], laidByText := true, laidKinds := [.data, .data], laidTests := true, laidLooks := .later }
def TagLostCardSaid : Prop := Claim7.holds Tryd.pinned (.plain (OpenSpec.ofChange tagLostSpec)) tagLostCard

/-- THE SECOND FORM's CARD OF 'arbourlaw11.TagNumbers'. -/
def tagNumbersUptoCard : Claim7 := { stood := { row := tagNumbersUptoRow, standIns := [], harness := (true, "b30d9929db3db153c22512098c7bbf38cf977080a1ae7b641399118b23538e1a"), looks := false }, kinds := [], alts := [], laidByText := true, laidKinds := [.data, .data], laidTests := true, laidLooks := .later }
def TagNumbersUptoCardSaid : Prop := Claim7.holds Tryd.pinned (.plain (OpenSpec.upto tagNumbersSpec)) tagNumbersUptoCard

/-- THE SECOND FORM's CARD OF 'arbourlaw11.TagTells'. -/
def tagTellsUptoCard : Claim7 := { stood := { row := tagTellsUptoRow, standIns := [], harness := (true, "b30d9929db3db153c22512098c7bbf38cf977080a1ae7b641399118b23538e1a"), looks := false }, kinds := [], alts := [], laidByText := true, laidKinds := [.data, .data], laidTests := true, laidLooks := .later }
def TagTellsUptoCardSaid : Prop := Claim7.holds Tryd.pinned (.plain (OpenSpec.upto tagTellsSpec)) tagTellsUptoCard

/-- THE SECOND FORM's CARD OF 'arbourlaw11.TagAttrs'. -/
def tagAttrsUptoCard : Claim7 := { stood := { row := tagAttrsUptoRow, standIns := [], harness := (true, "b30d9929db3db153c22512098c7bbf38cf977080a1ae7b641399118b23538e1a"), looks := false }, kinds := [], alts := [], laidByText := true, laidKinds := [.data, .data], laidTests := true, laidLooks := .later }
def TagAttrsUptoCardSaid : Prop := Claim7.holds Tryd.pinned (.plain (OpenSpec.upto tagAttrsSpec)) tagAttrsUptoCard

/-- THE SECOND FORM's CARD OF 'arbourlaw11.TagRight'. -/
def tagRightUptoCard : Claim7 := { stood := { row := tagRightUptoRow, standIns := [], harness := (true, "b30d9929db3db153c22512098c7bbf38cf977080a1ae7b641399118b23538e1a"), looks := false }, kinds := [], alts := [], laidByText := true, laidKinds := [.data, .data], laidTests := true, laidLooks := .later }
def TagRightUptoCardSaid : Prop := Claim7.holds Tryd.pinned (.plain (OpenSpec.upto tagRightSpec)) tagRightUptoCard

/-- THE SECOND FORM's CARD OF 'arbourlaw11.TagValues'. -/
def tagValuesUptoCard : Claim7 := { stood := { row := tagValuesUptoRow, standIns := [], harness := (true, "b30d9929db3db153c22512098c7bbf38cf977080a1ae7b641399118b23538e1a"), looks := false }, kinds := [], alts := [], laidByText := true, laidKinds := [.data, .data], laidTests := true, laidLooks := .later }
def TagValuesUptoCardSaid : Prop := Claim7.holds Tryd.pinned (.plain (OpenSpec.upto tagValuesSpec)) tagValuesUptoCard

/-- THE SECOND FORM's CARD OF 'arbourlaw11.TagLost'. -/
def tagLostUptoCard : Claim7 := { stood := { row := tagLostUptoRow, standIns := [], harness := (true, "b30d9929db3db153c22512098c7bbf38cf977080a1ae7b641399118b23538e1a"), looks := false }, kinds := [], alts := [], laidByText := true, laidKinds := [.data, .data], laidTests := true, laidLooks := .later }
def TagLostUptoCardSaid : Prop := Claim7.holds Tryd.pinned (.plain (OpenSpec.upto tagLostSpec)) tagLostUptoCard
end Rows
end Go.Proofs.YtgebdaanglmnnaaDoor
