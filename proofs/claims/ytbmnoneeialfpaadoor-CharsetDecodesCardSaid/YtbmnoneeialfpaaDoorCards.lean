/-
  DERIVED. GIVEN WITH THE SEED: THE CARDS: each row of YtbmnoneeialfpaaDoorRows.lean that lists a variable, with what it lists TIED to the program's text (the seventh form; the later family's looks); each row that meets fmt, with fmt's text TOLD by the authors' own Lean function (tested against real Go, not proved from fmt's source: count such statements apart). THE CARD IS WHAT COUNTS. Prove the row's statement (the work); the ties are given (YtbmnoneeialfpaaDoorTie.lean); close each card by the builder's one call (the guide's Derived/Test/ToyasCard.lean, 'card_holds'). Laid BY PROGRAM, IN A SANDBOX (cutbox-door.mjs). By AI agents, Wed Nov 11 2026. No macro, syntax, notation, axiom, sorry.
-/
import Derived.Test.YtbmnoneeialfpaaDoorRows
import GoSem.ClaimSeven
namespace Go.Proofs.YtbmnoneeialfpaaDoor
namespace Rows

/-- THE TIED CARD OF 'pouchlaw04.CharsetTells'. -/
def charsetTellsCard : Claim7 := { stood := { row := charsetTellsRow, standIns := [], harness := (true, "3ccbe57dcf465fb3885081fc52f3bb08a5fa4e4c61da072ae2a46422813e246c"), looks := false }, kinds := [], alts := [], laidByText := true, laidKinds := [.data, .data, .pinned], laidTests := true, laidLooks := .later }
def CharsetTellsCardSaid : Prop := Claim7.holds Tryd.pinned (.plain (OpenSpec.ofChange charsetTellsSpec)) charsetTellsCard

/-- THE TIED CARD OF 'pouchlaw04.CharsetRepairs'. -/
def charsetRepairsCard : Claim7 := { stood := { row := charsetRepairsRow, standIns := [], harness := (true, "3ccbe57dcf465fb3885081fc52f3bb08a5fa4e4c61da072ae2a46422813e246c"), looks := false }, kinds := [], alts := [], laidByText := true, laidKinds := [.data, .data, .pinned], laidTests := true, laidLooks := .later }
def CharsetRepairsCardSaid : Prop := Claim7.holds Tryd.pinned (.plain (OpenSpec.ofChange charsetRepairsSpec)) charsetRepairsCard

/-- THE TIED CARD OF 'pouchlaw04.CharsetDecodes'. -/
def charsetDecodesCard : Claim7 := { stood := { row := charsetDecodesRow, standIns := [], harness := (true, "3ccbe57dcf465fb3885081fc52f3bb08a5fa4e4c61da072ae2a46422813e246c"), looks := false }, kinds := [], alts := [], laidByText := true, laidKinds := [.data, .data, .pinned], laidTests := true, laidLooks := .later }
def CharsetDecodesCardSaid : Prop := Claim7.holds Tryd.pinned (.plain (OpenSpec.ofChange charsetDecodesSpec)) charsetDecodesCard

/-- THE TIED CARD OF 'pouchlaw04.CharsetParts'. -/
def charsetPartsCard : Claim7 := { stood := { row := charsetPartsRow, standIns := [], harness := (true, "3ccbe57dcf465fb3885081fc52f3bb08a5fa4e4c61da072ae2a46422813e246c"), looks := false }, kinds := [], alts := [], laidByText := true, laidKinds := [.data, .data, .pinned], laidTests := true, laidLooks := .later }
def CharsetPartsCardSaid : Prop := Claim7.holds Tryd.pinned (.plain (OpenSpec.ofChange charsetPartsSpec)) charsetPartsCard

/-- THE TIED CARD OF 'pouchlaw04.CharsetBounds'. -/
def charsetBoundsCard : Claim7 := { stood := { row := charsetBoundsRow, standIns := [], harness := (true, "3ccbe57dcf465fb3885081fc52f3bb08a5fa4e4c61da072ae2a46422813e246c"), looks := false }, kinds := [], alts := [], laidByText := true, laidKinds := [.data, .data, .pinned], laidTests := true, laidLooks := .later }
def CharsetBoundsCardSaid : Prop := Claim7.holds Tryd.pinned (.plain (OpenSpec.ofChange charsetBoundsSpec)) charsetBoundsCard

/-- THE SECOND FORM's CARD OF 'pouchlaw04.CharsetTells'. -/
def charsetTellsUptoCard : Claim7 := { stood := { row := charsetTellsUptoRow, standIns := [], harness := (true, "3ccbe57dcf465fb3885081fc52f3bb08a5fa4e4c61da072ae2a46422813e246c"), looks := false }, kinds := [], alts := [], laidByText := true, laidKinds := [.data, .data, .pinned], laidTests := true, laidLooks := .later }
def CharsetTellsUptoCardSaid : Prop := Claim7.holds Tryd.pinned (.plain (OpenSpec.upto charsetTellsSpec)) charsetTellsUptoCard

/-- THE SECOND FORM's CARD OF 'pouchlaw04.CharsetRepairs'. -/
def charsetRepairsUptoCard : Claim7 := { stood := { row := charsetRepairsUptoRow, standIns := [], harness := (true, "3ccbe57dcf465fb3885081fc52f3bb08a5fa4e4c61da072ae2a46422813e246c"), looks := false }, kinds := [], alts := [], laidByText := true, laidKinds := [.data, .data, .pinned], laidTests := true, laidLooks := .later }
def CharsetRepairsUptoCardSaid : Prop := Claim7.holds Tryd.pinned (.plain (OpenSpec.upto charsetRepairsSpec)) charsetRepairsUptoCard

/-- THE SECOND FORM's CARD OF 'pouchlaw04.CharsetDecodes'. -/
def charsetDecodesUptoCard : Claim7 := { stood := { row := charsetDecodesUptoRow, standIns := [], harness := (true, "3ccbe57dcf465fb3885081fc52f3bb08a5fa4e4c61da072ae2a46422813e246c"), looks := false }, kinds := [], alts := [], laidByText := true, laidKinds := [.data, .data, .pinned], laidTests := true, laidLooks := .later }
def CharsetDecodesUptoCardSaid : Prop := Claim7.holds Tryd.pinned (.plain (OpenSpec.upto charsetDecodesSpec)) charsetDecodesUptoCard

/-- THE SECOND FORM's CARD OF 'pouchlaw04.CharsetParts'. -/
def charsetPartsUptoCard : Claim7 := { stood := { row := charsetPartsUptoRow, standIns := [], harness := (true, "3ccbe57dcf465fb3885081fc52f3bb08a5fa4e4c61da072ae2a46422813e246c"), looks := false }, kinds := [], alts := [], laidByText := true, laidKinds := [.data, .data, .pinned], laidTests := true, laidLooks := .later }
def CharsetPartsUptoCardSaid : Prop := Claim7.holds Tryd.pinned (.plain (OpenSpec.upto charsetPartsSpec)) charsetPartsUptoCard

/-- THE SECOND FORM's CARD OF 'pouchlaw04.CharsetBounds'. -/
def charsetBoundsUptoCard : Claim7 := { stood := { row := charsetBoundsUptoRow, standIns := [], harness := (true, "3ccbe57dcf465fb3885081fc52f3bb08a5fa4e4c61da072ae2a46422813e246c"), looks := false }, kinds := [], alts := [], laidByText := true, laidKinds := [.data, .data, .pinned], laidTests := true, laidLooks := .later }
def CharsetBoundsUptoCardSaid : Prop := Claim7.holds Tryd.pinned (.plain (OpenSpec.upto charsetBoundsSpec)) charsetBoundsUptoCard
end Rows
end Go.Proofs.YtbmnoneeialfpaaDoor
