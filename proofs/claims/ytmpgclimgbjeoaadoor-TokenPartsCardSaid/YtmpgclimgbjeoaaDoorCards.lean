/-
  DERIVED. GIVEN WITH THE SEED: THE CARDS: each row of YtmpgclimgbjeoaaDoorRows.lean that lists a variable, with what it lists TIED to the program's text (the seventh form; the later family's looks); each row that meets fmt, with fmt's text TOLD by the authors' own Lean function (tested against real Go, not proved from fmt's source: count such statements apart). THE CARD IS WHAT COUNTS. Prove the row's statement (the work); the ties are given (YtmpgclimgbjeoaaDoorTie.lean); close each card by the builder's one call (the guide's Derived/Test/ToyasCard.lean, 'card_holds'). Laid BY PROGRAM, IN A SANDBOX (cutbox-door.mjs). By AI agents, Wed Nov 11 2026. No macro, syntax, notation, axiom, sorry.
-/
import Derived.Test.YtmpgclimgbjeoaaDoorRows
import GoSem.ClaimSeven
namespace Go.Proofs.YtmpgclimgbjeoaaDoor
namespace Rows

/-- THE TIED CARD OF 'pouchlaw10.TokenTells'. -/
def tokenTellsCard : Claim7 := { stood := { row := tokenTellsRow, standIns := [], harness := (true, "c9610b5e1219bdc9bbd2ae0e45ddb84acf58e1c5aeff2734038ec09084b0ff91"), looks := false }, kinds := [], alts := [], laidByText := true, laidKinds := [.data, .pinned], laidTests := true, laidLooks := .later }
def TokenTellsCardSaid : Prop := Claim7.holds Tryd.pinned (.plain (OpenSpec.ofChange tokenTellsSpec)) tokenTellsCard

/-- THE TIED CARD OF 'pouchlaw10.TokenKeeps'. -/
def tokenKeepsCard : Claim7 := { stood := { row := tokenKeepsRow, standIns := [], harness := (true, "c9610b5e1219bdc9bbd2ae0e45ddb84acf58e1c5aeff2734038ec09084b0ff91"), looks := false }, kinds := [], alts := [], laidByText := true, laidKinds := [.data, .pinned], laidTests := true, laidLooks := .later }
def TokenKeepsCardSaid : Prop := Claim7.holds Tryd.pinned (.plain (OpenSpec.ofChange tokenKeepsSpec)) tokenKeepsCard

/-- THE TIED CARD OF 'pouchlaw10.TokenQuotes'. -/
def tokenQuotesCard : Claim7 := { stood := { row := tokenQuotesRow, standIns := [], harness := (true, "c9610b5e1219bdc9bbd2ae0e45ddb84acf58e1c5aeff2734038ec09084b0ff91"), looks := false }, kinds := [], alts := [], laidByText := true, laidKinds := [.data, .pinned], laidTests := true, laidLooks := .later }
def TokenQuotesCardSaid : Prop := Claim7.holds Tryd.pinned (.plain (OpenSpec.ofChange tokenQuotesSpec)) tokenQuotesCard

/-- THE TIED CARD OF 'pouchlaw10.TokenParts'. -/
def tokenPartsCard : Claim7 := { stood := { row := tokenPartsRow, standIns := [], harness := (true, "c9610b5e1219bdc9bbd2ae0e45ddb84acf58e1c5aeff2734038ec09084b0ff91"), looks := false }, kinds := [], alts := [], laidByText := true, laidKinds := [.data, .pinned], laidTests := true, laidLooks := .later }
def TokenPartsCardSaid : Prop := Claim7.holds Tryd.pinned (.plain (OpenSpec.ofChange tokenPartsSpec)) tokenPartsCard

/-- THE SECOND FORM's CARD OF 'pouchlaw10.TokenTells'. -/
def tokenTellsUptoCard : Claim7 := { stood := { row := tokenTellsUptoRow, standIns := [], harness := (true, "c9610b5e1219bdc9bbd2ae0e45ddb84acf58e1c5aeff2734038ec09084b0ff91"), looks := false }, kinds := [], alts := [], laidByText := true, laidKinds := [.data, .pinned], laidTests := true, laidLooks := .later }
def TokenTellsUptoCardSaid : Prop := Claim7.holds Tryd.pinned (.plain (OpenSpec.upto tokenTellsSpec)) tokenTellsUptoCard

/-- THE SECOND FORM's CARD OF 'pouchlaw10.TokenKeeps'. -/
def tokenKeepsUptoCard : Claim7 := { stood := { row := tokenKeepsUptoRow, standIns := [], harness := (true, "c9610b5e1219bdc9bbd2ae0e45ddb84acf58e1c5aeff2734038ec09084b0ff91"), looks := false }, kinds := [], alts := [], laidByText := true, laidKinds := [.data, .pinned], laidTests := true, laidLooks := .later }
def TokenKeepsUptoCardSaid : Prop := Claim7.holds Tryd.pinned (.plain (OpenSpec.upto tokenKeepsSpec)) tokenKeepsUptoCard

/-- THE SECOND FORM's CARD OF 'pouchlaw10.TokenQuotes'. -/
def tokenQuotesUptoCard : Claim7 := { stood := { row := tokenQuotesUptoRow, standIns := [], harness := (true, "c9610b5e1219bdc9bbd2ae0e45ddb84acf58e1c5aeff2734038ec09084b0ff91"), looks := false }, kinds := [], alts := [], laidByText := true, laidKinds := [.data, .pinned], laidTests := true, laidLooks := .later }
def TokenQuotesUptoCardSaid : Prop := Claim7.holds Tryd.pinned (.plain (OpenSpec.upto tokenQuotesSpec)) tokenQuotesUptoCard

/-- THE SECOND FORM's CARD OF 'pouchlaw10.TokenParts'. -/
def tokenPartsUptoCard : Claim7 := { stood := { row := tokenPartsUptoRow, standIns := [], harness := (true, "c9610b5e1219bdc9bbd2ae0e45ddb84acf58e1c5aeff2734038ec09084b0ff91"), looks := false }, kinds := [], alts := [], laidByText := true, laidKinds := [.data, .pinned], laidTests := true, laidLooks := .later }
def TokenPartsUptoCardSaid : Prop := Claim7.holds Tryd.pinned (.plain (OpenSpec.upto tokenPartsSpec)) tokenPartsUptoCard
end Rows
end Go.Proofs.YtmpgclimgbjeoaaDoor
