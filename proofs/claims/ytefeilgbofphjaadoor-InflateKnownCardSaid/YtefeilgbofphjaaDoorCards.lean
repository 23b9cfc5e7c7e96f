/-
  DERIVED. GIVEN WITH THE SEED: THE CARDS: each row of YtefeilgbofphjaaDoorRows.lean that lists a variable, with what it lists TIED to the program's text (the seventh form; the later family's looks); each row that meets fmt, with fmt's text TOLD by the authors' own Lean function (tested against real Go, not proved from fmt's source: count such statements apart). THE CARD IS WHAT COUNTS. Prove the row's statement (the work); the ties are given (YtefeilgbofphjaaDoorTie.lean); close each card by the builder's one call (the guide's Derived/Test/ToyasCard.lean, 'card_holds'). Laid BY PROGRAM, IN A SANDBOX (cutbox-door.mjs). By AI agents, Wed Nov 11 2026. No macro, syntax, notation, axiom, sorry.
-/
import Derived.Test.YtefeilgbofphjaaDoorRows
import GoSem.ClaimSeven
namespace Go.Proofs.YtefeilgbofphjaaDoor
namespace Rows

/-- THE TIED CARD OF 'portolanlaw06.InflateBack'. -/
def inflateBackCard : Claim7 := { stood := { row := inflateBackRow, standIns := [], harness := (true, "bf5329e3e7a6536d50b045f3363ea7d87813e56037d9cf91b5d7c97aeb000cdf"), looks := true }, kinds := [], alts := [], laidByText := true, laidKinds := [.data], laidTests := true, laidLooks := .later }
def InflateBackCardSaid : Prop := Claim7.holds Tryd.pinned (.plain (OpenSpec.ofChange inflateBackSpec)) inflateBackCard

/-- THE TIED CARD OF 'portolanlaw06.InflateCaps'. -/
def inflateCapsCard : Claim7 := { stood := { row := inflateCapsRow, standIns := [], harness := (true, "bf5329e3e7a6536d50b045f3363ea7d87813e56037d9cf91b5d7c97aeb000cdf"), looks := true }, kinds := [], alts := [], laidByText := true, laidKinds := [.data], laidTests := true, laidLooks := .later }
def InflateCapsCardSaid : Prop := Claim7.holds Tryd.pinned (.plain (OpenSpec.ofChange inflateCapsSpec)) inflateCapsCard

/-- THE TIED CARD OF 'portolanlaw06.InflateKnown'. -/
def inflateKnownCard : Claim7 := { stood := { row := inflateKnownRow, standIns := [], harness := (true, "bf5329e3e7a6536d50b045f3363ea7d87813e56037d9cf91b5d7c97aeb000cdf"), looks := true }, kinds := [], alts := [], laidByText := true, laidKinds := [.data], laidTests := true, laidLooks := .later }
def InflateKnownCardSaid : Prop := Claim7.holds Tryd.pinned (.plain (OpenSpec.ofChange inflateKnownSpec)) inflateKnownCard

/-- THE SECOND FORM's CARD OF 'portolanlaw06.InflateBack'. -/
def inflateBackUptoCard : Claim7 := { stood := { row := inflateBackUptoRow, standIns := [], harness := (true, "bf5329e3e7a6536d50b045f3363ea7d87813e56037d9cf91b5d7c97aeb000cdf"), looks := true }, kinds := [], alts := [], laidByText := true, laidKinds := [.data], laidTests := true, laidLooks := .later }
def InflateBackUptoCardSaid : Prop := Claim7.holds Tryd.pinned (.plain (OpenSpec.upto inflateBackSpec)) inflateBackUptoCard

/-- THE SECOND FORM's CARD OF 'portolanlaw06.InflateCaps'. -/
def inflateCapsUptoCard : Claim7 := { stood := { row := inflateCapsUptoRow, standIns := [], harness := (true, "bf5329e3e7a6536d50b045f3363ea7d87813e56037d9cf91b5d7c97aeb000cdf"), looks := true }, kinds := [], alts := [], laidByText := true, laidKinds := [.data], laidTests := true, laidLooks := .later }
def InflateCapsUptoCardSaid : Prop := Claim7.holds Tryd.pinned (.plain (OpenSpec.upto inflateCapsSpec)) inflateCapsUptoCard

/-- THE SECOND FORM's CARD OF 'portolanlaw06.InflateKnown'. -/
def inflateKnownUptoCard : Claim7 := { stood := { row := inflateKnownUptoRow, standIns := [], harness := (true, "bf5329e3e7a6536d50b045f3363ea7d87813e56037d9cf91b5d7c97aeb000cdf"), looks := true }, kinds := [], alts := [], laidByText := true, laidKinds := [.data], laidTests := true, laidLooks := .later }
def InflateKnownUptoCardSaid : Prop := Claim7.holds Tryd.pinned (.plain (OpenSpec.upto inflateKnownSpec)) inflateKnownUptoCard
end Rows
end Go.Proofs.YtefeilgbofphjaaDoor
