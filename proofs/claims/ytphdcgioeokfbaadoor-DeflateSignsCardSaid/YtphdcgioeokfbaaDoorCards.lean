/-
  DERIVED. GIVEN WITH THE SEED: THE CARDS: each row of YtphdcgioeokfbaaDoorRows.lean that lists a variable, with what it lists TIED to the program's text (the seventh form; the later family's looks); each row that meets fmt, with fmt's text TOLD by the authors' own Lean function (tested against real Go, not proved from fmt's source: count such statements apart). THE CARD IS WHAT COUNTS. Prove the row's statement (the work); the ties are given (YtphdcgioeokfbaaDoorTie.lean); close each card by the builder's one call (the guide's Derived/Test/ToyasCard.lean, 'card_holds'). Laid BY PROGRAM, IN A SANDBOX (cutbox-door.mjs). By AI agents, Wed Nov 11 2026. No macro, syntax, notation, axiom, sorry.
-/
import Derived.Test.YtphdcgioeokfbaaDoorRows
import GoSem.ClaimSeven
namespace Go.Proofs.YtphdcgioeokfbaaDoor
namespace Rows

/-- THE TIED CARD OF 'portolanlaw07.DeflateSigns'. -/
def deflateSignsCard : Claim7 := { stood := { row := deflateSignsRow, standIns := [], harness := (true, "5b3542337f0b5506e8b7c8c4d787e5b3a90387193bc32684dcea6113725730a4"), looks := false }, kinds := [], alts := [], laidByText := true, laidKinds := [.data, .data, .data], laidTests := true, laidLooks := .later }
def DeflateSignsCardSaid : Prop := Claim7.holds Tryd.pinned (.plain (OpenSpec.ofChange deflateSignsSpec)) deflateSignsCard

/-- THE SECOND FORM's CARD OF 'portolanlaw07.DeflateSigns'. -/
def deflateSignsUptoCard : Claim7 := { stood := { row := deflateSignsUptoRow, standIns := [], harness := (true, "5b3542337f0b5506e8b7c8c4d787e5b3a90387193bc32684dcea6113725730a4"), looks := false }, kinds := [], alts := [], laidByText := true, laidKinds := [.data, .data, .data], laidTests := true, laidLooks := .later }
def DeflateSignsUptoCardSaid : Prop := Claim7.holds Tryd.pinned (.plain (OpenSpec.upto deflateSignsSpec)) deflateSignsUptoCard
end Rows
end Go.Proofs.YtphdcgioeokfbaaDoor
