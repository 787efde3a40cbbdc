/-
  DERIVED. GIVEN WITH THE SEED: THE CARDS: each row of YtmkbfnghkcjogaaDoorRows.lean that lists a variable, with what it lists TIED to the program's text (the seventh form; the later family's looks); each row that meets fmt, with fmt's text TOLD by the authors' own Lean function (tested against real Go, not proved from fmt's source: count such statements apart). THE CARD IS WHAT COUNTS. Prove the row's statement (the work); the ties are given (YtmkbfnghkcjogaaDoorTie.lean); close each card by the builder's one call (the guide's Derived/Test/ToyasCard.lean, 'card_holds'). Laid BY PROGRAM, IN A SANDBOX (cutbox-door.mjs). By AI agents, Wed Nov 11 2026. No macro, syntax, notation, axiom, sorry.
-/
import Derived.Test.YtmkbfnghkcjogaaDoorRows
import GoSem.ClaimSeven
namespace Go.Proofs.YtmkbfnghkcjogaaDoor
namespace Rows

/-- THE TIED CARD OF 'chasekeep1.PatchesLead'. -/
def patchesLeadCard : Claim7 := { stood := { row := patchesLeadRow, standIns := [], harness := (true, "1ebc86520950da9e0532643f6570658f563de7e617da7b78ce2d6ea365ce0eb2"), looks := false }, kinds := [], alts := [], laidByText := true, laidKinds := [.data, .pinned], laidTests := true, laidLooks := .later }
def PatchesLeadCardSaid : Prop := Claim7.holds Tryd.pinned (.plain (OpenSpec.ofChange patchesLeadSpec)) patchesLeadCard

/-- THE SECOND FORM's CARD OF 'chasekeep1.PatchesLead'. -/
def patchesLeadUptoCard : Claim7 := { stood := { row := patchesLeadUptoRow, standIns := [], harness := (true, "1ebc86520950da9e0532643f6570658f563de7e617da7b78ce2d6ea365ce0eb2"), looks := false }, kinds := [], alts := [], laidByText := true, laidKinds := [.data, .pinned], laidTests := true, laidLooks := .later }
def PatchesLeadUptoCardSaid : Prop := Claim7.holds Tryd.pinned (.plain (OpenSpec.upto patchesLeadSpec)) patchesLeadUptoCard
end Rows
end Go.Proofs.YtmkbfnghkcjogaaDoor
