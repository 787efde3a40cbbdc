/-
  DERIVED. GIVEN WITH THE SEED: THE CARDS: each row of YtplocijdbadcjaaGreatDoorRows.lean that lists a variable, with what it lists TIED to the program's text (the seventh form; the later family's looks); each row that meets fmt, with fmt's text TOLD by the authors' own Lean function (tested against real Go, not proved from fmt's source: count such statements apart). THE CARD IS WHAT COUNTS. Prove the row's statement (the work); the ties are given (YtplocijdbadcjaaGreatDoorTie.lean); close each card by the builder's one call (the guide's Derived/Test/ToyasCard.lean, 'card_holds'). Laid BY PROGRAM, IN A SANDBOX (cutbox-door.mjs). By AI agents, Wed Nov 11 2026. No macro, syntax, notation, axiom, sorry.
-/
import Derived.Test.YtplocijdbadcjaaGreatDoorRows
import GoSem.ClaimSeven
namespace Go.Proofs.YtplocijdbadcjaaGreatDoor
namespace Rows

/-- THE TIED CARD OF 'chaselaw1.SketchesEstimate'. -/
def sketchesEstimateCard : Claim7 := { stood := { row := sketchesEstimateRow, standIns := [], harness := (true, "6472149ba0df18dbab3b46556065935049df07e0dd04eb4caa24c4513fa5fafd"), looks := true }, kinds := [], alts := [], laidByText := true, laidKinds := [.data, .data, .data, .sentinel, .sentinel], laidTests := true, laidLooks := .later }
def SketchesEstimateCardSaid : Prop := Claim7.holds Tryz.pinned (.plain (OpenSpec.ofChange sketchesEstimateSpec)) sketchesEstimateCard

/-- THE SECOND FORM's CARD OF 'chaselaw1.SketchesEstimate'. -/
def sketchesEstimateUptoCard : Claim7 := { stood := { row := sketchesEstimateUptoRow, standIns := [], harness := (true, "6472149ba0df18dbab3b46556065935049df07e0dd04eb4caa24c4513fa5fafd"), looks := true }, kinds := [], alts := [], laidByText := true, laidKinds := [.data, .data, .data, .sentinel, .sentinel], laidTests := true, laidLooks := .later }
def SketchesEstimateUptoCardSaid : Prop := Claim7.holds Tryz.pinned (.plain (OpenSpec.upto sketchesEstimateSpec)) sketchesEstimateUptoCard
end Rows
end Go.Proofs.YtplocijdbadcjaaGreatDoor
