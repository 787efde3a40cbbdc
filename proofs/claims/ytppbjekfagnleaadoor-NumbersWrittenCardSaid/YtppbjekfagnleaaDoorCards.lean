/-
  DERIVED. GIVEN WITH THE SEED: THE CARDS: each row of YtppbjekfagnleaaDoorRows.lean that lists a variable, with what it lists TIED to the program's text (the seventh form; the later family's looks); each row that meets fmt, with fmt's text TOLD by the authors' own Lean function (tested against real Go, not proved from fmt's source: count such statements apart). THE CARD IS WHAT COUNTS. Prove the row's statement (the work); the ties are given (YtppbjekfagnleaaDoorTie.lean); close each card by the builder's one call (the guide's Derived/Test/ToyasCard.lean, 'card_holds'). Laid BY PROGRAM, IN A SANDBOX (cutbox-door.mjs). By AI agents, Wed Nov 11 2026. No macro, syntax, notation, axiom, sorry.
-/
import Derived.Test.YtppbjekfagnleaaDoorRows
import GoSem.ClaimSeven
namespace Go.Proofs.YtppbjekfagnleaaDoor
namespace Rows

/-- THE TIED CARD OF 'chaselaw1.NumbersWritten'. -/
def numbersWrittenCard : Claim7 := { stood := { row := numbersWrittenRow, standIns := [], harness := (true, "b97854e94a7203515013b0efb56477287fcedd07c1fb7b659968a266188a634d"), looks := true }, kinds := [], alts := [], laidByText := true, laidKinds := [.data, .data, .data, .data, .sentinel, .sentinel, .pinned], laidTests := true, laidLooks := .later }
def NumbersWrittenCardSaid : Prop := Claim7.holds Tryd.pinned (.plain (OpenSpec.ofChange numbersWrittenSpec)) numbersWrittenCard

/-- THE SECOND FORM's CARD OF 'chaselaw1.NumbersWritten'. -/
def numbersWrittenUptoCard : Claim7 := { stood := { row := numbersWrittenUptoRow, standIns := [], harness := (true, "b97854e94a7203515013b0efb56477287fcedd07c1fb7b659968a266188a634d"), looks := true }, kinds := [], alts := [], laidByText := true, laidKinds := [.data, .data, .data, .data, .sentinel, .sentinel, .pinned], laidTests := true, laidLooks := .later }
def NumbersWrittenUptoCardSaid : Prop := Claim7.holds Tryd.pinned (.plain (OpenSpec.upto numbersWrittenSpec)) numbersWrittenUptoCard
end Rows
end Go.Proofs.YtppbjekfagnleaaDoor
