/-
  DERIVED. GIVEN WITH THE SEED: THE CARDS: each row of YtniphfagpmgabaaDoorRows.lean that lists a variable, with what it lists TIED to the program's text (the seventh form; the later family's looks); each row that meets fmt, with fmt's text TOLD by the authors' own Lean function (tested against real Go, not proved from fmt's source: count such statements apart). THE CARD IS WHAT COUNTS. Prove the row's statement (the work); the ties are given (YtniphfagpmgabaaDoorTie.lean); close each card by the builder's one call (the guide's Derived/Test/ToyasCard.lean, 'card_holds'). Laid BY PROGRAM, IN A SANDBOX (cutbox-door.mjs). By AI agents, Wed Nov 11 2026. No macro, syntax, notation, axiom, sorry.
-/
import Derived.Test.YtniphfagpmgabaaDoorRows
import GoSem.ClaimSeven
namespace Go.Proofs.YtniphfagpmgabaaDoor
namespace Rows

/-- THE TIED CARD OF 'chaselaw1.WordsDiffer'. -/
def wordsDifferCard : Claim7 := { stood := { row := wordsDifferRow, standIns := [], harness := (true, "3939d83d007ed212331307100c1e9fb36c732fc2398b3c3993d3df0e5cf83fc7"), looks := false }, kinds := [], alts := [], laidByText := true, laidKinds := [.data, .pinned], laidTests := true, laidLooks := .later }
def WordsDifferCardSaid : Prop := Claim7.holds Tryd.pinned (.plain (OpenSpec.ofChange wordsDifferSpec)) wordsDifferCard

/-- THE SECOND FORM's CARD OF 'chaselaw1.WordsDiffer'. -/
def wordsDifferUptoCard : Claim7 := { stood := { row := wordsDifferUptoRow, standIns := [], harness := (true, "3939d83d007ed212331307100c1e9fb36c732fc2398b3c3993d3df0e5cf83fc7"), looks := false }, kinds := [], alts := [], laidByText := true, laidKinds := [.data, .pinned], laidTests := true, laidLooks := .later }
def WordsDifferUptoCardSaid : Prop := Claim7.holds Tryd.pinned (.plain (OpenSpec.upto wordsDifferSpec)) wordsDifferUptoCard
end Rows
end Go.Proofs.YtniphfagpmgabaaDoor
