/-
  DERIVED. GIVEN WITH THE SEED: THE CARDS: each row of YtdmgfkgfcofmhaaDoorRows.lean that lists a variable, with what it lists TIED to the program's text (the seventh form; the later family's looks); each row that meets fmt, with fmt's text TOLD by the authors' own Lean function (tested against real Go, not proved from fmt's source: count such statements apart). THE CARD IS WHAT COUNTS. Prove the row's statement (the work); the ties are given (YtdmgfkgfcofmhaaDoorTie.lean); close each card by the builder's one call (the guide's Derived/Test/ToyasCard.lean, 'card_holds'). Laid BY PROGRAM, IN A SANDBOX (cutbox-door.mjs). By AI agents, Wed Nov 11 2026. No macro, syntax, notation, axiom, sorry.
-/
import Derived.Test.YtdmgfkgfcofmhaaDoorRows
import GoSem.ClaimSeven
namespace Go.Proofs.YtdmgfkgfcofmhaaDoor
namespace Rows

/-- THE TIED CARD OF 'chaselaw1.TextsCovered'. -/
def textsCoveredCard : Claim7 := { stood := { row := textsCoveredRow, standIns := [], harness := (true, "7b876c583b5c5e6ca7d90d3fdfb7082d9fe849c57a11cab0a72d00a08c5926ad"), looks := false }, kinds := [], alts := [], laidByText := true, laidKinds := [.data, .pinned], laidTests := true, laidLooks := .later }
def TextsCoveredCardSaid : Prop := Claim7.holds Tryd.pinned (.plain (OpenSpec.ofChange textsCoveredSpec)) textsCoveredCard

/-- THE SECOND FORM's CARD OF 'chaselaw1.TextsCovered'. -/
def textsCoveredUptoCard : Claim7 := { stood := { row := textsCoveredUptoRow, standIns := [], harness := (true, "7b876c583b5c5e6ca7d90d3fdfb7082d9fe849c57a11cab0a72d00a08c5926ad"), looks := false }, kinds := [], alts := [], laidByText := true, laidKinds := [.data, .pinned], laidTests := true, laidLooks := .later }
def TextsCoveredUptoCardSaid : Prop := Claim7.holds Tryd.pinned (.plain (OpenSpec.upto textsCoveredSpec)) textsCoveredUptoCard
end Rows
end Go.Proofs.YtdmgfkgfcofmhaaDoor
