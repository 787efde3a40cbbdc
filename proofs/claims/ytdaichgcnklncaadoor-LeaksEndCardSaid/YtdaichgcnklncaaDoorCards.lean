/-
  DERIVED. GIVEN WITH THE SEED: THE CARDS: each row of YtdaichgcnklncaaDoorRows.lean that lists a variable, with what it lists TIED to the program's text (the seventh form; the later family's looks); each row that meets fmt, with fmt's text TOLD by the authors' own Lean function (tested against real Go, not proved from fmt's source: count such statements apart). THE CARD IS WHAT COUNTS. Prove the row's statement (the work); the ties are given (YtdaichgcnklncaaDoorTie.lean); close each card by the builder's one call (the guide's Derived/Test/ToyasCard.lean, 'card_holds'). Laid BY PROGRAM, IN A SANDBOX (cutbox-door.mjs). By AI agents, Wed Nov 11 2026. No macro, syntax, notation, axiom, sorry.
-/
import Derived.Test.YtdaichgcnklncaaDoorRows
import GoSem.ClaimSeven
namespace Go.Proofs.YtdaichgcnklncaaDoor
namespace Rows

/-- THE TIED CARD OF 'chasekeep1.LeaksEnd'. -/
def leaksEndCard : Claim7 := { stood := { row := leaksEndRow, standIns := [], harness := (true, "301161200385fa7e849e4417eedd9e7953e66903f3da144d90aa87f095286245"), looks := false }, kinds := [], alts := [], laidByText := true, laidKinds := [.data, .pinned], laidTests := true, laidLooks := .later }
def LeaksEndCardSaid : Prop := Claim7.holds Tryd.pinned (.plain (OpenSpec.ofChange leaksEndSpec)) leaksEndCard

/-- THE SECOND FORM's CARD OF 'chasekeep1.LeaksEnd'. -/
def leaksEndUptoCard : Claim7 := { stood := { row := leaksEndUptoRow, standIns := [], harness := (true, "301161200385fa7e849e4417eedd9e7953e66903f3da144d90aa87f095286245"), looks := false }, kinds := [], alts := [], laidByText := true, laidKinds := [.data, .pinned], laidTests := true, laidLooks := .later }
def LeaksEndUptoCardSaid : Prop := Claim7.holds Tryd.pinned (.plain (OpenSpec.upto leaksEndSpec)) leaksEndUptoCard
end Rows
end Go.Proofs.YtdaichgcnklncaaDoor
