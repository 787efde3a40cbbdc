/-
  DERIVED. GIVEN WITH THE SEED: THE CARDS: each row of YtflilepmhidndaaDoorRows.lean that lists a variable, with what it lists TIED to the program's text (the seventh form; the later family's looks); each row that meets fmt, with fmt's text TOLD by the authors' own Lean function (tested against real Go, not proved from fmt's source: count such statements apart). THE CARD IS WHAT COUNTS. Prove the row's statement (the work); the ties are given (YtflilepmhidndaaDoorTie.lean); close each card by the builder's one call (the guide's Derived/Test/ToyasCard.lean, 'card_holds'). Laid BY PROGRAM, IN A SANDBOX (cutbox-door.mjs). By AI agents, Wed Nov 11 2026. No macro, syntax, notation, axiom, sorry.
-/
import Derived.Test.YtflilepmhidndaaDoorRows
import GoSem.ClaimSeven
namespace Go.Proofs.YtflilepmhidndaaDoor
namespace Rows

/-- THE TIED CARD OF 'chasekeep1.CoveredIsHidden'. -/
def coveredIsHiddenCard : Claim7 := { stood := { row := coveredIsHiddenRow, standIns := [], harness := (true, "4966ee8cb02157263f165c713b699134914174678a774e41bd022193c36c2453"), looks := false }, kinds := [], alts := [], laidByText := true, laidKinds := [.data, .pinned], laidTests := true, laidLooks := .later }
def CoveredIsHiddenCardSaid : Prop := Claim7.holds Tryd.pinned (.plain (OpenSpec.ofChange coveredIsHiddenSpec)) coveredIsHiddenCard

/-- THE SECOND FORM's CARD OF 'chasekeep1.CoveredIsHidden'. -/
def coveredIsHiddenUptoCard : Claim7 := { stood := { row := coveredIsHiddenUptoRow, standIns := [], harness := (true, "4966ee8cb02157263f165c713b699134914174678a774e41bd022193c36c2453"), looks := false }, kinds := [], alts := [], laidByText := true, laidKinds := [.data, .pinned], laidTests := true, laidLooks := .later }
def CoveredIsHiddenUptoCardSaid : Prop := Claim7.holds Tryd.pinned (.plain (OpenSpec.upto coveredIsHiddenSpec)) coveredIsHiddenUptoCard
end Rows
end Go.Proofs.YtflilepmhidndaaDoor
