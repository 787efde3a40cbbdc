/-
  DERIVED. GIVEN WITH THE SEED: THE CARDS: each row of YtndeifdpiimbeaaGreatDoorRows.lean that lists a variable, with what it lists TIED to the program's text (the seventh form; the later family's looks); each row that meets fmt, with fmt's text TOLD by the authors' own Lean function (tested against real Go, not proved from fmt's source: count such statements apart). THE CARD IS WHAT COUNTS. Prove the row's statement (the work); the ties are given (YtndeifdpiimbeaaGreatDoorTie.lean); close each card by the builder's one call (the guide's Derived/Test/ToyasCard.lean, 'card_holds'). Laid BY PROGRAM, IN A SANDBOX (cutbox-door.mjs). By AI agents, Wed Nov 11 2026. No macro, syntax, notation, axiom, sorry.
-/
import Derived.Test.YtndeifdpiimbeaaGreatDoorRows
import GoSem.ClaimSeven
namespace Go.Proofs.YtndeifdpiimbeaaGreatDoor
namespace Rows

/-- THE TIED CARD OF 'chaselaw1.WordsPatched'. -/
def wordsPatchedCard : Claim7 := { stood := { row := wordsPatchedRow, standIns := [], harness := (true, "4338e6546a1cd53dc4e2050b2fdfc8205428d8e13cfcba2f05fee712f445e412"), looks := false }, kinds := [], alts := [], laidByText := true, laidKinds := [.data, .pinned], laidTests := true, laidLooks := .later }
def WordsPatchedCardSaid : Prop := Claim7.holds Tryz.pinned (.plain (OpenSpec.ofChange wordsPatchedSpec)) wordsPatchedCard

/-- THE SECOND FORM's CARD OF 'chaselaw1.WordsPatched'. -/
def wordsPatchedUptoCard : Claim7 := { stood := { row := wordsPatchedUptoRow, standIns := [], harness := (true, "4338e6546a1cd53dc4e2050b2fdfc8205428d8e13cfcba2f05fee712f445e412"), looks := false }, kinds := [], alts := [], laidByText := true, laidKinds := [.data, .pinned], laidTests := true, laidLooks := .later }
def WordsPatchedUptoCardSaid : Prop := Claim7.holds Tryz.pinned (.plain (OpenSpec.upto wordsPatchedSpec)) wordsPatchedUptoCard
end Rows
end Go.Proofs.YtndeifdpiimbeaaGreatDoor
