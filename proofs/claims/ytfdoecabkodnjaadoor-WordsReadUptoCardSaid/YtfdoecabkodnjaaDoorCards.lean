/-
  DERIVED. GIVEN WITH THE SEED: THE CARDS: each row of YtfdoecabkodnjaaDoorRows.lean that lists a variable, with what it lists TIED to the program's text (the seventh form; the later family's looks); each row that meets fmt, with fmt's text TOLD by the authors' own Lean function (tested against real Go, not proved from fmt's source: count such statements apart). THE CARD IS WHAT COUNTS. Prove the row's statement (the work); the ties are given (YtfdoecabkodnjaaDoorTie.lean); close each card by the builder's one call (the guide's Derived/Test/ToyasCard.lean, 'card_holds'). Laid BY PROGRAM, IN A SANDBOX (cutbox-door.mjs). By AI agents, Wed Nov 11 2026. No macro, syntax, notation, axiom, sorry.
-/
import Derived.Test.YtfdoecabkodnjaaDoorRows
import GoSem.ClaimSeven
namespace Go.Proofs.YtfdoecabkodnjaaDoor
namespace Rows

/-- THE TIED CARD OF 'chaselaw1.WordsRead'. -/
def wordsReadCard : Claim7 := { stood := { row := wordsReadRow, standIns := [], harness := (true, "1fd2f00e0f5a2c9652d69065554626171f814296a4bc83f46ecc95224ae37d88"), looks := false }, kinds := [], alts := [], laidByText := true, laidKinds := [.data, .pinned], laidTests := true, laidLooks := .later }
def WordsReadCardSaid : Prop := Claim7.holds Tryd.pinned (.plain (OpenSpec.ofChange wordsReadSpec)) wordsReadCard

/-- THE SECOND FORM's CARD OF 'chaselaw1.WordsRead'. -/
def wordsReadUptoCard : Claim7 := { stood := { row := wordsReadUptoRow, standIns := [], harness := (true, "1fd2f00e0f5a2c9652d69065554626171f814296a4bc83f46ecc95224ae37d88"), looks := false }, kinds := [], alts := [], laidByText := true, laidKinds := [.data, .pinned], laidTests := true, laidLooks := .later }
def WordsReadUptoCardSaid : Prop := Claim7.holds Tryd.pinned (.plain (OpenSpec.upto wordsReadSpec)) wordsReadUptoCard
end Rows
end Go.Proofs.YtfdoecabkodnjaaDoor
