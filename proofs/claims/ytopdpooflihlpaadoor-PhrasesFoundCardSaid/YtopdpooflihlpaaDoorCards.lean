/-
  DERIVED. GIVEN WITH THE SEED: THE CARDS: each row of YtopdpooflihlpaaDoorRows.lean that lists a variable, with what it lists TIED to the program's text (the seventh form; the later family's looks); each row that meets fmt, with fmt's text TOLD by the authors' own Lean function (tested against real Go, not proved from fmt's source: count such statements apart). THE CARD IS WHAT COUNTS. Prove the row's statement (the work); the ties are given (YtopdpooflihlpaaDoorTie.lean); close each card by the builder's one call (the guide's Derived/Test/ToyasCard.lean, 'card_holds'). Laid BY PROGRAM, IN A SANDBOX (cutbox-door.mjs). By AI agents, Wed Nov 11 2026. No macro, syntax, notation, axiom, sorry.
-/
import Derived.Test.YtopdpooflihlpaaDoorRows
import GoSem.ClaimSeven
namespace Go.Proofs.YtopdpooflihlpaaDoor
namespace Rows

/-- THE TIED CARD OF 'chaselaw1.PhrasesFound'. -/
def phrasesFoundCard : Claim7 := { stood := { row := phrasesFoundRow, standIns := [], harness := (true, "66e8e36bc10c938ff237521afeb0299794e401e42a589ddc560dd2672c257976"), looks := false }, kinds := [], alts := [], laidByText := true, laidKinds := [.data, .pinned], laidTests := true, laidLooks := .later }
def PhrasesFoundCardSaid : Prop := Claim7.holds Tryd.pinned (.plain (OpenSpec.ofChange phrasesFoundSpec)) phrasesFoundCard

/-- THE SECOND FORM's CARD OF 'chaselaw1.PhrasesFound'. -/
def phrasesFoundUptoCard : Claim7 := { stood := { row := phrasesFoundUptoRow, standIns := [], harness := (true, "66e8e36bc10c938ff237521afeb0299794e401e42a589ddc560dd2672c257976"), looks := false }, kinds := [], alts := [], laidByText := true, laidKinds := [.data, .pinned], laidTests := true, laidLooks := .later }
def PhrasesFoundUptoCardSaid : Prop := Claim7.holds Tryd.pinned (.plain (OpenSpec.upto phrasesFoundSpec)) phrasesFoundUptoCard
end Rows
end Go.Proofs.YtopdpooflihlpaaDoor
