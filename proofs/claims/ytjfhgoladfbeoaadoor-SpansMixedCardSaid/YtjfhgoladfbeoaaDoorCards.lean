/-
  DERIVED. GIVEN WITH THE SEED: THE CARDS: each row of YtjfhgoladfbeoaaDoorRows.lean that lists a variable, with what it lists TIED to the program's text (the seventh form; the later family's looks); each row that meets fmt, with fmt's text TOLD by the authors' own Lean function (tested against real Go, not proved from fmt's source: count such statements apart). THE CARD IS WHAT COUNTS. Prove the row's statement (the work); the ties are given (YtjfhgoladfbeoaaDoorTie.lean); close each card by the builder's one call (the guide's Derived/Test/ToyasCard.lean, 'card_holds'). Laid BY PROGRAM, IN A SANDBOX (cutbox-door.mjs). By AI agents, Wed Nov 11 2026. No macro, syntax, notation, axiom, sorry.
-/
import Derived.Test.YtjfhgoladfbeoaaDoorRows
import GoSem.ClaimSeven
namespace Go.Proofs.YtjfhgoladfbeoaaDoor
namespace Rows

/-- THE TIED CARD OF 'chaselaw1.SpansMixed'. -/
def spansMixedCard : Claim7 := { stood := { row := spansMixedRow, standIns := [], harness := (true, "5c94fd799f58840cc632532ca4a16890c3a4124777543c57e1957eea76b2b454"), looks := false }, kinds := [], alts := [], laidByText := true, laidKinds := [.data, .pinned], laidTests := true, laidLooks := .later }
def SpansMixedCardSaid : Prop := Claim7.holds Tryd.pinned (.plain (OpenSpec.ofChange spansMixedSpec)) spansMixedCard

/-- THE SECOND FORM's CARD OF 'chaselaw1.SpansMixed'. -/
def spansMixedUptoCard : Claim7 := { stood := { row := spansMixedUptoRow, standIns := [], harness := (true, "5c94fd799f58840cc632532ca4a16890c3a4124777543c57e1957eea76b2b454"), looks := false }, kinds := [], alts := [], laidByText := true, laidKinds := [.data, .pinned], laidTests := true, laidLooks := .later }
def SpansMixedUptoCardSaid : Prop := Claim7.holds Tryd.pinned (.plain (OpenSpec.upto spansMixedSpec)) spansMixedUptoCard
end Rows
end Go.Proofs.YtjfhgoladfbeoaaDoor
