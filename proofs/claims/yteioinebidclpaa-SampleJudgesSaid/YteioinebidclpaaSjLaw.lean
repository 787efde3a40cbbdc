/- The law SampleJudges, over the program's contracts. -/
import Derived.Test.YteioinebidclpaaJudgeP
import Derived.Test.YteioinebidclpaaDrawn
namespace Go.Proofs.Yteioinebidclpaa
open Go.RowKit

theorem SampleJudges_any (A : Option Addr) (n cap : Nat) (w : World) (hl : Ints w w.heap.size A n) : Calls Try.prog 3 #[.slice A n cap] w (SaysTr w) :=
  SampleJudges_of A n cap w hl (fun a b c ha hb hc W _ => JudgeP_any a b c ha hb hc W) (fun a b c d ha hb hc hd W _ => KappaP_any a b c d ha hb hc hd W) (fun W _ => drawn_any W)
end Go.Proofs.Yteioinebidclpaa
