/- The set that the program makes of what an iterator yields, whatever iterator; the library's and the program's own iterators. -/
import Derived.Test.YtfdjjaogmnagaaaCwide
import Derived.Test.YtfdjjaogmnagaaaCappg
import Derived.RangeFuncBox
import Derived.RangeFuncCalls
import Derived.RangeFuncNested
import Derived.RangeFuncBound
import Derived.Shelf.RegionOpen
import Derived.RangeFuncLeaves
import Derived.Shelf.Abstract
import Derived.OwnWalkIn
import Derived.TacticsInMore
import Derived.LoopNIn
import Derived.LoopIn
namespace Go.Proofs.Ytfdjjaogmnagaaa.Tr
open Go.RowKit Go.Shelf
attribute [local go_sem] Oper.semAt_some
theorem keeps_below {W W1 : World} (h : Below W.heap.size W W1) : KeepsOthers W W1 := ⟨h.size, fun k o hk _ => (h.block k (Array.getElem?_eq_some_iff.1 hk).1).trans hk⟩
abbrev encI : Int → Array Value := fun x => #[.int .i64 x]
end Go.Proofs.Ytfdjjaogmnagaaa.Tr
