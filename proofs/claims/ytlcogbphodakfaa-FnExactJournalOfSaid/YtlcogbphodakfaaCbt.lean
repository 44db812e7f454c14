/- Small lemmas for walks of laws: two steps below; marks and sizes at numbers that are sums. -/
import Derived.Test.YtlcogbphodakfaaCmarkE
import Derived.Test.YtlcogbphodakfaaCrd
namespace Go.Proofs.Ytlcogbphodakfaa
open Go.RowKit
theorem bt {a b c : World} (h : Below a.heap.size a b) (k : Below b.heap.size b c) : Below a.heap.size a c := h.trans (k.mono h.size)
theorem btB {B : Nat} {a b c : World} (h : Below B a b) (hB : B ≤ a.heap.size) (k : Below b.heap.size b c) : Below B a c := h.trans (k.mono (Nat.le_trans hB h.size))
/-- A mark of lists: a number that is not too great comes back, and only the list's own block is written. -/
def MarkI (K : Int) (v : Value) (w : World) (e : Ending) (w' : World) : Prop := ∃ k : Int, e = .returned (.int .i64 k) ∧ (0 ≤ k ∧ k ≤ K) ∧ w.grownBy w' v.ownBlock
end Go.Proofs.Ytlcogbphodakfaa
