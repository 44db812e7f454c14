/- The helpers that mark and look through a list, begun at 1. -/
import Derived.Test.YtlcogbphodakfaaCsl
namespace Go.Proofs.Ytlcogbphodakfaa
open Go.RowKit
def Marked1 (B : Nat) (v : Value) (N : Nat) (w : World) (e : Ending) (w' : World) : Prop := e = .returned (.int .i64 (1 + (N : Int))) ∧ Own w' B v (marks 1 N) ∧ w.grownBy w' v.ownBlock
end Go.Proofs.Ytlcogbphodakfaa
