/- The law's helper that marks a list, from any number on; only that it marks and how the world grows. -/
import Derived.Test.YtlcogbphodakfaaCmark1
namespace Go.Proofs.Ytlcogbphodakfaa
open Go.RowKit
def MarkedK (K : Nat) (v : Value) (w : World) (e : Ending) (w' : World) : Prop := ∃ k : Nat, e = .returned (.int .i64 (k : Int)) ∧ k ≤ K ∧ w.grownBy w' v.ownBlock
end Go.Proofs.Ytlcogbphodakfaa
