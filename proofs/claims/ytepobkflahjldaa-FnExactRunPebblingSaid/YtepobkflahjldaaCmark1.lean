/- The helpers that mark and look through a list, begun at 1. -/
import Derived.Test.YtepobkflahjldaaCsl
namespace Go.Proofs.Ytepobkflahjldaa
open Go.RowKit
def Marked1 (B : Nat) (v : Value) (N : Nat) (w : World) (e : Ending) (w' : World) : Prop := e = .returned (.int .i64 (1 + (N : Int))) ∧ Own w' B v (marks 1 N) ∧ w.grownBy w' v.ownBlock
theorem mark1 {w : World} {B : Nat} {v : Value} {xs : List Int} (h : Own w B v xs) (hn : xs.length + 1 ≤ 9223372036854775807) :
    Calls Try.prog 16 #[v, .int .i64 1] w (Marked1 B v xs.length w) := mark_own 1 h hn
theorem held1 {w : World} {B : Nat} {v : Value} {N : Nat} (h : Own w B v (marks 1 N)) (hn : N + 1 ≤ 9223372036854775807) :
    Calls Try.prog 17 #[v, .int .i64 1] w (Count (1 + (N : Int)) w) := held_own 1 N h hn
end Go.Proofs.Ytepobkflahjldaa
