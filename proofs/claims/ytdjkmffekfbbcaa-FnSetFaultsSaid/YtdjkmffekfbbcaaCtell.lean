/- Lists of what is told about each use: the model's loops, and the program's loop over a function value. -/
import Derived.Test.YtdjkmffekfbbcaaCgaps
namespace Go.Proofs.Ytdjkmffekfbbcaa.Tr
open Go.RowKit
theorem gapAt_rng (xs : List Int) (i : Nat) : 0 ≤ gapAt xs i ∧ gapAt xs i ≤ i := by
  unfold gapAt
  have := lastAt_rng xs (xs.getD i 0) i
  simp only
  split <;> omega
end Go.Proofs.Ytdjkmffekfbbcaa.Tr
