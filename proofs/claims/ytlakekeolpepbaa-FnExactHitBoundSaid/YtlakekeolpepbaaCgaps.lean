/- Contracts of the uses before and behind a use: the model's and the program's. -/
import Derived.Test.YtlakekeolpepbaaCuses
import Derived.Test.YtlakekeolpepbaaCapp
namespace Go.Proofs.Ytlakekeolpepbaa.Tr
open Go.RowKit
/-- What a function leaves that reads alone and returns a number. -/
def Nw (n : Int) (w : World) (e : Ending) (w' : World) : Prop := e = .returned (.int .i64 n) ∧ w = w'
theorem lastAt_succ (xs : List Int) (x : Int) (m : Nat) : lastAt xs x (m + 1) = if xs.getD m 0 = x then (m : Int) else lastAt xs x m := rfl
theorem lastAt_rng (xs : List Int) (x : Int) (m : Nat) : -1 ≤ lastAt xs x m ∧ lastAt xs x m < m := by
  induction m with
  | zero => simp [lastAt]
  | succ m ih => rw [lastAt_succ]; split <;> omega
theorem nextFrom_succ (xs : List Int) (x : Int) (k m : Nat) : nextFrom xs x k (m + 1) = if xs.getD k 0 = x then (k : Int) else nextFrom xs x (k + 1) m := rfl
theorem nextFrom_rng (xs : List Int) (x : Int) (k m : Nat) : -1 ≤ nextFrom xs x k m ∧ nextFrom xs x k m < k + m := by
  induction m generalizing k with
  | zero => simp only [nextFrom]; omega
  | succ m ih => rw [nextFrom_succ]; have := ih (k + 1); split <;> omega
end Go.Proofs.Ytlakekeolpepbaa.Tr
