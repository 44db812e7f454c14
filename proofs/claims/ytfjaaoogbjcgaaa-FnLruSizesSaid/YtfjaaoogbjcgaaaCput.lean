/- Contracts of the model's insertion of a number into a rising list, and of its set of a list. -/
import Derived.Test.YtfjaaoogbjcgaaaCuses
import Derived.Test.YtfjaaoogbjcgaaaCapp
namespace Go.Proofs.Ytfjaaoogbjcgaaa.Tr
open Go.RowKit
theorem putK_succ (xs : List Int) (n : Int) (j : Nat) (l : List Int) (b : Bool) (h : putK xs n j = (l, b)) :
    putK xs n (j + 1) = if b = false ∧ n ≤ xs.getD j 0 then (if n < xs.getD j 0 then l ++ [n, xs.getD j 0] else l ++ [xs.getD j 0], true) else (l ++ [xs.getD j 0], b) := by
  rw [putK, h]
theorem setP_take (xs : List Int) (j : Nat) (h : j < xs.length) : setP (xs.take (j + 1)) = put (setP (xs.take j)) (xs.getD j 0) := by
  rw [List.take_succ_eq_append_getElem h, setP_snoc, getD_get' xs j h]
end Go.Proofs.Ytfjaaoogbjcgaaa.Tr
