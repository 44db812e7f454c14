/- Contracts of the model's test of a set, of its look for a number, and of its uses of a set. -/
import Derived.Test.YtfjaaoogbjcgaaaCuses
import Derived.Test.YtfjaaoogbjcgaaaCapp
import Derived.Test.YtfjaaoogbjcgaaaPlainUses
import Derived.IntWalk
namespace Go.Proofs.Ytfjaaoogbjcgaaa.Tr
open Go.RowKit
theorem has_step (xs : List Int) (n : Int) (j : Nat) (h : j < xs.length) : (xs.take (j + 1)).contains n = ((xs.take j).contains n || decide (xs.getD j 0 = n)) := by
  rw [List.take_succ_eq_append_getElem h, getD_get' xs j h, List.contains_eq_mem, List.contains_eq_mem, ← Bool.decide_or]
  congr 1
  simp only [List.mem_append, List.mem_singleton, eq_comm]
theorem only_take (xs set : List Int) (j : Nat) (h : j < xs.length) : onlyP (xs.take (j + 1)) set = onlyP (xs.take j) set ++ if set.contains (xs.getD j 0) then [xs.getD j 0] else [] := by
  rw [List.take_succ_eq_append_getElem h, only_snoc, getD_get' xs j h]
theorem only_length (xs set : List Int) : (onlyP xs set).length ≤ xs.length := List.length_filter_le _ _
/-- The test of a set, the first j. -/
theorem rises_no (s : List Int) (j n : Nat) (hj : j < n) (h : (isA (s.getD j 0) && (decide (j = 0) || decide (s.getD (j - 1) 0 < s.getD j 0))) = false) : risesK s n = false := by
  unfold risesK
  rw [List.all_eq_false]
  exact ⟨j, by simpa using hj, by simpa using h⟩
end Go.Proofs.Ytfjaaoogbjcgaaa.Tr
