/- The law's reading of its marks in a list of lists. -/
import Derived.Test.YtakjkbjooongkaaCss
import Derived.Test.YtakjkbjooongkaaCmark1
namespace Go.Proofs.Ytakjkbjooongkaa
open Go.RowKit
/-- The marks from k on in lists so long. -/
def mk2 : Nat → List Nat → List (List Int)
  | _, [] => []
  | k, n :: ns => marks k n :: mk2 (k + n) ns
theorem mk2_length : ∀ (k : Nat) (ns : List Nat), (mk2 k ns).length = ns.length
  | _, [] => rfl
  | k, n :: ns => by rw [mk2, List.length_cons, List.length_cons, mk2_length]
theorem mk2_get : ∀ (k : Nat) (ns : List Nat) (j : Nat), j < ns.length → (mk2 k ns).getD j [] = marks (k + (ns.take j).sum) (ns.getD j 0)
  | k, [], j, h => by simp at h
  | k, n :: ns, 0, h => by simp [mk2]
  | k, n :: ns, j + 1, h => by
    have := mk2_get (k + n) ns j (by simpa using h)
    rw [mk2, List.getD_cons_succ, this]
    simp [Nat.add_assoc]
theorem sum_step (ns : List Nat) (j : Nat) (h : j < ns.length) : (ns.take (j + 1)).sum = (ns.take j).sum + ns.getD j 0 := by
  rw [List.take_succ_eq_append_getElem h, List.sum_append, List.getD_eq_getElem?_getD, List.getElem?_eq_getElem h]
  simp
theorem sum_take_le : ∀ (ns : List Nat) (j : Nat), (ns.take j).sum ≤ ns.sum
  | [], j => by simp
  | n :: ns, 0 => by simp
  | n :: ns, j + 1 => by
    have := sum_take_le ns j
    simp; omega
end Go.Proofs.Ytakjkbjooongkaa
