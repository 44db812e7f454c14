/- Accesses one after another without a cache: the words and the values read. No program. -/
import Derived.Test.YtcbchkblobpdiaaCBase
namespace Go.Proofs.Ytcbchkblobpdiaa.Pl
/-- the words after the first j accesses -/
def plW (xs : List (Int × Int)) : Nat → List Int
  | 0 => List.replicate 64 0
  | j + 1 => if (xs.getD j (0, 0)).1 = 1 then (plW xs j).set (xs.getD j (0, 0)).2.toNat ((j : Int) + 1) else plW xs j
/-- the values of the reads among them -/
def plR (xs : List (Int × Int)) : Nat → List Int
  | 0 => []
  | j + 1 => if (xs.getD j (0, 0)).1 = 1 then plR xs j else plR xs j ++ [(plW xs j).getD (xs.getD j (0, 0)).2.toNat 0]
theorem plW_len (xs : List (Int × Int)) (j : Nat) : (plW xs j).length = 64 := by
  induction j with
  | zero => simp [plW]
  | succ j ih => unfold plW; split <;> simp [ih]
theorem plR_len (xs : List (Int × Int)) (j : Nat) : (plR xs j).length ≤ j := by
  induction j with
  | zero => simp [plR]
  | succ j ih =>
    unfold plR
    split
    · omega
    · rw [List.length_append, List.length_singleton]; omega
end Go.Proofs.Ytcbchkblobpdiaa.Pl
