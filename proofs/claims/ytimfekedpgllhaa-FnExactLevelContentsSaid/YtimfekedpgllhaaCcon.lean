/- Contents: the contracts of both ValidContents. -/
import Derived.Test.YtimfekedpgllhaaCvp
namespace Go.Proofs.Ytimfekedpgllhaa.Pv
open Go.RowKit
def okC (xs : List Int) (i : Nat) : Bool := decide (xs.getD i 0 = -1) || (Tr.isA (xs.getD i 0) && !((xs.take i).contains (xs.getD i 0)))
def conTo (xs : List Int) : Nat → Bool
  | 0 => true
  | j + 1 => conTo xs j && okC xs j
theorem conTo_no {xs : List Int} {j : Nat} (h : okC xs j = false) : ∀ m, j < m → conTo xs m = false
  | 0, hj => by omega
  | m + 1, hj => by
    rw [conTo]
    rcases Nat.lt_or_eq_of_le (Nat.le_of_lt_succ hj) with hl | rfl
    · rw [conTo_no h m hl]; rfl
    · rw [h]; simp
theorem conTo_succ {xs : List Int} {j : Nat} (h : conTo xs j = true) (h2 : okC xs j = true) : conTo xs (j + 1) = true := by rw [conTo, h, h2]; rfl
theorem okC_one {xs : List Int} {j : Nat} (h : xs.getD j 0 = -1) : okC xs j = true := by unfold okC; rw [h]; rfl
theorem okC_out {xs : List Int} {j : Nat} (h1 : ¬ xs.getD j 0 = -1) (h : Tr.isA (xs.getD j 0) = false) : okC xs j = false := by unfold okC; rw [decide_eq_false h1, h]; rfl
theorem okC_has {xs : List Int} {j : Nat} (h1 : ¬ xs.getD j 0 = -1) (h : (xs.take j).contains (xs.getD j 0) = true) : okC xs j = false := by unfold okC; rw [decide_eq_false h1, h]; simp
theorem okC_yes {xs : List Int} {j : Nat} (h1 : Tr.isA (xs.getD j 0) = true) (h2 : (xs.take j).contains (xs.getD j 0) = false) : okC xs j = true := by unfold okC; rw [h1, h2]; simp
def conB (n : Nat) (xs : List Int) : Bool := decide (xs.length = n) && conTo xs xs.length
def inC (x : Int) : Bool := decide (-1 ≤ x) && decide (x ≤ 63)
theorem inC_s (x : Int) (w : World) : Calls Try.prog 36 #[.int .i64 x, .int .i64 (-1), .int .i64 63] w (Bl (inC x) w) := by
  unfold inC
  by_cases h : -1 ≤ x
  · go_enter Try.func36, Try.ntmps36
    go_wp2
    go_ret
    exact ⟨ret_bool (by simp [h]), rfl⟩
  · go_enter Try.func36, Try.ntmps36
    go_wp2
    go_ret
    exact ⟨ret_bool (by simp; omega), rfl⟩
end Go.Proofs.Ytimfekedpgllhaa.Pv
