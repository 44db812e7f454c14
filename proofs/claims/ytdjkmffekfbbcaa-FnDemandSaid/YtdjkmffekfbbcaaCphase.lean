/- Contracts of both PhasesOf. -/
import Derived.Test.YtdjkmffekfbbcaaCappg
import Derived.Test.YtdjkmffekfbbcaaCwide
import Derived.Test.YtdjkmffekfbbcaaPlainUses
namespace Go.Proofs.Ytdjkmffekfbbcaa.Tr
open Go.RowKit
theorem phK_succ (xs : List Int) (k : Int) (j : Nat) (st se : List Int) (h : phK xs k j = (st, se)) :
    phK xs k (j + 1) = if j = 0 ∨ k < ((put se (xs.getD j 0)).length : Nat) then (st ++ [(j : Int)], [xs.getD j 0]) else (st, put se (xs.getD j 0)) := by
  simp only [phK, h]
def Ph (xs : List Int) (k : Int) (B : Nat) (j : Nat) (v y : Value) (wr : World) : Prop :=
  ∃ st se, phK xs k j = (st, se) ∧ Own wr B v st ∧ Own wr B y se ∧ Apart v y
theorem btw_yes (x lo hi : Int) (w : World) (h1 : lo ≤ x) (h2 : x ≤ hi) : Calls Try.prog 32 #[.int .i64 x, .int .i64 lo, .int .i64 hi] w (Bl true w) := by
  go_enter Try.func32, Try.ntmps32
  go_wp2
  go_ret
  exact ⟨rfl, rfl⟩
theorem btw_no (x lo hi : Int) (w : World) (h : ¬ (lo ≤ x ∧ x ≤ hi)) : Calls Try.prog 32 #[.int .i64 x, .int .i64 lo, .int .i64 hi] w (Bl false w) := by
  by_cases h1 : lo ≤ x
  · have h2 : ¬ x ≤ hi := fun h2 => h ⟨h1, h2⟩
    clear h
    go_enter Try.func32, Try.ntmps32
    go_wp2
    go_ret
    exact ⟨rfl, rfl⟩
  · clear h
    go_enter Try.func32, Try.ntmps32
    go_wp2
    go_ret
    exact ⟨rfl, rfl⟩
theorem in_yes (x lo hi : Int) (w : World) (h1 : lo ≤ x) (h2 : x ≤ hi) : Calls Try.prog 29 #[.int .i64 x, .int .i64 lo, .int .i64 hi] w (Bl true w) := by
  go_enter Try.func29, Try.ntmps29
  go_wp2
  go_ret
  exact ⟨rfl, rfl⟩
theorem in_no (x lo hi : Int) (w : World) (h : ¬ (lo ≤ x ∧ x ≤ hi)) : Calls Try.prog 29 #[.int .i64 x, .int .i64 lo, .int .i64 hi] w (Bl false w) := by
  by_cases h1 : lo ≤ x
  · have h2 : ¬ x ≤ hi := fun h2 => h ⟨h1, h2⟩
    clear h
    go_enter Try.func29, Try.ntmps29
    go_wp2
    go_ret
    exact ⟨rfl, rfl⟩
  · clear h
    go_enter Try.func29, Try.ntmps29
    go_wp2
    go_ret
    exact ⟨rfl, rfl⟩
end Go.Proofs.Ytdjkmffekfbbcaa.Tr
