/- Contracts of the model's and the program's SeedList: the list that follows from the seed, or a failure. -/
import Derived.Test.YthfgaoojgdikpaaCapp
import Derived.Test.YthfgaoojgdikpaaPlainSeed
namespace Go.Proofs.Ythfgaoojgdikpaa.Sd
open Go.RowKit
theorem next_s (s : Nat) (w : World) (h : s < 2147483647) : Calls Try.prog 64 #[.int .i64 s] w fun e w' => e = .returned (.int .i64 (nx s : Nat)) ∧ w = w' := by
  go_enter Try.func64, Try.ntmps64
  go_wp2
  go_ret
  exact ⟨ret_i64 (by simp [nx]), rfl⟩
theorem next_i (s : Nat) (w : World) (h : s < 2147483647) : Calls Try.prog 50 #[.int .i64 s] w fun e w' => e = .returned (.int .i64 (nx s : Nat)) ∧ w = w' := by
  go_enter Try.func50, Try.ntmps50
  go_wp2
  go_ret
  exact ⟨ret_i64 (by simp [nx]), rfl⟩
theorem isSeed_s (a : Int) (w : World) (h : 1 ≤ a) (h2 : a ≤ 2147483646) : Calls Try.prog 45 #[.int .i64 a] w fun e w' => e = .returned (.bool true) ∧ w = w' := by
  go_enter Try.func45, Try.ntmps45
  go_wp2
  go_ret
  exact ⟨rfl, rfl⟩
theorem isSeed_i (a : Int) (w : World) (h : 1 ≤ a) (h2 : a ≤ 2147483646) : Calls Try.prog 47 #[.int .i64 a] w fun e w' => e = .returned (.bool true) ∧ w = w' := by
  go_enter Try.func47, Try.ntmps47
  go_wp2
  go_ret
  exact ⟨rfl, rfl⟩
theorem in_s (a lo hi : Int) (w : World) (h1 : lo ≤ a) (h2 : a ≤ hi) : Calls Try.prog 52 #[.int .i64 a, .int .i64 lo, .int .i64 hi] w fun e w' => e = .returned (.bool true) ∧ w = w' := by
  go_enter Try.func52, Try.ntmps52
  go_wp2
  go_ret
  exact ⟨rfl, rfl⟩
theorem in_i (a lo hi : Int) (w : World) (h1 : lo ≤ a) (h2 : a ≤ hi) : Calls Try.prog 56 #[.int .i64 a, .int .i64 lo, .int .i64 hi] w fun e w' => e = .returned (.bool true) ∧ w = w' := by
  go_enter Try.func56, Try.ntmps56
  go_wp2
  go_ret
  exact ⟨rfl, rfl⟩
end Go.Proofs.Ythfgaoojgdikpaa.Sd
