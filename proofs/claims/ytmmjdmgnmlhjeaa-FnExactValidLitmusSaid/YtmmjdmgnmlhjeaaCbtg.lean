/- A number between two others: both tests. -/
import Derived.Test.YtmmjdmgnmlhjeaaCrd
namespace Go.Proofs.Ytmmjdmgnmlhjeaa.Tr
open Go.RowKit
theorem in_g (x lo hi : Int) (w : World) : Calls Try.prog 43 #[.int .i64 x, .int .i64 lo, .int .i64 hi] w (Bl (decide (lo ≤ x) && decide (x ≤ hi)) w) := by
  by_cases h : lo ≤ x
  · go_enter Try.func43, Try.ntmps43
    go_wp2
    go_ret
    exact ⟨ret_bool (by simp [h]), rfl⟩
  · go_enter Try.func43, Try.ntmps43
    go_wp2
    go_ret
    exact ⟨ret_bool (by simp; omega), rfl⟩
theorem btw_g (x lo hi : Int) (w : World) : Calls Try.prog 47 #[.int .i64 x, .int .i64 lo, .int .i64 hi] w (Bl (decide (lo ≤ x) && decide (x ≤ hi)) w) := by
  by_cases h : lo ≤ x
  · go_enter Try.func47, Try.ntmps47
    go_wp2
    go_ret
    exact ⟨ret_bool (by simp [h]), rfl⟩
  · go_enter Try.func47, Try.ntmps47
    go_wp2
    go_ret
    exact ⟨ret_bool (by simp; omega), rfl⟩
end Go.Proofs.Ytmmjdmgnmlhjeaa.Tr
