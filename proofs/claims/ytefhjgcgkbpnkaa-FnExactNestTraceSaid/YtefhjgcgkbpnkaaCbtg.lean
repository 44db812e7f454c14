/- A number between two others: both tests. -/
import Derived.Test.YtefhjgcgkbpnkaaCrd
namespace Go.Proofs.Ytefhjgcgkbpnkaa.Tr
open Go.RowKit
theorem in_g (x lo hi : Int) (w : World) : Calls Try.prog 29 #[.int .i64 x, .int .i64 lo, .int .i64 hi] w (Bl (decide (lo ≤ x) && decide (x ≤ hi)) w) := by
  by_cases h : lo ≤ x
  · go_enter Try.func29, Try.ntmps29
    go_wp2
    go_ret
    exact ⟨ret_bool (by simp [h]), rfl⟩
  · go_enter Try.func29, Try.ntmps29
    go_wp2
    go_ret
    exact ⟨ret_bool (by simp; omega), rfl⟩
theorem btw_g (x lo hi : Int) (w : World) : Calls Try.prog 33 #[.int .i64 x, .int .i64 lo, .int .i64 hi] w (Bl (decide (lo ≤ x) && decide (x ≤ hi)) w) := by
  by_cases h : lo ≤ x
  · go_enter Try.func33, Try.ntmps33
    go_wp2
    go_ret
    exact ⟨ret_bool (by simp [h]), rfl⟩
  · go_enter Try.func33, Try.ntmps33
    go_wp2
    go_ret
    exact ⟨ret_bool (by simp; omega), rfl⟩
end Go.Proofs.Ytefhjgcgkbpnkaa.Tr
