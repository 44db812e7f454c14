/- The program's test of contents, and both ValidContents. -/
import Derived.Test.YtimfekedpgllhaaCcon
import Derived.Test.YtimfekedpgllhaaCshelf
namespace Go.Proofs.Ytimfekedpgllhaa.Pv
open Go.RowKit
theorem adr_i (x : Int) (w : World) : Calls Try.prog 62 #[.int .i64 x] w (Bl (Tr.isA x) w) := by
  have HB := Lib.hid (btw_i x 0 63 w)
  have e : (decide (0 ≤ x) && decide (x ≤ 63)) = Tr.isA x := rfl
  rw [e] at HB
  clear e
  generalize Tr.isA x = b at *
  go_enter Try.func62, Try.ntmps62
  go_wp2_with (go_at_call 66; refine HB.out.mono ?_; rintro e w' ⟨rfl, rfl⟩)
  go_ret
  exact ⟨rfl, rfl⟩
end Go.Proofs.Ytimfekedpgllhaa.Pv
