/- The contracts of both WorkingSet. -/
import Derived.Test.YtdjkmffekfbbcaaCworkI
namespace Go.Proofs.Ytdjkmffekfbbcaa.Tr
open Go.RowKit
theorem win_i (x : Int) (w : World) (b : Bool) (hb : b = decide (1 ≤ x ∧ x ≤ 60)) : Calls Try.prog 44 #[.int .i64 x] w (Bl b w) := by
  by_cases h : 1 ≤ x ∧ x ≤ 60
  · have e : b = true := by rw [hb, decide_eq_true h]
    have hK := Lib.hid (btw_yes x 1 60 w h.1 h.2)
    clear hb h
    subst e
    go_enter Try.func44, Try.ntmps44
    go_wp2_with (go_at_call 32; refine hK.out.mono ?_; rintro e w' ⟨rfl, rfl⟩)
    go_ret
    exact ⟨rfl, rfl⟩
  · have e : b = false := by rw [hb, decide_eq_false h]
    have hK := Lib.hid (btw_no x 1 60 w h)
    clear hb h
    subst e
    go_enter Try.func44, Try.ntmps44
    go_wp2_with (go_at_call 32; refine hK.out.mono ?_; rintro e w' ⟨rfl, rfl⟩)
    go_ret
    exact ⟨rfl, rfl⟩
end Go.Proofs.Ytdjkmffekfbbcaa.Tr
