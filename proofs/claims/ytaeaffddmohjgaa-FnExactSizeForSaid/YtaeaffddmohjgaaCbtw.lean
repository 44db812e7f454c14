/- Whether a number lies in a range: the program's test and the model's; sizes of curves. -/
import Derived.Test.YtaeaffddmohjgaaCrd
namespace Go.Proofs.Ytaeaffddmohjgaa.Tr
open Go.RowKit
theorem bw_yes (x lo hi : Int) (w : World) (h1 : lo ≤ x) (h2 : x ≤ hi) : Calls Try.prog 25 #[.int .i64 x, .int .i64 lo, .int .i64 hi] w (Bl true w) := by
  go_enter Try.func25, Try.ntmps25
  go_wp2
  go_ret
  exact ⟨rfl, rfl⟩
theorem bw_no (x lo hi : Int) (w : World) (h : ¬ (lo ≤ x ∧ x ≤ hi)) : Calls Try.prog 25 #[.int .i64 x, .int .i64 lo, .int .i64 hi] w (Bl false w) := by
  by_cases h0 : lo ≤ x
  · have h1 : ¬ x ≤ hi := fun h2 => h ⟨h0, h2⟩
    clear h
    go_enter Try.func25, Try.ntmps25
    go_wp2
    go_ret
    exact ⟨rfl, rfl⟩
  · clear h
    go_enter Try.func25, Try.ntmps25
    go_wp2
    go_ret
    exact ⟨rfl, rfl⟩
theorem iw_yes (x lo hi : Int) (w : World) (h1 : lo ≤ x) (h2 : x ≤ hi) : Calls Try.prog 30 #[.int .i64 x, .int .i64 lo, .int .i64 hi] w (Bl true w) := by
  go_enter Try.func30, Try.ntmps30
  go_wp2
  go_ret
  exact ⟨rfl, rfl⟩
theorem iw_no (x lo hi : Int) (w : World) (h : ¬ (lo ≤ x ∧ x ≤ hi)) : Calls Try.prog 30 #[.int .i64 x, .int .i64 lo, .int .i64 hi] w (Bl false w) := by
  by_cases h0 : lo ≤ x
  · have h1 : ¬ x ≤ hi := fun h2 => h ⟨h0, h2⟩
    clear h
    go_enter Try.func30, Try.ntmps30
    go_wp2
    go_ret
    exact ⟨rfl, rfl⟩
  · clear h
    go_enter Try.func30, Try.ntmps30
    go_wp2
    go_ret
    exact ⟨rfl, rfl⟩
def okS (x : Int) : Bool := decide (0 ≤ x ∧ x ≤ 60)
theorem size_i (x : Int) (w : World) : Calls Try.prog 42 #[.int .i64 x] w (Bl (okS x) w) := by
  unfold okS
  by_cases h : 0 ≤ x ∧ x ≤ 60
  · rw [decide_eq_true h]
    have hB := Lib.hid (bw_yes x 0 60 w h.1 h.2)
    clear h
    go_enter Try.func42, Try.ntmps42
    go_wp2_with (go_at_call 25; refine hB.out.mono ?_; rintro e w' ⟨rfl, rfl⟩)
    go_ret
    exact ⟨rfl, rfl⟩
  · rw [decide_eq_false h]
    have hB := Lib.hid (bw_no x 0 60 w h)
    clear h
    go_enter Try.func42, Try.ntmps42
    go_wp2_with (go_at_call 25; refine hB.out.mono ?_; rintro e w' ⟨rfl, rfl⟩)
    go_ret
    exact ⟨rfl, rfl⟩
theorem size_s (x : Int) (w : World) : Calls Try.prog 21 #[.int .i64 x] w (Bl (okS x) w) := by
  unfold okS
  by_cases h : 0 ≤ x ∧ x ≤ 60
  · rw [decide_eq_true h]
    have hB := Lib.hid (iw_yes x 0 60 w h.1 h.2)
    clear h
    go_enter Try.func21, Try.ntmps21
    go_wp2_with (go_at_call 30; refine hB.out.mono ?_; rintro e w' ⟨rfl, rfl⟩)
    go_ret
    exact ⟨rfl, rfl⟩
  · rw [decide_eq_false h]
    have hB := Lib.hid (iw_no x 0 60 w h)
    clear h
    go_enter Try.func21, Try.ntmps21
    go_wp2_with (go_at_call 30; refine hB.out.mono ?_; rintro e w' ⟨rfl, rfl⟩)
    go_ret
    exact ⟨rfl, rfl⟩
end Go.Proofs.Ytaeaffddmohjgaa.Tr
