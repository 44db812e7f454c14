/- The walk of laws.FnExactReduceRatio: the call returns true and writes nothing that was there. -/
import Derived.Test.YtdilbogjihafoaaCBase
import Derived.Test.YtdilbogjihafoaaCgcd
namespace Go.Proofs.Ytdilbogjihafoaa.fnExactReduceRatio
open Go.RowKit
set_option maxHeartbeats 1000000 in
theorem walk (a0 : Int) (a1 : Int) (_w0 : (Lit.int .i64 a0).wf = true) (_w1 : (Lit.int .i64 a1).wf = true) (w : World) :
    Calls Try.prog 6 #[.int .i64 a0, .int .i64 a1] w fun e w' => e = .returned (.bool true) ∧ Below w.heap.size w w' := by
  by_cases h : 0 ≤ a0 ∧ a0 ≤ 1000000000 ∧ 1 ≤ a1 ∧ a1 ≤ 1000000000
  · obtain ⟨h0, h1, h2, h3⟩ := h
    obtain ⟨p, rfl⟩ := Int.eq_ofNat_of_zero_le h0
    obtain ⟨q, rfl⟩ := Int.eq_ofNat_of_zero_le (show 0 ≤ a1 by omega)
    go_enter Try.func6, Try.ntmps6
    go_wp2_with (first | (go_at_call 24; refine (Gcd.spec_yes _ _ _ (by omega) (by omega) (by omega)).mono ?_; rintro e w' ⟨rfl, n, rfl⟩) | (go_at_call 25; refine (Gcd.impl_yes _ _ _ (by omega) (by omega) (by omega)).mono ?_; rintro e w' ⟨rfl, m, rfl⟩))
    go_ret
    exact ⟨rfl, by repeat (first | exact Below.refl _ _ | refine below_drewN _ ?_)⟩
  · go_enter Try.func6, Try.ntmps6
    go_wp2_with (first | (go_at_call 24; refine (Gcd.spec_no _ _ _ h).mono ?_; rintro e w' ⟨rfl, rfl⟩) | (go_at_call 25; refine (Gcd.impl_no _ _ _ h).mono ?_; rintro e w' ⟨rfl, rfl⟩))
    go_ret
    exact ⟨rfl, Below.refl _ _⟩
end Go.Proofs.Ytdilbogjihafoaa.fnExactReduceRatio
