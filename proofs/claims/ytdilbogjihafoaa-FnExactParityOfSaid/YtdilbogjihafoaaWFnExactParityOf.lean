/- The walk of laws.FnExactParityOf: the call returns true and writes nothing that was there. -/
import Derived.Test.YtdilbogjihafoaaCBase
import Derived.Test.YtdilbogjihafoaaCbits
namespace Go.Proofs.Ytdilbogjihafoaa.fnExactParityOf
open Go.RowKit
set_option maxHeartbeats 1000000 in
theorem walk (a0 : Int) (a1 : Int) (_w0 : (Lit.int .i64 a0).wf = true) (_w1 : (Lit.int .i64 a1).wf = true) (w : World) :
    Calls Try.prog 8 #[.int .i64 a0, .int .i64 a1] w fun e w' => e = .returned (.bool true) ∧ Below w.heap.size w w' := by
  by_cases h : 0 ≤ a0 ∧ a0 ≤ 1000000000 ∧ 0 ≤ a1 ∧ a1 ≤ 1000000000
  · obtain ⟨h0, h1, h2, h3⟩ := h
    obtain ⟨p, rfl⟩ := Int.eq_ofNat_of_zero_le h0
    obtain ⟨q, rfl⟩ := Int.eq_ofNat_of_zero_le (show 0 ≤ a1 by omega)
    go_enter Try.func8, Try.ntmps8
    go_wp2_with (first | (go_at_call 28; refine (Bt.par_yes_s _ _ _ (by omega) (by omega)).mono ?_; rintro e w' ⟨rfl, rfl⟩) | (go_at_call 21; refine (Bt.par_yes_i _ _ _ (by omega) (by omega)).mono ?_; rintro e w' ⟨rfl, rfl⟩))
    go_ret
    exact ⟨rfl, Below.refl _ _⟩
  · go_enter Try.func8, Try.ntmps8
    go_wp2_with (first | (go_at_call 28; refine (Bt.par_no_s _ _ _ h).mono ?_; rintro e w' ⟨rfl, rfl⟩) | (go_at_call 21; refine (Bt.par_no_i _ _ _ h).mono ?_; rintro e w' ⟨rfl, rfl⟩))
    go_ret
    exact ⟨rfl, Below.refl _ _⟩
end Go.Proofs.Ytdilbogjihafoaa.fnExactParityOf
