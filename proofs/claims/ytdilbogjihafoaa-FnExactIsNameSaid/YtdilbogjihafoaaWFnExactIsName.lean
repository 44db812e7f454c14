/- The walk of laws.FnExactIsName: the call returns true and writes nothing that was there. -/
import Derived.Test.YtdilbogjihafoaaCname
namespace Go.Proofs.Ytdilbogjihafoaa.fnExactIsName
open Go.RowKit
theorem walk (a0 : ByteArray) (_w0 : a0.size ≤ maxLen) (w : World) :
    Calls Try.prog 5 #[.string a0] w fun e w' => e = .returned (.bool true) ∧ Below w.heap.size w w' := by
  by_cases h : (1048576 : Int) < a0.size
  · go_enter Try.func5, Try.ntmps5
    go_wp2
    go_ret
    exact ⟨rfl, Below.refl _ _⟩
  · have hs : a0.size ≤ 1048576 := by omega
    have H1 := Lib.hid (fun w => Nm.spec_loop a0 w hs _ rfl)
    have H2 := Lib.hid (fun w => Nm.impl_any a0 w hs)
    have HE : Hid (((decide (1 ≤ (a0.size : Int)) && decide ((a0.size : Int) ≤ 8)) && Nm.allB a0) = Nm.fine a0) := rfl
    rw [HE.out] at H1
    generalize Nm.fine a0 = b at *
    go_enter Try.func5, Try.ntmps5
    go_wp2_with (first | (go_at_call 22; refine (H1.out _).mono ?_; rintro e w1 ⟨rfl, b1⟩) | (go_at_call 23; refine (H2.out _).mono ?_; rintro e w2 ⟨rfl, b2⟩))
    go_ret
    exact ⟨rfl, b1.trans (b2.mono b1.size)⟩
end Go.Proofs.Ytdilbogjihafoaa.fnExactIsName
