/- The walk of laws.FnExactCheckLetters: the call returns true and writes nothing that was there. -/
import Derived.Test.YtdilbogjihafoaaCchk
namespace Go.Proofs.Ytdilbogjihafoaa.fnExactCheckLetters
open Go.RowKit
theorem walk (a0 : ByteArray) (_w0 : a0.size ≤ maxLen) (w : World) :
    Calls Try.prog 14 #[.string a0] w fun e w' => e = .returned (.bool true) ∧ Below w.heap.size w w' := by
  by_cases h : (1048576 : Int) < a0.size
  · go_enter Try.func14, Try.ntmps14
    go_wp2
    go_ret
    exact ⟨rfl, Below.refl _ _⟩
  · have hs : a0.size ≤ 1048576 := by omega
    have H1 := Lib.hid (fun w => Ck.spec_any a0 w hs)
    have H2 := Lib.hid (fun w => Ck.impl_any a0 w hs)
    go_enter Try.func14, Try.ntmps14
    go_wp2_with (first | (go_at_call 69; refine (H1.out _).mono ?_; rintro e w1 ⟨rfl, b1⟩) | (go_at_call 46; refine (H2.out _).mono ?_; rintro e w2 ⟨rfl, b2⟩) | go_in)
    go_ret
    exact ⟨rfl, b1.trans (b2.mono b1.size)⟩
end Go.Proofs.Ytdilbogjihafoaa.fnExactCheckLetters
