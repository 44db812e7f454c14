/- The walk of laws.FnExactReadDecimal: the call returns true and writes nothing that was there. -/
import Derived.Test.YtdilbogjihafoaaDoorCiread
namespace Go.Proofs.YtdilbogjihafoaaDoor.fnExactReadDecimal
open Go.RowKit
theorem walk (a0 : ByteArray) (_w0 : a0.size ≤ maxLen) (w : World) (hS : Rd.Sent w) (htab : Lib.TabIs Tryd.prog w "internal/strconv.uint64pow10" .u64 Lib.pow10Tab) :
    Calls Tryd.prog 6 #[.string a0] w fun e w' => e = .returned (.bool true) ∧ Below w.heap.size w w' := by
  by_cases h : (1048576 : Int) < a0.size
  · go_enter Tryd.func6, Tryd.ntmps6
    go_wp2
    go_ret
    exact ⟨rfl, Below.refl _ _⟩
  · have hs : a0.size ≤ 1048576 := by omega
    have H1 := Lib.hid (fun w => Rd.spec_rd a0 w hs)
    have H2 := Lib.hid (fun w => Rd.impl_any a0 w hs)
    have HT := Lib.hid htab
    have HS := Lib.hid hS
    have hlt := Tb.tab_lt htab
    clear htab hS
    generalize Rd.rd a0.data.toList = o at *
    go_enter Tryd.func6, Tryd.ntmps6
    go_wp2_with (first | (go_at_call 24; refine (H1.out _).mono ?_; rintro e w1 ⟨rfl, b1⟩) | (go_at_call 25; refine (H2.out _ (HS.out.below b1) (Tb.tab_below HT.out b1 hlt)).mono ?_; rintro e w2 ⟨rfl, b2⟩))
    go_ret
    exact ⟨rfl, b1.trans (b2.mono b1.size)⟩
end Go.Proofs.YtdilbogjihafoaaDoor.fnExactReadDecimal
