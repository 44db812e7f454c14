/- The walk of laws.FnExactRatioText: the call returns true and writes nothing that was there. -/
import Derived.Test.YtdilbogjihafoaaDoorCrtext
namespace Go.Proofs.YtdilbogjihafoaaDoor.fnExactRatioText
open Go.RowKit
theorem core (a0 a1 : Int) (t : List UInt8) (ok : Bool) (w : World) (htab : Lib.TabIs Tryd.prog w "internal/strconv.uint64pow10" .u64 Lib.pow10Tab)
    (hS : ∀ w, Calls Tryd.prog 26 #[.int .i64 a0, .int .i64 a1] w (Rt.Str2 t ok w))
    (hI : ∀ w, Lib.TabIs Tryd.prog w "internal/strconv.uint64pow10" .u64 Lib.pow10Tab → Calls Tryd.prog 14 #[.int .i64 a0, .int .i64 a1] w (Rt.Str2 t ok w)) :
    Calls Tryd.prog 7 #[.int .i64 a0, .int .i64 a1] w fun e w' => e = .returned (.bool true) ∧ Below w.heap.size w w' := by
  have HS := Lib.hid hS
  have HI := Lib.hid hI
  have HT := Lib.hid htab
  clear hS hI htab
  go_enter Tryd.func7, Tryd.ntmps7
  go_wp2_with (first | (go_at_call 26; refine (HS.out _).mono ?_; rintro e w1 ⟨rfl, b1⟩) | (go_at_call 14; refine (HI.out _ (Tb.tab_below HT.out b1 (Tb.tab_lt HT.out))).mono ?_; rintro e w2 ⟨rfl, b2⟩))
  go_ret
  exact ⟨rfl, b1.trans (b2.mono b1.size)⟩
theorem walk (a0 a1 : Int) (_w0 : (Lit.int .i64 a0).wf = true) (_w1 : (Lit.int .i64 a1).wf = true) (w : World) (htab : Lib.TabIs Tryd.prog w "internal/strconv.uint64pow10" .u64 Lib.pow10Tab) :
    Calls Tryd.prog 7 #[.int .i64 a0, .int .i64 a1] w fun e w' => e = .returned (.bool true) ∧ Below w.heap.size w w' := by
  by_cases h : 0 ≤ a0 ∧ a0 ≤ 1000000000 ∧ 1 ≤ a1 ∧ a1 ≤ 1000000000
  · obtain ⟨p, rfl⟩ := Int.eq_ofNat_of_zero_le h.1
    obtain ⟨q, rfl⟩ := Int.eq_ofNat_of_zero_le (show 0 ≤ a1 by omega)
    exact core _ _ _ true w htab (fun w => Rt.spec_yes p q w (by omega) (by omega) (by omega)) (fun w ht => Rt.impl_yes p q w (by omega) (by omega) (by omega) ht)
  · exact core a0 a1 [] false w htab (fun w => Rt.spec_no a0 a1 w h) (fun w _ => Rt.impl_no a0 a1 w h)
end Go.Proofs.YtdilbogjihafoaaDoor.fnExactRatioText
