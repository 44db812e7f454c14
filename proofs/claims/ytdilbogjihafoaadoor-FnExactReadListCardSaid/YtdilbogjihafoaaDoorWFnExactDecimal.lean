/- The walk of laws.FnExactDecimal: the call returns true and writes nothing that was there. -/
import Derived.Test.YtdilbogjihafoaaDoorTab
import Derived.Test.YtdilbogjihafoaaDoorCdec
import Derived.Test.YtdilbogjihafoaaDoorShelf
import Derived.OpenShut
namespace Go.Proofs.YtdilbogjihafoaaDoor.fnExactDecimal
open Go.RowKit
/-- The program's Decimal: strconv's numeral. -/
theorem impl_dec (n : Int) (w : World) (h0 : -9223372036854775808 ≤ n) (h1 : n ≤ 9223372036854775807) (htab : Lib.TabIs Tryd.prog w "internal/strconv.uint64pow10" .u64 Lib.pow10Tab) :
    Calls Tryd.prog 23 #[.int .i64 n] w (Dc.Str ⟨(Lib.itoa n).toArray⟩ w) := by
  have hc := Tryd.strconv_FormatInt_10 n h0 h1 w htab
  have HC := Lib.hid hc
  clear hc htab h0 h1
  go_enter Tryd.func23, Tryd.ntmps23
  go_wp2_with (go_at_call 47; refine HC.out.mono ?_; rintro e w' ⟨rfl, k, os, rfl⟩)
  go_ret
  exact ⟨rfl, Tb.below_grow os (below_drewN k (Below.refl _ _)) (Nat.le_refl _)⟩
theorem walk (a0 : Int) (w0 : (Lit.int .i64 a0).wf = true) (w : World) (htab : Lib.TabIs Tryd.prog w "internal/strconv.uint64pow10" .u64 Lib.pow10Tab) :
    Calls Tryd.prog 5 #[.int .i64 a0] w fun e w' => e = .returned (.bool true) ∧ Below w.heap.size w w' := by
  obtain ⟨b0, b1⟩ := bounds_i64 w0
  have H1 := Lib.hid (fun w => Dc.dec_any a0 w b0 b1)
  have H2 := Lib.hid (fun w => impl_dec a0 w b0 b1)
  have HT := Lib.hid htab
  clear htab b0 b1 w0
  go_enter Tryd.func5, Tryd.ntmps5
  go_wp2_with (first | (go_at_call 46; refine (H1.out _).mono ?_; rintro e w1 ⟨rfl, b1⟩) | (go_at_call 23; refine (H2.out _ (Tb.tab_below HT.out b1 (Tb.tab_lt HT.out))).mono ?_; rintro e w2 ⟨rfl, b2⟩) | go_in)
  go_ret
  exact ⟨rfl, b1.trans (b2.mono b1.size)⟩
end Go.Proofs.YtdilbogjihafoaaDoor.fnExactDecimal
