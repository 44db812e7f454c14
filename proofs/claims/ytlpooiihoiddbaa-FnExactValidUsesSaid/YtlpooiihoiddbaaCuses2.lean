/- The contract of the model's ValidUses. -/
import Derived.Test.YtlpooiihoiddbaaCuses
namespace Go.Proofs.Ytlpooiihoiddbaa.Tr
open Go.RowKit
theorem valid_s {v : Value} {xs : List Int} {w : World} (h : Rd w v xs) (hn : xs.length ≤ 1048576) :
    Calls Try.prog 12 #[v] w (Bb (okU xs) w) := by
  have hU := Lib.hid (uses_sR h hn)
  generalize okU xs = b at *
  go_enter Try.func12, Try.ntmps12
  go_wp2_with (go_at_call 34; refine hU.out.mono ?_; rintro e w' ⟨rfl, rfl⟩)
  go_ret
  exact ⟨rfl, Below.refl _ _⟩
end Go.Proofs.Ytlpooiihoiddbaa.Tr
