/- The walk of laws.FnExactNextSeed: the call returns true and writes nothing that was there. -/
import Derived.Test.YtdilbogjihafoaaRows
import Derived.WalkKit
import Derived.ProofKit
namespace Go.Proofs.Ytdilbogjihafoaa.fnExactNextSeed
open Go.RowKit
theorem walk (a0 : Int) (_w0 : (Lit.int .i64 a0).wf = true) (w : World) :
    Calls Try.prog 9 #[.int .i64 a0] w fun e w' => e = .returned (.bool true) ∧ Grown w w' := by
  by_cases h1 : 1 ≤ a0
  · by_cases h2 : a0 ≤ 2147483646
    all_goals
      go_enter Try.func9, Try.ntmps9
      go_wp2
      go_ret
      exact ⟨rfl, by repeat (first | exact Grown.refl _ | apply Grown.drew | apply Grown.alloc)⟩
  · go_enter Try.func9, Try.ntmps9
    go_wp2
    go_ret
    exact ⟨rfl, by repeat (first | exact Grown.refl _ | apply Grown.drew | apply Grown.alloc)⟩
end Go.Proofs.Ytdilbogjihafoaa.fnExactNextSeed
