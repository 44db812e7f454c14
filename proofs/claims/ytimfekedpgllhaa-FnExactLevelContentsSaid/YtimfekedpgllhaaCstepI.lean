/- The program's StepPolicy. -/
import Derived.Test.YtimfekedpgllhaaCstep
namespace Go.Proofs.Ytimfekedpgllhaa.Pv
open Go.RowKit
theorem one_map (xs : List Int) : ∀ v ∈ xs.map (Value.int .i64), v.oneCell' = true := fun v hv => by
  obtain ⟨x, _, rfl⟩ := List.mem_map.1 hv
  rfl
theorem stepV_len (hs : List (List Int)) (ms xs : List Int) (x : Int) : (stepV hs ms xs x).length ≤ 1000000 := by
  cases h : stepOk hs ms xs x
  · rw [(stepV_no h).1]; simp
  · rw [(stepV_yes h).1, rowL_len]
    have hp : isP hs ms = true := by unfold stepOk at h; simp only [Bool.and_eq_true] at h; exact h.1.1
    unfold isP at hp; simp only [Bool.and_eq_true, decide_eq_true_eq] at hp; omega
end Go.Proofs.Ytimfekedpgllhaa.Pv
