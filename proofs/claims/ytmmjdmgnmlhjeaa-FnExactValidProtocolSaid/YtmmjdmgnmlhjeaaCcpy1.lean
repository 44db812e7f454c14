/- Copies: both tests of a number. -/
import Derived.Test.YtmmjdmgnmlhjeaaCbtg
namespace Go.Proofs.Ytmmjdmgnmlhjeaa.Sy
open Go.RowKit
def isC (n : Int) : Bool := decide (0 ≤ n) && decide (n ≤ 3)
theorem isC_iff (n : Int) : isC n = true ↔ 0 ≤ n ∧ n ≤ 3 := by simp [isC]
theorem copy_s (n : Int) (w : World) : Calls Try.prog 44 #[.int .i64 n] w (Bl (isC n) w) := by
  have HI := Lib.hid (fun w => Tr.in_g n 0 3 w)
  have HC : Hid (isC n = (decide (0 ≤ n) && decide (n ≤ 3))) := rfl
  rw [HC.out]
  generalize (decide (0 ≤ n) && decide (n ≤ 3)) = b at *
  clear HC
  go_enter Try.func44, Try.ntmps44
  go_wp2_with fail
  refine (HI.out _).mono ?_; rintro e w' ⟨rfl, rfl⟩
  go_wp2
  go_ret
  exact ⟨rfl, rfl⟩
theorem copy_i (n : Int) (w : World) : Calls Try.prog 48 #[.int .i64 n] w (Bl (isC n) w) := by
  have HI := Lib.hid (fun w => Tr.btw_g n 0 3 w)
  have HC : Hid (isC n = (decide (0 ≤ n) && decide (n ≤ 3))) := rfl
  rw [HC.out]
  generalize (decide (0 ≤ n) && decide (n ≤ 3)) = b at *
  clear HC
  go_enter Try.func48, Try.ntmps48
  go_wp2_with fail
  refine (HI.out _).mono ?_; rintro e w' ⟨rfl, rfl⟩
  go_wp2
  go_ret
  exact ⟨rfl, rfl⟩
theorem false_of {b : Bool} {P : Prop} (h : b = true ↔ P) (hn : ¬ P) : b = false := by cases b <;> simp_all
end Go.Proofs.Ytmmjdmgnmlhjeaa.Sy
