/- The program's orders of ages: arrays of six numbers, as values. -/
import Derived.Test.YtakjkbjooongkaaCow
import Derived.Handy
import Derived.Laws.CopyOwn
import Derived.Deep.RegionLaw
import Derived.Deep.AppendLies
namespace Go.Proofs.Ytakjkbjooongkaa
open Go.RowKit
/-- Six numbers as a value. -/
def six (a b c d e f : Int) : Value := .agg #[.int .i64 a, .int .i64 b, .int .i64 c, .int .i64 d, .int .i64 e, .int .i64 f]
def RetB (v : Value) (w : World) (e : Ending) (w' : World) : Prop := e = .returned v ∧ Below w.heap.size w w'
set_option maxHeartbeats 1000000 in
set_option maxRecDepth 100000 in
theorem same_i (w : World) : Calls Try.prog 39 #[] w (RetB (six 0 1 2 3 4 5) w) := by
  go_enter Try.func39, Try.ntmps39
  go_wp2
  refine wp_loop_rounds 7 ?_
  rw [rounds_succ]
  go_wp2
  rw [rounds_succ]
  go_wp2
  rw [rounds_succ]
  go_wp2
  rw [rounds_succ]
  go_wp2
  rw [rounds_succ]
  go_wp2
  rw [rounds_succ]
  go_wp2
  rw [rounds_succ]
  go_wp2
  refine bodyPost_ret (v := six 0 1 2 3 4 5) (by simp [six, results, Try.results39, go_sem]) rfl ⟨rfl, ?_⟩
  go_grown
/-- An order of ages as a value. -/
def sixf (o : Nat → Int) : Value := six (o 0) (o 1) (o 2) (o 3) (o 4) (o 5)
/-- The order that moves an age to the front. -/
def yng (age i : Nat) : Int := if i = 0 then age else if i ≤ age then (i : Int) - 1 else i
def sameO (i : Nat) : Int := i
def cur6 : List Value := [.int .i64 0, .int .i64 1, .int .i64 2, .int .i64 3, .int .i64 4, .int .i64 5]
theorem isz : (Try.prog.info? 2).map (·.size) = some 1 := by kernel_rfl
theorem below6 {n : Nat} (h : n < 6) : n = 0 ∨ n = 1 ∨ n = 2 ∨ n = 3 ∨ n = 4 ∨ n = 5 := by omega
theorem yng_cells (age : Nat) (h : age < 6) (i : Nat) (hi : 0 < i) (hi6 : i < 6) : (Go.splice cur6 1 (cur6.take age)).toArray[i]? = some (.int .i64 (yng age i)) := by
  rcases below6 h with rfl | rfl | rfl | rfl | rfl | rfl <;> rcases below6 hi6 with rfl | rfl | rfl | rfl | rfl | rfl <;> first | rfl | (exact absurd hi (by omega))
theorem yng_cell0 (age : Nat) : (Go.splice cur6 1 (cur6.take age)).toArray[0]? = some (.int .i64 0) := rfl
theorem cur6_take (age : Nat) (j : Nat) (v : Value) (hv : (cur6.take age)[j]? = some v) : cur6.toArray[j]? = some v := by
  rw [List.getElem?_take] at hv
  split at hv
  · simpa using hv
  · cases hv
theorem cur6_one (age : Nat) : ∀ v ∈ cur6.take age, v.oneCell' = true := fun v hv => by
  have := List.mem_of_mem_take hv
  simp [cur6] at this
  rcases this with rfl | rfl | rfl | rfl | rfl | rfl <;> rfl
end Go.Proofs.Ytakjkbjooongkaa
