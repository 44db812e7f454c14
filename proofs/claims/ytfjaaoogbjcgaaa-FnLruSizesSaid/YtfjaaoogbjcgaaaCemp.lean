/- Contents without addresses: the contracts of both EmptyContents. -/
import Derived.Test.YtfjaaoogbjcgaaaCvp
import Derived.Test.YtfjaaoogbjcgaaaCpof
import Derived.Test.YtfjaaoogbjcgaaaCappg
import Derived.Deep.RegionHeld3
namespace Go.Proofs.Ytfjaaoogbjcgaaa.Pv
open Go.RowKit
def emptyL (n : Nat) : List Int := List.replicate n (-1)
theorem emptyL_len (n : Nat) : (emptyL n).length = n := by simp [emptyL]
def empV (b : Bool) (n : Nat) : List Int := if b then emptyL n else []
theorem empV_len (b : Bool) (n : Nat) : (empV b n).length ≤ n := by cases b <;> simp [empV, emptyL]
theorem emptyL_succ (n : Nat) : emptyL (n + 1) = emptyL n ++ [-1] := by simp [emptyL, List.replicate_succ']
set_option maxHeartbeats 1000000 in
set_option maxRecDepth 100000 in
theorem empty6_i (w : World) : Calls Try.prog 43 #[] w (RetB (six (-1) (-1) (-1) (-1) (-1) (-1)) w) := by
  go_enter Try.func43, Try.ntmps43
  go_wp2
  refine wp_loop_rounds 7 ?_
  rw [rounds_succ]
  go_wp2
  rw [rounds_succ]
  go_wp2
  rw [rounds_succ]
  go_wp2
  rw [rounds_succ]
  go_wp2
  rw [rounds_succ]
  go_wp2
  rw [rounds_succ]
  go_wp2
  rw [rounds_succ]
  go_wp2
  refine bodyPost_ret (v := six (-1) (-1) (-1) (-1) (-1) (-1)) (by simp [six, results, Try.results43, go_sem]) rfl ⟨rfl, ?_⟩
  go_grown
/-- What a function leaves that returns a list of its own in a block of whatever type, and whether it succeeded. -/
def ResW (xs : List Int) (ok : Bool) (w : World) (e : Ending) (w' : World) : Prop := ∃ v, e = .returned (.tuple #[v, .bool ok]) ∧ OwnW w' w.heap.size v xs ∧ Below w.heap.size w w'
theorem rowL_empty (n : Nat) : rowL n (fun _ => -1) = emptyL n := by
  unfold rowL emptyL
  rw [List.map_const', List.length_range]
theorem rulC_ways (n : Nat) (hs : List (List Int)) (ms : List Int) : (rulC true n hs ms)[0]? = some (.int .i64 n) := rfl
end Go.Proofs.Ytfjaaoogbjcgaaa.Pv
