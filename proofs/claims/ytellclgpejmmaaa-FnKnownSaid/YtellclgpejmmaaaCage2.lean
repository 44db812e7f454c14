/- The program's orders of ages: what stays, what goes to the end, the tree's. -/
import Derived.Test.YtellclgpejmmaaaCage
namespace Go.Proofs.Ytellclgpejmmaaa
open Go.RowKit
abbrev z6 : Array Value := #[.int .i64 0, .int .i64 0, .int .i64 0, .int .i64 0, .int .i64 0, .int .i64 0]
theorem res6 (w w' : World) (hb : Below (w.heap.size + 1) (w.alloc (.cells z6 53)) w') (i : Nat) (hi : i < 6) : w'.cell? ⟨w.heap.size, i, none⟩ = some (.int .i64 0) ∧ w'.frozen? ⟨w.heap.size, i, none⟩ = false := by
  have e1 : w'.heap[w.heap.size]? = (w.alloc (.cells z6 53)).heap[w.heap.size]? := hb.block _ (by omega)
  rw [World.cell?_of_block (w := w.alloc (.cells z6 53)) (a := ⟨w.heap.size, i, none⟩) e1, World.frozen?_of_block (w := w.alloc (.cells z6 53)) (a := ⟨w.heap.size, i, none⟩) e1]
  rcases below6 hi with rfl | rfl | rfl | rfl | rfl | rfl <;> exact ⟨by simp [go_sem], by simp⟩
theorem z6_size (w : World) : (w.alloc (.cells z6 53)).heap.size = w.heap.size + 1 := Array.size_push _
set_option maxHeartbeats 2000000 in
set_option maxRecDepth 100000 in
theorem stay_i (age : Int) (w : World) : Calls Try.prog 25 #[.int .i64 age] w (RetB (sixf sameO) w) := by
  have HS := Lib.hid (fun w => same_i w)
  have HV := Lib.hid (show six 0 1 2 3 4 5 = sixf sameO from rfl)
  unfold six at HS HV
  have hz := z6_size w
  go_enter Try.func25, Try.ntmps25
  go_wp2_with fail
  refine (HS.out _).mono ?_
  rintro e w1 ⟨rfl, b1⟩
  have b1' : Below (w.heap.size + 1) (w.alloc (.cells z6 53)) w1 := b1.mono (Nat.le_of_eq hz.symm)
  obtain ⟨r0, q0⟩ := res6 w w1 b1' 0 (by omega)
  obtain ⟨r1, q1⟩ := res6 w w1 b1' 1 (by omega)
  obtain ⟨r2, q2⟩ := res6 w w1 b1' 2 (by omega)
  obtain ⟨r3, q3⟩ := res6 w w1 b1' 3 (by omega)
  obtain ⟨r4, q4⟩ := res6 w w1 b1' 4 (by omega)
  obtain ⟨r5, q5⟩ := res6 w w1 b1' 5 (by omega)
  have HB := Lib.hid (((Below.refl w.heap.size w).alloc (Nat.le_refl _) (.cells z6 53)).trans (b1'.mono (by omega)))
  clear b1 b1' hz
  go_wp2
  refine bodyPost_ret (v := six 0 1 2 3 4 5) (by simp [six, results, Try.results25, go_sem, r0, r1, r2, r3, r4, r5]) rfl ⟨by rw [← HV.out]; rfl, ?_⟩
  have hb5 := HB.out
  go_grown
/-- The tree's order of a hit. -/
def treO (age i : Nat) : Int := if i = 0 then age else if i = 1 then (age ^^^ 1 : Nat) else if i = 2 then 2 - 2 * (age / 2 : Nat) else if i = 3 then 3 - 2 * (age / 2 : Nat) else i
end Go.Proofs.Ytellclgpejmmaaa
