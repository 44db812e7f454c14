/- The program's orders of ages: what stays, what goes to the end, the tree's. -/
import Derived.Test.YtakjkbjooongkaaCage
namespace Go.Proofs.Ytakjkbjooongkaa
open Go.RowKit
abbrev z6 : Array Value := #[.int .i64 0, .int .i64 0, .int .i64 0, .int .i64 0, .int .i64 0, .int .i64 0]
theorem res6 (w w' : World) (hb : Below (w.heap.size + 1) (w.alloc (.cells z6 60)) w') (i : Nat) (hi : i < 6) : w'.cell? ⟨w.heap.size, i, none⟩ = some (.int .i64 0) ∧ w'.frozen? ⟨w.heap.size, i, none⟩ = false := by
  have e1 : w'.heap[w.heap.size]? = (w.alloc (.cells z6 60)).heap[w.heap.size]? := hb.block _ (by omega)
  rw [World.cell?_of_block (w := w.alloc (.cells z6 60)) (a := ⟨w.heap.size, i, none⟩) e1, World.frozen?_of_block (w := w.alloc (.cells z6 60)) (a := ⟨w.heap.size, i, none⟩) e1]
  rcases below6 hi with rfl | rfl | rfl | rfl | rfl | rfl <;> exact ⟨by simp [go_sem], by simp⟩
theorem z6_size (w : World) : (w.alloc (.cells z6 60)).heap.size = w.heap.size + 1 := Array.size_push _
/-- The tree's order of a hit. -/
def treO (age i : Nat) : Int := if i = 0 then age else if i = 1 then (age ^^^ 1 : Nat) else if i = 2 then 2 - 2 * (age / 2 : Nat) else if i = 3 then 3 - 2 * (age / 2 : Nat) else i
end Go.Proofs.Ytakjkbjooongkaa
