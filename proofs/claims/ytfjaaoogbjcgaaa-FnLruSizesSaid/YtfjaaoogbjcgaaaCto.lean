/- A copy of a list of integers that came in (laws.toInt64S), as a list of the call's own. -/
import Derived.Test.YtfjaaoogbjcgaaaCRow
import Derived.Test.YtfjaaoogbjcgaaaCapp
namespace Go.Proofs.Ytfjaaoogbjcgaaa
open Go.RowKit
def Copied (xs : List Int) (w : World) (e : Ending) (w' : World) : Prop := ∃ v, e = .returned v ∧ Own w' w.heap.size v xs ∧ Below w.heap.size w w'
/-- After j rounds: the first j numbers, and noughts. -/
def tk (zs : List Int) (n j : Nat) : List Int := zs.take j ++ List.replicate (n - j) 0
theorem tk_length (zs : List Int) (n j : Nat) (hj : j ≤ n) (hn : n ≤ zs.length) : (tk zs n j).length = n := by simp [tk]; omega
theorem tk_step (zs : List Int) (n j : Nat) (hj : j < n) (hn : n ≤ zs.length) : (tk zs n j).set j (zs.getD j 0) = tk zs n (j + 1) := by
  have hl : (zs.take j).length = j := by simp; omega
  unfold tk
  rw [List.set_append_right _ _ (by omega), hl, Nat.sub_self, show n - j = (n - (j + 1)) + 1 by omega, List.replicate_succ, List.set_cons_zero,
    List.take_succ_eq_append_getElem (by omega), List.append_assoc, List.getD_eq_getElem?_getD, List.getElem?_eq_getElem (by omega)]
  rfl
theorem tk_end (zs : List Int) (n : Nat) : tk zs n n = zs.take n := by simp [tk]
def CopyRel (g n : Nat) (zs : List Int) (w0 : World) (j : Nat) (wr : World) : Prop :=
  wr.ownsRow g 2 1 (.slice (some ⟨g, 0, none⟩) n n) n ((tk zs n j).map (Value.int .i64)) ∧ Below g w0 wr
theorem CopyRel.step {g n : Nat} {zs : List Int} {w0 : World} {j : Nat} {wr : World} (h : CopyRel g n zs w0 j wr) (hn : n ≤ zs.length) (hj : j < n) :
    (∃ old, wr.cell? ⟨g, j, none⟩ = some old) ∧ wr.frozen? ⟨g, j, none⟩ = false ∧ CopyRel g n zs w0 (j + 1) (wr.setCell ⟨g, j, none⟩ (.int .i64 (zs.getD j 0))) := by
  have hst := World.ownsRow.stored h.1 j (.int .i64 (zs.getD j 0))
  rw [← List.map_set, tk_step zs n j hj hn] at hst
  refine ⟨?_, h.1.frozenAt j, hst.1, h.2.setCell (Nat.le_refl _) _⟩
  rw [h.1.cellAt j (by omega), List.getElem?_eq_getElem (by simp [tk_length zs n j (by omega) hn]; exact hj)]
  exact ⟨_, rfl⟩
theorem made_zero (n : Nat) : (madeCells #[Value.int .i64 0] n).toList = (List.replicate n 0).map (Value.int .i64) := by
  rw [List.map_replicate]
  exact toList_madeCells_one _ _
end Go.Proofs.Ytfjaaoogbjcgaaa
