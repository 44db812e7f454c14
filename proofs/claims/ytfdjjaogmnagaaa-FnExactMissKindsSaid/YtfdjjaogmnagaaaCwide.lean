/- The contract of the program's withElement: a rising list with one number more. -/
import Derived.Test.YtfdjjaogmnagaaaCput
import Derived.Test.YtfdjjaogmnagaaaCto
import Derived.Test.YtfdjjaogmnagaaaCshelf
import Derived.Laws.CopyOwn
import Derived.Deep.RegionLaw
import Derived.IntWalk
namespace Go.Proofs.Ytfdjjaogmnagaaa.Tr
open Go.RowKit
set_option maxRecDepth 100000
theorem ins_list {α : Type} (R X1 X2 : List α) (u : α) (h : R.length = X1.length + 1 + X2.length) : splice ((splice R 0 X1).set X1.length u) (X1.length + 1) X2 = X1 ++ u :: X2 := by
  have e1 : splice R 0 X1 = X1 ++ R.drop X1.length := by simp [splice]
  have e2 : R.drop X1.length = (R.drop X1.length).head (by intro hn; have := congrArg List.length hn; simp at this; omega) :: R.drop (X1.length + 1) := by
    conv => lhs; rw [← List.cons_head_tail (l := R.drop X1.length) (by intro hn; have := congrArg List.length hn; simp at this; omega)]
    rw [List.tail_drop]
  rw [e1, e2, List.set_append_right _ _ (Nat.le_refl _), Nat.sub_self, List.set_cons_zero]
  unfold splice
  have e3 : X1 ++ u :: R.drop (X1.length + 1) = (X1 ++ [u]) ++ R.drop (X1.length + 1) := by simp
  rw [e3, List.take_append_of_le_length (by simp), List.take_of_length_le (by simp), List.drop_eq_nil_of_le (by simp; omega)]
  simp
theorem addr_add (b off j : Nat) : (⟨b, off, none⟩ : Addr).add j = ⟨b, off + j, none⟩ := by
  unfold Addr.add
  by_cases h : j = 0 <;> simp [h]
theorem hcell {w : World} {g : Nat} {t : TypeId} {L : List Value} (h : w.heap[g]? = some (.cells L.toArray t (0, 0))) (j : Nat) (hj : j < L.length) : (∃ v, w.cell? ⟨g, j, none⟩ = some v) ∧ w.frozen? ⟨g, j, none⟩ = false := by
  constructor
  · exact ⟨L[j], by simp [World.cell?, h, hj]⟩
  · simp [World.frozen?, h]
theorem hset {w : World} {g : Nat} {t : TypeId} {L : List Value} (h : w.heap[g]? = some (.cells L.toArray t (0, 0))) (j : Nat) (v : Value) : (w.setCell ⟨g, j, none⟩ v).heap[g]? = some (.cells (L.set j v).toArray t (0, 0)) := by
  rw [heap_setCell_same w g j _ _ _ h]
  simp
def Gd (w : World) (g : Nat) (L : List Int) : Prop := w.heap[g]? = some (.cells (L.map (Value.int .i64)).toArray 2 (0, 0))
theorem Gd.own {w : World} {g : Nat} {L : List Int} (h : Gd w g L) (hl : L.length ≤ 1000000) : Own w g (.slice (some ⟨g, 0, none⟩) L.length L.length) L :=
  ⟨by simp, .inr ⟨g, L.length, _, rfl, Nat.le_refl _, h, Nat.le_refl _, by unfold maxLen; omega, by simp, by rw [Nat.mul_one]; exact List.take_of_length_le (by simp)⟩⟩
theorem Gd.of_made {w : World} {g n : Nat} {L : List Int} (h : w.ownsRow g 2 1 (.slice (some ⟨g, 0, none⟩) n n) n (L.map (Value.int .i64))) : Gd w g L := by
  rcases h.2 with ⟨hv, _⟩ | ⟨g', cap, cur, hv, _, hh, _, _, hs, ht⟩
  · cases hv
  · injection hv with h1 h2 h3
    injection h1 with h1
    injection h1 with h1
    subst h1 h3
    have e : cur.toList = L.map (Value.int .i64) := by
      rw [← ht, List.take_of_length_le]; simp; omega
    unfold Gd
    rw [hh, ← e]
theorem Gd.cell {w : World} {g : Nat} {L : List Int} (h : Gd w g L) (j : Nat) (hj : j < L.length) : w.cell? ⟨g, j, none⟩ = some (.int .i64 (L.getD j 0)) ∧ w.frozen? ⟨g, j, none⟩ = false := by
  unfold Gd at h
  constructor
  · simp [World.cell?, h, hj]
  · simp [World.frozen?, h]
theorem Gd.set {w : World} {g : Nat} {L : List Int} (h : Gd w g L) (j : Nat) (u : Int) : Gd (w.setCell ⟨g, j, none⟩ (.int .i64 u)) g (L.set j u) := by
  unfold Gd at h ⊢
  rw [heap_setCell_same w g j _ _ _ h]
  simp [List.map_set]
theorem Gd.below {w w' : World} {g C : Nat} {L : List Int} (h : Gd w g L) (hb : Below C w w') (hC : g < C) : Gd w' g L := by
  unfold Gd at h ⊢
  rw [hb.block g hC, h]
theorem isz : (Try.prog.info? 2).map (·.size) = some 1 := by kernel_rfl
end Go.Proofs.Ytfdjjaogmnagaaa.Tr
