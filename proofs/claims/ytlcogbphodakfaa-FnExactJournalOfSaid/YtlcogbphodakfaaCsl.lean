/- Lists of int64 that the call itself made: what it is to own one, and the contracts of the three helpers that compare, mark and look such a list through. -/
import Derived.Test.YtlcogbphodakfaaCBase
namespace Go.Proofs.Ytlcogbphodakfaa
open Go.RowKit
/-- v is a list of int64 in a block from B on, with the numbers xs. -/
def Own (w : World) (B : Nat) (v : Value) (xs : List Int) : Prop := w.ownsRow B 2 1 v xs.length (xs.map (Value.int .i64))
/-- What a function leaves that returns such a list and whether it succeeded. -/
def Res (xs : List Int) (ok : Bool) (w : World) (e : Ending) (w' : World) : Prop := ∃ v, e = .returned (.tuple #[v, .bool ok]) ∧ Own w' w.heap.size v xs ∧ Below w.heap.size w w'
def Drew (w : World) (e : Ending) (w' : World) : Prop := ∃ k, e = .returned (.bool true) ∧ w' = w.drewN k
theorem Own.nil (w : World) (B : Nat) : Own w B (.slice none 0 0) [] := World.ownsRow_nil _ _ _ _
theorem Own.cases {w : World} {B : Nat} {v : Value} {xs : List Int} (h : Own w B v xs) :
    (v = .slice none 0 0 ∧ xs = []) ∨ ∃ g cap, v = .slice (some ⟨g, 0, none⟩) xs.length cap ∧ B ≤ g ∧ g < w.heap.size ∧ xs.length ≤ 9223372036854775807 ∧
      (∀ i, i < xs.length → w.cell? ⟨g, i, none⟩ = some (.int .i64 (xs.getD i 0))) ∧ ∀ i, w.frozen? ⟨g, i, none⟩ = false := by
  have h0 : w.ownsRow B 2 1 v xs.length (xs.map (Value.int .i64)) := h
  rcases h0.2 with ⟨rfl, hn⟩ | ⟨g, cap, cur, rfl, hB, hg, hnc, hcm, hcs, htake⟩
  · exact .inl ⟨rfl, List.eq_nil_of_length_eq_zero hn⟩
  · refine .inr ⟨g, cap, rfl, hB, (Array.getElem?_eq_some_iff.1 hg).1, by unfold maxLen at hcm; omega, fun i hi => ?_, fun i => h0.frozenAt i⟩
    rw [h0.cellAt i (by omega), List.getElem?_map, List.getElem?_eq_getElem hi, List.getD_eq_getElem?_getD, List.getElem?_eq_getElem hi]
    rfl
theorem Own.below {w w' : World} {B : Nat} {v : Value} {xs : List Int} (h : Own w B v xs) {C : Nat} (hb : Below C w w') (hC : w.heap.size ≤ C) : Own w' B v xs := by
  refine ⟨h.1, ?_⟩
  rcases h.2 with hn | ⟨g, cap, cur, hv, hg, hh, r⟩
  · exact .inl hn
  · exact .inr ⟨g, cap, cur, hv, hg, by rw [hb.block g (Nat.lt_of_lt_of_le (Array.getElem?_eq_some_iff.1 hh).1 hC)]; exact hh, r⟩
theorem Own.drewN {w : World} {B : Nat} {v : Value} {xs : List Int} (h : Own w B v xs) (k : Nat) : Own (w.drewN k) B v xs := h
theorem Own.block {w : World} {B : Nat} {v : Value} {xs : List Int} (h : Own w B v xs) : ∀ k, v.ownBlock = some k → B ≤ k ∧ k < w.heap.size := World.ownsRow.lt h
theorem Own.kept {w w' : World} {B : Nat} {v : Value} {xs : List Int} {row : Option Nat} (h : Own w B v xs) (hg : w.grownBy w' row) (hne : ∀ k, v.ownBlock = some k → some k ≠ row) : Own w' B v xs := by
  refine World.ownsRow.kept h hg ?_
  cases hv : v.ownBlock with
  | none => exact .inl rfl
  | some k => exact .inr (hne k hv)
theorem Own.mono {w : World} {B B' : Nat} {v : Value} {xs : List Int} (h : Own w B v xs) (hB : B' ≤ B) : Own w B' v xs := by
  refine ⟨h.1, ?_⟩
  rcases h.2 with hn | ⟨g, cap, cur, hv, hg, r⟩
  · exact .inl hn
  · exact .inr ⟨g, cap, cur, hv, by omega, r⟩
/-- The numbers k, k + 1 .. -/
def marks : Nat → Nat → List Int
  | _, 0 => []
  | k, n + 1 => (k : Int) :: marks (k + 1) n
theorem marks_length (k n : Nat) : (marks k n).length = n := by
  induction n generalizing k with
  | zero => rfl
  | succ n ih => simp [marks, ih]
theorem marks_get (k n i : Nat) (h : i < n) : (marks k n).getD i 0 = ((k + i : Nat) : Int) := by
  induction n generalizing k i with
  | zero => omega
  | succ n ih =>
    cases i with
    | zero => simp [marks]
    | succ i => simp only [marks, List.getD_cons_succ]; rw [ih (k + 1) i (by omega)]; congr 1; omega
theorem marks_snoc (k n : Nat) : marks k (n + 1) = marks k n ++ [((k + n : Nat) : Int)] := by
  induction n generalizing k with
  | zero => simp [marks]
  | succ n ih => rw [marks, ih (k + 1), marks, List.cons_append, show k + 1 + n = k + (n + 1) by omega]
def Count (n : Int) (w : World) (e : Ending) (w' : World) : Prop := e = .returned (.int .i64 n) ∧ w = w'
def Marked (B : Nat) (v : Value) (k N : Nat) (w : World) (e : Ending) (w' : World) : Prop := e = .returned (.int .i64 ((k : Int) + N)) ∧ Own w' B v (marks k N) ∧ w.grownBy w' v.ownBlock
/-- After j rounds: the first j numbers are marks, the others as they were. -/
def mixed (k j : Nat) (xs : List Int) : List Int := marks k j ++ xs.drop j
theorem mixed_length (k j : Nat) (xs : List Int) (h : j ≤ xs.length) : (mixed k j xs).length = xs.length := by simp [mixed, marks_length]; omega
theorem mixed_step (k j : Nat) (xs : List Int) (h : j < xs.length) : ((mixed k j xs).map (Value.int .i64)).set j (.int .i64 ((k : Int) + j)) = (mixed k (j + 1) xs).map (Value.int .i64) := by
  rw [show (Value.int .i64 ((k : Int) + j)) = Value.int .i64 (((k + j : Nat)) : Int) by simp, ← List.map_set]
  congr 1
  unfold mixed
  rw [marks_snoc, List.set_append_right _ _ (by rw [marks_length]; exact Nat.le_refl _), marks_length, Nat.sub_self, List.drop_eq_getElem_cons h, List.set_cons_zero, List.append_assoc]
  rfl
theorem mixed_end (k : Nat) (xs : List Int) : mixed k xs.length xs = marks k xs.length := by simp [mixed]
theorem grownBy_trans {a b c : World} {r : Option Nat} (h : a.grownBy b r) (k : b.grownBy c r) : a.grownBy c r :=
  ⟨k.os.trans h.os, k.tape.trans h.tape, k.output.trans h.output, Nat.le_trans h.size k.size, fun i hi hr => (k.block i (Nat.lt_of_lt_of_le hi h.size) hr).trans (h.block i hi hr)⟩
def MarkRel (B g c k N : Nat) (xs : List Int) (w : World) (j : Nat) (wr : World) : Prop := wr.ownsRow B 2 1 (.slice (some ⟨g, 0, none⟩) N c) N ((mixed k j xs).map (Value.int .i64)) ∧ w.grownBy wr (some g)
theorem MarkRel.step {B g c k N : Nat} {xs : List Int} {w : World} {j : Nat} {wr : World} (h : MarkRel B g c k N xs w j wr) (hx : xs.length = N) (hj : j < N) :
    (∃ old, wr.cell? ⟨g, j, none⟩ = some old) ∧ wr.frozen? ⟨g, j, none⟩ = false ∧ MarkRel B g c k N xs w (j + 1) (wr.setCell ⟨g, j, none⟩ (.int .i64 ((k : Int) + j))) := by
  subst hx
  have hst := World.ownsRow.stored h.1 j (.int .i64 ((k : Int) + j))
  rw [mixed_step k j xs hj] at hst
  refine ⟨?_, h.1.frozenAt j, hst.1, grownBy_trans h.2 hst.2⟩
  rw [h.1.cellAt j (by omega), List.getElem?_eq_getElem (by simp [mixed_length k j xs (by omega)]; exact hj)]
  exact ⟨_, rfl⟩
end Go.Proofs.Ytlcogbphodakfaa
