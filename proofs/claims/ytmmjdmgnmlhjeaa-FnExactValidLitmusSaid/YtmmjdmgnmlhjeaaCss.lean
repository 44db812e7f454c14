/- Lists of lists of the call's own: what they are, and the law's comparison of two. -/
import Derived.Test.YtmmjdmgnmlhjeaaCsl
namespace Go.Proofs.Ytmmjdmgnmlhjeaa
open Go.RowKit
/-- The empty slice, where a place is asked beyond the end. -/
abbrev s0 : Value := .slice none 0 0
/-- A list of lists of the call's own: the row holds slices, each of the call's own, each in a block of its own. -/
def Own2 (w : World) (B : Nat) (v : Value) (vs : List Value) (xss : List (List Int)) : Prop :=
  vs.length = xss.length ∧ w.ownsRow B 43 1 v vs.length vs ∧ (∀ i, i < xss.length → Own w B (vs.getD i s0) (xss.getD i [])) ∧
    (∀ i j k, i < j → j < xss.length → (vs.getD i s0).ownBlock = some k → (vs.getD j s0).ownBlock ≠ some k) ∧ ∀ i k, i < xss.length → (vs.getD i s0).ownBlock = some k → v.ownBlock ≠ some k
theorem Own2.nil (w : World) (B : Nat) : Own2 w B (.slice none 0 0) [] [] := ⟨rfl, World.ownsRow_nil _ _ _ _, fun i h => by simp at h, fun i j k _ h => by simp at h, fun i k h => by simp at h⟩
theorem Own2.cases {w : World} {B : Nat} {v : Value} {vs : List Value} {xss : List (List Int)} (h : Own2 w B v vs xss) :
    (v = .slice none 0 0 ∧ xss = []) ∨ ∃ g cap, v = .slice (some ⟨g, 0, none⟩) xss.length cap ∧ B ≤ g ∧ g < w.heap.size ∧ xss.length ≤ 9223372036854775807 ∧
      (∀ i, i < xss.length → w.cell? ⟨g, i, none⟩ = some (vs.getD i s0)) ∧ ∀ i, w.frozen? ⟨g, i, none⟩ = false := by
  obtain ⟨hl, h0, _⟩ := h
  rcases h0.2 with ⟨rfl, hn⟩ | ⟨g, cap, cur, rfl, hB, hg, hnc, hcm, hcs, htake⟩
  · exact .inl ⟨rfl, List.eq_nil_of_length_eq_zero (by omega)⟩
  · refine .inr ⟨g, cap, by rw [hl], hB, (Array.getElem?_eq_some_iff.1 hg).1, by unfold maxLen at hcm; omega, fun i hi => ?_, fun i => h0.frozenAt i⟩
    rw [h0.cellAt i (by omega), List.getElem?_eq_getElem (by omega), List.getD_eq_getElem?_getD, List.getElem?_eq_getElem (by omega)]
    rfl
theorem Own2.below {w w' : World} {B : Nat} {v : Value} {vs : List Value} {xss : List (List Int)} (h : Own2 w B v vs xss) {C : Nat} (hb : Below C w w') (hC : w.heap.size ≤ C) : Own2 w' B v vs xss := by
  obtain ⟨hl, h0, h1, h2⟩ := h
  refine ⟨hl, ?_, fun i hi => (h1 i hi).below hb hC, h2⟩
  refine ⟨h0.1, ?_⟩
  rcases h0.2 with hn | ⟨g, cap, cur, hv, hg, hh, r⟩
  · exact .inl hn
  · exact .inr ⟨g, cap, cur, hv, hg, by rw [hb.block g (Nat.lt_of_lt_of_le (Array.getElem?_eq_some_iff.1 hh).1 hC)]; exact hh, r⟩
theorem Own2.drewN {w : World} {B : Nat} {v : Value} {vs : List Value} {xss : List (List Int)} (h : Own2 w B v vs xss) (k : Nat) : Own2 (w.drewN k) B v vs xss := h
end Go.Proofs.Ytmmjdmgnmlhjeaa
