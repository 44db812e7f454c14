/- The law's marks in a list of lists. -/
import Derived.Test.YtakjkbjooongkaaCheld2
namespace Go.Proofs.Ytakjkbjooongkaa
open Go.RowKit
theorem Own2.marked {w w' : World} {B j : Nat} {v : Value} {vs : List Value} {ys : List (List Int)} {zs : List Int} (h : Own2 w B v vs ys) (hj : j < ys.length) (ho : Own w' B (vs.getD j s0) zs)
    (hg : w.grownBy w' (vs.getD j s0).ownBlock) : Own2 w' B v vs (ys.set j zs) := by
  obtain ⟨hl, h0, h1, h2, h3⟩ := h
  refine ⟨by rw [List.length_set]; exact hl, ?_, fun i hi => ?_, fun i i' k hii hi' => h2 i i' k hii (by simpa using hi'), fun i k hi => h3 i k (by simpa using hi)⟩
  · refine World.ownsRow.kept h0 hg ?_
    cases hv : (vs.getD j s0).ownBlock with
    | none =>
      cases hv2 : v.ownBlock with
      | none => exact .inl rfl
      | some k => exact .inr (fun e => by cases e)
    | some k =>
      cases hv2 : v.ownBlock with
      | none => exact .inl rfl
      | some k2 => exact .inr (fun e => h3 j k hj hv (by rw [hv2]; exact e))
  · rw [List.length_set] at hi
    by_cases e : i = j
    · subst e
      have e2 : (ys.set i zs).getD i [] = zs := by rw [List.getD_eq_getElem?_getD, List.getElem?_set_self hi]; rfl
      rw [e2]
      exact ho
    · have e2 : (ys.set j zs).getD i [] = ys.getD i [] := by rw [List.getD_eq_getElem?_getD, List.getElem?_set_ne (fun h => e h.symm), ← List.getD_eq_getElem?_getD]
      rw [e2]
      refine (h1 i hi).kept hg fun k hk hne => ?_
      rcases Nat.lt_or_gt_of_ne e with hlt | hlt
      · exact h2 i j k hlt hj hk hne.symm
      · exact h2 j i k hlt hi hne.symm hk
theorem ext_getD (xs ys : List (List Int)) (hl : xs.length = ys.length) (h : ∀ i, i < xs.length → xs.getD i [] = ys.getD i []) : xs = ys := by
  refine List.ext_getElem hl fun i h1 h2 => ?_
  have := h i h1
  rwa [List.getD_eq_getElem?_getD, List.getElem?_eq_getElem h1, List.getD_eq_getElem?_getD, List.getElem?_eq_getElem h2] at this
/-- Some of the lists hold marks by now. -/
def Mid (k j : Nat) (ns : List Nat) (xss ys : List (List Int)) : Prop := ys.length = xss.length ∧ (∀ i, i < j → ys.getD i [] = (mk2 k ns).getD i []) ∧ ∀ i, j ≤ i → ys.getD i [] = xss.getD i []
theorem Mid.start (k : Nat) (ns : List Nat) (xss : List (List Int)) : Mid k 0 ns xss xss := ⟨rfl, fun i h => by omega, fun i _ => rfl⟩
theorem Mid.step {k j : Nat} {ns : List Nat} {xss ys : List (List Int)} (h : Mid k j ns xss ys) (hj : j < xss.length) (hn : ns.length = xss.length) :
    Mid k (j + 1) ns xss (ys.set j (marks (k + (ns.take j).sum) (ns.getD j 0))) := by
  obtain ⟨h0, h1, h2⟩ := h
  refine ⟨by rw [List.length_set]; exact h0, fun i hi => ?_, fun i hi => ?_⟩
  · by_cases e : i = j
    · subst e
      rw [List.getD_eq_getElem?_getD, List.getElem?_set_self (by omega), mk2_get k ns i (by omega)]
      rfl
    · rw [List.getD_eq_getElem?_getD, List.getElem?_set_ne (fun h => e h.symm), ← List.getD_eq_getElem?_getD]
      exact h1 i (by omega)
  · rw [List.getD_eq_getElem?_getD, List.getElem?_set_ne (by omega), ← List.getD_eq_getElem?_getD]
    exact h2 i (by omega)
theorem Mid.stop {k : Nat} {ns : List Nat} {xss ys : List (List Int)} (h : Mid k xss.length ns xss ys) (hn : ns.length = xss.length) : ys = mk2 k ns :=
  ext_getD _ _ (by rw [h.1, mk2_length, hn]) fun i hi => h.2.1 i (by rw [← h.1]; exact hi)
def Marked2 (B : Nat) (v : Value) (vs : List Value) (k : Nat) (ns : List Nat) (w : World) (e : Ending) (w' : World) : Prop := e = .returned (.int .i64 ((k + ns.sum : Nat) : Int)) ∧ Own2 w' B v vs (mk2 k ns) ∧ Below B w w' ∧ w.heap.size ≤ w'.heap.size
theorem row_cell {w : World} {B b N c j : Nat} {vs : List Value} {ys : List (List Int)} (h : Own2 w B (.slice (some ⟨b, 0, none⟩) N c) vs ys) (hl : ys.length = N) (hj : j < N) : w.cell? ⟨b, j, none⟩ = some (vs.getD j s0) := by
  rcases h.cases with ⟨h, _⟩ | ⟨g, cap, he, _, _, _, hc, _⟩
  · cases h
  · injection he with h1 h2 h3
    injection h1 with h1
    injection h1 with h1
    subst h1
    exact hc j (by omega)
end Go.Proofs.Ytakjkbjooongkaa
