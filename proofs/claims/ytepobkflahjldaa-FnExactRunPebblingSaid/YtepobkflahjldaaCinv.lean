/- A region that draws its order, by an invariant: one proof an operation, whatever has been done ahead of it. No program. -/
import Derived.RegionTactic
namespace Go.Proofs.Ytepobkflahjldaa
open Go
theorem wpAny_inv {P : Program} {md : Region.Mode} {ops : Array Oper} {Q : Exit → Act → World → Prop} (I : Array Bool → Act → World → Prop) (m : Array Bool → Nat)
    (hm : ∀ listed i, i ∈ Region.ready md ops listed → m (listed.setIfInBounds i true) < m listed)
    (h0 : ∀ listed, m listed = 0 → Region.ready md ops listed = [])
    (hstep : ∀ listed a w, I listed a w → ∀ i ∈ Region.ready md ops listed, wpOp P ops Q i (I (listed.setIfInBounds i true)) a w)
    (hdone : ∀ listed a w, I listed a w → Region.ready md ops listed = [] → Q .normal a w) :
    ∀ (fuel : Nat) (listed : Array Bool) (a : Act) (w : World), m listed ≤ fuel → I listed a w → wpAny P md ops Q fuel listed a w := by
  intro fuel
  induction fuel with
  | zero =>
    intro listed a w hf hI
    have hr := h0 listed (by omega)
    exact ⟨hr, hdone listed a w hI hr⟩
  | succ fuel ih =>
    intro listed a w hf hI
    refine ⟨fun hr => hdone listed a w hI hr, fun i hi => ?_⟩
    exact wpOp_mono (fun a' w' h' => ih _ a' w' (by have := hm listed i hi; omega) h') (hstep listed a w hI i hi)
/-- How many are still to be done. -/
def undone (listed : Array Bool) : Nat := (listed.toList.filter (fun b => !b)).length
theorem count_set : ∀ (l : List Bool) (i : Nat), l.getD i true = false → ((l.set i true).filter (fun b => !b)).length < (l.filter (fun b => !b)).length
  | [], i, h => by simp at h
  | b :: r, 0, h => by
    have : b = false := by simpa using h
    subst this
    simp
  | b :: r, i + 1, h => by
    have ih := count_set r i (by simpa using h)
    cases b
    · simp only [List.set_cons_succ, List.filter_cons, Bool.not_false, if_true, List.length_cons]; omega
    · simpa using ih
theorem ready_undone {md : Region.Mode} {ops : Array Oper} {listed : Array Bool} {i : Nat} (h : i ∈ Region.ready md ops listed) : undone (listed.setIfInBounds i true) < undone listed := by
  unfold Region.ready at h
  rw [List.mem_filter] at h
  have h2 := h.2
  rw [Bool.and_eq_true] at h2
  have h3 : listed.getD i true = false := by simpa using h2.1
  unfold undone
  rw [Array.toList_setIfInBounds]
  refine count_set _ _ ?_
  rw [List.getD_eq_getElem?_getD, Array.getElem?_toList, ← Array.getD_eq_getD_getElem?]
  exact h3
theorem undone_none {md : Region.Mode} {ops : Array Oper} {listed : Array Bool} (h : undone listed = 0) : Region.ready md ops listed = [] := by
  refine List.eq_nil_iff_forall_not_mem.2 fun i hi => ?_
  have := ready_undone hi
  omega
/-- The region's rule. -/
theorem wp_region_inv {P : Program} {ops : Array Oper} {Q : Exit → Act → World → Prop} {id : Nat} {a : Act} {w : World} (hmx : P.follows .mixedOrders = true) (I : Array Bool → Act → World → Prop)
    (hI : I (Array.replicate ops.size false) a w.drew)
    (hstep : ∀ listed a w, I listed a w → ∀ i ∈ Region.ready .any ops listed, wpOp P ops Q i (I (listed.setIfInBounds i true)) a w)
    (hdone : ∀ listed a w, I listed a w → Region.ready .any ops listed = [] → Q .normal a w) : (Code.region id ops true).wp P Q a w :=
  wp_region_any hmx (wpAny_inv I undone (fun _ _ h => ready_undone h) (fun _ h => undone_none h) hstep hdone _ _ _ _ (by
    unfold undone
    refine Nat.le_trans (List.length_filter_le _ _) ?_
    simp) hI)
end Go.Proofs.Ytepobkflahjldaa
