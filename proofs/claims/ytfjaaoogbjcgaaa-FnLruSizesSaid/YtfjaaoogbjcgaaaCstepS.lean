/- One use under a policy: the contents after it, the model's step. -/
import Derived.Test.YtfjaaoogbjcgaaaCmiss
import Derived.Test.YtfjaaoogbjcgaaaCemp
import Derived.Test.YtfjaaoogbjcgaaaCown
namespace Go.Proofs.Ytfjaaoogbjcgaaa.Pv
open Go.RowKit
/-- Whether a use hits. -/
def hitB (M : Nat) (k : Nat → Int) (x : Int) : Bool := decide ((rowL M k).idxOf x < M)
/-- What is at each age afterwards. -/
def stN (hs : List (List Int)) (ms : List Int) (k : Nat → Int) (x : Int) (i : Nat) : Int :=
  if (rowL ms.length k).idxOf x < ms.length then k (ordN (hs.getD ((rowL ms.length k).idxOf x) []) i) else putA k (ms.length - 1) x (ordN ms i)
theorem rowL_get (M : Nat) (k : Nat → Int) (i : Nat) (h : i < M) : (rowL M k).getD i 0 = k i := by simp [rowL, List.getD_eq_getElem?_getD, h]
theorem rowL_succ (M : Nat) (k : Nat → Int) : rowL (M + 1) k = rowL M k ++ [k M] := by simp [rowL, List.range_succ]
theorem rowL_set (M : Nat) (k : Nat → Int) (m : Nat) (x : Int) (hm : m < M) : (rowL M k).set m x = rowL M (putA k m x) := by
  apply List.ext_getElem?
  intro i
  by_cases hi : i < M
  · by_cases e : m = i
    · subst e; rw [List.getElem?_set_self (by rw [rowL_len]; exact hi)]; simp [rowL, hi, putA]
    · have e2 : ¬ i = m := fun h => e h.symm
      rw [List.getElem?_set_ne e]; simp [rowL, hi, putA, e2]
  · rw [List.getElem?_eq_none (by rw [List.length_set, rowL_len]; omega), List.getElem?_eq_none (by rw [rowL_len]; omega)]
theorem idx_hit (M : Nat) (k : Nat → Int) (x : Int) (h : (rowL M k).idxOf x < M) : k ((rowL M k).idxOf x) = x ∧ ∀ i, i < (rowL M k).idxOf x → k i ≠ x := by
  have hl : (rowL M k).idxOf x < (rowL M k).length := by rw [rowL_len]; exact h
  refine ⟨?_, fun i hi e => ?_⟩
  · have := List.getElem_idxOf hl
    rw [← rowL_get M k _ h, List.getD_eq_getElem?_getD, List.getElem?_eq_getElem hl]; exact this
  · have h2 := List.not_of_lt_findIdx (p := fun y => y == x) (xs := rowL M k) (i := i) hi
    have hi2 : i < M := by omega
    simp [rowL, e] at h2
theorem idx_miss (M : Nat) (k : Nat → Int) (x : Int) (h : ¬ (rowL M k).idxOf x < M) : ∀ i, i < M → k i ≠ x := fun i hi e => by
  have hm : x ∈ rowL M k := by
    unfold rowL
    rw [List.mem_map]
    exact ⟨i, List.mem_range.2 hi, e⟩
  have := List.idxOf_lt_length_of_mem hm
  rw [rowL_len] at this
  exact h this
theorem ordN_ltM {M : Nat} {o : List Int} (h : ordB M o = true) (i : Nat) (hi : i < M) : ordN o i < M ∧ o.getD i 0 = ((ordN o i : Nat) : Int) := by
  have hl := ordB_len h
  have h1 : okTo M o o.length = true := by unfold ordB at h; simp at h; exact h.1
  have h3 := okTo_all _ h1 i (by omega)
  unfold okO at h3
  rw [Bool.and_eq_true] at h3
  have h4 := inN_mem.1 h3.1
  unfold ordN ordF
  rw [if_pos (by omega)]
  omega
/-- How far a number is away in a list, or -1. -/
def ageI (xs : List Int) (x : Int) : Int := if xs.idxOf x < xs.length then ((xs.idxOf x : Nat) : Int) else -1
/-- What a step leaves: the contents and whether it hit. -/
def Sh (xs : List Int) (b : Bool) (w : World) (e : Ending) (w' : World) : Prop := ∃ v, e = .returned (.tuple #[v, .bool b]) ∧ Own w' w.heap.size v xs ∧ Below w.heap.size w w'
/-- The loop of the model's step: an order's elements looked up. -/
theorem rowL_eq (M : Nat) (f g : Nat → Int) (h : ∀ i, i < M → f i = g i) : rowL M f = rowL M g := by
  unfold rowL
  exact List.map_congr_left fun i hi => h i (List.mem_range.1 hi)
end Go.Proofs.Ytfjaaoogbjcgaaa.Pv
