/- Lists of lists of integers that came in: their size, and a copy of the call's own. -/
import Derived.Test.YtfjaaoogbjcgaaaCow2
import Derived.Test.YtfjaaoogbjcgaaaCto
namespace Go.Proofs.Ytfjaaoogbjcgaaa
open Go.RowKit
/-- What the walk is told of a slice of slices of integers that came in. -/
def IsMatL (w : World) (a : Option Addr) (xss : List (List Int)) : Prop :=
  xss.length ≤ 9223372036854775807 ∧ ∀ i, i < xss.length → ∃ b off A C zs, a = some ⟨b, off, none⟩ ∧ w.cell? ⟨b, off + i, none⟩ = some (.slice A (xss.getD i []).length C) ∧ IsRow .i64 w A (xss.getD i []).length C zs ∧ zs.take (xss.getD i []).length = xss.getD i []
/-- As the shell tells it. -/
def IsMat (w : World) (a : Option Addr) (len : Nat) : Prop :=
  len ≤ 9223372036854775807 ∧ ∀ i, i < len → ∃ b off A L C zs, a = some ⟨b, off, none⟩ ∧ w.cell? ⟨b, off + i, none⟩ = some (.slice A L C) ∧ IsRow .i64 w A L C zs
theorem IsMat.list {w : World} {a : Option Addr} {len : Nat} (h : IsMat w a len) : ∃ xss : List (List Int), xss.length = len ∧ IsMatL w a xss := by
  obtain ⟨hl, h⟩ := h
  have hex : ∀ i, ∃ xs : List Int, i < len → ∃ b off A C zs, a = some ⟨b, off, none⟩ ∧ w.cell? ⟨b, off + i, none⟩ = some (.slice A xs.length C) ∧ IsRow .i64 w A xs.length C zs ∧ zs.take xs.length = xs := fun i => by
    by_cases hi : i < len
    · obtain ⟨b, off, A, L, C, zs, h1, h2, h3⟩ := h i hi
      have hle := (h3.le).2
      have e : (zs.take L).length = L := by rw [List.length_take]; omega
      exact ⟨zs.take L, fun _ => ⟨b, off, A, C, zs, h1, by rw [e]; exact h2, by rw [e]; exact h3, by rw [e]⟩⟩
    · exact ⟨[], fun h => absurd h hi⟩
  refine ⟨(List.range len).map fun i => Classical.choose (hex i), by simp, by simpa using hl, fun i hi => ?_⟩
  have hi' : i < len := by simpa using hi
  have e : ((List.range len).map fun i => Classical.choose (hex i)).getD i [] = Classical.choose (hex i) := by
    rw [List.getD_eq_getElem?_getD, List.getElem?_eq_getElem hi]; simp
  rw [e]
  exact Classical.choose_spec (hex i) hi'
theorem IsMatL.below {w w' : World} {a : Option Addr} {xss : List (List Int)} (h : IsMatL w a xss) (hb : Below w.heap.size w w') : IsMatL w' a xss :=
  ⟨h.1, fun i hi => by
    obtain ⟨b, off, A, C, zs, h1, h2, h3, h4⟩ := h.2 i hi
    exact ⟨b, off, A, C, zs, h1, (hb.cell (p := ⟨b, off + i, none⟩) (World.block_lt_of_cell? w _ h2)).trans h2, isRow_below h3 hb, h4⟩⟩
/-- How much is left of a size when lists have been counted, or -1. -/
def lens (xss : List (List Int)) : List Nat := xss.map List.length
theorem lens_length (xss : List (List Int)) : (lens xss).length = xss.length := by simp [lens]
theorem lens_get (xss : List (List Int)) (j : Nat) (h : j < xss.length) : (lens xss).getD j 0 = (xss.getD j []).length := by
  unfold lens
  rw [List.getD_eq_getElem?_getD, List.getElem?_map, List.getElem?_eq_getElem h, List.getD_eq_getElem?_getD, List.getElem?_eq_getElem h]; rfl
/-- What szInt64SS answers. -/
def szV (left : Int) (xss : List (List Int)) : Int := if (xss.length : Int) + ((lens xss).sum : Nat) ≤ left then left - xss.length - ((lens xss).sum : Nat) else -1
end Go.Proofs.Ytfjaaoogbjcgaaa
