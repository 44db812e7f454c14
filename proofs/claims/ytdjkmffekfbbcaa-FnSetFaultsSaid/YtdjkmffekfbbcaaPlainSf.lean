/- Faults of working sets: what a use's gap tells of the working set behind the use before it. No program. -/
import Derived.Test.YtdjkmffekfbbcaaPlainSum
namespace Go.Proofs.Ytdjkmffekfbbcaa.Tr
theorem lastAt_cases (xs : List Int) (a : Int) : ∀ n, (lastAt xs a n = -1 ∧ ∀ i, i < n → xs.getD i 0 ≠ a) ∨ ∃ l : Nat, lastAt xs a n = (l : Nat) ∧ l < n ∧ xs.getD l 0 = a ∧ ∀ i, l < i → i < n → xs.getD i 0 ≠ a
  | 0 => .inl ⟨rfl, fun i h => by omega⟩
  | n + 1 => by
    have h0 : lastAt xs a (n + 1) = if xs.getD n 0 = a then (n : Int) else lastAt xs a n := rfl
    by_cases h : xs.getD n 0 = a
    · exact .inr ⟨n, by rw [h0, if_pos h], by omega, h, fun i h1 h2 => by omega⟩
    · rw [if_neg h] at h0
      rcases lastAt_cases xs a n with ⟨h1, h2⟩ | ⟨l, h1, h2, h3, h4⟩
      · refine .inl ⟨by rw [h0, h1], fun i hi => ?_⟩
        by_cases e : i = n
        · subst e; exact h
        · exact h2 i (by omega)
      · refine .inr ⟨l, by rw [h0, h1], by omega, h3, fun i h5 h6 => ?_⟩
        by_cases e : i = n
        · subst e; exact h
        · exact h4 i h5 (by omega)
/-- What is kept before a use. -/
def kwK (xs : List Int) (q : Nat) : Nat → List Int
  | 0 => []
  | j + 1 => setP ((xs.take (j + 1)).drop (j + 1 - q))
def fltB (xs : List Int) (q j : Nat) : Bool := decide (gapAt xs j = 0) || decide ((q : Int) < gapAt xs j)
theorem mem_win (xs : List Int) (q j : Nat) (hj : j ≤ xs.length) (x : Int) : x ∈ (xs.take j).drop (j - q) ↔ ∃ k, j - q ≤ k ∧ k < j ∧ xs.getD k 0 = x := by
  constructor
  · intro h
    obtain ⟨i, hi, e⟩ := List.mem_iff_getElem.1 h
    simp at hi
    refine ⟨j - q + i, by omega, by omega, ?_⟩
    rw [getD_get xs _ (by omega), ← e]
    simp
  · rintro ⟨k, h1, h2, h3⟩
    refine List.mem_iff_getElem.2 ⟨k - (j - q), by simp; omega, ?_⟩
    rw [← h3, getD_get xs k (by omega)]
    simp
    congr 1
    omega
theorem mem_kw (xs : List Int) (q j : Nat) (hj : j ≤ xs.length) (x : Int) : x ∈ kwK xs q j ↔ ∃ k, j - q ≤ k ∧ k < j ∧ xs.getD k 0 = x := by
  cases j with
  | zero => simp [kwK]
  | succ j => rw [kwK, mem_setP, mem_win xs q (j + 1) hj]
theorem kw_flt (xs : List Int) (q j : Nat) (hj : j < xs.length) : (kwK xs q j).contains (xs.getD j 0) = !fltB xs q j := by
  have hm := mem_kw xs q j (by omega) (xs.getD j 0)
  unfold fltB gapAt
  rcases lastAt_cases xs (xs.getD j 0) j with ⟨h1, h2⟩ | ⟨l, h1, h2, h3, h4⟩
  · have hn : ¬ xs.getD j 0 ∈ kwK xs q j := fun h => by
      obtain ⟨k, _, h6, h7⟩ := hm.1 h
      exact h2 k h6 h7
    rw [h1, List.contains_eq_mem, decide_eq_false hn]
    rfl
  · rw [h1]
    have e0 : ¬ ((l : Int) < 0) := by omega
    simp only [if_neg e0]
    rw [decide_eq_false (show ¬ ((j : Int) - (l : Int) = 0) by omega), Bool.false_or]
    by_cases hq : (q : Int) < (j : Int) - (l : Int)
    · have hn : ¬ xs.getD j 0 ∈ kwK xs q j := fun h => by
        obtain ⟨k, h5, h6, h7⟩ := hm.1 h
        exact h4 k (by omega) h6 h7
      rw [decide_eq_true hq, List.contains_eq_mem, decide_eq_false hn]; rfl
    · have hy : xs.getD j 0 ∈ kwK xs q j := hm.2 ⟨l, by omega, h2, h3⟩
      rw [decide_eq_false hq, List.contains_eq_mem, decide_eq_true hy]; rfl
theorem kw_length (xs : List Int) (q j : Nat) : (kwK xs q j).length ≤ j := by
  cases j with
  | zero => simp [kwK]
  | succ j =>
    have h := setP_length ((xs.take (j + 1)).drop (j + 1 - q))
    simp only [List.length_drop, List.length_take] at h
    show (setP _).length ≤ j + 1
    omega
/-- Faults among the first uses. -/
def fltN (xs : List Int) (q : Nat) : Nat → Nat := sumTo fun i => if fltB xs q i then 1 else 0
/-- What is kept behind the first uses. -/
def keptN (xs : List Int) (q : Nat) : Nat → Nat := sumTo fun i => (kwK xs q (i + 1)).length
theorem fltN_succ (xs : List Int) (q j : Nat) : fltN xs q (j + 1) = fltN xs q j + if fltB xs q j then 1 else 0 := rfl
theorem keptN_succ (xs : List Int) (q j : Nat) : keptN xs q (j + 1) = keptN xs q j + (kwK xs q (j + 1)).length := rfl
theorem fltN_le (xs : List Int) (q : Nat) : ∀ j, fltN xs q j ≤ j
  | 0 => Nat.le_refl _
  | j + 1 => by rw [fltN_succ]; have := fltN_le xs q j; split <;> omega
theorem keptN_le (xs : List Int) (q : Nat) : ∀ j, j ≤ 60 → keptN xs q j ≤ 60 * j
  | 0, _ => Nat.le_refl _
  | j + 1, h => by rw [keptN_succ]; have := keptN_le xs q j (by omega); have := kw_length xs q (j + 1); omega
end Go.Proofs.Ytdjkmffekfbbcaa.Tr
