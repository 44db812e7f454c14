/- First uses are as many as addresses; the gap of a next use; the counts add up to the uses. No program. -/
import Derived.Test.YtonplmnopfmnmaaPlainSum
namespace Go.Proofs.Ytonplmnopfmnmaa.Tr
theorem lastAt_spec (xs : List Int) (x : Int) : ∀ m, (lastAt xs x m = -1 ∧ ∀ t, t < m → xs.getD t 0 ≠ x) ∨
    ∃ t, lastAt xs x m = (t : Nat) ∧ t < m ∧ xs.getD t 0 = x ∧ ∀ s, t < s → s < m → xs.getD s 0 ≠ x
  | 0 => .inl ⟨rfl, fun t h => by omega⟩
  | m + 1 => by
    have h0 : lastAt xs x (m + 1) = if xs.getD m 0 = x then (m : Int) else lastAt xs x m := rfl
    by_cases h : xs.getD m 0 = x
    · exact .inr ⟨m, by rw [h0, if_pos h], by omega, h, fun s h1 h2 => by omega⟩
    · rw [if_neg h] at h0
      rcases lastAt_spec xs x m with ⟨h1, h2⟩ | ⟨t, h1, h2, h3, h4⟩
      · refine .inl ⟨by rw [h0, h1], fun t ht => ?_⟩
        by_cases e : t = m
        · subst e; exact h
        · exact h2 t (by omega)
      · refine .inr ⟨t, by rw [h0, h1], by omega, h3, fun s h5 h6 => ?_⟩
        by_cases e : s = m
        · subst e; exact h
        · exact h4 s h5 (by omega)
theorem gap_zero (xs : List Int) (i : Nat) (hi : i < xs.length) : gapAt xs i = 0 ↔ xs.getD i 0 ∉ xs.take i := by
  have hm : xs.getD i 0 ∈ xs.take i ↔ ∃ t, t < i ∧ xs.getD t 0 = xs.getD i 0 := by
    constructor
    · intro h
      obtain ⟨t, ht, e⟩ := List.mem_iff_getElem.1 h
      have ht' : t < i := by simp at ht; omega
      exact ⟨t, ht', by rw [← e, List.getElem_take, getD_get xs t (by omega)]⟩
    · rintro ⟨t, ht, e⟩
      rw [← e, getD_get xs t (by omega)]
      exact List.mem_iff_getElem.2 ⟨t, by simp; omega, by rw [List.getElem_take]⟩
  unfold gapAt
  rcases lastAt_spec xs (xs.getD i 0) i with ⟨h1, h2⟩ | ⟨t, h1, h2, h3, _⟩
  · rw [h1]
    simp only
    rw [if_pos (by omega), hm]
    exact ⟨fun _ ⟨t, ht, e⟩ => h2 t ht e, fun _ => rfl⟩
  · rw [h1]
    simp only
    rw [if_neg (by omega), hm]
    exact ⟨fun h => by omega, fun h => absurd ⟨t, h2, h3⟩ h⟩
/-- First uses are as many as addresses. -/
theorem first_sum (xs : List Int) : sumTo (fun i => if gapAt xs i = 0 then 1 else 0) xs.length = (setP xs).length := by
  have : ∀ j, j ≤ xs.length → sumTo (fun i => if gapAt xs i = 0 then 1 else 0) j = (setP (xs.take j)).length := by
    intro j
    induction j with
    | zero => intro _; simp [sumTo, setP]
    | succ j ih =>
      intro hj
      simp only [sumTo]
      rw [ih (by omega), List.take_succ_eq_append_getElem (show j < xs.length by omega), setP_snoc, put_cons_length _ _ (setP_up _), ← getD_get xs j (by omega)]
      by_cases h : gapAt xs j = 0
      · rw [if_pos h, if_neg (fun h' => (gap_zero xs j (by omega)).1 h ((mem_setP _ _).1 h'))]
      · rw [if_neg h, if_pos]
        apply Classical.byContradiction
        intro h'
        exact h ((gap_zero xs j (by omega)).2 fun h2 => h' ((mem_setP _ _).2 h2))
  have := this xs.length (Nat.le_refl _)
  rwa [List.take_length] at this
/-- The gap of a next use is how far it is behind. -/
theorem next_gap (xs : List Int) (i : Nat) (hi : i < xs.length) (h : ¬ nextAt xs i < 0) :
    ∃ t : Nat, nextAt xs i = t ∧ i < t ∧ t < xs.length ∧ xs.getD t 0 = xs.getD i 0 ∧ gapAt xs t = (t : Int) - i := by
  unfold nextAt at h ⊢
  rcases nextFrom_spec xs (xs.getD i 0) (xs.length - (i + 1)) (i + 1) with ⟨h1, _⟩ | ⟨t, h1, h2, h3, h4, h5⟩
  · rw [h1] at h; exact absurd (by omega) h
  · refine ⟨t, h1, by omega, by omega, h4, ?_⟩
    unfold gapAt
    have hl : lastAt xs (xs.getD t 0) t = (i : Nat) := by
      rw [h4]
      rcases lastAt_spec xs (xs.getD i 0) t with ⟨_, g2⟩ | ⟨s, g1, g2, g3, g4⟩
      · exact absurd rfl (g2 i (by omega))
      · rw [g1]
        by_cases e : s = i
        · rw [e]
        · exfalso
          rcases Nat.lt_or_gt_of_ne e with hlt | hlt
          · exact g4 i hlt (by omega) rfl
          · exact h5 s (by omega) g2 g3
    rw [hl]
    simp only
    rw [if_neg (by omega)]
theorem counts_length (xs : List Int) : (countsP xs).length = (setP xs).length := by simp [countsP]
theorem only_one (xs : List Int) (a : Int) : (onlyP xs [a]).length = xs.count a := by
  unfold onlyP
  rw [List.count_eq_countP, List.countP_eq_length_filter]
  congr 1
  refine List.filter_congr fun x _ => ?_
  have e : [a].contains x = decide (x = a) := by rw [List.contains_eq_mem]; congr 1; simp
  rw [e]
  by_cases h : x = a
  · rw [decide_eq_true h]; simp [h]
  · rw [decide_eq_false h]; simp [h]
theorem flat_sum (rs : List (Int × Nat)) : (rs.map fun r => ((r.2 : Nat) : Int)).sum = ((rs.flatMap fun r => List.replicate r.2 r.1).length : Nat) := by
  induction rs with
  | nil => rfl
  | cons r rs ih => simp [ih]
theorem counts_sum (xs : List Int) : (countsP xs).sum = (xs.length : Nat) := by
  have hp : (xs.mergeSort fun a b => decide (a ≤ b)).Perm xs := List.mergeSort_perm _ _
  have hs : (xs.mergeSort fun a b => decide (a ≤ b)).Pairwise (· ≤ ·) := by
    have := List.pairwise_mergeSort (le := fun a b : Int => decide (a ≤ b)) (fun a b c h1 h2 => by simp at h1 h2 ⊢; omega) (fun a b => by simp; omega) xs
    exact this.imp fun {a b} h => by simpa using h
  rw [← counts_runs xs _ hp hs, flat_sum, (runs_of _).flat, hp.length_eq]
theorem counts_get (xs : List Int) (k : Nat) (hk : k < (setP xs).length) : (countsP xs).getD k 0 = (xs.count ((setP xs).getD k 0) : Nat) := by
  rw [getD_get _ _ (by rw [counts_length]; exact hk), getD_get _ _ hk]
  simp [countsP]
end Go.Proofs.Ytonplmnopfmnmaa.Tr
