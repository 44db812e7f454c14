/- Intervals of uses, by their ends and by their starts: the same ones. No program. -/
import Derived.Test.YtlakekeolpepbaaPlainSets
namespace Go.Proofs.Ytlakekeolpepbaa.Tr
theorem lastAt_is (xs : List Int) (x : Int) (m i : Nat) : lastAt xs x m = (i : Int) ↔ i < m ∧ xs.getD i 0 = x ∧ ∀ k, i < k → k < m → xs.getD k 0 ≠ x := by
  induction m with
  | zero => simp only [lastAt]; constructor
            · intro h; omega
            · intro h; omega
  | succ m ih =>
    rw [lastAt]
    by_cases h : xs.getD m 0 = x
    · rw [if_pos h]
      constructor
      · intro e
        have : m = i := by omega
        subst this
        exact ⟨by omega, h, fun k h1 h2 => by omega⟩
      · rintro ⟨h1, h2, h3⟩
        rcases Nat.lt_or_eq_of_le (Nat.le_of_lt_succ h1) with h4 | h4
        · exact absurd h (h3 m h4 (by omega))
        · rw [h4]
    · rw [if_neg h, ih]
      constructor
      · rintro ⟨h1, h2, h3⟩
        refine ⟨by omega, h2, fun k h4 h5 => ?_⟩
        rcases Nat.lt_or_eq_of_le (Nat.le_of_lt_succ h5) with h6 | h6
        · exact h3 k h4 h6
        · rw [h6]; exact h
      · rintro ⟨h1, h2, h3⟩
        rcases Nat.lt_or_eq_of_le (Nat.le_of_lt_succ h1) with h4 | h4
        · exact ⟨h4, h2, fun k h5 h6 => h3 k h5 (by omega)⟩
        · rw [h4] at h2; exact absurd h2 h
theorem nextFrom_is (xs : List Int) (x : Int) (m : Nat) : ∀ k j : Nat, nextFrom xs x k m = (j : Int) ↔ k ≤ j ∧ j < k + m ∧ xs.getD j 0 = x ∧ ∀ l, k ≤ l → l < j → xs.getD l 0 ≠ x := by
  induction m with
  | zero => intro k j; simp only [nextFrom]; constructor
            · intro h; omega
            · intro h; omega
  | succ m ih =>
    intro k j
    rw [nextFrom]
    by_cases h : xs.getD k 0 = x
    · rw [if_pos h]
      constructor
      · intro e
        have : k = j := by omega
        subst this
        exact ⟨by omega, by omega, h, fun l h1 h2 => by omega⟩
      · rintro ⟨h1, h2, h3, h4⟩
        rcases Nat.lt_or_eq_of_le h1 with h5 | h5
        · exact absurd h (h4 k (Nat.le_refl _) h5)
        · rw [h5]
    · rw [if_neg h, ih]
      constructor
      · rintro ⟨h1, h2, h3, h4⟩
        refine ⟨by omega, by omega, h3, fun l h5 h6 => ?_⟩
        rcases Nat.lt_or_eq_of_le h5 with h7 | h7
        · exact h4 l (by omega) h6
        · rw [← h7]; exact h
      · rintro ⟨h1, h2, h3, h4⟩
        rcases Nat.lt_or_eq_of_le h1 with h5 | h5
        · exact ⟨by omega, by omega, h3, fun l h6 h7 => h4 l (by omega) h7⟩
        · rw [← h5] at h3; exact absurd h3 h
theorem nextAt_is (xs : List Int) (i j : Nat) (hi : i < xs.length) : nextAt xs i = (j : Int) ↔ i < j ∧ j < xs.length ∧ xs.getD j 0 = xs.getD i 0 ∧ ∀ l, i < l → l < j → xs.getD l 0 ≠ xs.getD i 0 := by
  unfold nextAt
  rw [nextFrom_is]
  constructor
  · rintro ⟨h1, h2, h3, h4⟩
    exact ⟨by omega, by omega, h3, fun l h5 h6 => h4 l (by omega) h6⟩
  · rintro ⟨h1, h2, h3, h4⟩
    exact ⟨by omega, by omega, h3, fun l h5 h6 => h4 l (by omega) h6⟩
/-- One is the next use of the other. -/
theorem next_last (xs : List Int) (i j : Nat) (hi : i < xs.length) : nextAt xs i = (j : Int) ↔ j < xs.length ∧ lastAt xs (xs.getD j 0) j = (i : Int) := by
  rw [nextAt_is xs i j hi, lastAt_is]
  constructor
  · rintro ⟨h1, h2, h3, h4⟩
    exact ⟨h2, h1, h3.symm, fun k h5 h6 => by rw [h3]; exact h4 k h5 h6⟩
  · rintro ⟨h1, h2, h3, h4⟩
    exact ⟨h2, h1, h3.symm, fun k h5 h6 => by rw [h3]; exact h4 k h5 h6⟩
/-- The intervals that start at the first k uses, and those that end there. -/
def ivS (xs : List Int) : Nat → List (Int × Int)
  | 0 => []
  | k + 1 => ivS xs k ++ if 0 ≤ nextAt xs k then [((k : Int), nextAt xs k)] else []
def ivE (xs : List Int) : Nat → List (Int × Int)
  | 0 => []
  | k + 1 => ivE xs k ++ if 0 ≤ lastAt xs (xs.getD k 0) k then [(lastAt xs (xs.getD k 0) k, (k : Int))] else []
def ivP (xs : List Int) : List (Int × Int) := ivS xs xs.length
theorem mem_ivS (xs : List Int) (p : Int × Int) (k : Nat) : p ∈ ivS xs k ↔ ∃ i : Nat, i < k ∧ p.1 = i ∧ p.2 = nextAt xs i ∧ 0 ≤ p.2 := by
  induction k with
  | zero => simp [ivS]
  | succ k ih =>
    rw [ivS, List.mem_append, ih]
    constructor
    · rintro (⟨i, h1, h2, h3, h4⟩ | h)
      · exact ⟨i, by omega, h2, h3, h4⟩
      · split at h
        · rename_i h0
          simp at h; subst h
          exact ⟨k, by omega, rfl, rfl, h0⟩
        · simp at h
    · rintro ⟨i, h1, h2, h3, h4⟩
      rcases Nat.lt_or_eq_of_le (Nat.le_of_lt_succ h1) with h5 | h5
      · exact .inl ⟨i, h5, h2, h3, h4⟩
      · subst h5
        refine .inr ?_
        rw [if_pos (by rw [← h3]; exact h4), List.mem_singleton]
        exact Prod.ext h2 h3
theorem mem_ivE (xs : List Int) (p : Int × Int) (k : Nat) : p ∈ ivE xs k ↔ ∃ j : Nat, j < k ∧ p.2 = j ∧ p.1 = lastAt xs (xs.getD j 0) j ∧ 0 ≤ p.1 := by
  induction k with
  | zero => simp [ivE]
  | succ k ih =>
    rw [ivE, List.mem_append, ih]
    constructor
    · rintro (⟨i, h1, h2, h3, h4⟩ | h)
      · exact ⟨i, by omega, h2, h3, h4⟩
      · split at h
        · rename_i h0
          simp at h; subst h
          exact ⟨k, by omega, rfl, rfl, h0⟩
        · simp at h
    · rintro ⟨i, h1, h2, h3, h4⟩
      rcases Nat.lt_or_eq_of_le (Nat.le_of_lt_succ h1) with h5 | h5
      · exact .inl ⟨i, h5, h2, h3, h4⟩
      · subst h5
        refine .inr ?_
        rw [if_pos (by rw [← h3]; exact h4), List.mem_singleton]
        exact Prod.ext h3 h2
theorem ivS_up (xs : List Int) (k : Nat) : (ivS xs k).Pairwise (fun a b => a.1 < b.1) := by
  induction k with
  | zero => simp [ivS]
  | succ k ih =>
    rw [ivS]
    refine List.pairwise_append.2 ⟨ih, by split <;> simp, fun a ha b hb => ?_⟩
    obtain ⟨i, h1, h2, _⟩ := (mem_ivS xs a k).1 ha
    split at hb
    · simp at hb; subst hb; show a.1 < (k : Int); omega
    · simp at hb
theorem ivE_up (xs : List Int) (k : Nat) : (ivE xs k).Pairwise (fun a b => a.2 < b.2) := by
  induction k with
  | zero => simp [ivE]
  | succ k ih =>
    rw [ivE]
    refine List.pairwise_append.2 ⟨ih, by split <;> simp, fun a ha b hb => ?_⟩
    obtain ⟨i, h1, h2, _⟩ := (mem_ivE xs a k).1 ha
    split at hb
    · simp at hb; subst hb; show a.2 < (k : Int); omega
    · simp at hb
theorem iv_perm (xs : List Int) : (ivE xs xs.length).Perm (ivP xs) := by
  refine (List.perm_ext_iff_of_nodup ((ivE_up xs _).imp fun h e => by rw [e] at h; omega) ((ivS_up xs _).imp fun h e => by rw [e] at h; omega)).2 fun p => ?_
  rw [mem_ivS, mem_ivE]
  constructor
  · rintro ⟨j, h1, h2, h3, h4⟩
    obtain ⟨i, hi⟩ := Int.eq_ofNat_of_zero_le h4
    have hl : lastAt xs (xs.getD j 0) j = (i : Int) := by rw [← h3]; exact hi
    have hij := (lastAt_is _ _ _ _).1 hl
    have := (next_last xs i j (by omega)).2 ⟨h1, hl⟩
    exact ⟨i, by omega, hi, by rw [this]; exact h2, by omega⟩
  · rintro ⟨i, h1, h2, h3, h4⟩
    obtain ⟨j, hj⟩ := Int.eq_ofNat_of_zero_le h4
    have hl : nextAt xs i = (j : Int) := by rw [← h3]; exact hj
    have := (next_last xs i j h1).1 hl
    exact ⟨j, this.1, hj, by rw [this.2]; exact h2, by omega⟩
theorem iv_sorted (xs : List Int) (l : List (Int × Int)) (hp : l.Perm (ivE xs xs.length)) (hs : l.Pairwise (fun a b => a.1 ≤ b.1)) : l = ivP xs := by
  have hq := hp.trans (iv_perm xs)
  have hinj : ∀ a, a ∈ ivP xs → ∀ b, b ∈ ivP xs → a.1 = b.1 → a = b := fun a ha b hb e => by
    obtain ⟨i, _, h2, h3, _⟩ := (mem_ivS xs a _).1 ha
    obtain ⟨j, _, g2, g3, _⟩ := (mem_ivS xs b _).1 hb
    have : i = j := by omega
    subst this
    exact Prod.ext e (h3.trans g3.symm)
  refine List.Perm.eq_of_pairwise (le := fun a b => a.1 ≤ b.1) (fun a b ha hb h1 h2 => hinj a (hq.mem_iff.1 ha) b hb (by omega)) hs ((ivS_up xs _).imp fun h => by omega) hq
theorem ivE_len (xs : List Int) (k : Nat) : (ivE xs k).length ≤ k := by
  induction k with
  | zero => simp [ivE]
  | succ k ih =>
    rw [ivE, List.length_append]
    have : (if 0 ≤ lastAt xs (xs.getD k 0) k then [(lastAt xs (xs.getD k 0) k, (k : Int))] else []).length ≤ 1 := by split <;> simp
    omega
theorem ivS_len (xs : List Int) (k : Nat) : (ivS xs k).length ≤ k := by
  induction k with
  | zero => simp [ivS]
  | succ k ih =>
    rw [ivS, List.length_append]
    have : (if 0 ≤ nextAt xs k then [((k : Int), nextAt xs k)] else []).length ≤ 1 := by split <;> simp
    omega
theorem ivP_rng (xs : List Int) (p : Int × Int) (h : p ∈ ivP xs) : 0 ≤ p.1 ∧ p.1 < p.2 ∧ p.2 < xs.length := by
  obtain ⟨i, h1, h2, h3, h4⟩ := (mem_ivS xs p _).1 h
  obtain ⟨j, hj⟩ := Int.eq_ofNat_of_zero_le h4
  have := (nextAt_is xs i j h1).1 (by rw [← h3]; exact hj)
  omega
end Go.Proofs.Ytlakekeolpepbaa.Tr
