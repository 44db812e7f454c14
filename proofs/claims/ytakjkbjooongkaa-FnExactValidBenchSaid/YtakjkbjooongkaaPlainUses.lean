/- The counts of a sorted list; the order of first uses; phases; the uses of a set. No program. -/
import Derived.Test.YtakjkbjooongkaaPlainRuns
namespace Go.Proofs.Ytakjkbjooongkaa.Tr
theorem runs_sorted : ∀ n, ∀ xs : List Int, xs.length = n → xs.Pairwise (· ≤ ·) →
    Up ((runsP xs).map (·.1)) ∧ (∀ r ∈ runsP xs, r.2 = xs.count r.1) ∧ ∀ y, y ∈ (runsP xs).map (·.1) ↔ y ∈ xs := by
  intro n
  induction n with
  | zero => intro xs h _; obtain rfl := List.eq_nil_of_length_eq_zero h; simp [runsP, Up]
  | succ n ih =>
    intro xs h hp
    rcases snoc_cases xs with rfl | ⟨ys, x, rfl⟩
    · simp at h
    · have hp' := List.pairwise_append.1 hp
      obtain ⟨h1, h2, h3⟩ := ih ys (by simpa using h) hp'.1
      have hle : ∀ y ∈ ys, y ≤ x := fun y hy => hp'.2.2 y hy x (by simp)
      have hl := (runs_of ys).last
      rw [runsP_snoc]
      rcases snoc_cases (runsP ys) with h4 | ⟨p, ⟨y, c⟩, h4⟩
      · rw [h4] at h3 ⊢
        have : ys = [] := by
          cases ys with
          | nil => rfl
          | cons a t => have := (h3 a).2 (by simp); simp at this
        subst this
        simp [rstep_nil, Up]
      · rw [h4] at h1 h2 h3 ⊢
        by_cases e : y = x
        · subst e
          rw [rstep_same]
          rw [List.map_append] at h1 h3 ⊢
          refine ⟨h1, fun r hr => ?_, fun z => ?_⟩
          · rcases List.mem_append.1 hr with hr | hr
            · have h5 := h2 r (by simp [hr])
              have : r.1 < y := (List.pairwise_append.1 h1).2.2 r.1 (List.mem_map_of_mem hr) y (by simp)
              rw [List.count_append, h5, List.count_cons, List.count_nil]
              have hne : (y == r.1) = false := by simp; omega
              rw [hne]; simp
            · simp at hr; subst hr
              have h5 := h2 (y, c) (by simp)
              rw [List.count_append]; simp at h5 ⊢; exact h5
          · rw [List.mem_append, List.mem_append, ← h3 z, List.mem_append]; simp
        · rw [rstep_new _ _ _ _ e]
          have hyx : y < x := by
            have := hle y ((h3 y).1 (by simp)); omega
          have hnx : ∀ z ∈ ys, z < x := by
            intro z hz
            have hz' := (h3 z).2 hz
            rw [List.map_append, List.mem_append] at hz'
            rcases hz' with hz' | hz'
            · rw [List.map_append] at h1
              have := (List.pairwise_append.1 h1).2.2 z hz' y (by simp); omega
            · simp at hz'; omega
          have e2 : p ++ [(y, c), (x, 1)] = (p ++ [(y, c)]) ++ [(x, 1)] := by simp
          rw [e2]
          refine ⟨?_, fun r hr => ?_, fun z => ?_⟩
          · rw [List.map_append]
            refine List.pairwise_append.2 ⟨h1, by simp, fun a ha b hb => ?_⟩
            simp at hb; subst hb
            exact hnx a ((h3 a).1 ha)
          · rcases List.mem_append.1 hr with hr | hr
            · rw [List.count_append, h2 r hr, List.count_cons, List.count_nil]
              have := hnx r.1 ((h3 r.1).1 (List.mem_map_of_mem hr))
              have hne : (x == r.1) = false := by simp; omega
              rw [hne]; simp
            · simp at hr; subst hr
              rw [List.count_append]
              have : ys.count x = 0 := List.count_eq_zero.2 fun hx => by have := hnx x hx; omega
              simp [this]
          · rw [List.map_append, List.mem_append, h3 z]; simp
def countsP (xs : List Int) : List Int := (setP xs).map fun a => (xs.count a : Int)
theorem counts_runs (xs ys : List Int) (hp : ys.Perm xs) (hs : ys.Pairwise (· ≤ ·)) : (runsP ys).map (fun r => (r.2 : Int)) = countsP xs := by
  obtain ⟨h1, h2, h3⟩ := runs_sorted _ ys rfl hs
  have e : (runsP ys).map (·.1) = setP xs := up_ext h1 (setP_up xs) fun y => by rw [h3, mem_setP, hp.mem_iff]
  unfold countsP
  rw [← e, List.map_map]
  refine List.map_congr_left fun r hr => ?_
  show ((r.2 : Nat) : Int) = ((xs.count r.1 : Nat) : Int)
  rw [h2 r hr, hp.count_eq]
/-- The different addresses in the order of their first uses, after j uses. -/
def seenK (xs : List Int) : Nat → List Int
  | 0 => []
  | j + 1 => if xs.getD j 0 ∈ seenK xs j then seenK xs j else seenK xs j ++ [xs.getD j 0]
def canonAt (xs : List Int) (i : Nat) : Int := ((seenK xs i).idxOf (xs.getD i 0) : Nat)
theorem getD_get (xs : List Int) (j : Nat) (h : j < xs.length) : xs.getD j 0 = xs[j] := by simp [List.getD_eq_getElem?_getD, List.getElem?_eq_getElem h]
theorem mem_seenK (xs : List Int) (j : Nat) (hj : j ≤ xs.length) (y : Int) : y ∈ seenK xs j ↔ y ∈ xs.take j := by
  induction j with
  | zero => simp [seenK]
  | succ j ih =>
    have ih := ih (by omega)
    rw [List.take_succ_eq_append_getElem (by omega), List.mem_append, ← ih, seenK, getD_get xs j (by omega)]
    split
    · rename_i h
      constructor
      · intro h; exact .inl h
      · rintro (h' | h')
        · exact h'
        · simp at h'; rw [h']; exact h
    · simp
theorem seenK_nodup (xs : List Int) (j : Nat) : (seenK xs j).Nodup := by
  induction j with
  | zero => exact List.nodup_nil
  | succ j ih =>
    rw [seenK]; split
    · exact ih
    · rename_i h
      rw [List.nodup_append]
      exact ⟨ih, by simp, fun a ha b hb => by simp at hb; subst hb; intro e; subst e; exact h ha⟩
theorem seenK_length (xs : List Int) (j : Nat) : (seenK xs j).length ≤ j := by
  induction j with
  | zero => simp [seenK]
  | succ j ih =>
    rw [seenK]; split
    · omega
    · rw [List.length_append]; simp; omega
theorem up_nodup {s : List Int} (h : Up s) : s.Nodup := by
  refine List.Pairwise.imp (fun {a b} hab => ?_) h
  omega
theorem seenK_set (xs : List Int) (j : Nat) (hj : j ≤ xs.length) : (seenK xs j).length = (setP (xs.take j)).length := by
  have hp : (seenK xs j).Perm (setP (xs.take j)) := by
    refine (List.perm_ext_iff_of_nodup (seenK_nodup xs j) (up_nodup (setP_up _))).2 fun a => ?_
    rw [mem_seenK xs j hj, mem_setP]
  exact hp.length_eq
theorem seenK_prefix (xs : List Int) (i j : Nat) (h : i ≤ j) : ∃ t, seenK xs j = seenK xs i ++ t := by
  induction j with
  | zero => obtain rfl : i = 0 := by omega
            exact ⟨[], by simp⟩
  | succ j ih =>
    by_cases e : i = j + 1
    · subst e; exact ⟨[], by simp⟩
    · obtain ⟨t, ht⟩ := ih (by omega)
      rw [seenK]
      split
      · exact ⟨t, ht⟩
      · exact ⟨t ++ [xs.getD j 0], by rw [ht, List.append_assoc]⟩
theorem idxOf_app (a b : List Int) (x : Int) (h : x ∉ a) : (a ++ x :: b).idxOf x = a.length := by
  induction a with
  | nil => simp
  | cons y a ih =>
    have hy : ¬ (y = x) := fun e => h (by simp [e])
    rw [List.cons_append, List.idxOf_cons, ih fun hm => h (by simp [hm])]
    have : (y == x) = false := by simpa using hy
    rw [this]; rfl
/-- The index of an address in the order of first uses is how many different ones were used before its first use. -/
theorem canon_rank (xs : List Int) (i f : Nat) (hi : i < xs.length) (hf : f ≤ i) (hfx : xs.getD f 0 = xs.getD i 0) (hmin : ∀ k, k < f → xs.getD k 0 ≠ xs.getD i 0) :
    canonAt xs i = ((setP (xs.take f)).length : Nat) := by
  unfold canonAt
  rw [← seenK_set xs f (by omega)]
  have hnot : xs.getD i 0 ∉ seenK xs f := by
    rw [mem_seenK xs f (by omega)]
    intro hm
    obtain ⟨k, hk, e⟩ := List.mem_iff_getElem.1 hm
    have hk' : k < f := by simp at hk; omega
    refine hmin k hk' ?_
    rw [getD_get xs k (by omega), ← e, List.getElem_take]
  by_cases e : f = i
  · subst e
    congr 1
    exact List.idxOf_eq_length hnot
  · obtain ⟨t, ht⟩ := seenK_prefix xs (f + 1) i (by omega)
    rw [seenK, hfx, if_neg hnot] at ht
    rw [ht, List.append_assoc]
    congr 1
    exact idxOf_app _ _ _ hnot
/-- The phases after j uses: where they begin, and what the last one has. -/
def phK (xs : List Int) (k : Int) : Nat → List Int × List Int
  | 0 => ([], [])
  | j + 1 =>
    let p := phK xs k j
    let a := xs.getD j 0
    if j = 0 ∨ k < ((put p.2 a).length : Nat) then (p.1 ++ [(j : Int)], [a]) else (p.1, put p.2 a)
theorem phK_up (xs : List Int) (k : Int) (j : Nat) : Up (phK xs k j).2 ∧ (phK xs k j).1.length ≤ j ∧ (phK xs k j).2.length ≤ j := by
  induction j with
  | zero => simp [phK, Up]
  | succ j ih =>
    simp only [phK]
    split
    · refine ⟨by simp [Up], by simp; omega, by simp⟩
    · have := put_length (phK xs k j).2 (xs.getD j 0)
      exact ⟨put_up _ ih.1, by show (phK xs k j).1.length ≤ j + 1; omega, by show (put (phK xs k j).2 (xs.getD j 0)).length ≤ j + 1; omega⟩
def onlyP (xs set : List Int) : List Int := xs.filter fun a => set.contains a
theorem only_snoc (xs set : List Int) (a : Int) : onlyP (xs ++ [a]) set = onlyP xs set ++ if set.contains a then [a] else [] := by
  unfold onlyP; rw [List.filter_append]; congr 1; rw [List.filter_cons]; cases set.contains a <;> rfl
/-- rises within addresses, the first j -/
def risesK (s : List Int) (j : Nat) : Bool := (List.range j).all fun i => isA (s.getD i 0) && (decide (i = 0) || decide (s.getD (i - 1) 0 < s.getD i 0))
theorem rises_succ (s : List Int) (j : Nat) : risesK s (j + 1) = (risesK s j && (isA (s.getD j 0) && (decide (j = 0) || decide (s.getD (j - 1) 0 < s.getD j 0)))) := by
  simp [risesK, List.range_succ]
end Go.Proofs.Ytakjkbjooongkaa.Tr
