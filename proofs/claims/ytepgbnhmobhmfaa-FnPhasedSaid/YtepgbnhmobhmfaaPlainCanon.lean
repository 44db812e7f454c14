/- Phases are as long as they can be; canonical uses have the same gaps and are their own canonical uses. No program. -/
import Derived.Test.YtepgbnhmobhmfaaPlainUsed
namespace Go.Proofs.Ytepgbnhmobhmfaa.Tr
def segP (xs : List Int) (s e : Nat) : List Int := setP ((xs.take e).drop s)
theorem seg_succ (xs : List Int) (s e : Nat) (hs : s ≤ e) (he : e < xs.length) : segP xs s (e + 1) = put (segP xs s e) (xs.getD e 0) := by
  unfold segP
  rw [List.take_succ_eq_append_getElem he, List.drop_append_of_le_length (by simp; omega), setP_snoc, getD_get xs e he]
theorem seg_one (xs : List Int) (e : Nat) (he : e < xs.length) : segP xs e (e + 1) = [xs.getD e 0] := by
  rw [seg_succ xs e e (Nat.le_refl _) he]
  have : segP xs e e = [] := by
    unfold segP
    have : (xs.take e).drop e = [] := List.drop_eq_nil_of_le (by simp; omega)
    rw [this]; rfl
  rw [this]; rfl
theorem put_len_le (s : List Int) (n : Int) (h : Up s) : (put s n).length ≤ s.length + 1 ∧ s.length ≤ (put s n).length := by
  rw [put_cons_length s n h]; split <;> omega
/-- all that is known of the phases after j uses -/
def Phases (xs : List Int) (k : Nat) (j : Nat) (ns : List Nat) (seen : List Int) : Prop :=
  (j = 0 → ns = [] ∧ seen = []) ∧ (1 ≤ j → 0 < ns.length ∧ ns.getD 0 0 = 0 ∧ (∀ i, i < ns.length → ns.getD i 0 < j) ∧
    (∀ i, i + 1 < ns.length → ns.getD i 0 < ns.getD (i + 1) 0 ∧ (segP xs (ns.getD i 0) (ns.getD (i + 1) 0)).length ≤ k ∧ (segP xs (ns.getD i 0) (ns.getD (i + 1) 0 + 1)).length = k + 1) ∧
    seen = segP xs (ns.getD (ns.length - 1) 0) j ∧ seen.length ≤ k)
theorem getD_snoc (ns : List Nat) (x i : Nat) (h : i < ns.length) : (ns ++ [x]).getD i 0 = ns.getD i 0 := by
  rw [List.getD_eq_getElem?_getD, List.getD_eq_getElem?_getD, List.getElem?_append_left h]
theorem getD_last (ns : List Nat) (x : Nat) : (ns ++ [x]).getD ns.length 0 = x := by
  rw [List.getD_eq_getElem?_getD, List.getElem?_append_right (Nat.le_refl _)]; simp
theorem phases_of (xs : List Int) (k : Nat) (hk : 1 ≤ k) : ∀ j, j ≤ xs.length → ∃ ns : List Nat, (phK xs k j).1 = ns.map (fun m : Nat => (m : Int)) ∧ Phases xs k j ns (phK xs k j).2
  | 0, _ => ⟨[], rfl, fun _ => ⟨rfl, rfl⟩, fun h => by omega⟩
  | j + 1, hj => by
    obtain ⟨ns, h1, h2, h3⟩ := phases_of xs k hk j (by omega)
    have hup := (phK_up xs k j).1
    have hdef : phK xs k (j + 1) = if j = 0 ∨ (k : Int) < ((put (phK xs k j).2 (xs.getD j 0)).length : Nat) then ((phK xs k j).1 ++ [(j : Int)], [xs.getD j 0]) else ((phK xs k j).1, put (phK xs k j).2 (xs.getD j 0)) := rfl
    rw [hdef]
    by_cases hc : j = 0 ∨ (k : Int) < ((put (phK xs k j).2 (xs.getD j 0)).length : Nat)
    · rw [if_pos hc]
      refine ⟨ns ++ [j], by rw [h1]; simp, fun h => by omega, fun _ => ?_⟩
      by_cases hj0 : j = 0
      · obtain ⟨rfl, hs⟩ := h2 hj0
        subst hj0
        refine ⟨by simp, rfl, fun i hi => by simp at hi; subst hi; simp, fun i hi => by simp at hi, ?_, by simpa using hk⟩
        exact (seg_one xs 0 (by omega)).symm
      · obtain ⟨g0, g1, g2, g3, g4, g5⟩ := h3 (by omega)
        have hc' : (k : Int) < ((put (phK xs k j).2 (xs.getD j 0)).length : Nat) := by rcases hc with h | h; exact absurd h hj0; exact h
        refine ⟨by simp, by rw [getD_snoc _ _ _ g0]; exact g1, fun i hi => ?_, fun i hi => ?_, ?_, by simpa using hk⟩
        · by_cases e : i < ns.length
          · rw [getD_snoc _ _ _ e]; have := g2 i e; omega
          · have e2 : i = ns.length := by simp at hi; omega
            rw [e2, getD_last]; omega
        · by_cases e : i + 1 < ns.length
          · rw [getD_snoc _ _ _ e, getD_snoc _ _ _ (by omega)]; exact g3 i e
          · have e2 : i + 1 = ns.length := by simp at hi; omega
            rw [e2, getD_last, getD_snoc _ _ _ (by omega)]
            have e3 : i = ns.length - 1 := by omega
            have hlt := g2 i (by omega)
            rw [seg_succ xs _ j (by omega) (by omega), e3, ← g4]
            have h6 := put_len_le (phK xs k j).2 (xs.getD j 0) hup
            exact ⟨by rw [← e3]; exact hlt, g5, by omega⟩
        · show [xs.getD j 0] = segP xs ((ns ++ [j]).getD ((ns ++ [j]).length - 1) 0) (j + 1)
          rw [List.length_append]
          show _ = segP xs ((ns ++ [j]).getD ns.length 0) (j + 1)
          rw [getD_last, seg_one xs j (by omega)]
    · rw [if_neg hc]
      have hj0 : j ≠ 0 := fun h => hc (.inl h)
      obtain ⟨g0, g1, g2, g3, g4, g5⟩ := h3 (by omega)
      refine ⟨ns, h1, fun h => by omega, fun _ => ⟨g0, g1, fun i hi => by have := g2 i hi; omega, g3, ?_, ?_⟩⟩
      · show put (phK xs k j).2 (xs.getD j 0) = _
        rw [seg_succ xs _ j (by have := g2 (ns.length - 1) (by omega); omega) (by omega), ← g4]
      · show (put (phK xs k j).2 (xs.getD j 0)).length ≤ k
        apply Classical.byContradiction
        intro h
        exact hc (.inr (by omega))
/-- Canonical uses. -/
theorem seen_idx (xs : List Int) (i : Nat) (hi : i < xs.length) : canonAt xs i = ((seenK xs xs.length).idxOf (xs.getD i 0) : Nat) := by
  unfold canonAt
  obtain ⟨t, ht⟩ := seenK_prefix xs (i + 1) xs.length (by omega)
  rw [ht]
  by_cases h : xs.getD i 0 ∈ seenK xs i
  · rw [seenK, if_pos h]
    congr 1
    rw [List.idxOf_append, if_pos h]
  · rw [seenK, if_neg h, List.append_assoc, List.singleton_append, idxOf_app _ _ _ h, List.idxOf_eq_length h]
theorem mem_seen_all (xs : List Int) (i : Nat) (hi : i < xs.length) : xs.getD i 0 ∈ seenK xs xs.length := by
  rw [mem_seenK xs xs.length (Nat.le_refl _), List.take_length, getD_get xs i hi]
  exact List.getElem_mem hi
theorem canon_inj (xs : List Int) (i j : Nat) (hi : i < xs.length) (hj : j < xs.length) : canonAt xs i = canonAt xs j ↔ xs.getD i 0 = xs.getD j 0 := by
  rw [seen_idx xs i hi, seen_idx xs j hj]
  constructor
  · intro h
    have h' : (seenK xs xs.length).idxOf (xs.getD i 0) = (seenK xs xs.length).idxOf (xs.getD j 0) := by omega
    have h1 := List.idxOf_lt_length_of_mem (mem_seen_all xs i hi)
    have h2 := List.idxOf_lt_length_of_mem (mem_seen_all xs j hj)
    have e1 : (seenK xs xs.length)[(seenK xs xs.length).idxOf (xs.getD i 0)] = xs.getD i 0 := List.getElem_idxOf h1
    have e2 : (seenK xs xs.length)[(seenK xs xs.length).idxOf (xs.getD j 0)] = xs.getD j 0 := List.getElem_idxOf h2
    rw [← e1, ← e2]
    congr 1
  · intro h; rw [h]
def canonP (xs : List Int) : List Int := told (canonAt xs) xs.length
theorem canonP_length (xs : List Int) : (canonP xs).length = xs.length := told_length _ _
theorem told_get (f : Nat → Int) (n i : Nat) (h : i < n) : (told f n).getD i 0 = f i := by
  rw [getD_get _ _ (by rw [told_length]; exact h)]; simp [told]
theorem canonP_get (xs : List Int) (i : Nat) (hi : i < xs.length) : (canonP xs).getD i 0 = canonAt xs i := told_get _ _ _ hi
theorem lastAt_canon (xs : List Int) (i : Nat) (hi : i < xs.length) : ∀ m, m ≤ xs.length → lastAt (canonP xs) (canonAt xs i) m = lastAt xs (xs.getD i 0) m
  | 0, _ => rfl
  | m + 1, h => by
    have e1 : lastAt (canonP xs) (canonAt xs i) (m + 1) = if (canonP xs).getD m 0 = canonAt xs i then (m : Int) else lastAt (canonP xs) (canonAt xs i) m := rfl
    have e2 : lastAt xs (xs.getD i 0) (m + 1) = if xs.getD m 0 = xs.getD i 0 then (m : Int) else lastAt xs (xs.getD i 0) m := rfl
    rw [e1, e2, canonP_get xs m (by omega), lastAt_canon xs i hi m (by omega)]
    by_cases h2 : xs.getD m 0 = xs.getD i 0
    · rw [if_pos h2, if_pos ((canon_inj xs m i (by omega) hi).2 h2)]
    · rw [if_neg h2, if_neg (fun h3 => h2 ((canon_inj xs m i (by omega) hi).1 h3))]
theorem gap_canon (xs : List Int) (i : Nat) (hi : i < xs.length) : gapAt (canonP xs) i = gapAt xs i := by
  unfold gapAt
  rw [canonP_get xs i hi, lastAt_canon xs i hi i (by omega)]
theorem gaps_canon (xs : List Int) : told (gapAt (canonP xs)) (canonP xs).length = told (gapAt xs) xs.length := by
  rw [canonP_length]
  unfold told
  exact List.map_congr_left fun i hi => gap_canon xs i (by simpa using hi)
def iotaP (n : Nat) : List Int := (List.range n).map fun m : Nat => (m : Int)
theorem mem_iota (n m : Nat) : (m : Int) ∈ iotaP n ↔ m < n := by
  unfold iotaP
  rw [List.mem_map]
  constructor
  · rintro ⟨a, ha, e⟩
    have := List.mem_range.1 ha
    omega
  · intro h; exact ⟨m, List.mem_range.2 h, rfl⟩
theorem iota_length (n : Nat) : (iotaP n).length = n := by simp [iotaP]
theorem iota_idx (n m : Nat) (h : m < n) : (iotaP n).idxOf (m : Int) = m := by
  have hs : iotaP n = iotaP m ++ (m : Int) :: (List.range' (m + 1) (n - m - 1)).map fun m : Nat => (m : Int) := by
    unfold iotaP
    have : List.range n = List.range m ++ m :: List.range' (m + 1) (n - m - 1) := by
      rw [List.range_eq_range', List.range_eq_range', show n = m + ((n - m - 1) + 1) by omega, ← List.range'_append_1, show m + (n - m - 1 + 1) - m - 1 = n - m - 1 by omega, List.range'_succ]
      simp
    rw [this]; simp
  rw [hs, idxOf_app _ _ _ (fun hm => by have := (mem_iota m m).1 hm; omega), iota_length]
theorem iota_idx_new (n : Nat) : (iotaP n).idxOf (n : Int) = n := by
  have h : (n : Int) ∉ iotaP n := fun hm => by have := (mem_iota n n).1 hm; omega
  rw [List.idxOf_eq_length h, iota_length]
theorem canon_le (xs : List Int) (i : Nat) : ∃ m : Nat, canonAt xs i = m ∧ m ≤ (seenK xs i).length ∧ (m < (seenK xs i).length ↔ xs.getD i 0 ∈ seenK xs i) :=
  ⟨_, rfl, List.idxOf_le_length, List.idxOf_lt_length_iff⟩
theorem seen_canon (xs : List Int) : ∀ j, j ≤ xs.length → seenK (canonP xs) j = iotaP (seenK xs j).length
  | 0, _ => rfl
  | j + 1, h => by
    have ih := seen_canon xs j (by omega)
    obtain ⟨m, e, h1, h2⟩ := canon_le xs j
    rw [seenK, seenK, ih, canonP_get xs j (by omega), e]
    by_cases hm : xs.getD j 0 ∈ seenK xs j
    · rw [if_pos hm, if_pos ((mem_iota _ _).2 (h2.2 hm))]
    · have e2 : m = (seenK xs j).length := by
        have h3 : ¬ m < (seenK xs j).length := fun h => hm (h2.1 h)
        omega
      rw [if_neg hm, if_neg (fun h => by have := (mem_iota _ _).1 h; omega), e2]
      unfold iotaP
      simp [List.range_succ]
theorem canon_again (xs : List Int) (i : Nat) (hi : i < xs.length) : canonAt (canonP xs) i = canonAt xs i := by
  have hu : canonAt (canonP xs) i = ((seenK (canonP xs) i).idxOf ((canonP xs).getD i 0) : Nat) := rfl
  rw [hu, seen_canon xs i (by omega), canonP_get xs i hi]
  obtain ⟨m, e, h1, h2⟩ := canon_le xs i
  rw [e]
  by_cases h : m < (seenK xs i).length
  · rw [iota_idx _ _ h]
  · rw [show m = (seenK xs i).length by omega, iota_idx_new]
theorem canonP_again (xs : List Int) : canonP (canonP xs) = canonP xs := by
  show told _ _ = told _ _
  rw [canonP_length]
  unfold told
  exact List.map_congr_left fun i hi => canon_again xs i (by simpa using hi)
end Go.Proofs.Ytepgbnhmobhmfaa.Tr
