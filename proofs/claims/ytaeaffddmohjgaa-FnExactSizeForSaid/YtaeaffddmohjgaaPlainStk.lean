/- Stacks that carry: a number becomes the first one, what stood first is carried; where numbers stood. No program. -/
import Derived.Test.YtaeaffddmohjgaaPlainUses
namespace Go.Proofs.Ytaeaffddmohjgaa.Tr
/-- c is carried from index k on, a is looked for -/
def carry (f : Int → Int → Bool) (a : Int) : Int → Nat → List Int → List Int × Int
  | c, _, [] => ([c], -1)
  | c, k, t :: r => if t = a then (c :: r, (k : Int)) else if k = 0 ∨ f c t = true then (c :: (carry f a t (k + 1) r).1, (carry f a t (k + 1) r).2) else (t :: (carry f a c (k + 1) r).1, (carry f a c (k + 1) r).2)
def push (f : Int → Int → Bool) (st : List Int) (a : Int) : List Int × Int := carry f a a 0 st
def stackK (f : Int → Int → Bool) (xs : List Int) : Nat → List Int
  | 0 => []
  | n + 1 => (push f (stackK f xs n) (xs.getD n 0)).1
def stoodAt (f : Int → Int → Bool) (xs : List Int) (n : Nat) : Int := (push f (stackK f xs n) (xs.getD n 0)).2
theorem carry_perm (f : Int → Int → Bool) (a : Int) (r : List Int) : ∀ c k, List.Perm (carry f a c k r).1 (c :: r.erase a) := by
  induction r with
  | nil => intro c k; simp [carry]
  | cons t r ih =>
    intro c k
    unfold carry
    split
    · rename_i h; subst h; simp
    · rename_i h
      have e : (t :: r).erase a = t :: r.erase a := by rw [List.erase_cons_tail]; simpa using h
      rw [e]
      split
      · exact (ih t (k + 1)).cons c
      · exact ((ih c (k + 1)).cons t).trans (List.Perm.swap _ _ _)
theorem carry_place (f : Int → Int → Bool) (a : Int) (r : List Int) : ∀ c k, (carry f a c k r).2 = if a ∈ r then ((k + r.idxOf a : Nat) : Int) else -1 := by
  induction r with
  | nil => intro c k; simp [carry]
  | cons t r ih =>
    intro c k
    unfold carry
    split
    · rename_i h; subst h; simp
    · rename_i h
      have h' : ¬ a = t := fun e => h e.symm
      have e : (t :: r).idxOf a = r.idxOf a + 1 := by
        rw [List.idxOf_cons]; have : (t == a) = false := by simpa using h
        rw [this]; rfl
      have em : (a ∈ t :: r) = (a ∈ r) := by simp [h']
      rw [e]
      simp only [em]
      split
      · rw [ih]; split
        · congr 1; omega
        · rfl
      · rw [ih]; split
        · congr 1; omega
        · rfl
theorem carry_true (a : Int) (r : List Int) : ∀ c k, (carry (fun _ _ => true) a c k r).1 = c :: r.erase a := by
  induction r with
  | nil => intro c k; simp [carry]
  | cons t r ih =>
    intro c k
    unfold carry
    split
    · rename_i h; subst h; simp
    · rename_i h
      have e : (t :: r).erase a = t :: r.erase a := by rw [List.erase_cons_tail]; simpa using h
      rw [e, if_pos (.inr rfl)]
      simp [ih]
theorem push_perm (f : Int → Int → Bool) (st : List Int) (a : Int) : List.Perm (push f st a).1 (a :: st.erase a) := carry_perm f a st a 0
theorem push_mem (f : Int → Int → Bool) (st : List Int) (a y : Int) : y ∈ (push f st a).1 ↔ y = a ∨ y ∈ st := by
  rw [(push_perm f st a).mem_iff, List.mem_cons]
  constructor
  · rintro (h | h)
    · exact .inl h
    · exact .inr (List.mem_of_mem_erase h)
  · rintro (h | h)
    · exact .inl h
    · by_cases e : y = a
      · exact .inl e
      · exact .inr ((List.mem_erase_of_ne e).2 h)
theorem push_nodup (f : Int → Int → Bool) (st : List Int) (a : Int) (h : st.Nodup) : (push f st a).1.Nodup := by
  rw [(push_perm f st a).nodup_iff, List.nodup_cons]
  exact ⟨fun hm => by rw [h.mem_erase_iff] at hm; exact hm.1 rfl, h.erase a⟩
theorem push_len (f : Int → Int → Bool) (st : List Int) (a : Int) : (push f st a).1.length ≤ st.length + 1 := by
  rw [(push_perm f st a).length_eq, List.length_cons, List.length_erase]; split <;> omega
theorem push_place (f : Int → Int → Bool) (st : List Int) (a : Int) : (push f st a).2 = if a ∈ st then ((st.idxOf a : Nat) : Int) else -1 := by
  unfold push; rw [carry_place]; simp
theorem push_rng (f : Int → Int → Bool) (st : List Int) (a : Int) : -1 ≤ (push f st a).2 ∧ (push f st a).2 < st.length := by
  rw [push_place]; split
  · rename_i h; have := List.idxOf_lt_length_of_mem h; omega
  · omega
theorem stackK_len (f : Int → Int → Bool) (xs : List Int) (n : Nat) : (stackK f xs n).length ≤ n := by
  induction n with
  | zero => simp [stackK]
  | succ n ih => have := push_len f (stackK f xs n) (xs.getD n 0); simp only [stackK]; omega
theorem stackK_nodup (f : Int → Int → Bool) (xs : List Int) (n : Nat) : (stackK f xs n).Nodup := by
  induction n with
  | zero => simp [stackK]
  | succ n ih => exact push_nodup f _ _ ih
theorem stackK_mem (f : Int → Int → Bool) (xs : List Int) (n : Nat) (hn : n ≤ xs.length) (y : Int) : y ∈ stackK f xs n ↔ y ∈ xs.take n := by
  induction n with
  | zero => simp [stackK]
  | succ n ih =>
    have hx := getD_get' xs n (by omega)
    rw [stackK, push_mem, ih (by omega), List.take_succ_eq_append_getElem (by omega), hx]
    simp only [List.mem_append, List.mem_singleton]
    constructor <;> (rintro (h | h) <;> simp [h])
theorem stood_rng (f : Int → Int → Bool) (xs : List Int) (n : Nat) : -1 ≤ stoodAt f xs n ∧ stoodAt f xs n < n := by
  have h1 := push_rng f (stackK f xs n) (xs.getD n 0)
  have h2 := stackK_len f xs n
  unfold stoodAt; omega
/-! ### the stack of the last uses -/
abbrev always : Int → Int → Bool := fun _ _ => true
theorem push_true (st : List Int) (a : Int) (h : st.Nodup) : (push always st a).1 = a :: st.filter (fun x => x != a) := by
  rw [← h.erase_eq_filter]; exact carry_true a st a 0
theorem idxOf_while (st : List Int) (a : Int) : st.idxOf a = (st.takeWhile (fun x => x != a)).length := by
  induction st with
  | nil => rfl
  | cons t st ih =>
    rw [List.idxOf_cons, List.takeWhile_cons]
    by_cases h : t = a
    · subst h; simp
    · have h1 : (t == a) = false := by simpa using h
      have h2 : (t != a) = true := by simpa using h
      rw [h1, h2]; simp [ih]
theorem while_filter (st : List Int) (a u : Int) (hu : a ≠ u) (y : Int) :
    y ∈ (st.filter (fun x => x != u)).takeWhile (fun x => x != a) ↔ y ≠ u ∧ y ∈ st.takeWhile (fun x => x != a) := by
  induction st with
  | nil => simp
  | cons t st ih =>
    rw [List.filter_cons]
    by_cases h : t = u
    · subst h
      have h2 : (t != a) = true := by simpa using fun e => hu e.symm
      have h3 : (t != t) = false := by simp
      rw [h3, List.takeWhile_cons, h2]
      simp only [Bool.false_eq_true, ↓reduceIte, List.mem_cons]
      rw [ih]
      constructor
      · rintro ⟨h1, h2⟩; exact ⟨h1, .inr h2⟩
      · rintro ⟨h1, h2⟩; exact ⟨h1, h2.resolve_left h1⟩
    · have h3 : (t != u) = true := by simpa using h
      rw [h3, if_pos rfl, List.takeWhile_cons, List.takeWhile_cons]
      by_cases h4 : t = a
      · subst h4; simp
      · have h5 : (t != a) = true := by simpa using h4
        rw [h5, if_pos rfl, if_pos rfl, List.mem_cons, List.mem_cons, ih]
        constructor
        · rintro (rfl | h6)
          · exact ⟨h, .inl rfl⟩
          · exact ⟨h6.1, .inr h6.2⟩
        · rintro ⟨h6, h7 | h7⟩
          · exact .inl h7
          · exact .inr ⟨h6, h7⟩
theorem lastAt_le (xs : List Int) (x : Int) (m : Nat) : -1 ≤ lastAt xs x m ∧ lastAt xs x m < m := by
  induction m with
  | zero => simp [lastAt]
  | succ m ih => unfold lastAt; split <;> omega
theorem last_none (xs : List Int) (a : Int) (n : Nat) (hn : n ≤ xs.length) (h : lastAt xs a n < 0) : a ∉ xs.take n := by
  induction n with
  | zero => simp
  | succ n ih =>
    unfold lastAt at h
    rw [List.take_succ_eq_append_getElem (by omega), List.mem_append]
    split at h
    · omega
    · rename_i hne
      rw [getD_get' xs n (by omega)] at hne
      rintro (h1 | h1)
      · exact ih (by omega) h h1
      · simp at h1; exact hne h1.symm
theorem while_last (xs : List Int) (n : Nat) (hn : n ≤ xs.length) : ∀ (a : Int) (m : Nat), lastAt xs a n = (m : Int) →
    a ∈ stackK always xs n ∧ ∀ y, y ∈ (stackK always xs n).takeWhile (fun x => x != a) ↔ y ∈ (xs.take n).drop (m + 1) := by
  induction n with
  | zero => intro a m h; simp only [lastAt] at h; omega
  | succ n ih =>
    intro a m h
    have hx := getD_get' xs n (by omega)
    have hst : stackK always xs (n + 1) = xs.getD n 0 :: (stackK always xs n).filter (fun x => x != xs.getD n 0) := push_true _ _ (stackK_nodup _ _ _)
    unfold lastAt at h
    rw [hst]
    split at h
    · rename_i e
      have em : m = n := by omega
      subst em
      rw [e]
      refine ⟨by simp, fun y => ?_⟩
      have h0 : (a != a) = false := by simp
      rw [List.takeWhile_cons, h0, List.drop_eq_nil_of_le (by simp; omega)]
      simp
    · rename_i e
      have hm : (m : Int) < n := h ▸ (lastAt_le xs a n).2
      obtain ⟨i1, i2⟩ := ih (by omega) a m h
      refine ⟨List.mem_cons_of_mem _ (List.mem_filter.2 ⟨i1, by simpa using fun e2 : a = _ => e e2.symm⟩), fun y => ?_⟩
      have h2 : (xs.getD n 0 != a) = true := by simpa using e
      rw [List.takeWhile_cons, h2, if_pos rfl, List.mem_cons, while_filter _ _ _ (fun e2 => e e2.symm), i2,
        List.take_succ_eq_append_getElem (by omega), List.drop_append_of_le_length (by simp; omega), List.mem_append, ← hx, List.mem_singleton]
      constructor
      · rintro (h3 | h3)
        · exact .inr h3
        · exact .inl h3.2
      · rintro (h3 | h3)
        · by_cases h4 : y = xs.getD n 0
          · exact .inl h4
          · exact .inr ⟨h4, h3⟩
        · exact .inl h3
/-- the other addresses since the last use -/
def sinceP (xs : List Int) (i m : Nat) : List Int := setP ((xs.take i).drop (m + 1))
theorem stood_first (xs : List Int) (i : Nat) (hi : i < xs.length) (h : lastAt xs (xs.getD i 0) i < 0) : stoodAt always xs i = -1 := by
  unfold stoodAt
  rw [push_place, if_neg]
  rw [stackK_mem _ _ _ (by omega)]
  exact last_none _ _ _ (by omega) h
theorem stood_again (xs : List Int) (i m : Nat) (hi : i < xs.length) (h : lastAt xs (xs.getD i 0) i = (m : Int)) : stoodAt always xs i = ((sinceP xs i m).length : Int) := by
  obtain ⟨h1, h2⟩ := while_last xs i (by omega) _ m h
  unfold stoodAt
  rw [push_place, if_pos h1, idxOf_while]
  congr 1
  refine List.Perm.length_eq ?_
  have hn : ((stackK always xs i).takeWhile (fun x => x != xs.getD i 0)).Nodup := (List.takeWhile_sublist _).nodup (stackK_nodup _ _ _)
  exact (List.perm_ext_iff_of_nodup hn (up_nodup (setP_up _))).2 fun y => by rw [h2 y, mem_setP]
/-! ### counts of places, and curves -/
/-- a place is counted -/
def bump (cs : List Int) (p : Int) : List Int :=
  if p < 0 then cs else (cs ++ List.replicate (p.toNat + 1 - cs.length) 0).set p.toNat ((cs ++ List.replicate (p.toNat + 1 - cs.length) 0).getD p.toNat 0 + 1)
def bumps (ds : List Int) : Nat → List Int
  | 0 => []
  | n + 1 => bump (bumps ds n) (ds.getD n 0)
theorem bump_len (cs : List Int) (p : Int) : (bump cs p).length = if p < 0 then cs.length else max cs.length (p.toNat + 1) := by
  unfold bump; split <;> simp; omega
theorem bump_get (cs : List Int) (p : Int) (i : Nat) : (bump cs p).getD i 0 = cs.getD i 0 + if p = (i : Int) then 1 else 0 := by
  unfold bump
  split
  · rw [if_neg (by omega), Int.add_zero]
  · rename_i hp
    have hext : ∀ j, (cs ++ List.replicate (p.toNat + 1 - cs.length) (0 : Int)).getD j 0 = cs.getD j 0 := by
      intro j
      simp only [List.getD_eq_getElem?_getD]
      by_cases hj : j < cs.length
      · rw [List.getElem?_append_left hj]
      · rw [List.getElem?_append_right (by omega), List.getElem?_eq_none (l := cs) (by omega), List.getElem?_replicate]
        split <;> rfl
    rw [hext]
    by_cases e : p.toNat = i
    · rw [if_pos (by omega), e, List.getD_eq_getElem?_getD, List.getElem?_set_self (by simp; omega)]; rfl
    · rw [if_neg (by omega), Int.add_zero, ← hext i, List.getD_eq_getElem?_getD, List.getElem?_set_ne e, ← List.getD_eq_getElem?_getD]
theorem bumps_len (ds : List Int) (K : Nat) (hd : ∀ j, j < ds.length → ds.getD j 0 < K) (n : Nat) (hn : n ≤ ds.length) : (bumps ds n).length ≤ K := by
  induction n with
  | zero => simp [bumps]
  | succ n ih =>
    have h1 := hd n (by omega)
    have h2 := ih (by omega)
    rw [bumps, bump_len]; split <;> omega
theorem bumps_get (ds : List Int) (n : Nat) (hn : n ≤ ds.length) (i : Nat) : (bumps ds n).getD i 0 = ((ds.take n).countP (fun d => d == (i : Int)) : Nat) := by
  induction n with
  | zero => simp [bumps]
  | succ n ih =>
    have hx := getD_get' ds n (by omega)
    rw [bumps, bump_get, ih (by omega), List.take_succ_eq_append_getElem (by omega), List.countP_append, hx]
    simp only [List.countP_cons, List.countP_nil, beq_iff_eq]
    split <;> simp
/-- the misses of a size -/
def missP (ds : List Int) (n : Nat) : Nat := ds.countP (fun d => decide (d < 0) || decide ((n : Int) ≤ d))
theorem miss_zero (ds : List Int) : missP ds 0 = ds.length := by
  unfold missP
  rw [List.countP_eq_length]
  intro d _
  by_cases h : d < 0
  · simp [h]
  · have : (0 : Int) ≤ d := by omega
    simp [this]
theorem miss_succ (ds : List Int) (n : Nat) : missP ds n = missP ds (n + 1) + ds.countP (fun d => d == (n : Int)) := by
  unfold missP
  induction ds with
  | nil => rfl
  | cons d ds ih =>
    simp only [List.countP_cons, ih]
    by_cases h1 : d < 0
    · have h2 : ¬ d = (n : Int) := by omega
      simp [h1, h2]; omega
    · by_cases h2 : d = (n : Int)
      · subst h2; simp [h1]; split <;> omega
      · by_cases h3 : (n : Int) + 1 ≤ d
        · have h4 : (n : Int) ≤ d := by omega
          simp [h1, h2, h3, h4]; omega
        · have h4 : ¬ (n : Int) ≤ d := by omega
          simp [h1, h2, h3, h4]
theorem miss_step (ds : List Int) (n : Nat) : ((missP ds (n + 1) : Nat) : Int) = (missP ds n : Nat) - (bumps ds ds.length).getD n 0 := by
  have h1 := miss_succ ds n
  rw [bumps_get _ _ (Nat.le_refl _), List.take_length]; omega
theorem miss_le (ds : List Int) (n : Nat) : missP ds n ≤ ds.length := List.countP_le_length
def missK (ds : List Int) (n j : Nat) : Nat := (ds.take j).countP (fun d => decide (d < 0) || decide ((n : Int) ≤ d))
theorem missK_succ (ds : List Int) (n j : Nat) (hj : j < ds.length) : missK ds n (j + 1) = missK ds n j + if ds.getD j 0 < 0 ∨ (n : Int) ≤ ds.getD j 0 then 1 else 0 := by
  unfold missK
  rw [List.take_succ_eq_append_getElem hj, List.countP_append, getD_get' ds j hj]
  congr 1
  simp [List.countP_cons]
theorem missK_end (ds : List Int) (n : Nat) : missK ds n ds.length = missP ds n := by simp [missK, missP]
theorem missK_le (ds : List Int) (n j : Nat) : missK ds n j ≤ j := by
  have h1 : missK ds n j ≤ (ds.take j).length := List.countP_le_length
  rw [List.length_take] at h1; omega
/-- the curve -/
def curveP (ds : List Int) (most : Nat) : List Int := told (fun n => ((missP ds n : Nat) : Int)) (most + 1)
theorem curve_len (ds : List Int) (most : Nat) : (curveP ds most).length = most + 1 := told_length _ _
end Go.Proofs.Ytaeaffddmohjgaa.Tr
