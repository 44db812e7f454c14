/- Stacks that carry: a number becomes the first one, what stood first is carried; where numbers stood. No program. What the known policies keep: the last uses, and the last misses. No program. Both TreePolicy. Numbers of ways; the variable of a result that is a policy. The program's policyOf with one more function value. The program's policyOf with one more function value. Two known policies that the program returns. What the known policies keep, in the machine's terms: the last uses, the last misses. The least recently used policy of some ways is included in that of as many or more. The model's source of choices: what the next choice and a pick are, and that only the source's own block changes. Contracts of laws.r8Long, laws.r8At and of the model's drawn uses. -/
import Derived.Test.YtbjgfbhfmaddgaaPlainUses
import Derived.Test.YtbjgfbhfmaddgaaCpof
import Derived.Test.YtbjgfbhfmaddgaaCappg
import Derived.Test.YtbjgfbhfmaddgaaCrunP
import Derived.Test.YtbjgfbhfmaddgaaInB
import Derived.Test.YtbjgfbhfmaddgaaCrd
import Derived.Laws.ShiftsVarLaws
import Derived.Laws.BitsAllLaws
import Derived.IntWalk
import Derived.Test.YtbjgfbhfmaddgaaCRow
import Derived.Test.YtbjgfbhfmaddgaaCuses
namespace Go.Proofs.Ytbjgfbhfmaddgaa.Tr
/-- c is carried from index k on, a is looked for -/
def carry (f : Int → Int → Bool) (a : Int) : Int → Nat → List Int → List Int × Int
  | c, _, [] => ([c], -1)
  | c, k, t :: r => if t = a then (c :: r, (k : Int)) else if k = 0 ∨ f c t = true then (c :: (carry f a t (k + 1) r).1, (carry f a t (k + 1) r).2) else (t :: (carry f a c (k + 1) r).1, (carry f a c (k + 1) r).2)
def push (f : Int → Int → Bool) (st : List Int) (a : Int) : List Int × Int := carry f a a 0 st
def stackK (f : Int → Int → Bool) (xs : List Int) : Nat → List Int
  | 0 => []
  | n + 1 => (push f (stackK f xs n) (xs.getD n 0)).1
def stoodAt (f : Int → Int → Bool) (xs : List Int) (n : Nat) : Int := (push f (stackK f xs n) (xs.getD n 0)).2
theorem carry_perm (f : Int → Int → Bool) (a : Int) (r : List Int) : ∀ c k, List.Perm (carry f a c k r).1 (c :: r.erase a) := by
  induction r with
  | nil => intro c k; simp [carry]
  | cons t r ih =>
    intro c k
    unfold carry
    split
    · rename_i h; subst h; simp
    · rename_i h
      have e : (t :: r).erase a = t :: r.erase a := by rw [List.erase_cons_tail]; simpa using h
      rw [e]
      split
      · exact (ih t (k + 1)).cons c
      · exact ((ih c (k + 1)).cons t).trans (List.Perm.swap _ _ _)
theorem carry_place (f : Int → Int → Bool) (a : Int) (r : List Int) : ∀ c k, (carry f a c k r).2 = if a ∈ r then ((k + r.idxOf a : Nat) : Int) else -1 := by
  induction r with
  | nil => intro c k; simp [carry]
  | cons t r ih =>
    intro c k
    unfold carry
    split
    · rename_i h; subst h; simp
    · rename_i h
      have h' : ¬ a = t := fun e => h e.symm
      have e : (t :: r).idxOf a = r.idxOf a + 1 := by
        rw [List.idxOf_cons]; have : (t == a) = false := by simpa using h
        rw [this]; rfl
      have em : (a ∈ t :: r) = (a ∈ r) := by simp [h']
      rw [e]
      simp only [em]
      split
      · rw [ih]; split
        · congr 1; omega
        · rfl
      · rw [ih]; split
        · congr 1; omega
        · rfl
theorem carry_true (a : Int) (r : List Int) : ∀ c k, (carry (fun _ _ => true) a c k r).1 = c :: r.erase a := by
  induction r with
  | nil => intro c k; simp [carry]
  | cons t r ih =>
    intro c k
    unfold carry
    split
    · rename_i h; subst h; simp
    · rename_i h
      have e : (t :: r).erase a = t :: r.erase a := by rw [List.erase_cons_tail]; simpa using h
      rw [e, if_pos (.inr rfl)]
      simp [ih]
theorem push_perm (f : Int → Int → Bool) (st : List Int) (a : Int) : List.Perm (push f st a).1 (a :: st.erase a) := carry_perm f a st a 0
theorem push_mem (f : Int → Int → Bool) (st : List Int) (a y : Int) : y ∈ (push f st a).1 ↔ y = a ∨ y ∈ st := by
  rw [(push_perm f st a).mem_iff, List.mem_cons]
  constructor
  · rintro (h | h)
    · exact .inl h
    · exact .inr (List.mem_of_mem_erase h)
  · rintro (h | h)
    · exact .inl h
    · by_cases e : y = a
      · exact .inl e
      · exact .inr ((List.mem_erase_of_ne e).2 h)
theorem push_nodup (f : Int → Int → Bool) (st : List Int) (a : Int) (h : st.Nodup) : (push f st a).1.Nodup := by
  rw [(push_perm f st a).nodup_iff, List.nodup_cons]
  exact ⟨fun hm => by rw [h.mem_erase_iff] at hm; exact hm.1 rfl, h.erase a⟩
theorem push_len (f : Int → Int → Bool) (st : List Int) (a : Int) : (push f st a).1.length ≤ st.length + 1 := by
  rw [(push_perm f st a).length_eq, List.length_cons, List.length_erase]; split <;> omega
theorem push_place (f : Int → Int → Bool) (st : List Int) (a : Int) : (push f st a).2 = if a ∈ st then ((st.idxOf a : Nat) : Int) else -1 := by
  unfold push; rw [carry_place]; simp
theorem push_rng (f : Int → Int → Bool) (st : List Int) (a : Int) : -1 ≤ (push f st a).2 ∧ (push f st a).2 < st.length := by
  rw [push_place]; split
  · rename_i h; have := List.idxOf_lt_length_of_mem h; omega
  · omega
theorem stackK_len (f : Int → Int → Bool) (xs : List Int) (n : Nat) : (stackK f xs n).length ≤ n := by
  induction n with
  | zero => simp [stackK]
  | succ n ih => have := push_len f (stackK f xs n) (xs.getD n 0); simp only [stackK]; omega
theorem stackK_nodup (f : Int → Int → Bool) (xs : List Int) (n : Nat) : (stackK f xs n).Nodup := by
  induction n with
  | zero => simp [stackK]
  | succ n ih => exact push_nodup f _ _ ih
theorem stackK_mem (f : Int → Int → Bool) (xs : List Int) (n : Nat) (hn : n ≤ xs.length) (y : Int) : y ∈ stackK f xs n ↔ y ∈ xs.take n := by
  induction n with
  | zero => simp [stackK]
  | succ n ih =>
    have hx := getD_get' xs n (by omega)
    rw [stackK, push_mem, ih (by omega), List.take_succ_eq_append_getElem (by omega), hx]
    simp only [List.mem_append, List.mem_singleton]
    constructor <;> (rintro (h | h) <;> simp [h])
theorem stood_rng (f : Int → Int → Bool) (xs : List Int) (n : Nat) : -1 ≤ stoodAt f xs n ∧ stoodAt f xs n < n := by
  have h1 := push_rng f (stackK f xs n) (xs.getD n 0)
  have h2 := stackK_len f xs n
  unfold stoodAt; omega
/-! ### the stack of the last uses -/
abbrev always : Int → Int → Bool := fun _ _ => true
theorem push_true (st : List Int) (a : Int) (h : st.Nodup) : (push always st a).1 = a :: st.filter (fun x => x != a) := by
  rw [← h.erase_eq_filter]; exact carry_true a st a 0
theorem idxOf_while (st : List Int) (a : Int) : st.idxOf a = (st.takeWhile (fun x => x != a)).length := by
  induction st with
  | nil => rfl
  | cons t st ih =>
    rw [List.idxOf_cons, List.takeWhile_cons]
    by_cases h : t = a
    · subst h; simp
    · have h1 : (t == a) = false := by simpa using h
      have h2 : (t != a) = true := by simpa using h
      rw [h1, h2]; simp [ih]
theorem while_filter (st : List Int) (a u : Int) (hu : a ≠ u) (y : Int) :
    y ∈ (st.filter (fun x => x != u)).takeWhile (fun x => x != a) ↔ y ≠ u ∧ y ∈ st.takeWhile (fun x => x != a) := by
  induction st with
  | nil => simp
  | cons t st ih =>
    rw [List.filter_cons]
    by_cases h : t = u
    · subst h
      have h2 : (t != a) = true := by simpa using fun e => hu e.symm
      have h3 : (t != t) = false := by simp
      rw [h3, List.takeWhile_cons, h2]
      simp only [Bool.false_eq_true, ↓reduceIte, List.mem_cons]
      rw [ih]
      constructor
      · rintro ⟨h1, h2⟩; exact ⟨h1, .inr h2⟩
      · rintro ⟨h1, h2⟩; exact ⟨h1, h2.resolve_left h1⟩
    · have h3 : (t != u) = true := by simpa using h
      rw [h3, if_pos rfl, List.takeWhile_cons, List.takeWhile_cons]
      by_cases h4 : t = a
      · subst h4; simp
      · have h5 : (t != a) = true := by simpa using h4
        rw [h5, if_pos rfl, if_pos rfl, List.mem_cons, List.mem_cons, ih]
        constructor
        · rintro (rfl | h6)
          · exact ⟨h, .inl rfl⟩
          · exact ⟨h6.1, .inr h6.2⟩
        · rintro ⟨h6, h7 | h7⟩
          · exact .inl h7
          · exact .inr ⟨h6, h7⟩
theorem lastAt_le (xs : List Int) (x : Int) (m : Nat) : -1 ≤ lastAt xs x m ∧ lastAt xs x m < m := by
  induction m with
  | zero => simp [lastAt]
  | succ m ih => unfold lastAt; split <;> omega
theorem last_none (xs : List Int) (a : Int) (n : Nat) (hn : n ≤ xs.length) (h : lastAt xs a n < 0) : a ∉ xs.take n := by
  induction n with
  | zero => simp
  | succ n ih =>
    unfold lastAt at h
    rw [List.take_succ_eq_append_getElem (by omega), List.mem_append]
    split at h
    · omega
    · rename_i hne
      rw [getD_get' xs n (by omega)] at hne
      rintro (h1 | h1)
      · exact ih (by omega) h h1
      · simp at h1; exact hne h1.symm
theorem while_last (xs : List Int) (n : Nat) (hn : n ≤ xs.length) : ∀ (a : Int) (m : Nat), lastAt xs a n = (m : Int) →
    a ∈ stackK always xs n ∧ ∀ y, y ∈ (stackK always xs n).takeWhile (fun x => x != a) ↔ y ∈ (xs.take n).drop (m + 1) := by
  induction n with
  | zero => intro a m h; simp only [lastAt] at h; omega
  | succ n ih =>
    intro a m h
    have hx := getD_get' xs n (by omega)
    have hst : stackK always xs (n + 1) = xs.getD n 0 :: (stackK always xs n).filter (fun x => x != xs.getD n 0) := push_true _ _ (stackK_nodup _ _ _)
    unfold lastAt at h
    rw [hst]
    split at h
    · rename_i e
      have em : m = n := by omega
      subst em
      rw [e]
      refine ⟨by simp, fun y => ?_⟩
      have h0 : (a != a) = false := by simp
      rw [List.takeWhile_cons, h0, List.drop_eq_nil_of_le (by simp; omega)]
      simp
    · rename_i e
      have hm : (m : Int) < n := h ▸ (lastAt_le xs a n).2
      obtain ⟨i1, i2⟩ := ih (by omega) a m h
      refine ⟨List.mem_cons_of_mem _ (List.mem_filter.2 ⟨i1, by simpa using fun e2 : a = _ => e e2.symm⟩), fun y => ?_⟩
      have h2 : (xs.getD n 0 != a) = true := by simpa using e
      rw [List.takeWhile_cons, h2, if_pos rfl, List.mem_cons, while_filter _ _ _ (fun e2 => e e2.symm), i2,
        List.take_succ_eq_append_getElem (by omega), List.drop_append_of_le_length (by simp; omega), List.mem_append, ← hx, List.mem_singleton]
      constructor
      · rintro (h3 | h3)
        · exact .inr h3
        · exact .inl h3.2
      · rintro (h3 | h3)
        · by_cases h4 : y = xs.getD n 0
          · exact .inl h4
          · exact .inr ⟨h4, h3⟩
        · exact .inl h3
/-- the other addresses since the last use -/
def sinceP (xs : List Int) (i m : Nat) : List Int := setP ((xs.take i).drop (m + 1))
theorem stood_first (xs : List Int) (i : Nat) (hi : i < xs.length) (h : lastAt xs (xs.getD i 0) i < 0) : stoodAt always xs i = -1 := by
  unfold stoodAt
  rw [push_place, if_neg]
  rw [stackK_mem _ _ _ (by omega)]
  exact last_none _ _ _ (by omega) h
theorem stood_again (xs : List Int) (i m : Nat) (hi : i < xs.length) (h : lastAt xs (xs.getD i 0) i = (m : Int)) : stoodAt always xs i = ((sinceP xs i m).length : Int) := by
  obtain ⟨h1, h2⟩ := while_last xs i (by omega) _ m h
  unfold stoodAt
  rw [push_place, if_pos h1, idxOf_while]
  congr 1
  refine List.Perm.length_eq ?_
  have hn : ((stackK always xs i).takeWhile (fun x => x != xs.getD i 0)).Nodup := (List.takeWhile_sublist _).nodup (stackK_nodup _ _ _)
  exact (List.perm_ext_iff_of_nodup hn (up_nodup (setP_up _))).2 fun y => by rw [h2 y, mem_setP]
/-! ### counts of places, and curves -/
/-- a place is counted -/
def bump (cs : List Int) (p : Int) : List Int :=
  if p < 0 then cs else (cs ++ List.replicate (p.toNat + 1 - cs.length) 0).set p.toNat ((cs ++ List.replicate (p.toNat + 1 - cs.length) 0).getD p.toNat 0 + 1)
def bumps (ds : List Int) : Nat → List Int
  | 0 => []
  | n + 1 => bump (bumps ds n) (ds.getD n 0)
theorem bump_len (cs : List Int) (p : Int) : (bump cs p).length = if p < 0 then cs.length else max cs.length (p.toNat + 1) := by
  unfold bump; split <;> simp; omega
theorem bump_get (cs : List Int) (p : Int) (i : Nat) : (bump cs p).getD i 0 = cs.getD i 0 + if p = (i : Int) then 1 else 0 := by
  unfold bump
  split
  · rw [if_neg (by omega), Int.add_zero]
  · rename_i hp
    have hext : ∀ j, (cs ++ List.replicate (p.toNat + 1 - cs.length) (0 : Int)).getD j 0 = cs.getD j 0 := by
      intro j
      simp only [List.getD_eq_getElem?_getD]
      by_cases hj : j < cs.length
      · rw [List.getElem?_append_left hj]
      · rw [List.getElem?_append_right (by omega), List.getElem?_eq_none (l := cs) (by omega), List.getElem?_replicate]
        split <;> rfl
    rw [hext]
    by_cases e : p.toNat = i
    · rw [if_pos (by omega), e, List.getD_eq_getElem?_getD, List.getElem?_set_self (by simp; omega)]; rfl
    · rw [if_neg (by omega), Int.add_zero, ← hext i, List.getD_eq_getElem?_getD, List.getElem?_set_ne e, ← List.getD_eq_getElem?_getD]
theorem bumps_len (ds : List Int) (K : Nat) (hd : ∀ j, j < ds.length → ds.getD j 0 < K) (n : Nat) (hn : n ≤ ds.length) : (bumps ds n).length ≤ K := by
  induction n with
  | zero => simp [bumps]
  | succ n ih =>
    have h1 := hd n (by omega)
    have h2 := ih (by omega)
    rw [bumps, bump_len]; split <;> omega
theorem bumps_get (ds : List Int) (n : Nat) (hn : n ≤ ds.length) (i : Nat) : (bumps ds n).getD i 0 = ((ds.take n).countP (fun d => d == (i : Int)) : Nat) := by
  induction n with
  | zero => simp [bumps]
  | succ n ih =>
    have hx := getD_get' ds n (by omega)
    rw [bumps, bump_get, ih (by omega), List.take_succ_eq_append_getElem (by omega), List.countP_append, hx]
    simp only [List.countP_cons, List.countP_nil, beq_iff_eq]
    split <;> simp
/-- the misses of a size -/
def missP (ds : List Int) (n : Nat) : Nat := ds.countP (fun d => decide (d < 0) || decide ((n : Int) ≤ d))
theorem miss_zero (ds : List Int) : missP ds 0 = ds.length := by
  unfold missP
  rw [List.countP_eq_length]
  intro d _
  by_cases h : d < 0
  · simp [h]
  · have : (0 : Int) ≤ d := by omega
    simp [this]
theorem miss_succ (ds : List Int) (n : Nat) : missP ds n = missP ds (n + 1) + ds.countP (fun d => d == (n : Int)) := by
  unfold missP
  induction ds with
  | nil => rfl
  | cons d ds ih =>
    simp only [List.countP_cons, ih]
    by_cases h1 : d < 0
    · have h2 : ¬ d = (n : Int) := by omega
      simp [h1, h2]; omega
    · by_cases h2 : d = (n : Int)
      · subst h2; simp [h1]; split <;> omega
      · by_cases h3 : (n : Int) + 1 ≤ d
        · have h4 : (n : Int) ≤ d := by omega
          simp [h1, h2, h3, h4]; omega
        · have h4 : ¬ (n : Int) ≤ d := by omega
          simp [h1, h2, h3, h4]
theorem miss_step (ds : List Int) (n : Nat) : ((missP ds (n + 1) : Nat) : Int) = (missP ds n : Nat) - (bumps ds ds.length).getD n 0 := by
  have h1 := miss_succ ds n
  rw [bumps_get _ _ (Nat.le_refl _), List.take_length]; omega
theorem miss_le (ds : List Int) (n : Nat) : missP ds n ≤ ds.length := List.countP_le_length
def missK (ds : List Int) (n j : Nat) : Nat := (ds.take j).countP (fun d => decide (d < 0) || decide ((n : Int) ≤ d))
theorem missK_succ (ds : List Int) (n j : Nat) (hj : j < ds.length) : missK ds n (j + 1) = missK ds n j + if ds.getD j 0 < 0 ∨ (n : Int) ≤ ds.getD j 0 then 1 else 0 := by
  unfold missK
  rw [List.take_succ_eq_append_getElem hj, List.countP_append, getD_get' ds j hj]
  congr 1
  simp [List.countP_cons]
theorem missK_end (ds : List Int) (n : Nat) : missK ds n ds.length = missP ds n := by simp [missK, missP]
theorem missK_le (ds : List Int) (n j : Nat) : missK ds n j ≤ j := by
  have h1 : missK ds n j ≤ (ds.take j).length := List.countP_le_length
  rw [List.length_take] at h1; omega
/-- the curve -/
def curveP (ds : List Int) (most : Nat) : List Int := told (fun n => ((missP ds n : Nat) : Int)) (most + 1)
theorem curve_len (ds : List Int) (most : Nat) : (curveP ds most).length = most + 1 := told_length _ _
end Go.Proofs.Ytbjgfbhfmaddgaa.Tr
namespace Go.Proofs.Ytbjgfbhfmaddgaa.Pv
open Tr (stackK always)
/-- Contents after a use, where what was not used for longest is replaced. -/
def lruS (c : List Int) (x : Int) : List Int := if x ∈ c then x :: c.erase x else x :: c.dropLast
def lruK (n : Nat) (xs : List Int) : Nat → List Int
  | 0 => List.replicate n (-1)
  | j + 1 => lruS (lruK n xs j) (xs.getD j 0)
theorem erase_take (P : List Int) (x : Int) : ∀ n, x ∈ P.take n → (P.take n).erase x = (P.erase x).take (n - 1) := by
  induction P with
  | nil => intro n h; simp at h
  | cons p P ih =>
    intro n h
    cases n with
    | zero => simp at h
    | succ n =>
      rw [List.take_succ_cons] at h ⊢
      by_cases e : p = x
      · subst e; simp
      · have e1 : (p == x) = false := by simpa using e
        rw [List.erase_cons_tail (by simpa using e), List.erase_cons_tail (by simpa using e)]
        have hm : x ∈ P.take n := by
          rcases List.mem_cons.1 h with h | h
          · exact absurd h.symm e
          · exact h
        rw [ih n hm]
        cases n with
        | zero => simp at hm
        | succ n => simp
theorem take_erase (P : List Int) (x : Int) : ∀ m, x ∉ P.take m → (P.erase x).take m = P.take m := by
  induction P with
  | nil => intro m _; simp
  | cons p P ih =>
    intro m h
    cases m with
    | zero => simp
    | succ m =>
      rw [List.take_succ_cons] at h ⊢
      have e : ¬ p = x := fun e => h (by rw [e]; exact List.mem_cons_self)
      rw [List.erase_cons_tail (by simpa using e), List.take_succ_cons, ih m (fun hm => h (List.mem_cons_of_mem _ hm))]
theorem lru_stack (n : Nat) (xs : List Int) (h1 : 1 ≤ n) (hx : ∀ y ∈ xs, 0 ≤ y) (j : Nat) (hj : j ≤ xs.length) : lruK n xs j = (stackK always xs j ++ List.replicate n (-1)).take n := by
  induction j with
  | zero => simp [lruK, stackK]
  | succ j ih =>
    have hxj : 0 ≤ xs.getD j 0 := by rw [Tr.getD_get' xs j (by omega)]; exact hx _ (List.getElem_mem _)
    have hst : stackK always xs (j + 1) = xs.getD j 0 :: (stackK always xs j).erase (xs.getD j 0) := by
      show (Tr.push always _ _).1 = _
      rw [Tr.push_true _ _ (Tr.stackK_nodup _ _ _), (Tr.stackK_nodup _ _ _).erase_eq_filter]
    rw [lruK, ih (by omega), hst]
    generalize xs.getD j 0 = x at *
    generalize stackK always xs j = S at *
    have hP : (S ++ List.replicate n (-1)).erase x = S.erase x ++ List.replicate n (-1) := by
      by_cases hm : x ∈ S
      · rw [List.erase_append_left _ hm]
      · have hr : x ∉ List.replicate n (-1 : Int) := fun hr => by have := List.eq_of_mem_replicate hr; omega
        rw [List.erase_of_not_mem hm, List.erase_of_not_mem (by simp [hm]; intro _ e; omega)]
    obtain ⟨m, rfl⟩ : ∃ m, n = m + 1 := ⟨n - 1, by omega⟩
    have hPl : m + 1 ≤ (S ++ List.replicate (m + 1) (-1)).length := by rw [List.length_append, List.length_replicate]; omega
    rw [List.cons_append, List.take_succ_cons, ← hP]
    generalize S ++ List.replicate (m + 1) (-1) = P at *
    have hl : (P.take (m + 1)).length ≤ m + 1 := List.length_take_le _ _
    unfold lruS
    split
    · rename_i hm
      rw [erase_take P x (m + 1) hm]; rfl
    · rename_i hm
      congr 1
      have hm2 : x ∉ P.take m := fun h => hm (List.mem_of_mem_take (i := m) (by rw [List.take_take, Nat.min_eq_left (by omega)]; exact h))
      rw [take_erase P x m hm2]
      rw [List.dropLast_eq_take, List.take_take, List.length_take]
      congr 1
      omega
/-! ### scanning from the end -/
def dd : List Int → List Int
  | [] => []
  | y :: t => y :: (dd t).filter (fun z => z != y)
def sc (W : Nat) : List Int → List Int → List Int
  | acc, [] => acc
  | acc, y :: t => if y ∉ acc ∧ acc.length < W then sc W (acc ++ [y]) t else sc W acc t
theorem sc_snoc (W : Nat) (ys : List Int) (y : Int) : ∀ acc, sc W acc (ys ++ [y]) = if y ∉ sc W acc ys ∧ (sc W acc ys).length < W then sc W acc ys ++ [y] else sc W acc ys := by
  induction ys with
  | nil =>
    intro acc
    rfl
  | cons z t ih =>
    intro acc
    rw [List.cons_append]
    simp only [sc]
    split
    · exact ih _
    · exact ih _
theorem sc_dd (W : Nat) (ys : List Int) : ∀ acc : List Int, acc.length ≤ W → sc W acc ys = (acc ++ (dd ys).filter (fun z => !(acc.contains z))).take W := by
  induction ys with
  | nil => intro acc h; simp [sc, dd, List.take_of_length_le h]
  | cons y t ih =>
    intro acc h
    simp only [sc, dd]
    by_cases hy : y ∈ acc
    · rw [if_neg (by simp [hy]), ih acc h, List.filter_cons]
      have hc : acc.contains y = true := by simpa using hy
      rw [hc]
      simp only [Bool.not_true, Bool.false_eq_true, ↓reduceIte, List.filter_filter]
      congr 2
      refine List.filter_congr fun z _ => ?_
      by_cases hz : z ∈ acc
      · simp [hz]
      · have : z ≠ y := fun e => hz (e ▸ hy)
        simp [hz, this]
    · have hc : acc.contains y = false := by simpa using hy
      rw [List.filter_cons, hc]
      simp only [Bool.not_false, ↓reduceIte, List.filter_filter]
      by_cases hl : acc.length < W
      · rw [if_pos ⟨hy, hl⟩, ih (acc ++ [y]) (by simp; omega), List.append_assoc, List.singleton_append]
        congr 3
        refine List.filter_congr fun z _ => ?_
        by_cases hz : z ∈ acc
        · simp [hz]
        · by_cases e : z = y
          · simp [e]
          · simp [hz, e]
      · rw [if_neg (by simp [hl]), ih acc h]
        have hW : W = acc.length := by omega
        rw [hW, List.take_left', List.take_left'] <;> rfl
theorem dd_stack (xs : List Int) (j : Nat) (hj : j ≤ xs.length) : stackK always xs j = dd (xs.take j).reverse := by
  induction j with
  | zero => rfl
  | succ j ih =>
    have hst : stackK always xs (j + 1) = xs.getD j 0 :: (stackK always xs j).filter (fun z => z != xs.getD j 0) := Tr.push_true _ _ (Tr.stackK_nodup _ _ _)
    rw [hst, ih (by omega), List.take_succ_eq_append_getElem (by omega), Tr.getD_get' xs j (by omega), List.reverse_append]
    rfl
theorem filter_all (l : List Int) : l.filter (fun z => !(([] : List Int).contains z)) = l := by
  rw [List.filter_eq_self]; intro a _; simp
/-- What the scan has found after t uses from the end. -/
def laT (W : Nat) (xs : List Int) (t : Nat) : List Int := sc W [] (xs.reverse.take t)
theorem laT_succ (W : Nat) (xs : List Int) (t : Nat) (ht : t < xs.length) :
    laT W xs (t + 1) = if xs.getD (xs.length - 1 - t) 0 ∉ laT W xs t ∧ (laT W xs t).length < W then laT W xs t ++ [xs.getD (xs.length - 1 - t) 0] else laT W xs t := by
  unfold laT
  rw [List.take_succ_eq_append_getElem (by simpa using ht), List.getElem_reverse, sc_snoc, Tr.getD_get' xs (xs.length - 1 - t) (by omega)]
theorem laT_end (W : Nat) (xs : List Int) : laT W xs xs.length = (stackK always xs xs.length).take W := by
  unfold laT
  rw [List.take_of_length_le (by simp), sc_dd W _ [] (by simp), filter_all, dd_stack xs xs.length (Nat.le_refl _), List.take_length, List.nil_append]
theorem pad_take (S : List Int) (W : Nat) : S.take W ++ List.replicate (W - (S.take W).length) (-1) = (S ++ List.replicate W (-1)).take W := by
  rw [List.take_append, List.take_replicate, List.length_take]
  congr 2
  omega
theorem last_lru (W : Nat) (xs : List Int) (h1 : 1 ≤ W) (hx : ∀ y ∈ xs, 0 ≤ y) : laT W xs xs.length ++ List.replicate (W - (laT W xs xs.length).length) (-1) = lruK W xs xs.length := by
  rw [laT_end, pad_take, lru_stack W xs h1 hx xs.length (Nat.le_refl _)]
/-! ### the last misses -/
def fifoS (c : List Int) (x : Int) : List Int := if x ∈ c then c else x :: c.dropLast
def fifK (n : Nat) (xs : List Int) : Nat → List Int
  | 0 => List.replicate n (-1)
  | j + 1 => fifoS (fifK n xs j) (xs.getD j 0)
def revm (n : Nat) (xs : List Int) : Nat → List Int
  | 0 => []
  | j + 1 => if xs.getD j 0 ∈ fifK n xs j then revm n xs j else xs.getD j 0 :: revm n xs j
theorem fif_rev (n : Nat) (xs : List Int) (h1 : 1 ≤ n) (j : Nat) : fifK n xs j = (revm n xs j ++ List.replicate n (-1)).take n := by
  induction j with
  | zero => simp [fifK, revm]
  | succ j ih =>
    rw [fifK, revm]
    unfold fifoS
    split
    · exact ih
    · rw [ih]
      generalize revm n xs j = S
      obtain ⟨m, rfl⟩ : ∃ m, n = m + 1 := ⟨n - 1, by omega⟩
      have hPl : m + 1 ≤ (S ++ List.replicate (m + 1) (-1)).length := by rw [List.length_append, List.length_replicate]; omega
      rw [List.cons_append, List.take_succ_cons]
      congr 1
      rw [List.dropLast_eq_take, List.take_take, List.length_take]
      congr 1
      omega
/-- The misses among the last t uses, the latest first. -/
def tlT (n : Nat) (xs : List Int) : Nat → List Int
  | 0 => []
  | t + 1 => if xs.getD (xs.length - 1 - t) 0 ∈ fifK n xs (xs.length - 1 - t) then tlT n xs t else tlT n xs t ++ [xs.getD (xs.length - 1 - t) 0]
theorem tl_rev (n : Nat) (xs : List Int) (t : Nat) (ht : t ≤ xs.length) : revm n xs xs.length = tlT n xs t ++ revm n xs (xs.length - t) := by
  induction t with
  | zero => simp [tlT]
  | succ t ih =>
    rw [ih (by omega), tlT]
    have e : xs.length - t = (xs.length - 1 - t) + 1 := by omega
    have e2 : xs.length - (t + 1) = xs.length - 1 - t := by omega
    rw [e, e2, revm]
    split
    · rfl
    · rw [List.append_assoc]; rfl
theorem tl_end (n : Nat) (xs : List Int) : tlT n xs xs.length = revm n xs xs.length := by
  have h := tl_rev n xs xs.length (Nat.le_refl _)
  rw [Nat.sub_self] at h
  simpa [revm] using h.symm
theorem last_fif (W : Nat) (xs : List Int) (h1 : 1 ≤ W) : (tlT W xs xs.length).take W ++ List.replicate (W - ((tlT W xs xs.length).take W).length) (-1) = fifK W xs xs.length := by
  rw [tl_end, pad_take, fif_rev W xs h1]
theorem tl_step (n W : Nat) (xs : List Int) (t : Nat) : (tlT n xs (t + 1)).take W = if ¬ xs.getD (xs.length - 1 - t) 0 ∈ fifK n xs (xs.length - 1 - t) ∧ ((tlT n xs t).take W).length < W then (tlT n xs t).take W ++ [xs.getD (xs.length - 1 - t) 0] else (tlT n xs t).take W := by
  rw [tlT]
  by_cases h : xs.getD (xs.length - 1 - t) 0 ∈ fifK n xs (xs.length - 1 - t)
  · rw [if_pos h, if_neg (fun hh => hh.1 h)]
  · rw [if_neg h]
    by_cases hl : ((tlT n xs t).take W).length < W
    · rw [if_pos ⟨h, hl⟩]
      rw [List.length_take] at hl
      rw [List.take_append, List.take_of_length_le (l := [_]) (by simp; omega)]
    · rw [if_neg (fun hh => hl hh.2)]
      rw [List.length_take] at hl
      rw [List.take_append_of_le_length (by omega)]
end Go.Proofs.Ytbjgfbhfmaddgaa.Pv
namespace Go.Proofs.Ytbjgfbhfmaddgaa
open Go.RowKit
theorem OwnW.lit (w : World) (xs : List Int) (T : TypeId) (hl : xs.length ≤ 1000) : OwnW (w.alloc (.cells (xs.map (Value.int .i64)).toArray T)) w.heap.size (.slice (some ⟨w.heap.size, 0, none⟩) xs.length xs.length) xs := by
  refine ⟨by rw [List.length_map], .inr ⟨w.heap.size, xs.length, _, T, rfl, Nat.le_refl _, heap_alloc_new w _, Nat.le_refl _, by unfold maxLen; omega, by simp, ?_⟩⟩
  rw [← List.length_map (f := Value.int .i64)]
  exact List.take_length
/-- append of two numbers to a list of the call's own. -/
theorem wpList_appT {ops : Array Oper} {rest : List Oper} {o : Oper} {a : Act} {Q : Exit → Act → World → Prop} (wr : World) (hgd : o.guard = none) (s x : Operand)
    (ho : o.op = .call { callee := .builtin .append, args := #[s, x], argTypes := #[23, 23] })
    (B : Nat) (v : Value) (xs : List Int) (u1 u2 : Int) (hs : a.eval s = v) (hx : a.eval x = .slice (some ⟨wr.heap.size, 0, none⟩) 2 2) (hown : Own wr B v xs)
    (hlen : xs.length + 2 ≤ 1000000000) (hB : B ≤ wr.heap.size)
    (h : ∀ v' w', Own w' B v' (xs ++ [u1, u2]) → Below B wr w' → wpList Try.prog ops Q rest (a.put o.dst v') w') :
    wpList Try.prog ops Q (o :: rest) a (wr.alloc (.cells #[.int .i64 u1, .int .i64 u2] 2)) := by
  obtain ⟨i0, hi, hz0, hz1, hz2⟩ := info_parts infoI
  refine wpList_append_own _ hgd s x 23 ho B 2 i0 (.int .i64 0) 1 8 Try.underlying23 hi hz0 hz1 hz2 rfl (by decide) v xs.length (xs.map (Value.int .i64)) hs (World.ownsRow.alloc hown _)
    ⟨wr.heap.size, 0, none⟩ 2 2 [.int .i64 u1, .int .i64 u2] hx rfl ?_ ?_ ?_ ?_ ?_ ?_
  · intro j u' hj
    match j, hj with
    | 0, hj => simp at hj; subst hj; simp [Addr.add]
    | 1, hj => simp at hj; subst hj; simp [Addr.add]
  · intro u' hu; simp at hu; rcases hu with rfl | rfl <;> rfl
  · unfold maxLen; omega
  · omega
  · simp; omega
  · intro v' w' hown' hgrow _
    refine h v' w' ?_ ?_
    · show World.ownsRow _ _ _ _ _ (xs ++ [u1, u2]).length _
      rw [List.length_append, List.map_append]
      exact hown'
    · exact ((Below.refl B wr).alloc hB _).grown hgrow (by simp; omega) (fun k hk => (Own.block hown k hk).1)
/-- A list, copied behind an empty one. -/
theorem own_s (b c : Nat) (xs : List Int) (w : World) (h0 : 0 < xs.length) (hn : xs.length ≤ 1000) (hc : ∀ i, i < xs.length → w.cell? ⟨b, i, none⟩ = some (.int .i64 (xs.getD i 0))) :
    Calls Try.prog 51 #[.slice (some ⟨b, 0, none⟩) xs.length c] w (Lb xs w) := by
  obtain ⟨i0, hi, hz0, hz1, hz2⟩ := info_parts infoI
  have HC := Lib.hid (fun j u (h : (xs.map (Value.int .i64))[j]? = some u) => (show (w.alloc (.cells #[] 2)).cell? ((⟨b, 0, none⟩ : Addr).add j) = some u by
    have e : (⟨b, 0, none⟩ : Addr).add j = ⟨b, j, none⟩ := by unfold Addr.add; split <;> simp_all
    rw [List.getElem?_map] at h
    cases hx : xs[j]? with
    | none => rw [hx] at h; cases h
    | some y =>
      rw [hx] at h
      have hj : j < xs.length := (List.getElem?_eq_some_iff.1 hx).1
      have h1 := hc j hj
      rw [List.getD_eq_getElem?_getD, hx] at h1
      rw [e, World.cell?_of_block (w := w) (a := ⟨b, j, none⟩) (Below.heap_alloc w _ b (World.block_lt_of_cell? w _ h1)), h1]
      exact h))
  have HO := Lib.hid (Own.lit0 w)
  have HL := Lib.hid (fun (v' : Value) (w' : World) (hown' : w'.ownsRow w.heap.size 2 1 v' xs.length (xs.map (Value.int .i64))) => (show Own w' w.heap.size v' xs from hown'))
  have hl : (xs.map (Value.int .i64)).length = xs.length * 1 := by simp
  have h1 : ∀ u ∈ xs.map (Value.int .i64), u.oneCell' = true := fun u hu => by
    obtain ⟨y, _, rfl⟩ := List.mem_map.1 hu
    rfl
  have hz : (w.alloc (.cells #[] 2)).heap.size = w.heap.size + 1 := Array.size_push _
  have HB := Lib.hid ((Below.refl w.heap.size w).alloc (Nat.le_refl _) (.cells #[] 2))
  have H1 := Lib.hid h1
  have Hl := Lib.hid hl
  clear hc hl h1
  generalize hN : xs.length = N at *
  clear hN
  go_enter Try.func51, Try.ntmps51
  go_wp2_with (at_builtin; refine wpList_append_own _ rfl _ _ 23 rfl w.heap.size 2 i0 (.int .i64 0) 1 8 Try.underlying23 hi hz0 hz1 hz2 rfl (by decide) (.slice (some ⟨w.heap.size, 0, none⟩) 0 0) 0 (([] : List Int).map (Value.int .i64)) rfl HO.out ⟨b, 0, none⟩ N c (xs.map (Value.int .i64)) rfl Hl.out HC.out H1.out (by unfold maxLen; omega) (by omega) (by omega) ?_)
  intro v' w' hown' hgrow _
  have ho := Lib.hid (HL.out v' w' hown')
  have hb := Lib.hid (HB.out.grown hgrow (by omega) (fun k hk => by injection hk with hk; have hk : w.heap.size = k := hk; omega))
  clear hown' hgrow
  go_wp2
  go_ret
  exact ⟨_, rfl, ho.out, hb.out⟩
theorem treO_two (j : Nat) (h : j < 4) : bits BinOp.xor IntKind.i64 (j : Int) 1 = treO j 1 ∧ 2 - (j : Int) / 2 * 2 = treO j 2 ∧ 3 - (j : Int) / 2 * 2 = treO j 3 ∧ treO j 0 = (j : Int) := by
  have : j = 0 ∨ j = 1 ∨ j = 2 ∨ j = 3 := by omega
  rcases this with rfl | rfl | rfl | rfl <;> decide
theorem row2 (j : Nat) : [(j : Int), treO j 1] = rowL 2 (treO j) := rfl
theorem row4 (j : Nat) : [(j : Int), treO j 1] ++ [treO j 2, treO j 3] = rowL 4 (treO j) := rfl
/-- The results' variable lies below the policy. -/
theorem ret_pol (Z : Nat) (w' : World) (T : Nat) (v : Value) (hs : List (List Int)) (ms : List Int) (h : OwnP w' (Z + 1) T v hs ms) (u u' : Value) :
    OwnP ((w'.setCell ⟨Z, 0, none⟩ u).setCell ⟨Z, 1, none⟩ u') Z T v hs ms := by
  have hW : ∀ (w : World) (off : Nat) (u : Value), Wr Z (Z + 1) w (w.setCell ⟨Z, off, none⟩ u) := fun w off u => ⟨rfl, rfl, rfl, by simp [World.setCell], fun b hb hr => Below.heap_setCell _ _ _ _ (by show b ≠ Z; omega)⟩
  exact ((h.wr (hW _ 0 u) (.inr (by omega))).wr (hW _ 1 u') (.inr (by omega))).mono (by omega)

/-- A policy that is being made in a variable: its rows so far, and Miss. -/
def PolInv (Z : Nat) (W0 wr : World) (v : Value) (vs : List Value) (hs : List (List Int)) (m : Value) : Prop :=
  Own2W wr (Z + 2) v vs hs ∧ (wr.cell? ⟨Z + 1, 0, none⟩ = some v ∧ wr.cell? ⟨Z + 1, 1, none⟩ = some m ∧ wr.frozen? ⟨Z + 1, 0, none⟩ = false ∧ wr.frozen? ⟨Z + 1, 1, none⟩ = false) ∧ Below (Z + 1) W0 wr ∧ Z + 2 ≤ wr.heap.size
theorem PolInv.cells {Z : Nat} {W0 wr w1 : World} {v m : Value} {vs : List Value} {hs : List (List Int)} (h : PolInv Z W0 wr v vs hs m) (bb : Below wr.heap.size wr w1) :
    w1.cell? ⟨Z + 1, 0, none⟩ = some v ∧ w1.cell? ⟨Z + 1, 1, none⟩ = some m ∧ w1.frozen? ⟨Z + 1, 0, none⟩ = false ∧ w1.frozen? ⟨Z + 1, 1, none⟩ = false ∧ Z + 1 < w1.heap.size := by
  obtain ⟨_, ⟨c0, c1, f0, f1⟩, _, hz⟩ := h
  have hl : Z + 1 < wr.heap.size := by omega
  exact ⟨(bb.cell (p := ⟨Z + 1, 0, none⟩) hl).trans c0, (bb.cell (p := ⟨Z + 1, 1, none⟩) hl).trans c1, (bb.frozen (p := ⟨Z + 1, 0, none⟩) hl).trans f0, (bb.frozen (p := ⟨Z + 1, 1, none⟩) hl).trans f1, Nat.lt_of_lt_of_le hl bb.size⟩
theorem PolInv.app {Z : Nat} {W0 wr w1 : World} {v m u : Value} {vs : List Value} {hs : List (List Int)} {zs : List Int} (h : PolInv Z W0 wr v vs hs m) (bb : Below wr.heap.size wr w1) (hu : OwnW w1 wr.heap.size u zs) :
    Own2W w1 (Z + 2) v vs hs ∧ OwnW w1 (Z + 2) u zs ∧ (∀ i k, i < hs.length → (vs.getD i s0).ownBlock = some k → u.ownBlock ≠ some k) ∧ (∀ k, u.ownBlock = some k → v.ownBlock ≠ some k) ∧ Z + 2 ≤ w1.heap.size := by
  obtain ⟨hO, _, _, hz⟩ := h
  refine ⟨Own2W.below hO bb (Nat.le_refl _), hu.mono hz, fun i k hi hk e => ?_, fun k hk e => ?_, Nat.le_trans hz bb.size⟩
  · have h1 := ((hO.2.2.1 i hi).block k hk).2
    have h2 := (hu.block k e).1
    omega
  · have h1 := (World.ownsRow.lt hO.2.1 k e).2
    have h2 := (hu.block k hk).1
    omega
theorem PolInv.store {Z : Nat} {W0 wr w1 w3 : World} {v v' m : Value} {vs vs' : List Value} {hs hs' : List (List Int)} (h : PolInv Z W0 wr v vs hs m) (bb : Below wr.heap.size wr w1) (ho3 : Own2W w3 (Z + 2) v' vs' hs') (hb3 : Below (Z + 2) w1 w3) :
    (w3.cell? ⟨Z + 1, 0, none⟩ = some v ∧ w3.frozen? ⟨Z + 1, 0, none⟩ = false) ∧ PolInv Z W0 (w3.setCell ⟨Z + 1, 0, none⟩ v') v' vs' hs' m := by
  obtain ⟨c0, c1, f0, f1, hl⟩ := h.cells bb
  have d0 := (hb3.cell (p := ⟨Z + 1, 0, none⟩) (Nat.lt_succ_self (Z + 1))).trans c0
  have d1 := (hb3.cell (p := ⟨Z + 1, 1, none⟩) (Nat.lt_succ_self (Z + 1))).trans c1
  have g0 := (hb3.frozen (p := ⟨Z + 1, 0, none⟩) (Nat.lt_succ_self (Z + 1))).trans f0
  have g1 := (hb3.frozen (p := ⟨Z + 1, 1, none⟩) (Nat.lt_succ_self (Z + 1))).trans f1
  have hW4 : Wr (Z + 1) (Z + 2) w3 (w3.setCell ⟨Z + 1, 0, none⟩ v') := ⟨rfl, rfl, rfl, by simp [World.setCell], fun b hb hr => Below.heap_setCell _ _ _ _ (by show b ≠ Z + 1; omega)⟩
  refine ⟨⟨d0, g0⟩, Own2W.wr ho3 hW4 (fun k hk => (World.ownsRow.lt ho3.2.1 k hk).2) (fun i k hi hk => ((ho3.2.2.1 i hi).block k hk).2) (.inr (Nat.le_refl _)),
    ⟨World.cell?_setCell_same _ _ _ d0, (World.cell?_setCell_other _ _ _ _ (by simp)).trans d1, by simpa using g0, by simpa using g1⟩, ?_, ?_⟩
  · have h2 := h.2.2.1
    have h3 := h.2.2.2
    exact ((h2.trans (bb.mono (by omega))).trans (hb3.mono (by omega))).setCell (p := ⟨Z + 1, 0, none⟩) (Nat.le_refl _) v'
  · have k1 : (w3.setCell ⟨Z + 1, 0, none⟩ v').heap.size = w3.heap.size := by simp [World.setCell]
    have k2 := h.2.2.2
    have k3 := bb.size
    have k4 := hb3.size
    rw [k1]
    omega
/-- The start of a policy in a variable. -/
theorem PolInv.start (Z : Nat) (w : World) (m : Value) (hZ : w.heap.size = Z) (o : Obj) : PolInv Z ((w.alloc o).alloc (.cells #[.slice none 0 0, m] 29)) ((w.alloc o).alloc (.cells #[.slice none 0 0, m] 29)) (.slice none 0 0) [] [] m := by
  subst hZ
  refine ⟨Own2W.nil _ _, ⟨by simp [go_sem], by simp [go_sem], by simp [go_sem], by simp [go_sem]⟩, Below.refl _ _, by simp⟩
/-- The variable of the result. -/
theorem PolInv.res {Z : Nat} {w W0 wr : World} (hZ : w.heap.size = Z) (hb : Below (Z + 1) W0 wr) (hW : Below (Z + 1) (w.alloc (.cells #[.slice none 0 0, .slice none 0 0] 29)) W0) :
    wr.cell? ⟨Z, 0, none⟩ = some (.slice none 0 0) ∧ wr.cell? ⟨Z, 1, none⟩ = some (.slice none 0 0) ∧ wr.frozen? ⟨Z, 0, none⟩ = false ∧ wr.frozen? ⟨Z, 1, none⟩ = false := by
  subst hZ
  have h := hW.trans hb
  have c : ∀ off, wr.cell? ⟨w.heap.size, off, none⟩ = _ := fun off => h.cell (p := ⟨w.heap.size, off, none⟩) (Nat.lt_succ_self _)
  have f : ∀ off, wr.frozen? ⟨w.heap.size, off, none⟩ = _ := fun off => h.frozen (p := ⟨w.heap.size, off, none⟩) (Nat.lt_succ_self _)
  rw [c 0, c 1, f 0, f 1]
  simp [go_sem]
/-- A policy out of its variable: Miss has been stored there, and it goes to the variable of the result. -/
theorem PolInv.done {Z : Nat} {W0 wr w1 : World} {v m u : Value} {vs : List Value} {hs : List (List Int)} {ms : List Int} (h : PolInv Z W0 wr v vs hs m) (bb : Below wr.heap.size wr w1) (hu : OwnW w1 wr.heap.size u ms) (u1 u2 : Value) :
    OwnP (((w1.setCell ⟨Z + 1, 1, none⟩ u).setCell ⟨Z, 0, none⟩ u1).setCell ⟨Z, 1, none⟩ u2) Z (((w1.setCell ⟨Z + 1, 1, none⟩ u).setCell ⟨Z, 0, none⟩ u1).setCell ⟨Z, 1, none⟩ u2).heap.size (.agg #[v, u]) hs ms := by
  obtain ⟨hO, hu2, hfar, hfar2, hz⟩ := h.app bb hu
  have hs1 : (((w1.setCell ⟨Z + 1, 1, none⟩ u).setCell ⟨Z, 0, none⟩ u1).setCell ⟨Z, 1, none⟩ u2).heap.size = w1.heap.size := by simp [World.setCell]
  rw [hs1]
  have hW : ∀ (w : World) (b off : Nat) (u : Value) (_ : Z ≤ b) (_ : b < Z + 2), Wr Z (Z + 2) w (w.setCell ⟨b, off, none⟩ u) := fun w b off u h1 h2 => ⟨rfl, rfl, rfl, by simp [World.setCell], fun b' hb hr => Below.heap_setCell _ _ _ _ (by show b' ≠ b; omega)⟩
  have W1 := ((hW w1 (Z + 1) 1 u (by omega) (by omega)).trans (hW _ Z 0 u1 (by omega) (by omega))).trans (hW _ Z 1 u2 (by omega) (by omega))
  have hv : ∀ k, v.ownBlock = some k → k < w1.heap.size := fun k hk => (World.ownsRow.lt hO.2.1 k hk).2
  have hvs : ∀ i k, i < hs.length → (vs.getD i s0).ownBlock = some k → k < w1.heap.size := fun i k hi hk => ((hO.2.2.1 i hi).block k hk).2
  have hm : ∀ k, u.ownBlock = some k → k < w1.heap.size := fun k hk => (hu2.block k hk).2
  exact OwnP.mono (B := Z + 2) ⟨v, u, vs, rfl, hO.wr W1 hv hvs (.inr (by omega)), hu2.wr W1 hm (.inr (by omega)), fun b hb => ⟨fun e => hfar2 b hb e, fun i hi e => hfar i b hi e hb⟩, hm, hv, hvs⟩ (by omega)

end Go.Proofs.Ytbjgfbhfmaddgaa
namespace Go.Proofs.Ytbjgfbhfmaddgaa
open Go.RowKit
def isW (n : Int) : Bool := decide (1 ≤ n) && decide (n ≤ 6)
theorem in_w (n : Int) (w : World) : Calls Try.prog 49 #[.int .i64 n, .int .i64 1, .int .i64 6] w (Bl (isW n) w) := by
  unfold isW
  by_cases h : 1 ≤ n
  · go_enter Try.func49, Try.ntmps49
    go_wp2
    go_ret
    exact ⟨ret_bool (by simp [h]), rfl⟩
  · go_enter Try.func49, Try.ntmps49
    go_wp2
    go_ret
    exact ⟨ret_bool (by simp; omega), rfl⟩
theorem between_w (n : Int) (w : World) : Calls Try.prog 46 #[.int .i64 n, .int .i64 1, .int .i64 6] w (Bl (isW n) w) := by
  unfold isW
  by_cases h : 1 ≤ n
  · go_enter Try.func46, Try.ntmps46
    go_wp2
    go_ret
    exact ⟨ret_bool (by simp [h]), rfl⟩
  · go_enter Try.func46, Try.ntmps46
    go_wp2
    go_ret
    exact ⟨ret_bool (by simp; omega), rfl⟩
theorem ways_i (n : Int) (w : World) : Calls Try.prog 31 #[.int .i64 n] w (Bl (isW n) w) := by
  have hI := Lib.hid (between_w n w)
  generalize isW n = b at *
  go_enter Try.func31, Try.ntmps31
  go_wp2_with (go_at_call 46; refine hI.out.mono ?_; rintro e w' ⟨rfl, rfl⟩)
  go_ret
  exact ⟨rfl, rfl⟩
theorem isW_nat {n : Int} (h : isW n = true) : ∃ k : Nat, n = (k : Nat) ∧ 1 ≤ k ∧ k ≤ 6 := by
  unfold isW at h
  simp only [Bool.and_eq_true, decide_eq_true_eq] at h
  exact ⟨n.toNat, by omega, by omega, by omega⟩
theorem resP {w w1 : World} (b1 : Below (w.alloc (.cells #[.slice none 0 0, .slice none 0 0] 29)).heap.size (w.alloc (.cells #[.slice none 0 0, .slice none 0 0] 29)) w1) :
    w1.cell? ⟨w.heap.size, 0, none⟩ = some (.slice none 0 0) ∧ w1.cell? ⟨w.heap.size, 1, none⟩ = some (.slice none 0 0) ∧ w1.frozen? ⟨w.heap.size, 0, none⟩ = false ∧ w1.frozen? ⟨w.heap.size, 1, none⟩ = false :=
  PolInv.res rfl (b1.mono (by simp)) (Below.refl _ _)
theorem belP {w w1 : World} (b1 : Below (w.alloc (.cells #[.slice none 0 0, .slice none 0 0] 29)).heap.size (w.alloc (.cells #[.slice none 0 0, .slice none 0 0] 29)) w1) (u u' : Value) :
    Below w.heap.size w ((w1.setCell ⟨w.heap.size, 0, none⟩ u).setCell ⟨w.heap.size, 1, none⟩ u') :=
  ((((Below.refl w.heap.size w).alloc (Nat.le_refl _) _).trans (b1.mono (by simp))).setCell (p := ⟨w.heap.size, 0, none⟩) (Nat.le_refl _) u).setCell (p := ⟨w.heap.size, 1, none⟩) (Nat.le_refl _) u'
theorem outP {w w1 : World} {v : Value} {hs : List (List Int)} {ms : List Int} (h : OwnP w1 (w.alloc (.cells #[.slice none 0 0, .slice none 0 0] 29)).heap.size w1.heap.size v hs ms) (u u' : Value) :
    OwnP ((w1.setCell ⟨w.heap.size, 0, none⟩ u).setCell ⟨w.heap.size, 1, none⟩ u') w.heap.size ((w1.setCell ⟨w.heap.size, 0, none⟩ u).setCell ⟨w.heap.size, 1, none⟩ u').heap.size v hs ms := by
  have e : ((w1.setCell ⟨w.heap.size, 0, none⟩ u).setCell ⟨w.heap.size, 1, none⟩ u').heap.size = w1.heap.size := by simp [World.setCell]
  rw [e]
  exact ret_pol w.heap.size w1 w1.heap.size v hs ms (h.mono (by simp)) u u'
theorem polP_sum (n : Nat) (o : Nat → Nat → Int) : ∀ j, ((polP n o j).map List.length).sum = j * n
  | 0 => by simp [polP]
  | j + 1 => by
    rw [polP_succ, List.map_append, List.sum_append, polP_sum n o j]
    simp [rowL_len, Nat.add_mul]
theorem pol_bd (n : Nat) (h6 : n ≤ 6) (o : Nat → Nat → Int) (m : Nat → Int) : ((polP n o n).map List.length).sum ≤ 1000 ∧ (rowL n m).length ≤ 1000 := by
  rw [polP_sum, rowL_len]
  have : n = 0 ∨ n = 1 ∨ n = 2 ∨ n = 3 ∨ n = 4 ∨ n = 5 ∨ n = 6 := by omega
  refine ⟨?_, by omega⟩
  rcases this with rfl | rfl | rfl | rfl | rfl | rfl | rfl <;> decide
end Go.Proofs.Ytbjgfbhfmaddgaa
namespace Go.Proofs.Ytbjgfbhfmaddgaa
open Go.RowKit
set_option maxHeartbeats 4000000 in
set_option maxRecDepth 100000 in
theorem policyOf_young (n : Nat) (h1 : 1 ≤ n) (h6 : n ≤ 6) (o : Nat → Nat → Int) (m0 m1 m2 m3 m4 m5 : Int) (hF : ∀ age : Nat, age < n → ∀ w', Calls Try.prog 33 #[.int .i64 (age : Nat)] w' (RetB (sixf (o age)) w')) (ms : List Int)
    (hM : ∀ w' : World, OwnW (w'.alloc (.cells (c6 m0 m1 m2 m3 m4 m5) 61)) w'.heap.size (.slice (some ⟨w'.heap.size, 0, none⟩) n n) ms) (w : World) :
    Calls Try.prog 32 #[.int .i64 (n : Nat), .func (.func 33) #[] #[], six m0 m1 m2 m3 m4 m5] w (RetP (polP n o n) ms w) := by
  have HF := Lib.hid hF
  have HFI := Lib.hid (fun (a b c d e f : Int) (w' : World) => first_i n h1 h6 a b c d e f w')
  have HST := Lib.hid (fun (B : Nat) (j : Nat) (wr : World) (v : Value) (vs : List Value) (hj : j < n) (hO : Own2W wr B v vs (polP n o j)) (hB : B ≤ wr.heap.size) => pol_step n o B j wr v vs hj h6 hO hB)
  have HMM := Lib.hid hM
  have HP := Lib.hid (fun j => polP_succ n o j)
  have HPL := Lib.hid (fun j => polP_len n o j)
  have HFM := Lib.hid (fun (wr : World) (B : Nat) (v : Value) (vs : List Value) (j : Nat) (h : Own2W wr B v vs (polP n o j)) => Own2W.form h)
  have H0 := Lib.hid (fun (W : World) (B : Nat) => (show Own2W W B (.slice none 0 0) [] (polP n o 0) from Own2W.nil W B))
  have HEND := Lib.hid (fun (Z : Nat) (wr : World) (v : Value) (vs : List Value) (hO : Own2W wr (Z + 3) v vs (polP n o n)) (hB : Z + 3 ≤ wr.heap.size) (u0 u1 u2 : Value) => pol_end n o m0 m1 m2 m3 m4 m5 ms hM Z wr v vs hO hB u0 u1 u2)
  have hn1 : (1 : Int) ≤ (n : Int) := by omega
  have hn6 : (n : Int) ≤ 6 := by omega
  have hn7 : n ≤ 6 := h6
  clear hF hM
  unfold six
  go_enter Try.func32, Try.ntmps32
  go_wp2
  generalize hZ : w.heap.size = Z at *
  have hW0 : ∃ W0 : World, W0 = ((w.alloc (.cells (c6 m0 m1 m2 m3 m4 m5) 62)).alloc (.cells #[.slice none 0 0, .slice none 0 0] 29)).alloc (.cells #[.slice none 0 0, .slice none 0 0] 29) := ⟨_, rfl⟩
  obtain ⟨W0, hW0⟩ := hW0
  have hz0 : W0.heap.size = Z + 3 := by rw [hW0, ← hZ]; simp
  have HB0 := Lib.hid (show Below Z w W0 by
    rw [hW0, ← hZ]
    exact (((Below.refl _ _).alloc (Nat.le_refl _) _).alloc (by simp) _).alloc (by simp; omega) _)
  have HP0 := Lib.hid (show W0.cell? ⟨Z + 2, 0, none⟩ = some (.slice none 0 0) ∧ W0.cell? ⟨Z + 2, 1, none⟩ = some (.slice none 0 0) ∧ W0.frozen? ⟨Z + 2, 0, none⟩ = false ∧ W0.frozen? ⟨Z + 2, 1, none⟩ = false by
    rw [hW0, ← hZ]
    exact ⟨by simp [go_sem], by simp [go_sem], by simp [go_sem], by simp [go_sem]⟩)
  have HR0 := Lib.hid (fun (w' : World) (hb : Below (Z + 2) W0 w') => (show (w'.cell? ⟨Z, 0, none⟩ = some (.int .i64 m0) ∧ w'.cell? ⟨Z, 1, none⟩ = some (.int .i64 m1) ∧ w'.cell? ⟨Z, 2, none⟩ = some (.int .i64 m2) ∧ w'.cell? ⟨Z, 3, none⟩ = some (.int .i64 m3) ∧ w'.cell? ⟨Z, 4, none⟩ = some (.int .i64 m4) ∧ w'.cell? ⟨Z, 5, none⟩ = some (.int .i64 m5)) ∧
      w'.cell? ⟨Z + 1, 0, none⟩ = some (.slice none 0 0) ∧ w'.cell? ⟨Z + 1, 1, none⟩ = some (.slice none 0 0) ∧ w'.frozen? ⟨Z + 1, 0, none⟩ = false ∧ w'.frozen? ⟨Z + 1, 1, none⟩ = false by
    have c : ∀ b off, b < Z + 2 → w'.cell? ⟨b, off, none⟩ = W0.cell? ⟨b, off, none⟩ := fun b off h => hb.cell (p := ⟨b, off, none⟩) h
    have f : ∀ b off, b < Z + 2 → w'.frozen? ⟨b, off, none⟩ = W0.frozen? ⟨b, off, none⟩ := fun b off h => hb.frozen (p := ⟨b, off, none⟩) h
    rw [c Z 0 (by omega), c Z 1 (by omega), c Z 2 (by omega), c Z 3 (by omega), c Z 4 (by omega), c Z 5 (by omega), c (Z + 1) 0 (by omega), c (Z + 1) 1 (by omega), f (Z + 1) 0 (by omega), f (Z + 1) 1 (by omega), hW0, ← hZ]
    simp [go_sem]))
  rw [show (w.alloc (.cells #[.int .i64 m0, .int .i64 m1, .int .i64 m2, .int .i64 m3, .int .i64 m4, .int .i64 m5] 62)) = w.alloc (.cells (c6 m0 m1 m2 m3 m4 m5) 62) from rfl, ← hW0]
  clear hW0
  rw [show Z + 1 + 1 = Z + 2 from rfl]
  go_loopw [8, 10] (fun _ i wr => ∃ (j : Nat) (v : Value) (vs : List Value), j ≤ n ∧ i = .int .i64 (j : Nat) ∧ Hid (Own2W wr (Z + 3) v vs (polP n o j)) ∧ Hid (wr.cell? ⟨Z + 2, 0, none⟩ = some v ∧ wr.cell? ⟨Z + 2, 1, none⟩ = some (.slice none 0 0) ∧ wr.frozen? ⟨Z + 2, 0, none⟩ = false ∧ wr.frozen? ⟨Z + 2, 1, none⟩ = false) ∧ Hid (Below (Z + 2) W0 wr) ∧ Hid (Z + 3 ≤ wr.heap.size)) (fun _ i _ => n - (intOf i).toNat)
  case atStart => exact ⟨0, _, [], Nat.zero_le _, rfl, H0.out _ _, HP0, Below.refl _ _, Nat.le_of_eq hz0.symm⟩
  case round =>
    obtain ⟨j, v, vs, hj, rfl, hO, hcc, hb, hsz⟩ := hrel
    by_cases hlt : j < n
    · obtain ⟨a, c, hv⟩ := HFM.out _ _ _ _ _ hO.out
      rw [HPL.out] at hv
      subst hv
      have HA := Lib.hid (HST.out (Z + 3) j wr _ vs hlt hO.out hsz.out)
      have HPJ := Lib.hid (HP.out j)
      have HFJ := Lib.hid (fun w' => HF.out j hlt w')
      obtain ⟨c0, c1, f0, f1⟩ := hcc.out
      have HK := Lib.hid (fun (w' : World) (bb : Below wr.heap.size wr w') => (show w'.cell? ⟨Z + 2, 0, none⟩ = some (.slice a j c) from (bb.cell (p := ⟨Z + 2, 0, none⟩) (by have := hsz.out; show Z + 2 < wr.heap.size; omega)).trans c0))
      have HK2 := Lib.hid (fun (w' : World) (bb : Below wr.heap.size wr w') (o1 o2 : Obj) => (show ((w'.alloc o1).alloc o2).cell? ⟨Z + 2, 0, none⟩ = some (.slice a j c) from
        HK.out _ ((bb.alloc bb.size o1).alloc (by have := bb.size; simp; omega) o2)))
      have HK3 := Lib.hid (fun (w1 w3 : World) (bb : Below wr.heap.size wr w1) (o1 : Obj) (hfr : ∀ b, b < (w1.alloc o1).heap.size → (Value.slice a j c).ownBlock ≠ some b → w3.heap[b]? = (w1.alloc o1).heap[b]?) => (show w3.heap[Z + 2]? = wr.heap[Z + 2]? from by
        have h2 := hsz.out
        have h3 := bb.size
        have h4 : (w1.alloc o1).heap.size = w1.heap.size + 1 := Array.size_push _
        refine (hfr (Z + 2) (by omega) fun e => ?_).trans ((Below.heap_alloc w1 o1 (Z + 2) (by omega)).trans (bb.block (Z + 2) (by omega)))
        have := (World.ownsRow.lt hO.out.2.1 (Z + 2) e).1
        omega))
      unfold sixf at HFJ
      go_wp2
      go_region_law (first | (refine step_app2W (w1.alloc _) rfl (.tmp 14) (.tmp 20) rfl (Z + 3) (.slice a j c) vs (polP n o j) (.slice (some ⟨w1.heap.size, 0, none⟩) n n) (rowL n (o j)) (by first | rfl | simp [Act.eval, Act.put]) (by first | rfl | simp [Act.eval, Act.put]) (HA.out w1 (drewB bb)).1 (HA.out w1 (drewB bb)).2.1 (HA.out w1 (drewB bb)).2.2.1 (HA.out w1 (drewB bb)).2.2.2.1 (HA.out w1 (drewB bb)).2.2.2.2.1 (HA.out w1 (drewB bb)).2.2.2.2.2 ?_; intro g cap w3 ho3 hb3 hfr3 hg3; have e3 := HK3.out w1 w3 (drewB bb) _ hfr3; have hc3 : w3.cell? ⟨Z + 2, 0, none⟩ = some (.slice a j c) := (World.cell?_of_block (w := wr) (a := ⟨Z + 2, 0, none⟩) e3).trans c0; have hf3 : w3.frozen? ⟨Z + 2, 0, none⟩ = false := (World.frozen?_of_block (w := wr) (a := ⟨Z + 2, 0, none⟩) e3).trans f0) | (go_simp; go_at_call 33; (with_reducible refine (HFJ.out _).mono ?_); rintro e w1 ⟨rfl, bb⟩; have hw1 := HK.out _ (drewB bb); have hl1 : Z + 2 < w1.heap.size := Nat.lt_of_lt_of_le (Nat.lt_of_lt_of_le (Nat.lt_succ_self _) hsz.out) (drewB bb).size; have hl2 : Z + 2 < w1.heap.size + 1 := Nat.lt_succ_of_lt hl1) | (go_simp; go_at_call 47; (with_reducible refine (HFI.out _ _ _ _ _ _ _).mono ?_); rintro e w2 ⟨rfl, rfl⟩))
      all_goals
        rw [HPL.out] at *
        have hW4 : ∀ u, Wr (Z + 2) (Z + 3) w3 (w3.setCell ⟨Z + 2, 0, none⟩ u) := fun u => ⟨rfl, rfl, rfl, by simp [World.setCell], fun b hb hr => Below.heap_setCell _ _ _ _ (by show b ≠ Z + 2; omega)⟩
        have hO4 := Lib.hid (fun u => Own2W.wr ho3 (hW4 u) (fun k hk => (World.ownsRow.lt ho3.2.1 k hk).2) (fun i k hi hk => ((ho3.2.2.1 i hi).block k hk).2) (.inr (Nat.le_refl _)))
        have hc4 := Lib.hid (fun u => (show (w3.setCell ⟨Z + 2, 0, none⟩ u).cell? ⟨Z + 2, 0, none⟩ = some u ∧ (w3.setCell ⟨Z + 2, 0, none⟩ u).cell? ⟨Z + 2, 1, none⟩ = some (.slice none 0 0) ∧ (w3.setCell ⟨Z + 2, 0, none⟩ u).frozen? ⟨Z + 2, 0, none⟩ = false ∧ (w3.setCell ⟨Z + 2, 0, none⟩ u).frozen? ⟨Z + 2, 1, none⟩ = false from
          ⟨World.cell?_setCell_same _ _ _ hc3, (World.cell?_setCell_other _ _ _ _ (by simp)).trans ((World.cell?_of_block (w := wr) (a := ⟨Z + 2, 1, none⟩) e3).trans c1), by simpa using hf3, by simpa using (World.frozen?_of_block (w := wr) (a := ⟨Z + 2, 1, none⟩) e3).trans f1⟩))
        have hz1 : (w1.alloc (.cells (c6 (o j 0) (o j 1) (o j 2) (o j 3) (o j 4) (o j 5)) 61)).heap.size = w1.heap.size + 1 := Array.size_push _
        have hb4 := Lib.hid (fun u => (show Below (Z + 2) W0 (w3.setCell ⟨Z + 2, 0, none⟩ u) from
          ((hb.out.trans ((drewB bb).mono (by have := hsz.out; omega))).alloc (by omega) (.cells (c6 (o j 0) (o j 1) (o j 2) (o j 3) (o j 4) (o j 5)) 61)).trans ((show Below (Z + 2) _ w3 from hb3.mono (Nat.le_succ (Z + 2))).setCell (p := ⟨Z + 2, 0, none⟩) (Nat.le_refl _) u)))
        have hs4 := Lib.hid (fun u => (show Z + 3 ≤ (w3.setCell ⟨Z + 2, 0, none⟩ u).heap.size by
          have k1 : w1.heap.size + 1 ≤ w3.heap.size := by rw [← hz1]; exact hb3.size
          have k2 : (w3.setCell ⟨Z + 2, 0, none⟩ u).heap.size = w3.heap.size := by simp [World.setCell]
          rw [k2]; omega))
        clear hW4 ho3 hb3 hfr3 hg3 hc3 hf3 e3 bb hz1 hl1 hl2 hw1
        go_wp2
        go_roundw
        case rel => exact ⟨j + 1, _, _, by omega, by go_num, (by rw [HPJ.out]; exact hO4.out _), hc4.out _, hb4.out _, hs4.out _⟩
        case measure => simp [intOf]; omega
    · have e : j = n := by omega
      subst e
      obtain ⟨a, c, hv⟩ := HFM.out _ _ _ _ _ hO.out
      rw [HPL.out] at hv
      subst hv
      obtain ⟨c0, c1, f0, f1⟩ := hcc.out
      obtain ⟨⟨x0, x1, x2, x3, x4, x5⟩, r0, r1, q0, q1⟩ := HR0.out wr hb.out
      have hlt2 : Z + 2 < wr.heap.size := hsz.out
      have hlt3 : Z + 1 < wr.heap.size := by omega
      have hlt4 : Z < wr.heap.size := by omega
      go_wp2_with fail
      refine (HFI.out _ _ _ _ _ _ _).mono ?_
      rintro e w2 ⟨rfl, rfl⟩
      have hE2 := Lib.hid (fun u0 u1 u2 => HEND.out Z wr _ vs hO.out hsz.out u0 u1 u2)
      have hBE := Lib.hid (show Below Z w wr from HB0.out.trans (hb.out.mono (by omega)))
      have hwZ := Lib.hid hZ
      go_wp2
      refine bodyPost_ret (v := .agg #[.slice a j c, .slice (some ⟨wr.heap.size, 0, none⟩) j j]) (by simp [results, Try.results32, go_sem, c0, c1, r0, r1, f0, f1, q0, q1, hlt2, hlt3]) rfl ⟨_, rfl, ?_, ?_⟩
      · rw [hwZ.out]
        exact hE2.out _ _ _
      · rw [hwZ.out]
        have hb5 := hBE.out
        have hz6 : Z ≤ wr.heap.size := by omega
        have h1 := hb5.setCell (p := ⟨Z + 2, 1, none⟩) (show Z ≤ Z + 2 by omega)
        refine (((h1 _).setCell (p := ⟨Z + 1, 0, none⟩) (show Z ≤ Z + 1 by omega) _).setCell (p := ⟨Z + 1, 1, none⟩) (show Z ≤ Z + 1 by omega) _).alloc ?_ _
        simp [World.setCell]; omega

end Go.Proofs.Ytbjgfbhfmaddgaa
namespace Go.Proofs.Ytbjgfbhfmaddgaa
open Go.RowKit
end Go.Proofs.Ytbjgfbhfmaddgaa
namespace Go.Proofs.Ytbjgfbhfmaddgaa.Pv
open Go.RowKit
theorem isW_of {n : Nat} (h1 : 1 ≤ n) (h6 : n ≤ 6) : isW (n : Int) = true := by
  unfold isW
  rw [decide_eq_true (by omega), decide_eq_true (by omega)]; rfl
theorem lru_pol (n : Nat) (h1 : 1 ≤ n) (h6 : n ≤ 6) (w : World) : Calls Try.prog 32 #[.int .i64 (n : Nat), .func (.func 33) #[] #[], sixf (yng (n - 1))] w (RetP (polP n yng n) (rowL n (yng (n - 1))) w) :=
  policyOf_young n h1 h6 yng _ _ _ _ _ _ (fun age ha w' => young_i age (by omega) w') (rowL n (yng (n - 1))) (fun w' => first_row n h6 (yng (n - 1)) w' _) w
set_option maxHeartbeats 1000000 in
set_option maxRecDepth 100000 in
theorem lru_yes (n : Nat) (h1 : 1 ≤ n) (h6 : n ≤ 6) (w : World) : Calls Try.prog 18 #[.int .i64 (n : Nat)] w (ResP (polP n yng n) (rowL n (yng (n - 1))) true w) := by
  have hw := isW_of h1 h6
  have HT := Lib.hid (fun w => young_i (n - 1) (by omega) w)
  have HP := Lib.hid (fun w => lru_pol n h1 h6 w)
  have HW := Lib.hid (fun w => Go.Proofs.Ytbjgfbhfmaddgaa.ways_i (n : Int) w)
  have e1 : ((n - 1 : Nat) : Int) = (n : Int) - 1 := by omega
  rw [hw] at HW
  rw [e1] at HT
  have hn1 : (1 : Int) ≤ (n : Int) := by omega
  have hn6 : (n : Int) ≤ 6 := by omega
  clear hw e1
  unfold sixf six at HT HP
  go_enter Try.func18, Try.ntmps18
  go_wp2_with (go_at_call 31; refine (HW.out _).mono ?_; rintro e w' ⟨rfl, rfl⟩)
  refine (HT.out _).mono ?_
  rintro e w0 ⟨rfl, b0⟩
  go_wp2_with fail
  refine (HP.out _).mono ?_
  rintro e w1 ⟨v, rfl, ov, b01⟩
  have b1 := bt b0 b01
  have ov := ov.mono (B' := (w.alloc (.cells #[.slice none 0 0, .slice none 0 0] 29)).heap.size) b0.size
  clear b0 b01
  obtain ⟨a1, n1, c1, a2, n2, c2, fv⟩ := ov.form
  subst fv
  obtain ⟨r0, r1, q0, q1⟩ := resP b1
  have HB := Lib.hid (fun u u' => belP b1 u u')
  have HO := Lib.hid (fun u u' => outP ov u u')
  clear ov b1
  go_wp2
  refine bodyPost_ret (v := .tuple #[.agg #[.slice a1 n1 c1, .slice a2 n2 c2], .bool true]) (by simp [results, Try.results18, go_sem, r0, r1, q0, q1]) rfl ⟨_, rfl, HO.out _ _, HB.out _ _⟩
end Go.Proofs.Ytbjgfbhfmaddgaa.Pv
namespace Go.Proofs.Ytbjgfbhfmaddgaa.Pv
open Go.RowKit
theorem n6 {n : Nat} (h1 : 1 ≤ n) (h6 : n ≤ 6) : n = 1 ∨ n = 2 ∨ n = 3 ∨ n = 4 ∨ n = 5 ∨ n = 6 := by omega
theorem j6 {j n : Nat} (h : j < n) (h6 : n ≤ 6) : j = 0 ∨ j = 1 ∨ j = 2 ∨ j = 3 ∨ j = 4 ∨ j = 5 := by omega
theorem hitL (n J : Nat) (h6 : n ≤ 6) (h : J < n) (k : Nat → Int) : rowL n (fun i => k (ordN (rowL n (yng J)) i)) = k J :: (rowL n k).eraseIdx J := by
  rcases n6 (by omega) h6 with rfl | rfl | rfl | rfl | rfl | rfl <;> rcases j6 h (by omega) with rfl | rfl | rfl | rfl | rfl | rfl <;> first | rfl | exact absurd h (by decide)
theorem missL (n : Nat) (h1 : 1 ≤ n) (h6 : n ≤ 6) (k : Nat → Int) (x : Int) : rowL n (fun i => putA k (n - 1) x (ordN (rowL n (yng (n - 1))) i)) = x :: (rowL n k).dropLast := by
  rcases n6 h1 h6 with rfl | rfl | rfl | rfl | rfl | rfl <;> rfl
theorem sameL (n : Nat) (h1 : 1 ≤ n) (h6 : n ≤ 6) (k : Nat → Int) : rowL n (fun i => k (ordN (rowL n sameO) i)) = rowL n k := by
  rcases n6 h1 h6 with rfl | rfl | rfl | rfl | rfl | rfl <;> rfl
theorem polP_get (n : Nat) (o : Nat → Nat → Int) (m J : Nat) (h : J < m) : (polP n o m).getD J [] = rowL n (o J) := by
  simp [polP, List.getD_eq_getElem?_getD, h]
theorem lnk_lru (n : Nat) (h1 : 1 ≤ n) (h6 : n ≤ 6) (k : Nat → Int) (x : Int) : rowL n (stN (polP n yng n) (rowL n (yng (n - 1))) k x) = lruS (rowL n k) x := by
  unfold stN lruS
  rw [rowL_len]
  by_cases h : (rowL n k).idxOf x < n
  · have hx := idx_hit n k x h
    have hm : x ∈ rowL n k := List.idxOf_lt_length_iff.1 (by rw [rowL_len]; exact h)
    rw [if_pos hm, List.erase_eq_eraseIdx_of_idxOf (rfl : (rowL n k).idxOf x = _)]
    have e : rowL n (fun i => if (rowL n k).idxOf x < n then k (ordN ((polP n yng n).getD ((rowL n k).idxOf x) []) i) else putA k (n - 1) x (ordN (rowL n (yng (n - 1))) i)) = rowL n (fun i => k (ordN (rowL n (yng ((rowL n k).idxOf x))) i)) :=
      rowL_eq _ _ _ fun i _ => by rw [if_pos h, polP_get _ _ _ _ h]
    rw [e, hitL n _ h6 h, hx.1]
  · have hm : ¬ x ∈ rowL n k := fun hm => h (by have := List.idxOf_lt_length_of_mem hm; rwa [rowL_len] at this)
    rw [if_neg hm]
    have e : rowL n (fun i => if (rowL n k).idxOf x < n then k (ordN ((polP n yng n).getD ((rowL n k).idxOf x) []) i) else putA k (n - 1) x (ordN (rowL n (yng (n - 1))) i)) = rowL n (fun i => putA k (n - 1) x (ordN (rowL n (yng (n - 1))) i)) :=
      rowL_eq _ _ _ fun i _ => by rw [if_neg h]
    rw [e, missL n h1 h6]
theorem lnk_fif (n : Nat) (h1 : 1 ≤ n) (h6 : n ≤ 6) (k : Nat → Int) (x : Int) : rowL n (stN (polP n (fun _ => sameO) n) (rowL n (yng (n - 1))) k x) = fifoS (rowL n k) x := by
  unfold stN fifoS
  rw [rowL_len]
  by_cases h : (rowL n k).idxOf x < n
  · have hm : x ∈ rowL n k := List.idxOf_lt_length_iff.1 (by rw [rowL_len]; exact h)
    rw [if_pos hm]
    have e : rowL n (fun i => if (rowL n k).idxOf x < n then k (ordN ((polP n (fun _ => sameO) n).getD ((rowL n k).idxOf x) []) i) else putA k (n - 1) x (ordN (rowL n (yng (n - 1))) i)) = rowL n (fun i => k (ordN (rowL n sameO) i)) :=
      rowL_eq _ _ _ fun i _ => by rw [if_pos h, polP_get _ _ _ _ h]
    rw [e, sameL n h1 h6]
  · have hm : ¬ x ∈ rowL n k := fun hm => h (by have := List.idxOf_lt_length_of_mem hm; rwa [rowL_len] at this)
    rw [if_neg hm]
    have e : rowL n (fun i => if (rowL n k).idxOf x < n then k (ordN ((polP n (fun _ => sameO) n).getD ((rowL n k).idxOf x) []) i) else putA k (n - 1) x (ordN (rowL n (yng (n - 1))) i)) = rowL n (fun i => putA k (n - 1) x (ordN (rowL n (yng (n - 1))) i)) :=
      rowL_eq _ _ _ fun i _ => by rw [if_neg h]
    rw [e, missL n h1 h6]
theorem kK_lru (n : Nat) (h1 : 1 ≤ n) (h6 : n ≤ 6) (xs : List Int) : ∀ j, rowL n (kK (polP n yng n) (rowL n (yng (n - 1))) xs j) = lruK n xs j
  | 0 => by
    rcases n6 h1 h6 with rfl | rfl | rfl | rfl | rfl | rfl <;> rfl
  | j + 1 => by rw [lruK, ← kK_lru n h1 h6 xs j, kK, lnk_lru n h1 h6]
theorem kK_fif (n : Nat) (h1 : 1 ≤ n) (h6 : n ≤ 6) (xs : List Int) : ∀ j, rowL n (kK (polP n (fun _ => sameO) n) (rowL n (yng (n - 1))) xs j) = fifK n xs j
  | 0 => by
    rcases n6 h1 h6 with rfl | rfl | rfl | rfl | rfl | rfl <;> rfl
  | j + 1 => by rw [fifK, ← kK_fif n h1 h6 xs j, kK, lnk_fif n h1 h6]
theorem isP_lru (n : Nat) (h1 : 1 ≤ n) (h6 : n ≤ 6) : isP (polP n yng n) (rowL n (yng (n - 1))) = true := by
  rcases n6 h1 h6 with rfl | rfl | rfl | rfl | rfl | rfl <;> decide
theorem isP_fif (n : Nat) (h1 : 1 ≤ n) (h6 : n ≤ 6) : isP (polP n (fun _ => sameO) n) (rowL n (yng (n - 1))) = true := by
  rcases n6 h1 h6 with rfl | rfl | rfl | rfl | rfl | rfl <;> decide
end Go.Proofs.Ytbjgfbhfmaddgaa.Pv
namespace Go.Proofs.Ytbjgfbhfmaddgaa.Pv
open Go.RowKit Tr
theorem polP_len2 (n : Nat) (o : Nat → Nat → Int) (j : Nat) : (polP n o j).length = j := by simp [polP]
theorem rowL_len2 (n : Nat) (o : Nat → Int) : (rowL n o).length = n := by simp [rowL]
theorem rdP_lruI (n : Nat) (h6 : n ≤ 6) {w : World} {B T : Nat} {v : Value} (h : OwnP w B T v (polP n yng n) (rowL n (yng (n - 1)))) : RdP w v (polP n yng n) (rowL n (yng (n - 1))) :=
  RdP.of h (by rw [polP_len2]; omega) (fun i hi => by rw [polP_len2] at hi; rw [polP_get n yng n i hi, rowL_len2]; omega) (by rw [rowL_len2]; omega)
theorem lru_in (n m : Nat) (h1 : 1 ≤ n) (hnm : n ≤ m) (xs : List Int) (hx : ∀ y ∈ xs, 0 ≤ y) (j : Nat) (hj : j ≤ xs.length) : insB (lruK n xs j) (lruK m xs j) = true := by
  unfold insB
  rw [List.all_eq_true]
  intro x hm
  by_cases h0 : 0 ≤ x
  · rw [decide_eq_true h0, Bool.not_true, Bool.false_or, List.contains_eq_mem]
    refine decide_eq_true ?_
    rw [lru_stack n xs h1 hx j hj, List.take_append] at hm
    rw [lru_stack m xs (by omega) hx j hj, List.take_append]
    rcases List.mem_append.1 hm with hm | hm
    · exact List.mem_append.2 (.inl ((List.take_subset_take_left _ hnm) hm))
    · have := List.eq_of_mem_replicate (List.mem_of_mem_take hm)
      omega
  · rw [decide_eq_false h0]; rfl
theorem fst_all (f : Nat → Bool) : ∀ k i, (∀ j, i ≤ j → j < i + k → f j = true) → fstB f i k = -1
  | 0, _, _ => rfl
  | k + 1, i, h => by
    unfold fstB
    rw [h i (Nat.le_refl _) (by omega), if_pos rfl]
    exact fst_all f k (i + 1) (fun j h1 h2 => h j (by omega) (by omega))
theorem lru_incl (n m : Nat) (h1 : 1 ≤ n) (hnm : n ≤ m) (h6 : m ≤ 6) (xs : List Int) (hok : okU xs = true) :
    incV (polP n yng n) (rowL n (yng (n - 1))) (polP m yng m) (rowL m (yng (m - 1))) xs = true ∧ incOk (polP n yng n) (rowL n (yng (n - 1))) (polP m yng m) (rowL m (yng (m - 1))) xs = true ∧ fbrB (polP n yng n) (rowL n (yng (n - 1))) (polP m yng m) (rowL m (yng (m - 1))) xs = false := by
  have hx : ∀ y ∈ xs, 0 ≤ y := fun y hy => by
    obtain ⟨i, hi, e⟩ := List.getElem_of_mem hy
    have := (okU_at hok i hi).1
    rw [getD_get' xs i hi, e] at this
    exact this
  have e0 : incOk (polP n yng n) (rowL n (yng (n - 1))) (polP m yng m) (rowL m (yng (m - 1))) xs = true := by
    unfold incOk; rw [isP_lru n h1 (by omega), isP_lru m (by omega) h6, hok]; rfl
  have eN : incN (polP n yng n) (rowL n (yng (n - 1))) (polP m yng m) (rowL m (yng (m - 1))) xs = -1 := by
    unfold incN
    refine fst_all _ _ _ (fun j _ hj => ?_)
    unfold inAt
    rw [rowL_len2, rowL_len2, kK_lru n h1 (by omega), kK_lru m (by omega) h6]
    exact lru_in n m h1 hnm xs hx (j + 1) (by omega)
  refine ⟨?_, e0, ?_⟩
  · unfold incV; rw [e0, eN]; rfl
  · unfold fbrB; rw [e0, eN]; rfl
end Go.Proofs.Ytbjgfbhfmaddgaa.Pv
namespace Go.Proofs.Ytbjgfbhfmaddgaa.Sr
open Go.RowKit
/-- Behind a lie n bytes, below B. -/
def Byt (w : World) (B : Nat) (a : Option Addr) (n : Nat) : Prop :=
  ∀ i, i < n → ∃ b off, a = some ⟨b, off, none⟩ ∧ b < B ∧ ∃ x : Int, w.cell? ⟨b, off + i, none⟩ = some (.int .u8 x) ∧ 0 ≤ x ∧ x ≤ 255
theorem Byt.below {w w' : World} {B : Nat} {a : Option Addr} {n : Nat} (h : Byt w B a n) (hb : Below B w w') : Byt w' B a n := fun i hi => by
  obtain ⟨b, off, ha, hlt, x, hc, hx⟩ := h i hi
  exact ⟨b, off, ha, hlt, x, (hb.cell (p := ⟨b, off + i, none⟩) hlt).trans hc, hx⟩
/-- The source lies in block g, at most K choices having been read. -/
def Src (w : World) (B g : Nat) (a : Option Addr) (n c K : Nat) : Prop :=
  B ≤ g ∧ Byt w B a n ∧ ∃ (k : Nat) (seed : Int), k ≤ K ∧ 0 ≤ seed ∧ seed ≤ 18446744073709551615 ∧ w.heap[g]? = some (.cells #[.slice a n c, .int .i64 (k : Int), .int .u64 seed] 83 (0, 0))
/-- What a step of the source leaves: a number of a range, and the source. -/
def Pk (lo hi : Int) (B g : Nat) (a : Option Addr) (n c K : Nat) (w : World) (e : Ending) (w' : World) : Prop :=
  ∃ r : Int, lo ≤ r ∧ r ≤ hi ∧ e = .returned (.int .i64 r) ∧ Src w' B g a n c K ∧ w.grownBy w' (some g)
theorem grown_set (w : World) (g i : Nat) (v : Value) : w.grownBy (w.setCell ⟨g, i, none⟩ v) (some g) :=
  ⟨rfl, rfl, rfl, ((Below.refl 0 w).setCell (p := ⟨g, i, none⟩) (Nat.zero_le _) v).size, fun k _ hk => Below.heap_setCell _ _ _ k (fun e => hk (by rw [e]))⟩
theorem grown_drewN (w w' : World) (r : Option Nat) (n : Nat) (h : w.grownBy w' r) : w.grownBy (w'.drewN n) r := ⟨h.os, h.tape, h.output, h.size, h.block⟩
theorem trans_g {a b c : World} {r : Option Nat} (h : a.grownBy b r) (k : b.grownBy c r) : a.grownBy c r := grownBy_trans h k
theorem Src.below {w w' : World} {B g n c K : Nat} {a : Option Addr} (h : Src w B g a n c K) (hb : Below w.heap.size w w') : Src w' B g a n c K := by
  obtain ⟨h1, h2, k, seed, h3, h4, h5, h6⟩ := h
  have hlt := (Array.getElem?_eq_some_iff.1 h6).1
  exact ⟨h1, h2.below (hb.mono (by omega)), k, seed, h3, h4, h5, by rw [hb.block g hlt]; exact h6⟩
theorem Src.mono {w : World} {B g n c K K' : Nat} {a : Option Addr} (h : Src w B g a n c K) (hK : K ≤ K') : Src w B g a n c K' := by
  obtain ⟨h1, h2, k, seed, h3, h⟩ := h
  exact ⟨h1, h2, k, seed, Nat.le_trans h3 hK, h⟩
theorem Src.lt {w : World} {B g n c K : Nat} {a : Option Addr} (h : Src w B g a n c K) : g < w.heap.size := by
  obtain ⟨_, _, k, seed, _, _, _, h6⟩ := h
  exact (Array.getElem?_eq_some_iff.1 h6).1
theorem and255 (v : Int) (h0 : 0 ≤ v) (h1 : v ≤ 18446744073709551615) : 0 ≤ wrap64 (bits .and .u64 (v / 1099511627776) 255) ∧ wrap64 (bits .and .u64 (v / 1099511627776) 255) ≤ 255 := by
  rw [u64_and _ _ (by omega) (by omega) (by omega) (by omega)]
  have h := Nat.and_le_right (n := (v / 1099511627776).toNat) (m := (255 : Int).toNat)
  have e : (255 : Int).toNat = 255 := rfl
  rw [e] at h ⊢
  generalize ((v / 1099511627776).toNat &&& 255) = y at *
  unfold wrap64
  omega
theorem nil63 : ∀ y ∈ ([] : List Int), 0 ≤ y ∧ y ≤ 63 := fun _ hy => absurd hy List.not_mem_nil
theorem app63 {l : List Int} {r : Int} (h : ∀ y ∈ l, 0 ≤ y ∧ y ≤ 63) (h0 : 0 ≤ r) (h1 : r ≤ 63) : ∀ y ∈ l ++ [r], 0 ≤ y ∧ y ≤ 63 := fun y hy => by
  rcases List.mem_append.1 hy with hy | hy
  · exact h y hy
  · rw [List.mem_singleton] at hy
    subst hy
    exact ⟨h0, h1⟩
set_option maxHeartbeats 2000000 in
set_option maxRecDepth 100000 in
theorem next_s (B g n c K : Nat) (a : Option Addr) (w : World) (hn : n ≤ 2000000) (hK : K ≤ 1000000) (h : Src w B g a n c K) :
    Calls Try.prog 44 #[.pointer (some ⟨g, 0, none⟩)] w (Pk 0 255 B g a n c (K + 1) w) := by
  obtain ⟨hB, hby, k, seed, hk, hs0, hs1, hh⟩ := h
  have c0 : w.cell? ⟨g, 0, none⟩ = some (.slice a n c) := by simp [World.cell?, hh]
  have c1 : w.cell? ⟨g, 1, none⟩ = some (.int .i64 (k : Int)) := by simp [World.cell?, hh]
  have c2 : w.cell? ⟨g, 2, none⟩ = some (.int .u64 seed) := by simp [World.cell?, hh]
  have f1 : w.frozen? ⟨g, 1, none⟩ = false := by simp [World.frozen?, hh]
  have f2 : w.frozen? ⟨g, 2, none⟩ = false := by simp [World.frozen?, hh]
  have key : ∀ (m : Nat) (v : Int), (((w.drewN m).setCell ⟨g, 1, none⟩ (.int .i64 ((k : Int) + 1))).setCell ⟨g, 2, none⟩ (.int .u64 v)).heap[g]? = some (.cells #[.slice a n c, .int .i64 (((k + 1 : Nat)) : Int), .int .u64 v] 83 (0, 0)) ∧
      w.grownBy (((w.drewN m).setCell ⟨g, 1, none⟩ (.int .i64 ((k : Int) + 1))).setCell ⟨g, 2, none⟩ (.int .u64 v)) (some g) ∧ Byt (((w.drewN m).setCell ⟨g, 1, none⟩ (.int .i64 ((k : Int) + 1))).setCell ⟨g, 2, none⟩ (.int .u64 v)) B a n := fun m v => by
    have g1 := trans_g (grown_set (w.drewN m) g 1 (.int .i64 ((k : Int) + 1))) (grown_set _ g 2 (.int .u64 v))
    have g2 : w.grownBy (((w.drewN m).setCell ⟨g, 1, none⟩ (.int .i64 ((k : Int) + 1))).setCell ⟨g, 2, none⟩ (.int .u64 v)) (some g) := ⟨g1.os, g1.tape, g1.output, g1.size, g1.block⟩
    refine ⟨?_, g2, hby.below ((Below.refl B w).grown g2 (by have := (Array.getElem?_eq_some_iff.1 hh).1; omega) (fun q hq => by injection hq with hq; omega))⟩
    rw [heap_setCell_same _ g 2 _ _ _ (heap_setCell_same (w.drewN m) g 1 _ _ _ hh)]
    rfl
  have KEY := Lib.hid key
  have HBY := Lib.hid hby
  clear key hh hby
  by_cases hat : k < n
  · obtain ⟨b, off, rfl, hlt, x, hc, hx0, hx1⟩ := HBY.out k hat
    have h2 : (k : Int) < (n : Int) := by omega
    go_enter Try.func44, Try.ntmps44
    go_wp2
    go_quiet (fail)
    go_wp2
    go_quiet (fail)
    go_wp2
    rename_i nq
    generalize hv : IntKind.u64.wrap (IntKind.u64.wrap (IntKind.u64.wrap (seed * 6364136223846793005) + x) + 1442695040888963407) = v at *
    have hv2 : 0 ≤ v ∧ v ≤ 18446744073709551615 := by rw [IntKind.wrap_u64] at hv; omega
    clear hv
    obtain ⟨hh2, gr2, by2⟩ := KEY.out _ v
    generalize World.setCell (World.setCell (World.drewN w _) ⟨g, 1, none⟩ _) ⟨g, 2, none⟩ _ = w2 at *
    have d0 : w2.cell? ⟨g, 0, none⟩ = some (.slice (some ⟨b, off, none⟩) n c) := by simp [World.cell?, hh2]
    have d1 : w2.cell? ⟨g, 1, none⟩ = some (.int .i64 (((k + 1 : Nat)) : Int)) := by simp [World.cell?, hh2]
    have h3 : (((k + 1 : Nat)) : Int) ≤ (n : Int) := by omega
    have HH := Lib.hid hh2
    clear hh2
    go_quiet (fail)
    go_wp2
    go_ret
    exact ⟨x, hx0, hx1, rfl, ⟨hB, by2, k + 1, v, by omega, hv2.1, hv2.2, HH.out⟩, grown_drewN _ _ _ _ gr2⟩
  · have h2 : ¬ (k : Int) < (n : Int) := by omega
    go_enter Try.func44, Try.ntmps44
    go_wp2
    go_quiet (fail)
    go_wp2
    generalize hv : IntKind.u64.wrap (IntKind.u64.wrap (IntKind.u64.wrap (seed * 6364136223846793005)) + 1442695040888963407) = v at *
    have hv2 : 0 ≤ v ∧ v ≤ 18446744073709551615 := by rw [IntKind.wrap_u64] at hv; omega
    clear hv
    obtain ⟨hh2, gr2, by2⟩ := KEY.out _ v
    generalize World.setCell (World.setCell (World.drewN w _) ⟨g, 1, none⟩ _) ⟨g, 2, none⟩ _ = w2 at *
    have d0 : w2.cell? ⟨g, 0, none⟩ = some (.slice a n c) := by simp [World.cell?, hh2]
    have d1 : w2.cell? ⟨g, 1, none⟩ = some (.int .i64 (((k + 1 : Nat)) : Int)) := by simp [World.cell?, hh2]
    have d2 : w2.cell? ⟨g, 2, none⟩ = some (.int .u64 v) := by simp [World.cell?, hh2]
    have h3 : ¬ (((k + 1 : Nat)) : Int) ≤ (n : Int) := by omega
    have HH := Lib.hid hh2
    clear hh2
    go_quiet (fail)
    go_wp2
    go_ret
    obtain ⟨e0, e1⟩ := and255 v hv2.1 hv2.2
    exact ⟨_, e0, e1, rfl, ⟨hB, by2, k + 1, v, by omega, hv2.1, hv2.2, HH.out⟩, grown_drewN _ _ _ _ gr2⟩
/-- pick of at most 200. -/
theorem pick_s (B g n c K m : Nat) (a : Option Addr) (w : World) (hn : n ≤ 2000000) (hK : K ≤ 1000000) (hm1 : 1 ≤ m) (hm : m ≤ 200) (h : Src w B g a n c K) :
    Calls Try.prog 29 #[.pointer (some ⟨g, 0, none⟩), .int .i64 (m : Int)] w (Pk 0 ((m : Int) - 1) B g a n c (K + 1) w) := by
  by_cases hm2 : m = 1
  · subst hm2
    have H := Lib.hid h
    go_enter Try.func29, Try.ntmps29
    go_wp2
    go_ret
    exact ⟨0, by omega, by omega, rfl, H.out.mono (by omega), ⟨rfl, rfl, rfl, Nat.le_refl _, fun _ _ _ => rfl⟩⟩
  · have hN := Lib.hid (next_s B g n c K a w hn hK h)
    clear h
    have h1 : ¬ (m : Int) ≤ 1 := by omega
    have h2 : ¬ (200 : Int) < (m : Int) := by omega
    go_enter Try.func29, Try.ntmps29
    go_wp2_with (go_at_call 44; refine hN.out.mono ?_; rintro e w1 ⟨r, hr0, hr1, rfl, hs, hg⟩)
    go_ret
    refine ⟨_, ?_, ?_, rfl, hs, hg⟩
    · exact Int.emod_nonneg _ (by omega)
    · have := Int.emod_lt_of_pos r (show (0 : Int) < (m : Int) by omega); omega
def Am (ys : List Int) (B g : Nat) (a : Option Addr) (n c K : Nat) (w : World) (e : Ending) (w' : World) : Prop :=
  ∃ r : Int, r ∈ ys ∧ e = .returned (.int .i64 r) ∧ Src w' B g a n c K ∧ w.grownBy w' (some g)
theorem among_s (B C g n c K : Nat) (a : Option Addr) (v : Value) (ys : List Int) (w : World) (hn : n ≤ 2000000) (hK : K ≤ 1000000) (h1 : 0 < ys.length) (h2 : ys.length ≤ 200) (hy : Own w C v ys) (hne : ∀ k, v.ownBlock = some k → k ≠ g) (h : Src w B g a n c K) :
    Calls Try.prog 45 #[.pointer (some ⟨g, 0, none⟩), v] w (Am ys B g a n c (K + 1) w) := by
  have hP := Lib.hid (pick_s B g n c K ys.length a w hn hK h1 h2 h)
  have HK := Lib.hid (fun (w' : World) (hg : w.grownBy w' (some g)) => (Own.kept hy hg fun k hk e => hne k hk (by injection e)))
  have hv : ∃ b cap, v = .slice (some ⟨b, 0, none⟩) ys.length cap := by
    rcases hy.cases with ⟨_, e⟩ | ⟨b, cap, e, _⟩
    · rw [e] at h1; simp at h1
    · exact ⟨b, cap, e⟩
  obtain ⟨b, cap, rfl⟩ := hv
  clear hy hne h
  have HM := Lib.hid (fun i (hi : i < ys.length) => (show ys.getD i 0 ∈ ys by rw [List.getD_eq_getElem?_getD, List.getElem?_eq_getElem hi]; exact List.getElem_mem hi))
  generalize hL : ys.length = L at *
  go_enter Try.func45, Try.ntmps45
  go_wp2_with fail
  refine hP.out.mono ?_
  rintro e w1 ⟨r, hr0, hr1, rfl, hs, hg⟩
  obtain ⟨i, rfl⟩ := Int.eq_ofNat_of_zero_le hr0
  have hi : i < L := by omega
  have ho := HK.out w1 hg
  have hc : w1.cell? ⟨b, i, none⟩ = some (.int .i64 (ys.getD i 0)) := by
    rcases ho.cases with ⟨e, _⟩ | ⟨b', cap', e, _, _, _, hc, _⟩
    · cases e
    · injection e with e1 e2 e3
      injection e1 with e1
      injection e1 with e1
      subst e1
      exact hc i (by omega)
  have hm := HM.out i hi
  clear ho
  generalize ys.getD i 0 = u at *
  have hi2 : (i : Int) < (L : Int) := by omega
  go_wp2
  go_ret
  exact ⟨u, hm, rfl, hs, hg⟩
theorem Src.keep {w w' : World} {B C g n c K : Nat} {a : Option Addr} (h : Src w B g a n c K) (hb : Below C w w') (hg : g < C) : Src w' B g a n c K := by
  obtain ⟨h1, h2, k, seed, h3, h4, h5, h6⟩ := h
  exact ⟨h1, h2.below (hb.mono (by omega)), k, seed, h3, h4, h5, by rw [hb.block g hg]; exact h6⟩
def Few (N : Nat) (B : Nat) (w : World) (e : Ending) (w' : World) : Prop :=
  ∃ v l, e = .returned v ∧ l.length = N ∧ (∀ y ∈ l, 0 ≤ y ∧ y ≤ 63) ∧ Own w' w.heap.size v l ∧ Below B w w'
def F1 (w : World) (B g : Nat) (a : Option Addr) (n c K j : Nat) (v : Value) (wr : World) : Prop :=
  ∃ l : List Int, l.length = j ∧ (∀ y ∈ l, 0 ≤ y ∧ y ≤ 63) ∧ Own wr w.heap.size v l ∧ Src wr B g a n c (K + j) ∧ Below B w wr
def F2 (w : World) (B g : Nat) (a : Option Addr) (n c K M j : Nat) (v v2 : Value) (wr : World) : Prop :=
  ∃ l l2 : List Int, l.length = M ∧ (∀ y ∈ l, 0 ≤ y ∧ y ≤ 63) ∧ l2.length = j ∧ (∀ y ∈ l2, 0 ≤ y ∧ y ≤ 63) ∧ Own wr w.heap.size v l ∧ Own wr w.heap.size v2 l2 ∧ Apart v2 v ∧ Src wr B g a n c (K + M + j) ∧ Below B w wr
set_option maxHeartbeats 1500000 in
theorem few_s (B g n c K N M : Nat) (a : Option Addr) (w : World) (hn : n ≤ 2000000) (hK : K ≤ 1000) (hN : N ≤ 60) (hM1 : 1 ≤ M) (hM : M ≤ 60) (h : Src w B g a n c K) :
    Calls Try.prog 30 #[.pointer (some ⟨g, 0, none⟩), .int .i64 (N : Int), .int .i64 (M : Int)] w (Few N B w) := by
  have hlt := h.lt
  have hBg := h.1
  have H := Lib.hid h
  clear h
  go_enter Try.func30, Try.ntmps30
  go_wp2
  go_loopw [7, 8] (fun v i wr => ∃ j : Nat, j ≤ M ∧ i = .int .i64 j ∧ Hid (F1 w B g a n c K j v wr)) (fun _ i _ => M - (intOf i).toNat)
  case atStart => exact ⟨0, Nat.zero_le _, rfl, (show F1 _ _ _ _ _ _ _ _ _ _ from ⟨[], rfl, nil63, Own.lit0 w, H.out.below (Below.alloc (Below.refl _ _) (Nat.le_refl _) _), (Below.refl _ _).alloc (by omega) _⟩)⟩
  case round =>
    obtain ⟨j, hj, rfl, hf⟩ := hrel
    obtain ⟨l, hl, hmem, ho, hs, hb⟩ := hf.out
    have hsz : w.heap.size ≤ wr.heap.size := hb.size
    by_cases hlt2 : j < M
    · have hP := Lib.hid (pick_s B g n c (K + j) 64 a wr hn (by omega) (by omega) (by omega) hs)
      have hq : l.length + 1 ≤ 1000000000 := by omega
      have hvb := ho.block
      clear hf hs
      go_wp2_with fail
      refine hP.out.mono ?_
      rintro e w1 ⟨r, hr0, hr1, rfl, hs1, hg1⟩
      have ho1 := ho.kept hg1 (fun k hk e => by have := (hvb k hk).1; injection e with e; omega)
      have hsz1 : w.heap.size ≤ w1.heap.size := Nat.le_trans hsz hg1.size
      have hb1 : Below B w w1 := hb.grown hg1 (by omega) (fun k hk => by injection hk with hk; omega)
      go_wp2_with (at_builtin; refine wpList_app _ rfl _ _ rfl w.heap.size _ l _ ?_ ?_ ho1 hq hsz1 ?_; rfl; rfl)
      intro v' w2 ho2 hb2
      have hs2 := hs1.keep hb2 hlt
      go_wp2
      go_roundw
      case rel => exact ⟨j + 1, by omega, by go_num, ⟨l ++ [r], by simp [hl], app63 hmem hr0 (by omega), ho2, hs2.mono (by omega), hb1.trans (hb2.mono (by omega))⟩⟩
      case measure => simp [intOf]; omega
    · have e : j = M := by omega
      subst e
      obtain ⟨av, cv, hvv⟩ := ho.form
      rw [hl] at hvv
      subst hvv
      go_wp2
      go_loopw [1, 9] (fun i v2 wr2 => ∃ p : Nat, p ≤ N ∧ i = .int .i64 ((N : Int) - p) ∧ Hid (F2 w B g a n c K j p (.slice av j cv) v2 wr2)) (fun i _ _ => (intOf i).toNat)
      case atStart => exact ⟨0, Nat.zero_le _, by simp, (show F2 _ _ _ _ _ _ _ _ _ _ _ _ from ⟨l, [], hl, hmem, rfl, nil63, ho.below (Below.alloc (Below.refl _ _) (Nat.le_refl _) _) (Nat.le_refl _), (Own.lit0 wr).mono hsz, Apart.symm (Apart.new ho (fun q hq => ((Own.lit0 wr).block q hq).1) (Nat.le_refl _)), (hs.below (Below.alloc (Below.refl _ _) (Nat.le_refl _) _)), hb.trans ((Below.refl _ _).alloc (by omega) _)⟩)⟩
      case round =>
        obtain ⟨p, hp, rfl, hf2⟩ := hrel
        obtain ⟨l1, l2, g1, g2, g3, g4, g5, g6, g7, g8, g9⟩ := hf2.out
        have hsz2 : w.heap.size ≤ wr.heap.size := g9.size
        by_cases hlt3 : p < N
        · have hA := Lib.hid (among_s B w.heap.size g n c (K + j + p) a (.slice av j cv) l1 wr hn (by omega) (by omega) (by omega) g5 (fun k hk e => by have := (g5.block k hk).1; omega) g8)
          have hq : l2.length + 1 ≤ 1000000000 := by omega
          have hpos : (0 : Int) < (N : Int) - p := by omega
          clear hf2
          go_wp2_with fail
          refine hA.out.mono ?_
          rintro e w1 ⟨r, hr, rfl, hs1, hg1⟩
          have o5 := g5.kept hg1 (fun k hk e => by have := (g5.block k hk).1; injection e with e; omega)
          have o6 := g6.kept hg1 (fun k hk e => by have := (g6.block k hk).1; injection e with e; omega)
          have hsz3 : w.heap.size ≤ w1.heap.size := Nat.le_trans hsz2 hg1.size
          have hb1 : Below B w w1 := g9.grown hg1 (by omega) (fun k hk => by injection hk with hk; omega)
          go_wp2_with (at_builtin; refine wpList_appG _ rfl _ _ rfl w.heap.size _ l2 _ ?_ ?_ o6 hq hsz3 ?_; rfl; rfl)
          intro v' w2 ho2 hb2 hother
          obtain ⟨o7, ap⟩ := hother _ _ _ o5 g7
          have hs2 := hs1.keep hb2 hlt
          go_wp2
          go_roundw
          case rel => exact ⟨p + 1, by omega, by go_num, ⟨l1, l2 ++ [r], g1, g2, by simp [g3], app63 g4 (g2 _ hr).1 (g2 _ hr).2, o7, ho2, ap, hs2.mono (by omega), hb1.trans (hb2.mono (by omega))⟩⟩
          case measure => simp [intOf]; omega
        · have hneg : ¬ (0 : Int) < (N : Int) - p := by omega
          go_wp2
          go_ret
          exact ⟨_, l2, rfl, by omega, g4, g6, g9⟩
end Go.Proofs.Ytbjgfbhfmaddgaa.Sr
namespace Go.Proofs.Ytbjgfbhfmaddgaa.R8
open Go.RowKit
def Under (n : Int) (w : World) (e : Ending) (w' : World) : Prop := ∃ r : Int, 0 ≤ r ∧ r < n ∧ e = .returned (.int .i64 r) ∧ w = w'
theorem under_mk {n r : Int} {w : World} {v : Value} (h0 : 0 ≤ r) (h1 : r < n) (hv : v = .int .i64 r) : Under n w (.returned v) w := ⟨r, h0, h1, by rw [hv], rfl⟩
theorem at_any (a : Option Addr) (len cap : Nat) (zs : List Int) (w : World) (h : IsRow .u8 w a len cap zs) (i n : Int) (hi0 : 0 ≤ i) (hi1 : i ≤ 1000) (hn0 : 1 ≤ n) (hn1 : n ≤ 1000000000) :
    Calls Try.prog 17 #[.slice a len cap, .int .i64 i, .int .i64 n] w (Under n w) := by
  by_cases hn : n ≤ 1
  · go_enter Try.func17, Try.ntmps17
    go_wp2
    go_ret
    exact under_mk (by omega) (by omega) rfl
  · by_cases hl : i < len
    · obtain ⟨b, off, rfl, hlc, hcm, hz, hc, hwz⟩ := h.at (by omega)
      obtain ⟨k, rfl⟩ := Int.eq_ofNat_of_zero_le hi0
      have hc0 := hc k (by omega)
      have hu := bounds_u8 (hwz k (by omega))
      have hk : k < zs.length := by omega
      clear hc hwz h
      generalize zs.getD k 0 = u at *
      have hu2 : u % n < n := Int.emod_lt_of_pos _ (by omega)
      have hu3 : 0 ≤ u % n := Int.emod_nonneg _ (by omega)
      have hge : ¬ (len : Int) ≤ (k : Int) := by omega
      go_enter Try.func17, Try.ntmps17
      go_wp2
      go_ret
      exact under_mk hu3 hu2 rfl
    · have hge : (len : Int) ≤ i := by omega
      go_enter Try.func17, Try.ntmps17
      go_wp2
      go_ret
      exact under_mk (by omega) (by omega) rfl
theorem long_no (a0 : Option Addr) (len0 cap0 : Nat) (a1 : Option Addr) (len1 cap1 : Nat) (w : World) (h0 : len0 ≤ 48) (h1 : len1 ≤ 48) :
    Calls Try.prog 15 #[.slice a0 len0 cap0, .slice a1 len1 cap1] w fun e w' => e = .returned (.bool false) ∧ w = w' := by
  have g0 : ¬ (48 : Int) < len0 := by omega
  have g1 : ¬ (48 : Int) < len1 := by omega
  go_enter Try.func15, Try.ntmps15
  go_wp2
  go_ret
  exact ⟨rfl, rfl⟩
theorem long_yes (a0 : Option Addr) (len0 cap0 : Nat) (a1 : Option Addr) (len1 cap1 : Nat) (w : World) (h : 48 < len0 ∨ 48 < len1) :
    Calls Try.prog 15 #[.slice a0 len0 cap0, .slice a1 len1 cap1] w fun e w' => e = .returned (.bool true) ∧ w = w' := by
  by_cases g0 : (48 : Int) < len0
  · go_enter Try.func15, Try.ntmps15
    go_wp2
    go_ret
    exact ⟨rfl, rfl⟩
  · have g1 : (48 : Int) < len1 := by omega
    go_enter Try.func15, Try.ntmps15
    go_wp2
    go_ret
    exact ⟨rfl, rfl⟩
/-- The bytes of a list that came in. -/
theorem byt_of {a : Option Addr} {len cap : Nat} {zs : List Int} {w : World} (h : IsRow .u8 w a len cap zs) : Sr.Byt w w.heap.size a len := fun i hi => by
  obtain ⟨b, off, ha, _, _, _, hc, hw⟩ := h.at (by omega)
  have := bounds_u8 (hw i hi)
  exact ⟨b, off, ha, World.block_lt_of_cell? w _ (hc i hi), _, hc i hi, by omega, by omega⟩
/-- What drawn uses are. -/
def Us (w : World) (e : Ending) (w' : World) : Prop := ∃ v l, e = .returned v ∧ Tr.okU l = true ∧ l.length ≤ 13 ∧ Own w' w.heap.size v l ∧ Below w.heap.size w w'
theorem okU_of (l : List Int) (h : l.length ≤ 60) (hm : ∀ y ∈ l, 0 ≤ y ∧ y ≤ 63) : Tr.okU l = true := by
  unfold Tr.okU
  rw [decide_eq_true h, Bool.true_and, List.all_eq_true]
  intro y hy
  obtain ⟨h0, h1⟩ := hm y hy
  exact Tr.isA_yes h0 h1
set_option maxHeartbeats 1000000 in
theorem uses_any (a : Option Addr) (len cap : Nat) (zs : List Int) (w : World) (hl : len ≤ 48) (h : IsRow .u8 w a len cap zs) :
    Calls Try.prog 16 #[.slice a len cap] w (Us w) := by
  have hby := byt_of h
  have h0 : Sr.Src (w.alloc (.cells #[.slice a len cap, .int .i64 0, .int .u64 0] 83)) w.heap.size w.heap.size a len cap 0 :=
    ⟨Nat.le_refl _, hby.below ((Below.refl _ _).alloc (Nat.le_refl _) _), 0, 0, Nat.le_refl _, by omega, by omega, by unfold World.alloc; exact Array.getElem?_push_size⟩
  have hb0 : Below w.heap.size w (w.alloc (.cells #[.slice a len cap, .int .i64 0, .int .u64 0] 83)) := (Below.refl _ _).alloc (Nat.le_refl _) _
  have hF : Hid (Calls Try.prog 28 #[.slice a len cap] w fun e w' => e = .returned (.pointer (some ⟨w.heap.size, 0, none⟩)) ∧ Sr.Src w' w.heap.size w.heap.size a len cap 0 ∧ Below w.heap.size w w') := by
    have H0 := Lib.hid h0
    have HB := Lib.hid hb0
    clear h0 hb0 hby h
    show Calls _ _ _ _ _
    go_enter Try.func28, Try.ntmps28
    go_wp2
    go_ret
    exact ⟨rfl, H0.out, HB.out⟩
  clear h0 hb0 hby h
  go_enter Try.func16, Try.ntmps16
  go_wp2_with fail
  refine hF.out.mono ?_
  rintro e w1 ⟨rfl, s1, b1⟩
  go_wp2_with fail
  refine (Sr.pick_s w.heap.size w.heap.size len cap 0 14 a w1 (by omega) (by omega) (by omega) (by omega) s1).mono ?_
  rintro e w2 ⟨r, hr0, hr1, rfl, s2, g2⟩
  have b2 : Below w.heap.size w w2 := b1.grown g2 b1.size (fun k hk => by injection hk with hk; omega)
  go_wp2_with fail
  refine (Sr.pick_s w.heap.size w.heap.size len cap 1 5 a w2 (by omega) (by omega) (by omega) (by omega) s2).mono ?_
  rintro e w3 ⟨q, hq0, hq1, rfl, s3, g3⟩
  have b3 : Below w.heap.size w w3 := b2.grown g3 b2.size (fun k hk => by injection hk with hk; omega)
  obtain ⟨N, rfl⟩ := Int.eq_ofNat_of_zero_le hr0
  obtain ⟨M, rfl⟩ := Int.eq_ofNat_of_zero_le hq0
  have hf := Sr.few_s w.heap.size w.heap.size len cap 2 N (1 + M) a w3 (by omega) (by omega) (by omega) (by omega) (by omega) s3
  have e1 : (((1 + M : Nat)) : Int) = 1 + (M : Int) := by omega
  rw [e1] at hf
  have HF := Lib.hid hf
  clear hf e1
  go_wp2_with fail
  refine HF.out.mono ?_
  rintro e w4 ⟨v, l, rfl, h1, h2, h3, h4⟩
  go_wp2
  go_ret
  exact ⟨v, l, rfl, okU_of l (by omega) h2, by omega, h3.mono b3.size, b3.trans h4⟩
end Go.Proofs.Ytbjgfbhfmaddgaa.R8
