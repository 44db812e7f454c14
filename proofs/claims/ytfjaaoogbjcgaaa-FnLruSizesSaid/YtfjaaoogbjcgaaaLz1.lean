/- Stacks that carry: a number becomes the first one, what stood first is carried; where numbers stood. No program. What the known policies keep: the last uses, and the last misses. No program. The sizes of the working sets add up to what each use is followed by until the next use of its address, or the end, at most the window. No program. First uses are as many as addresses; the gap of a next use; the counts add up to the uses. No program. The misses of the least recently used policies are those of the curve. No program. A list of the call's own in a variable of a structure: what a use of it keeps. append of one number: which blocks stay. The program's stack after a use, the one used last being first. The program's stack after a use, the one used last being first. All uses. The program's counts of places. Curves: the misses of all sizes out of places, the program's and the model's. Contracts of the uses before and behind a use: the model's and the program's. The model's distances, and its stack of the last uses. The model's curve, and its counts of distances. The model's counts of distances. Whether a number lies in a range: the program's test and the model's; sizes of curves. The contracts of both DistancesOf, DistanceCounts, StackOf and LruCurve. The least size with few misses: the search in a curve that never grows, and both SizeFor. -/
import Derived.Test.YtfjaaoogbjcgaaaPlainUses
import Derived.Test.YtfjaaoogbjcgaaaCappg
import Derived.Test.YtfjaaoogbjcgaaaCrd
import Derived.Laws.Rows
import Derived.Test.YtfjaaoogbjcgaaaCuses
import Derived.Test.YtfjaaoogbjcgaaaCRow
import Derived.WalkMore
import Derived.Laws.EntriesVeiled
import Derived.Test.YtfjaaoogbjcgaaaCapp
import Derived.Test.YtfjaaoogbjcgaaaCput
import Derived.IntWalk
namespace Go.Proofs.Ytfjaaoogbjcgaaa.Tr
/-- c is carried from index k on, a is looked for -/
def carry (f : Int → Int → Bool) (a : Int) : Int → Nat → List Int → List Int × Int
  | c, _, [] => ([c], -1)
  | c, k, t :: r => if t = a then (c :: r, (k : Int)) else if k = 0 ∨ f c t = true then (c :: (carry f a t (k + 1) r).1, (carry f a t (k + 1) r).2) else (t :: (carry f a c (k + 1) r).1, (carry f a c (k + 1) r).2)
def push (f : Int → Int → Bool) (st : List Int) (a : Int) : List Int × Int := carry f a a 0 st
def stackK (f : Int → Int → Bool) (xs : List Int) : Nat → List Int
  | 0 => []
  | n + 1 => (push f (stackK f xs n) (xs.getD n 0)).1
def stoodAt (f : Int → Int → Bool) (xs : List Int) (n : Nat) : Int := (push f (stackK f xs n) (xs.getD n 0)).2
theorem carry_perm (f : Int → Int → Bool) (a : Int) (r : List Int) : ∀ c k, List.Perm (carry f a c k r).1 (c :: r.erase a) := by
  induction r with
  | nil => intro c k; simp [carry]
  | cons t r ih =>
    intro c k
    unfold carry
    split
    · rename_i h; subst h; simp
    · rename_i h
      have e : (t :: r).erase a = t :: r.erase a := by rw [List.erase_cons_tail]; simpa using h
      rw [e]
      split
      · exact (ih t (k + 1)).cons c
      · exact ((ih c (k + 1)).cons t).trans (List.Perm.swap _ _ _)
theorem carry_place (f : Int → Int → Bool) (a : Int) (r : List Int) : ∀ c k, (carry f a c k r).2 = if a ∈ r then ((k + r.idxOf a : Nat) : Int) else -1 := by
  induction r with
  | nil => intro c k; simp [carry]
  | cons t r ih =>
    intro c k
    unfold carry
    split
    · rename_i h; subst h; simp
    · rename_i h
      have h' : ¬ a = t := fun e => h e.symm
      have e : (t :: r).idxOf a = r.idxOf a + 1 := by
        rw [List.idxOf_cons]; have : (t == a) = false := by simpa using h
        rw [this]; rfl
      have em : (a ∈ t :: r) = (a ∈ r) := by simp [h']
      rw [e]
      simp only [em]
      split
      · rw [ih]; split
        · congr 1; omega
        · rfl
      · rw [ih]; split
        · congr 1; omega
        · rfl
theorem carry_true (a : Int) (r : List Int) : ∀ c k, (carry (fun _ _ => true) a c k r).1 = c :: r.erase a := by
  induction r with
  | nil => intro c k; simp [carry]
  | cons t r ih =>
    intro c k
    unfold carry
    split
    · rename_i h; subst h; simp
    · rename_i h
      have e : (t :: r).erase a = t :: r.erase a := by rw [List.erase_cons_tail]; simpa using h
      rw [e, if_pos (.inr rfl)]
      simp [ih]
theorem push_perm (f : Int → Int → Bool) (st : List Int) (a : Int) : List.Perm (push f st a).1 (a :: st.erase a) := carry_perm f a st a 0
theorem push_mem (f : Int → Int → Bool) (st : List Int) (a y : Int) : y ∈ (push f st a).1 ↔ y = a ∨ y ∈ st := by
  rw [(push_perm f st a).mem_iff, List.mem_cons]
  constructor
  · rintro (h | h)
    · exact .inl h
    · exact .inr (List.mem_of_mem_erase h)
  · rintro (h | h)
    · exact .inl h
    · by_cases e : y = a
      · exact .inl e
      · exact .inr ((List.mem_erase_of_ne e).2 h)
theorem push_nodup (f : Int → Int → Bool) (st : List Int) (a : Int) (h : st.Nodup) : (push f st a).1.Nodup := by
  rw [(push_perm f st a).nodup_iff, List.nodup_cons]
  exact ⟨fun hm => by rw [h.mem_erase_iff] at hm; exact hm.1 rfl, h.erase a⟩
theorem push_len (f : Int → Int → Bool) (st : List Int) (a : Int) : (push f st a).1.length ≤ st.length + 1 := by
  rw [(push_perm f st a).length_eq, List.length_cons, List.length_erase]; split <;> omega
theorem push_place (f : Int → Int → Bool) (st : List Int) (a : Int) : (push f st a).2 = if a ∈ st then ((st.idxOf a : Nat) : Int) else -1 := by
  unfold push; rw [carry_place]; simp
theorem push_rng (f : Int → Int → Bool) (st : List Int) (a : Int) : -1 ≤ (push f st a).2 ∧ (push f st a).2 < st.length := by
  rw [push_place]; split
  · rename_i h; have := List.idxOf_lt_length_of_mem h; omega
  · omega
theorem stackK_len (f : Int → Int → Bool) (xs : List Int) (n : Nat) : (stackK f xs n).length ≤ n := by
  induction n with
  | zero => simp [stackK]
  | succ n ih => have := push_len f (stackK f xs n) (xs.getD n 0); simp only [stackK]; omega
theorem stackK_nodup (f : Int → Int → Bool) (xs : List Int) (n : Nat) : (stackK f xs n).Nodup := by
  induction n with
  | zero => simp [stackK]
  | succ n ih => exact push_nodup f _ _ ih
theorem stackK_mem (f : Int → Int → Bool) (xs : List Int) (n : Nat) (hn : n ≤ xs.length) (y : Int) : y ∈ stackK f xs n ↔ y ∈ xs.take n := by
  induction n with
  | zero => simp [stackK]
  | succ n ih =>
    have hx := getD_get' xs n (by omega)
    rw [stackK, push_mem, ih (by omega), List.take_succ_eq_append_getElem (by omega), hx]
    simp only [List.mem_append, List.mem_singleton]
    constructor <;> (rintro (h | h) <;> simp [h])
theorem stood_rng (f : Int → Int → Bool) (xs : List Int) (n : Nat) : -1 ≤ stoodAt f xs n ∧ stoodAt f xs n < n := by
  have h1 := push_rng f (stackK f xs n) (xs.getD n 0)
  have h2 := stackK_len f xs n
  unfold stoodAt; omega
/-! ### the stack of the last uses -/
abbrev always : Int → Int → Bool := fun _ _ => true
theorem push_true (st : List Int) (a : Int) (h : st.Nodup) : (push always st a).1 = a :: st.filter (fun x => x != a) := by
  rw [← h.erase_eq_filter]; exact carry_true a st a 0
theorem idxOf_while (st : List Int) (a : Int) : st.idxOf a = (st.takeWhile (fun x => x != a)).length := by
  induction st with
  | nil => rfl
  | cons t st ih =>
    rw [List.idxOf_cons, List.takeWhile_cons]
    by_cases h : t = a
    · subst h; simp
    · have h1 : (t == a) = false := by simpa using h
      have h2 : (t != a) = true := by simpa using h
      rw [h1, h2]; simp [ih]
theorem while_filter (st : List Int) (a u : Int) (hu : a ≠ u) (y : Int) :
    y ∈ (st.filter (fun x => x != u)).takeWhile (fun x => x != a) ↔ y ≠ u ∧ y ∈ st.takeWhile (fun x => x != a) := by
  induction st with
  | nil => simp
  | cons t st ih =>
    rw [List.filter_cons]
    by_cases h : t = u
    · subst h
      have h2 : (t != a) = true := by simpa using fun e => hu e.symm
      have h3 : (t != t) = false := by simp
      rw [h3, List.takeWhile_cons, h2]
      simp only [Bool.false_eq_true, ↓reduceIte, List.mem_cons]
      rw [ih]
      constructor
      · rintro ⟨h1, h2⟩; exact ⟨h1, .inr h2⟩
      · rintro ⟨h1, h2⟩; exact ⟨h1, h2.resolve_left h1⟩
    · have h3 : (t != u) = true := by simpa using h
      rw [h3, if_pos rfl, List.takeWhile_cons, List.takeWhile_cons]
      by_cases h4 : t = a
      · subst h4; simp
      · have h5 : (t != a) = true := by simpa using h4
        rw [h5, if_pos rfl, if_pos rfl, List.mem_cons, List.mem_cons, ih]
        constructor
        · rintro (rfl | h6)
          · exact ⟨h, .inl rfl⟩
          · exact ⟨h6.1, .inr h6.2⟩
        · rintro ⟨h6, h7 | h7⟩
          · exact .inl h7
          · exact .inr ⟨h6, h7⟩
theorem lastAt_le (xs : List Int) (x : Int) (m : Nat) : -1 ≤ lastAt xs x m ∧ lastAt xs x m < m := by
  induction m with
  | zero => simp [lastAt]
  | succ m ih => unfold lastAt; split <;> omega
theorem last_none (xs : List Int) (a : Int) (n : Nat) (hn : n ≤ xs.length) (h : lastAt xs a n < 0) : a ∉ xs.take n := by
  induction n with
  | zero => simp
  | succ n ih =>
    unfold lastAt at h
    rw [List.take_succ_eq_append_getElem (by omega), List.mem_append]
    split at h
    · omega
    · rename_i hne
      rw [getD_get' xs n (by omega)] at hne
      rintro (h1 | h1)
      · exact ih (by omega) h h1
      · simp at h1; exact hne h1.symm
theorem while_last (xs : List Int) (n : Nat) (hn : n ≤ xs.length) : ∀ (a : Int) (m : Nat), lastAt xs a n = (m : Int) →
    a ∈ stackK always xs n ∧ ∀ y, y ∈ (stackK always xs n).takeWhile (fun x => x != a) ↔ y ∈ (xs.take n).drop (m + 1) := by
  induction n with
  | zero => intro a m h; simp only [lastAt] at h; omega
  | succ n ih =>
    intro a m h
    have hx := getD_get' xs n (by omega)
    have hst : stackK always xs (n + 1) = xs.getD n 0 :: (stackK always xs n).filter (fun x => x != xs.getD n 0) := push_true _ _ (stackK_nodup _ _ _)
    unfold lastAt at h
    rw [hst]
    split at h
    · rename_i e
      have em : m = n := by omega
      subst em
      rw [e]
      refine ⟨by simp, fun y => ?_⟩
      have h0 : (a != a) = false := by simp
      rw [List.takeWhile_cons, h0, List.drop_eq_nil_of_le (by simp; omega)]
      simp
    · rename_i e
      have hm : (m : Int) < n := h ▸ (lastAt_le xs a n).2
      obtain ⟨i1, i2⟩ := ih (by omega) a m h
      refine ⟨List.mem_cons_of_mem _ (List.mem_filter.2 ⟨i1, by simpa using fun e2 : a = _ => e e2.symm⟩), fun y => ?_⟩
      have h2 : (xs.getD n 0 != a) = true := by simpa using e
      rw [List.takeWhile_cons, h2, if_pos rfl, List.mem_cons, while_filter _ _ _ (fun e2 => e e2.symm), i2,
        List.take_succ_eq_append_getElem (by omega), List.drop_append_of_le_length (by simp; omega), List.mem_append, ← hx, List.mem_singleton]
      constructor
      · rintro (h3 | h3)
        · exact .inr h3
        · exact .inl h3.2
      · rintro (h3 | h3)
        · by_cases h4 : y = xs.getD n 0
          · exact .inl h4
          · exact .inr ⟨h4, h3⟩
        · exact .inl h3
/-- the other addresses since the last use -/
def sinceP (xs : List Int) (i m : Nat) : List Int := setP ((xs.take i).drop (m + 1))
theorem stood_first (xs : List Int) (i : Nat) (hi : i < xs.length) (h : lastAt xs (xs.getD i 0) i < 0) : stoodAt always xs i = -1 := by
  unfold stoodAt
  rw [push_place, if_neg]
  rw [stackK_mem _ _ _ (by omega)]
  exact last_none _ _ _ (by omega) h
theorem stood_again (xs : List Int) (i m : Nat) (hi : i < xs.length) (h : lastAt xs (xs.getD i 0) i = (m : Int)) : stoodAt always xs i = ((sinceP xs i m).length : Int) := by
  obtain ⟨h1, h2⟩ := while_last xs i (by omega) _ m h
  unfold stoodAt
  rw [push_place, if_pos h1, idxOf_while]
  congr 1
  refine List.Perm.length_eq ?_
  have hn : ((stackK always xs i).takeWhile (fun x => x != xs.getD i 0)).Nodup := (List.takeWhile_sublist _).nodup (stackK_nodup _ _ _)
  exact (List.perm_ext_iff_of_nodup hn (up_nodup (setP_up _))).2 fun y => by rw [h2 y, mem_setP]
/-! ### counts of places, and curves -/
/-- a place is counted -/
def bump (cs : List Int) (p : Int) : List Int :=
  if p < 0 then cs else (cs ++ List.replicate (p.toNat + 1 - cs.length) 0).set p.toNat ((cs ++ List.replicate (p.toNat + 1 - cs.length) 0).getD p.toNat 0 + 1)
def bumps (ds : List Int) : Nat → List Int
  | 0 => []
  | n + 1 => bump (bumps ds n) (ds.getD n 0)
theorem bump_len (cs : List Int) (p : Int) : (bump cs p).length = if p < 0 then cs.length else max cs.length (p.toNat + 1) := by
  unfold bump; split <;> simp; omega
theorem bump_get (cs : List Int) (p : Int) (i : Nat) : (bump cs p).getD i 0 = cs.getD i 0 + if p = (i : Int) then 1 else 0 := by
  unfold bump
  split
  · rw [if_neg (by omega), Int.add_zero]
  · rename_i hp
    have hext : ∀ j, (cs ++ List.replicate (p.toNat + 1 - cs.length) (0 : Int)).getD j 0 = cs.getD j 0 := by
      intro j
      simp only [List.getD_eq_getElem?_getD]
      by_cases hj : j < cs.length
      · rw [List.getElem?_append_left hj]
      · rw [List.getElem?_append_right (by omega), List.getElem?_eq_none (l := cs) (by omega), List.getElem?_replicate]
        split <;> rfl
    rw [hext]
    by_cases e : p.toNat = i
    · rw [if_pos (by omega), e, List.getD_eq_getElem?_getD, List.getElem?_set_self (by simp; omega)]; rfl
    · rw [if_neg (by omega), Int.add_zero, ← hext i, List.getD_eq_getElem?_getD, List.getElem?_set_ne e, ← List.getD_eq_getElem?_getD]
theorem bumps_len (ds : List Int) (K : Nat) (hd : ∀ j, j < ds.length → ds.getD j 0 < K) (n : Nat) (hn : n ≤ ds.length) : (bumps ds n).length ≤ K := by
  induction n with
  | zero => simp [bumps]
  | succ n ih =>
    have h1 := hd n (by omega)
    have h2 := ih (by omega)
    rw [bumps, bump_len]; split <;> omega
theorem bumps_get (ds : List Int) (n : Nat) (hn : n ≤ ds.length) (i : Nat) : (bumps ds n).getD i 0 = ((ds.take n).countP (fun d => d == (i : Int)) : Nat) := by
  induction n with
  | zero => simp [bumps]
  | succ n ih =>
    have hx := getD_get' ds n (by omega)
    rw [bumps, bump_get, ih (by omega), List.take_succ_eq_append_getElem (by omega), List.countP_append, hx]
    simp only [List.countP_cons, List.countP_nil, beq_iff_eq]
    split <;> simp
/-- the misses of a size -/
def missP (ds : List Int) (n : Nat) : Nat := ds.countP (fun d => decide (d < 0) || decide ((n : Int) ≤ d))
theorem miss_zero (ds : List Int) : missP ds 0 = ds.length := by
  unfold missP
  rw [List.countP_eq_length]
  intro d _
  by_cases h : d < 0
  · simp [h]
  · have : (0 : Int) ≤ d := by omega
    simp [this]
theorem miss_succ (ds : List Int) (n : Nat) : missP ds n = missP ds (n + 1) + ds.countP (fun d => d == (n : Int)) := by
  unfold missP
  induction ds with
  | nil => rfl
  | cons d ds ih =>
    simp only [List.countP_cons, ih]
    by_cases h1 : d < 0
    · have h2 : ¬ d = (n : Int) := by omega
      simp [h1, h2]; omega
    · by_cases h2 : d = (n : Int)
      · subst h2; simp [h1]; split <;> omega
      · by_cases h3 : (n : Int) + 1 ≤ d
        · have h4 : (n : Int) ≤ d := by omega
          simp [h1, h2, h3, h4]; omega
        · have h4 : ¬ (n : Int) ≤ d := by omega
          simp [h1, h2, h3, h4]
theorem miss_step (ds : List Int) (n : Nat) : ((missP ds (n + 1) : Nat) : Int) = (missP ds n : Nat) - (bumps ds ds.length).getD n 0 := by
  have h1 := miss_succ ds n
  rw [bumps_get _ _ (Nat.le_refl _), List.take_length]; omega
theorem miss_le (ds : List Int) (n : Nat) : missP ds n ≤ ds.length := List.countP_le_length
def missK (ds : List Int) (n j : Nat) : Nat := (ds.take j).countP (fun d => decide (d < 0) || decide ((n : Int) ≤ d))
theorem missK_succ (ds : List Int) (n j : Nat) (hj : j < ds.length) : missK ds n (j + 1) = missK ds n j + if ds.getD j 0 < 0 ∨ (n : Int) ≤ ds.getD j 0 then 1 else 0 := by
  unfold missK
  rw [List.take_succ_eq_append_getElem hj, List.countP_append, getD_get' ds j hj]
  congr 1
  simp [List.countP_cons]
theorem missK_end (ds : List Int) (n : Nat) : missK ds n ds.length = missP ds n := by simp [missK, missP]
theorem missK_le (ds : List Int) (n j : Nat) : missK ds n j ≤ j := by
  have h1 : missK ds n j ≤ (ds.take j).length := List.countP_le_length
  rw [List.length_take] at h1; omega
/-- the curve -/
def curveP (ds : List Int) (most : Nat) : List Int := told (fun n => ((missP ds n : Nat) : Int)) (most + 1)
theorem curve_len (ds : List Int) (most : Nat) : (curveP ds most).length = most + 1 := told_length _ _
end Go.Proofs.Ytfjaaoogbjcgaaa.Tr
namespace Go.Proofs.Ytfjaaoogbjcgaaa.Pv
open Tr (stackK always)
/-- Contents after a use, where what was not used for longest is replaced. -/
def lruS (c : List Int) (x : Int) : List Int := if x ∈ c then x :: c.erase x else x :: c.dropLast
def lruK (n : Nat) (xs : List Int) : Nat → List Int
  | 0 => List.replicate n (-1)
  | j + 1 => lruS (lruK n xs j) (xs.getD j 0)
theorem erase_take (P : List Int) (x : Int) : ∀ n, x ∈ P.take n → (P.take n).erase x = (P.erase x).take (n - 1) := by
  induction P with
  | nil => intro n h; simp at h
  | cons p P ih =>
    intro n h
    cases n with
    | zero => simp at h
    | succ n =>
      rw [List.take_succ_cons] at h ⊢
      by_cases e : p = x
      · subst e; simp
      · have e1 : (p == x) = false := by simpa using e
        rw [List.erase_cons_tail (by simpa using e), List.erase_cons_tail (by simpa using e)]
        have hm : x ∈ P.take n := by
          rcases List.mem_cons.1 h with h | h
          · exact absurd h.symm e
          · exact h
        rw [ih n hm]
        cases n with
        | zero => simp at hm
        | succ n => simp
theorem take_erase (P : List Int) (x : Int) : ∀ m, x ∉ P.take m → (P.erase x).take m = P.take m := by
  induction P with
  | nil => intro m _; simp
  | cons p P ih =>
    intro m h
    cases m with
    | zero => simp
    | succ m =>
      rw [List.take_succ_cons] at h ⊢
      have e : ¬ p = x := fun e => h (by rw [e]; exact List.mem_cons_self)
      rw [List.erase_cons_tail (by simpa using e), List.take_succ_cons, ih m (fun hm => h (List.mem_cons_of_mem _ hm))]
theorem lru_stack (n : Nat) (xs : List Int) (h1 : 1 ≤ n) (hx : ∀ y ∈ xs, 0 ≤ y) (j : Nat) (hj : j ≤ xs.length) : lruK n xs j = (stackK always xs j ++ List.replicate n (-1)).take n := by
  induction j with
  | zero => simp [lruK, stackK]
  | succ j ih =>
    have hxj : 0 ≤ xs.getD j 0 := by rw [Tr.getD_get' xs j (by omega)]; exact hx _ (List.getElem_mem _)
    have hst : stackK always xs (j + 1) = xs.getD j 0 :: (stackK always xs j).erase (xs.getD j 0) := by
      show (Tr.push always _ _).1 = _
      rw [Tr.push_true _ _ (Tr.stackK_nodup _ _ _), (Tr.stackK_nodup _ _ _).erase_eq_filter]
    rw [lruK, ih (by omega), hst]
    generalize xs.getD j 0 = x at *
    generalize stackK always xs j = S at *
    have hP : (S ++ List.replicate n (-1)).erase x = S.erase x ++ List.replicate n (-1) := by
      by_cases hm : x ∈ S
      · rw [List.erase_append_left _ hm]
      · have hr : x ∉ List.replicate n (-1 : Int) := fun hr => by have := List.eq_of_mem_replicate hr; omega
        rw [List.erase_of_not_mem hm, List.erase_of_not_mem (by simp [hm]; intro _ e; omega)]
    obtain ⟨m, rfl⟩ : ∃ m, n = m + 1 := ⟨n - 1, by omega⟩
    have hPl : m + 1 ≤ (S ++ List.replicate (m + 1) (-1)).length := by rw [List.length_append, List.length_replicate]; omega
    rw [List.cons_append, List.take_succ_cons, ← hP]
    generalize S ++ List.replicate (m + 1) (-1) = P at *
    have hl : (P.take (m + 1)).length ≤ m + 1 := List.length_take_le _ _
    unfold lruS
    split
    · rename_i hm
      rw [erase_take P x (m + 1) hm]; rfl
    · rename_i hm
      congr 1
      have hm2 : x ∉ P.take m := fun h => hm (List.mem_of_mem_take (i := m) (by rw [List.take_take, Nat.min_eq_left (by omega)]; exact h))
      rw [take_erase P x m hm2]
      rw [List.dropLast_eq_take, List.take_take, List.length_take]
      congr 1
      omega
/-! ### scanning from the end -/
def dd : List Int → List Int
  | [] => []
  | y :: t => y :: (dd t).filter (fun z => z != y)
def sc (W : Nat) : List Int → List Int → List Int
  | acc, [] => acc
  | acc, y :: t => if y ∉ acc ∧ acc.length < W then sc W (acc ++ [y]) t else sc W acc t
theorem sc_snoc (W : Nat) (ys : List Int) (y : Int) : ∀ acc, sc W acc (ys ++ [y]) = if y ∉ sc W acc ys ∧ (sc W acc ys).length < W then sc W acc ys ++ [y] else sc W acc ys := by
  induction ys with
  | nil =>
    intro acc
    rfl
  | cons z t ih =>
    intro acc
    rw [List.cons_append]
    simp only [sc]
    split
    · exact ih _
    · exact ih _
theorem sc_dd (W : Nat) (ys : List Int) : ∀ acc : List Int, acc.length ≤ W → sc W acc ys = (acc ++ (dd ys).filter (fun z => !(acc.contains z))).take W := by
  induction ys with
  | nil => intro acc h; simp [sc, dd, List.take_of_length_le h]
  | cons y t ih =>
    intro acc h
    simp only [sc, dd]
    by_cases hy : y ∈ acc
    · rw [if_neg (by simp [hy]), ih acc h, List.filter_cons]
      have hc : acc.contains y = true := by simpa using hy
      rw [hc]
      simp only [Bool.not_true, Bool.false_eq_true, ↓reduceIte, List.filter_filter]
      congr 2
      refine List.filter_congr fun z _ => ?_
      by_cases hz : z ∈ acc
      · simp [hz]
      · have : z ≠ y := fun e => hz (e ▸ hy)
        simp [hz, this]
    · have hc : acc.contains y = false := by simpa using hy
      rw [List.filter_cons, hc]
      simp only [Bool.not_false, ↓reduceIte, List.filter_filter]
      by_cases hl : acc.length < W
      · rw [if_pos ⟨hy, hl⟩, ih (acc ++ [y]) (by simp; omega), List.append_assoc, List.singleton_append]
        congr 3
        refine List.filter_congr fun z _ => ?_
        by_cases hz : z ∈ acc
        · simp [hz]
        · by_cases e : z = y
          · simp [e]
          · simp [hz, e]
      · rw [if_neg (by simp [hl]), ih acc h]
        have hW : W = acc.length := by omega
        rw [hW, List.take_left', List.take_left'] <;> rfl
theorem dd_stack (xs : List Int) (j : Nat) (hj : j ≤ xs.length) : stackK always xs j = dd (xs.take j).reverse := by
  induction j with
  | zero => rfl
  | succ j ih =>
    have hst : stackK always xs (j + 1) = xs.getD j 0 :: (stackK always xs j).filter (fun z => z != xs.getD j 0) := Tr.push_true _ _ (Tr.stackK_nodup _ _ _)
    rw [hst, ih (by omega), List.take_succ_eq_append_getElem (by omega), Tr.getD_get' xs j (by omega), List.reverse_append]
    rfl
theorem filter_all (l : List Int) : l.filter (fun z => !(([] : List Int).contains z)) = l := by
  rw [List.filter_eq_self]; intro a _; simp
/-- What the scan has found after t uses from the end. -/
def laT (W : Nat) (xs : List Int) (t : Nat) : List Int := sc W [] (xs.reverse.take t)
theorem laT_succ (W : Nat) (xs : List Int) (t : Nat) (ht : t < xs.length) :
    laT W xs (t + 1) = if xs.getD (xs.length - 1 - t) 0 ∉ laT W xs t ∧ (laT W xs t).length < W then laT W xs t ++ [xs.getD (xs.length - 1 - t) 0] else laT W xs t := by
  unfold laT
  rw [List.take_succ_eq_append_getElem (by simpa using ht), List.getElem_reverse, sc_snoc, Tr.getD_get' xs (xs.length - 1 - t) (by omega)]
theorem laT_end (W : Nat) (xs : List Int) : laT W xs xs.length = (stackK always xs xs.length).take W := by
  unfold laT
  rw [List.take_of_length_le (by simp), sc_dd W _ [] (by simp), filter_all, dd_stack xs xs.length (Nat.le_refl _), List.take_length, List.nil_append]
theorem pad_take (S : List Int) (W : Nat) : S.take W ++ List.replicate (W - (S.take W).length) (-1) = (S ++ List.replicate W (-1)).take W := by
  rw [List.take_append, List.take_replicate, List.length_take]
  congr 2
  omega
theorem last_lru (W : Nat) (xs : List Int) (h1 : 1 ≤ W) (hx : ∀ y ∈ xs, 0 ≤ y) : laT W xs xs.length ++ List.replicate (W - (laT W xs xs.length).length) (-1) = lruK W xs xs.length := by
  rw [laT_end, pad_take, lru_stack W xs h1 hx xs.length (Nat.le_refl _)]
/-! ### the last misses -/
def fifoS (c : List Int) (x : Int) : List Int := if x ∈ c then c else x :: c.dropLast
def fifK (n : Nat) (xs : List Int) : Nat → List Int
  | 0 => List.replicate n (-1)
  | j + 1 => fifoS (fifK n xs j) (xs.getD j 0)
def revm (n : Nat) (xs : List Int) : Nat → List Int
  | 0 => []
  | j + 1 => if xs.getD j 0 ∈ fifK n xs j then revm n xs j else xs.getD j 0 :: revm n xs j
theorem fif_rev (n : Nat) (xs : List Int) (h1 : 1 ≤ n) (j : Nat) : fifK n xs j = (revm n xs j ++ List.replicate n (-1)).take n := by
  induction j with
  | zero => simp [fifK, revm]
  | succ j ih =>
    rw [fifK, revm]
    unfold fifoS
    split
    · exact ih
    · rw [ih]
      generalize revm n xs j = S
      obtain ⟨m, rfl⟩ : ∃ m, n = m + 1 := ⟨n - 1, by omega⟩
      have hPl : m + 1 ≤ (S ++ List.replicate (m + 1) (-1)).length := by rw [List.length_append, List.length_replicate]; omega
      rw [List.cons_append, List.take_succ_cons]
      congr 1
      rw [List.dropLast_eq_take, List.take_take, List.length_take]
      congr 1
      omega
/-- The misses among the last t uses, the latest first. -/
def tlT (n : Nat) (xs : List Int) : Nat → List Int
  | 0 => []
  | t + 1 => if xs.getD (xs.length - 1 - t) 0 ∈ fifK n xs (xs.length - 1 - t) then tlT n xs t else tlT n xs t ++ [xs.getD (xs.length - 1 - t) 0]
theorem tl_rev (n : Nat) (xs : List Int) (t : Nat) (ht : t ≤ xs.length) : revm n xs xs.length = tlT n xs t ++ revm n xs (xs.length - t) := by
  induction t with
  | zero => simp [tlT]
  | succ t ih =>
    rw [ih (by omega), tlT]
    have e : xs.length - t = (xs.length - 1 - t) + 1 := by omega
    have e2 : xs.length - (t + 1) = xs.length - 1 - t := by omega
    rw [e, e2, revm]
    split
    · rfl
    · rw [List.append_assoc]; rfl
theorem tl_end (n : Nat) (xs : List Int) : tlT n xs xs.length = revm n xs xs.length := by
  have h := tl_rev n xs xs.length (Nat.le_refl _)
  rw [Nat.sub_self] at h
  simpa [revm] using h.symm
theorem last_fif (W : Nat) (xs : List Int) (h1 : 1 ≤ W) : (tlT W xs xs.length).take W ++ List.replicate (W - ((tlT W xs xs.length).take W).length) (-1) = fifK W xs xs.length := by
  rw [tl_end, pad_take, fif_rev W xs h1]
theorem tl_step (n W : Nat) (xs : List Int) (t : Nat) : (tlT n xs (t + 1)).take W = if ¬ xs.getD (xs.length - 1 - t) 0 ∈ fifK n xs (xs.length - 1 - t) ∧ ((tlT n xs t).take W).length < W then (tlT n xs t).take W ++ [xs.getD (xs.length - 1 - t) 0] else (tlT n xs t).take W := by
  rw [tlT]
  by_cases h : xs.getD (xs.length - 1 - t) 0 ∈ fifK n xs (xs.length - 1 - t)
  · rw [if_pos h, if_neg (fun hh => hh.1 h)]
  · rw [if_neg h]
    by_cases hl : ((tlT n xs t).take W).length < W
    · rw [if_pos ⟨h, hl⟩]
      rw [List.length_take] at hl
      rw [List.take_append, List.take_of_length_le (l := [_]) (by simp; omega)]
    · rw [if_neg (fun hh => hl hh.2)]
      rw [List.length_take] at hl
      rw [List.take_append_of_le_length (by omega)]
end Go.Proofs.Ytfjaaoogbjcgaaa.Pv
namespace Go.Proofs.Ytfjaaoogbjcgaaa.Tr
theorem nextFrom_spec (xs : List Int) (x : Int) : ∀ m k, (nextFrom xs x k m = -1 ∧ ∀ t, k ≤ t → t < k + m → xs.getD t 0 ≠ x) ∨
    ∃ t, nextFrom xs x k m = (t : Nat) ∧ k ≤ t ∧ t < k + m ∧ xs.getD t 0 = x ∧ ∀ s, k ≤ s → s < t → xs.getD s 0 ≠ x
  | 0, k => .inl ⟨rfl, fun t h1 h2 => by omega⟩
  | m + 1, k => by
    have h0 : nextFrom xs x k (m + 1) = if xs.getD k 0 = x then (k : Int) else nextFrom xs x (k + 1) m := rfl
    by_cases h : xs.getD k 0 = x
    · exact .inr ⟨k, by rw [h0, if_pos h], by omega, by omega, h, fun s h1 h2 => by omega⟩
    · rw [if_neg h] at h0
      rcases nextFrom_spec xs x m (k + 1) with ⟨h1, h2⟩ | ⟨t, h1, h2, h3, h4, h5⟩
      · refine .inl ⟨by rw [h0, h1], fun t h3 h4 => ?_⟩
        by_cases e : t = k
        · subst e; exact h
        · exact h2 t (by omega) (by omega)
      · refine .inr ⟨t, by rw [h0, h1], by omega, by omega, h4, fun s h6 h7 => ?_⟩
        by_cases e : s = k
        · subst e; exact h
        · exact h5 s (by omega) h7
/-- where a use is followed by the next one, or the end -/
def endN (xs : List Int) (j : Nat) : Nat := if nextAt xs j < 0 then xs.length else (nextAt xs j).toNat
theorem endN_le (xs : List Int) (j : Nat) (hj : j < xs.length) : j < endN xs j ∧ endN xs j ≤ xs.length := by
  unfold endN nextAt
  rcases nextFrom_spec xs (xs.getD j 0) (xs.length - (j + 1)) (j + 1) with ⟨h1, _⟩ | ⟨t, h1, h2, h3, _, _⟩
  · rw [h1, if_pos (by omega)]; omega
  · rw [h1, if_neg (by omega)]; simp; omega
theorem endN_lt (xs : List Int) (j i : Nat) (hj : j < xs.length) (hi : i < xs.length) : i < endN xs j ↔ ∀ k, j < k → k ≤ i → xs.getD k 0 ≠ xs.getD j 0 := by
  unfold endN nextAt
  rcases nextFrom_spec xs (xs.getD j 0) (xs.length - (j + 1)) (j + 1) with ⟨h1, h2⟩ | ⟨t, h1, h2, h3, h4, h5⟩
  · rw [h1, if_pos (by omega)]
    exact ⟨fun _ k h3 h4 => h2 k (by omega) (by omega), fun _ => hi⟩
  · rw [h1, if_neg (by omega)]
    constructor
    · intro h k h6 h7
      exact h5 k (by omega) (by simp at h; omega)
    · intro h
      apply Classical.byContradiction
      intro hn
      exact h t (by omega) (by simp at hn; omega) h4
def sumTo (f : Nat → Nat) : Nat → Nat
  | 0 => 0
  | n + 1 => sumTo f n + f n
theorem sumTo_congr {f g : Nat → Nat} (n : Nat) (h : ∀ i, i < n → f i = g i) : sumTo f n = sumTo g n := by
  induction n with
  | zero => rfl
  | succ n ih => simp only [sumTo]; rw [ih fun i hi => h i (by omega), h n (by omega)]
theorem sumTo_zero (n : Nat) : sumTo (fun _ => 0) n = 0 := by
  induction n with
  | zero => rfl
  | succ n ih => simp [sumTo, ih]
theorem sumTo_add (f g : Nat → Nat) (n : Nat) : sumTo (fun i => f i + g i) n = sumTo f n + sumTo g n := by
  induction n with
  | zero => rfl
  | succ n ih => simp only [sumTo]; omega
theorem sumTo_swap (f : Nat → Nat → Nat) (n m : Nat) : sumTo (fun i => sumTo (f i) m) n = sumTo (fun j => sumTo (fun i => f i j) n) m := by
  induction n with
  | zero => simp [sumTo, sumTo_zero]
  | succ n ih => simp only [sumTo]; rw [ih, sumTo_add]
theorem sumTo_split (f : Nat → Nat) (a b : Nat) : sumTo f (a + b) = sumTo f a + sumTo (fun p => f (a + p)) b := by
  induction b with
  | zero => rfl
  | succ b ih => show sumTo f (a + b) + f (a + b) = _; rw [ih]; simp only [sumTo]; omega
/-- so many numbers from a to b - 1 -/
theorem sumTo_interval (a b n : Nat) (hb : b ≤ n) : sumTo (fun i => if a ≤ i ∧ i < b then 1 else 0) n = b - a := by
  induction n generalizing b with
  | zero => simp [sumTo]; omega
  | succ n ih =>
    simp only [sumTo]
    by_cases e : b = n + 1
    · subst e
      have h1 : sumTo (fun i => if a ≤ i ∧ i < n + 1 then 1 else 0) n = sumTo (fun i => if a ≤ i ∧ i < n then 1 else 0) n :=
        sumTo_congr n fun i hi => by
          by_cases h : a ≤ i
          · rw [if_pos ⟨h, by omega⟩, if_pos ⟨h, hi⟩]
          · rw [if_neg (fun h' => h h'.1), if_neg (fun h' => h h'.1)]
      rw [h1, ih n (Nat.le_refl _)]
      by_cases h : a ≤ n
      · rw [if_pos ⟨h, by omega⟩]; omega
      · rw [if_neg (fun h' => h h'.1)]; omega
    · rw [ih b (by omega), if_neg (by omega)]; omega
/-- how many places of a list hold what does not come again -/
def lastN : List Int → Nat
  | [] => 0
  | x :: l => (if x ∈ l then 0 else 1) + lastN l
theorem put_cons_length (s : List Int) (n : Int) (h : Up s) : (put s n).length = s.length + if n ∈ s then 0 else 1 := by
  by_cases hn : n ∈ s
  · rw [put_old h hn, if_pos hn]; rfl
  · rw [put_new h hn, if_neg hn]
    have := below_le s n
    simp; omega
theorem lastN_set (l : List Int) : lastN l = (setP l).length := by
  induction l with
  | nil => rfl
  | cons x l ih =>
    have e : setP (x :: l) = put (setP l) x := up_ext (setP_up _) (put_up _ (setP_up _)) fun y => by rw [mem_setP, mem_put, mem_setP, List.mem_cons]
    rw [e, put_cons_length _ _ (setP_up l), lastN, ih]
    by_cases h : x ∈ l
    · rw [if_pos h, if_pos ((mem_setP l x).2 h)]; omega
    · rw [if_neg h, if_neg (fun h' => h ((mem_setP l x).1 h'))]; omega
theorem lastN_sum (l : List Int) : lastN l = sumTo (fun p => if l.getD p 0 ∈ l.drop (p + 1) then 0 else 1) l.length := by
  induction l with
  | nil => rfl
  | cons x l ih =>
    rw [lastN, List.length_cons, Nat.add_comm l.length 1, sumTo_split, ih]
    simp [sumTo]
    exact sumTo_congr _ fun p _ => by rw [Nat.add_comm 1 p]; rfl
def wsP (xs : List Int) (q i : Nat) : List Int := setP ((xs.take (i + 1)).drop (i + 1 - q))
theorem ws_live (xs : List Int) (q i : Nat) (hi : i < xs.length) (hq : 1 ≤ q) :
    (wsP xs q i).length = sumTo (fun j => if j ≤ i ∧ i < j + q ∧ i < endN xs j then 1 else 0) xs.length := by
  unfold wsP
  rw [← lastN_set, lastN_sum]
  have hl : ((xs.take (i + 1)).drop (i + 1 - q)).length = i + 1 - (i + 1 - q) := by simp; omega
  rw [hl]
  obtain ⟨lo, hlo⟩ : ∃ lo, i + 1 - q = lo := ⟨_, rfl⟩
  rw [hlo]
  have e1 : xs.length = lo + ((i + 1 - lo) + (xs.length - (i + 1))) := by omega
  have e2 := sumTo_split (fun j => if j ≤ i ∧ i < j + q ∧ i < endN xs j then 1 else 0) lo ((i + 1 - lo) + (xs.length - (i + 1)))
  rw [← e1] at e2
  have e3 := sumTo_split (fun p => if lo + p ≤ i ∧ i < lo + p + q ∧ i < endN xs (lo + p) then 1 else 0) (i + 1 - lo) (xs.length - (i + 1))
  rw [e2, e3]
  have z1 : sumTo (fun j => if j ≤ i ∧ i < j + q ∧ i < endN xs j then 1 else 0) lo = 0 := by
    rw [sumTo_congr (g := fun _ => 0) lo fun j hj => by rw [if_neg (by omega)], sumTo_zero]
  have z2 : sumTo (fun p => if lo + (i + 1 - lo + p) ≤ i ∧ i < lo + (i + 1 - lo + p) + q ∧ i < endN xs (lo + (i + 1 - lo + p)) then 1 else 0) (xs.length - (i + 1)) = 0 := by
    rw [sumTo_congr (g := fun _ => 0) _ fun j hj => by rw [if_neg (by omega)], sumTo_zero]
  rw [z1, z2, Nat.zero_add, Nat.add_zero]
  refine sumTo_congr _ fun p hp => ?_
  have hg : ∀ r, r < i + 1 - lo → ((xs.take (i + 1)).drop lo).getD r 0 = xs.getD (lo + r) 0 := fun r hr => by
    rw [List.getD_eq_getElem?_getD, List.getD_eq_getElem?_getD, List.getElem?_drop, List.getElem?_take_of_lt (by omega)]
  have hiff : ((xs.take (i + 1)).drop lo).getD p 0 ∈ ((xs.take (i + 1)).drop lo).drop (p + 1) ↔ ¬ (i < endN xs (lo + p)) := by
    rw [endN_lt xs (lo + p) i (by omega) hi, hg p hp]
    constructor
    · intro hm hall
      obtain ⟨r, hr, er⟩ := List.mem_iff_getElem.1 hm
      have hr' : p + 1 + r < i + 1 - lo := by simp at hr; omega
      refine hall (lo + (p + 1 + r)) (by omega) (by omega) ?_
      rw [← er, ← hg _ hr', List.getElem_drop]
      rw [List.getD_eq_getElem?_getD, List.getElem?_eq_getElem]; rfl
    · intro hn
      have : ∃ k, lo + p < k ∧ k ≤ i ∧ xs.getD k 0 = xs.getD (lo + p) 0 := by
        apply Classical.byContradiction
        intro hno
        exact hn fun k h1 h2 h3 => hno ⟨k, h1, h2, h3⟩
      obtain ⟨k, h1, h2, h3⟩ := this
      rw [← h3, show k = lo + (p + 1 + (k - (lo + p + 1))) by omega, ← hg _ (by omega)]
      have hlt : k - (lo + p + 1) < (((xs.take (i + 1)).drop lo).drop (p + 1)).length := by simp; omega
      have := List.getElem_mem hlt
      rw [List.getElem_drop] at this
      rw [List.getD_eq_getElem?_getD, List.getElem?_eq_getElem (by simp; omega)]
      exact this
  by_cases h : i < endN xs (lo + p)
  · rw [if_neg (fun h' => hiff.1 h' h), if_pos ⟨by omega, by omega, h⟩]
  · rw [if_pos (hiff.2 h), if_neg (fun h' => h h'.2.2)]
/-- The sizes of the working sets add up to what each use is followed by, at most the window. -/
theorem working_sum (xs : List Int) (q : Nat) (hq : 1 ≤ q) : sumTo (fun i => (wsP xs q i).length) xs.length = sumTo (fun j => min (endN xs j - j) q) xs.length := by
  rw [sumTo_congr xs.length fun i hi => ws_live xs q i hi hq, sumTo_swap]
  refine sumTo_congr _ fun j hj => ?_
  have h := endN_le xs j hj
  rw [sumTo_congr (g := fun i => if j ≤ i ∧ i < min (endN xs j) (j + q) then 1 else 0) xs.length fun i _ => by
    by_cases c : j ≤ i ∧ i < j + q ∧ i < endN xs j
    · rw [if_pos c, if_pos (by omega)]
    · rw [if_neg c, if_neg (by omega)], sumTo_interval j (min (endN xs j) (j + q)) xs.length (by omega)]
  omega
end Go.Proofs.Ytfjaaoogbjcgaaa.Tr
namespace Go.Proofs.Ytfjaaoogbjcgaaa.Tr
theorem lastAt_spec (xs : List Int) (x : Int) : ∀ m, (lastAt xs x m = -1 ∧ ∀ t, t < m → xs.getD t 0 ≠ x) ∨
    ∃ t, lastAt xs x m = (t : Nat) ∧ t < m ∧ xs.getD t 0 = x ∧ ∀ s, t < s → s < m → xs.getD s 0 ≠ x
  | 0 => .inl ⟨rfl, fun t h => by omega⟩
  | m + 1 => by
    have h0 : lastAt xs x (m + 1) = if xs.getD m 0 = x then (m : Int) else lastAt xs x m := rfl
    by_cases h : xs.getD m 0 = x
    · exact .inr ⟨m, by rw [h0, if_pos h], by omega, h, fun s h1 h2 => by omega⟩
    · rw [if_neg h] at h0
      rcases lastAt_spec xs x m with ⟨h1, h2⟩ | ⟨t, h1, h2, h3, h4⟩
      · refine .inl ⟨by rw [h0, h1], fun t ht => ?_⟩
        by_cases e : t = m
        · subst e; exact h
        · exact h2 t (by omega)
      · refine .inr ⟨t, by rw [h0, h1], by omega, h3, fun s h5 h6 => ?_⟩
        by_cases e : s = m
        · subst e; exact h
        · exact h4 s h5 (by omega)
theorem gap_zero (xs : List Int) (i : Nat) (hi : i < xs.length) : gapAt xs i = 0 ↔ xs.getD i 0 ∉ xs.take i := by
  have hm : xs.getD i 0 ∈ xs.take i ↔ ∃ t, t < i ∧ xs.getD t 0 = xs.getD i 0 := by
    constructor
    · intro h
      obtain ⟨t, ht, e⟩ := List.mem_iff_getElem.1 h
      have ht' : t < i := by simp at ht; omega
      exact ⟨t, ht', by rw [← e, List.getElem_take, getD_get xs t (by omega)]⟩
    · rintro ⟨t, ht, e⟩
      rw [← e, getD_get xs t (by omega)]
      exact List.mem_iff_getElem.2 ⟨t, by simp; omega, by rw [List.getElem_take]⟩
  unfold gapAt
  rcases lastAt_spec xs (xs.getD i 0) i with ⟨h1, h2⟩ | ⟨t, h1, h2, h3, _⟩
  · rw [h1]
    simp only
    rw [if_pos (by omega), hm]
    exact ⟨fun _ ⟨t, ht, e⟩ => h2 t ht e, fun _ => rfl⟩
  · rw [h1]
    simp only
    rw [if_neg (by omega), hm]
    exact ⟨fun h => by omega, fun h => absurd ⟨t, h2, h3⟩ h⟩
/-- First uses are as many as addresses. -/
theorem first_sum (xs : List Int) : sumTo (fun i => if gapAt xs i = 0 then 1 else 0) xs.length = (setP xs).length := by
  have : ∀ j, j ≤ xs.length → sumTo (fun i => if gapAt xs i = 0 then 1 else 0) j = (setP (xs.take j)).length := by
    intro j
    induction j with
    | zero => intro _; simp [sumTo, setP]
    | succ j ih =>
      intro hj
      simp only [sumTo]
      rw [ih (by omega), List.take_succ_eq_append_getElem (show j < xs.length by omega), setP_snoc, put_cons_length _ _ (setP_up _), ← getD_get xs j (by omega)]
      by_cases h : gapAt xs j = 0
      · rw [if_pos h, if_neg (fun h' => (gap_zero xs j (by omega)).1 h ((mem_setP _ _).1 h'))]
      · rw [if_neg h, if_pos]
        apply Classical.byContradiction
        intro h'
        exact h ((gap_zero xs j (by omega)).2 fun h2 => h' ((mem_setP _ _).2 h2))
  have := this xs.length (Nat.le_refl _)
  rwa [List.take_length] at this
/-- The gap of a next use is how far it is behind. -/
theorem next_gap (xs : List Int) (i : Nat) (hi : i < xs.length) (h : ¬ nextAt xs i < 0) :
    ∃ t : Nat, nextAt xs i = t ∧ i < t ∧ t < xs.length ∧ xs.getD t 0 = xs.getD i 0 ∧ gapAt xs t = (t : Int) - i := by
  unfold nextAt at h ⊢
  rcases nextFrom_spec xs (xs.getD i 0) (xs.length - (i + 1)) (i + 1) with ⟨h1, _⟩ | ⟨t, h1, h2, h3, h4, h5⟩
  · rw [h1] at h; exact absurd (by omega) h
  · refine ⟨t, h1, by omega, by omega, h4, ?_⟩
    unfold gapAt
    have hl : lastAt xs (xs.getD t 0) t = (i : Nat) := by
      rw [h4]
      rcases lastAt_spec xs (xs.getD i 0) t with ⟨_, g2⟩ | ⟨s, g1, g2, g3, g4⟩
      · exact absurd rfl (g2 i (by omega))
      · rw [g1]
        by_cases e : s = i
        · rw [e]
        · exfalso
          rcases Nat.lt_or_gt_of_ne e with hlt | hlt
          · exact g4 i hlt (by omega) rfl
          · exact h5 s (by omega) g2 g3
    rw [hl]
    simp only
    rw [if_neg (by omega)]
theorem counts_length (xs : List Int) : (countsP xs).length = (setP xs).length := by simp [countsP]
theorem only_one (xs : List Int) (a : Int) : (onlyP xs [a]).length = xs.count a := by
  unfold onlyP
  rw [List.count_eq_countP, List.countP_eq_length_filter]
  congr 1
  refine List.filter_congr fun x _ => ?_
  have e : [a].contains x = decide (x = a) := by rw [List.contains_eq_mem]; congr 1; simp
  rw [e]
  by_cases h : x = a
  · rw [decide_eq_true h]; simp [h]
  · rw [decide_eq_false h]; simp [h]
theorem flat_sum (rs : List (Int × Nat)) : (rs.map fun r => ((r.2 : Nat) : Int)).sum = ((rs.flatMap fun r => List.replicate r.2 r.1).length : Nat) := by
  induction rs with
  | nil => rfl
  | cons r rs ih => simp [ih]
theorem counts_sum (xs : List Int) : (countsP xs).sum = (xs.length : Nat) := by
  have hp : (xs.mergeSort fun a b => decide (a ≤ b)).Perm xs := List.mergeSort_perm _ _
  have hs : (xs.mergeSort fun a b => decide (a ≤ b)).Pairwise (· ≤ ·) := by
    have := List.pairwise_mergeSort (le := fun a b : Int => decide (a ≤ b)) (fun a b c h1 h2 => by simp at h1 h2 ⊢; omega) (fun a b => by simp; omega) xs
    exact this.imp fun {a b} h => by simpa using h
  rw [← counts_runs xs _ hp hs, flat_sum, (runs_of _).flat, hp.length_eq]
theorem counts_get (xs : List Int) (k : Nat) (hk : k < (setP xs).length) : (countsP xs).getD k 0 = (xs.count ((setP xs).getD k 0) : Nat) := by
  rw [getD_get _ _ (by rw [counts_length]; exact hk), getD_get _ _ hk]
  simp [countsP]
end Go.Proofs.Ytfjaaoogbjcgaaa.Tr
namespace Go.Proofs.Ytfjaaoogbjcgaaa.Pv
open Tr
def dsP (xs : List Int) : List Int := told (stoodAt always xs) xs.length
theorem dsP_len (xs : List Int) : (dsP xs).length = xs.length := told_length _ _
theorem dsP_get (xs : List Int) (j : Nat) (h : j < xs.length) : (dsP xs).getD j 0 = stoodAt always xs j := by simp [dsP, told, List.getD_eq_getElem?_getD, h]
theorem mem_take_idx (S : List Int) (x : Int) : ∀ n, x ∈ S.take n ↔ x ∈ S ∧ S.idxOf x < n := by
  induction S with
  | nil => intro n; simp
  | cons p S ih =>
    intro n
    cases n with
    | zero => simp
    | succ n =>
      rw [List.take_succ_cons, List.mem_cons, List.mem_cons, ih n, List.idxOf_cons]
      by_cases e : p = x
      · subst e; simp
      · have e2 : (p == x) = false := by simpa using e
        have e3 : ¬ x = p := fun h => e h.symm
        rw [e2]
        simp only [e3, false_or, cond_false]
        constructor
        · rintro ⟨h1, h2⟩; exact ⟨h1, by omega⟩
        · rintro ⟨h1, h2⟩; exact ⟨h1, by omega⟩
theorem in_lru (n : Nat) (xs : List Int) (h1 : 1 ≤ n) (hx : ∀ y ∈ xs, 0 ≤ y) (j : Nat) (hj : j ≤ xs.length) (x : Int) (h0 : 0 ≤ x) : x ∈ lruK n xs j ↔ x ∈ stackK always xs j ∧ (stackK always xs j).idxOf x < n := by
  rw [lru_stack n xs h1 hx j hj, List.take_append, List.mem_append, mem_take_idx]
  constructor
  · rintro (h | h)
    · exact h
    · have := List.eq_of_mem_replicate (List.mem_of_mem_take h); omega
  · exact .inl
theorem hit_place (n : Nat) (xs : List Int) (h1 : 1 ≤ n) (hx : ∀ y ∈ xs, 0 ≤ y) (j : Nat) (hj : j < xs.length) : xs.getD j 0 ∈ lruK n xs j ↔ ¬ (stoodAt always xs j < 0 ∨ (n : Int) ≤ stoodAt always xs j) := by
  have h0 : 0 ≤ xs.getD j 0 := by rw [getD_get' xs j hj]; exact hx _ (List.getElem_mem _)
  rw [in_lru n xs h1 hx j (by omega) _ h0]
  unfold stoodAt
  rw [push_place]
  by_cases hm : xs.getD j 0 ∈ stackK always xs j
  · rw [if_pos hm]
    constructor
    · rintro ⟨_, h⟩; omega
    · intro h; exact ⟨hm, by omega⟩
  · rw [if_neg hm]
    constructor
    · rintro ⟨h, _⟩; exact absurd h hm
    · intro h; exact absurd (.inl (by omega)) h
theorem stood_neg (xs : List Int) (j : Nat) (hj : j < xs.length) : stoodAt always xs j < 0 ↔ gapAt xs j = 0 := by
  rw [gap_zero xs j hj]
  unfold stoodAt
  rw [push_place]
  have hm := stackK_mem always xs j (by omega) (xs.getD j 0)
  by_cases h : xs.getD j 0 ∈ stackK always xs j
  · rw [if_pos h]
    constructor
    · intro hh; omega
    · intro hh; exact absurd (hm.1 h) hh
  · rw [if_neg h]
    constructor
    · intro _ hh; exact h (hm.2 hh)
    · intro _; omega
theorem missK_first (xs : List Int) (n : Nat) (hn : xs.length ≤ n) : ∀ j, j ≤ xs.length → missK (dsP xs) n j = sumTo (fun i => if gapAt xs i = 0 then 1 else 0) j
  | 0, _ => by simp [missK, sumTo]
  | j + 1, h => by
    rw [missK_succ _ _ _ (by rw [dsP_len]; omega), missK_first xs n hn j (by omega), dsP_get xs j (by omega), sumTo]
    congr 1
    have h1 := stood_rng always xs j
    have h2 := stood_neg xs j (by omega)
    by_cases hs : stoodAt always xs j < 0
    · rw [if_pos (.inl hs), if_pos (h2.1 hs)]
    · rw [if_neg (by omega), if_neg (fun h => hs (h2.2 h))]
theorem miss_all (xs : List Int) (n : Nat) (hn : xs.length ≤ n) : missP (dsP xs) n = (setP xs).length := by
  rw [← missK_end, dsP_len, missK_first xs n hn _ (Nat.le_refl _)]
  exact first_sum xs
/-! ### the sum of the counts -/
theorem sum_set (L : List Int) : ∀ i, i < L.length → (L.set i (L.getD i 0 + 1)).sum = L.sum + 1 := by
  induction L with
  | nil => intro i h; simp at h
  | cons p L ih =>
    intro i h
    cases i with
    | zero => simp; omega
    | succ i =>
      have := ih i (by simpa using h)
      simp only [List.getD_eq_getElem?_getD] at this
      simp only [List.set_cons_succ, List.sum_cons, List.getD_eq_getElem?_getD, List.getElem?_cons_succ]
      omega
theorem sum_zeros (n : Nat) : (List.replicate n (0 : Int)).sum = 0 := by
  induction n with
  | zero => rfl
  | succ n ih => rw [List.replicate_succ, List.sum_cons, ih]; rfl
theorem bump_sum (cs : List Int) (p : Int) : (bump cs p).sum = cs.sum + if p < 0 then 0 else 1 := by
  unfold bump
  split
  · simp
  · rw [sum_set _ _ (by rw [List.length_append, List.length_replicate]; omega), List.sum_append, sum_zeros]; simp
theorem bumps_sum (ds : List Int) (K : Nat) (hd : ∀ j, j < ds.length → ds.getD j 0 < K) : ∀ n, n ≤ ds.length → (bumps ds n).sum = (n : Int) - (missK ds K n : Nat)
  | 0, _ => by simp [bumps, missK]
  | n + 1, h => by
    have h1 := hd n (by omega)
    rw [bumps, bump_sum, bumps_sum ds K hd n (by omega), missK_succ _ _ _ (by omega)]
    by_cases hs : ds.getD n 0 < 0
    · rw [if_pos hs, if_pos (.inl hs)]; omega
    · rw [if_neg hs, if_neg (by omega)]; omega
theorem counts_total (xs : List Int) (n : Nat) (hn : xs.length ≤ n) : (bumps (dsP xs) (dsP xs).length).sum = (xs.length : Int) - ((setP xs).length : Nat) := by
  rw [bumps_sum (dsP xs) n (fun j hj => by rw [dsP_len] at hj; rw [dsP_get xs j hj]; have := stood_rng always xs j; omega) _ (Nat.le_refl _), missK_end, miss_all xs n hn, dsP_len]
end Go.Proofs.Ytfjaaoogbjcgaaa.Pv
namespace Go.Proofs.Ytfjaaoogbjcgaaa
open Go.RowKit
/-- The stack's variable: its list and its function value. -/
def Stk (w : World) (p : Nat) (v fv : Value) : Prop := w.heap[p]? = some (.cells #[v, fv] 69 (0, 0))
theorem Stk.lt {w : World} {p : Nat} {v fv : Value} (h : Stk w p v fv) : p < w.heap.size := (Array.getElem?_eq_some_iff.1 h).1
theorem Stk.cells {w : World} {p : Nat} {v fv : Value} (h : Stk w p v fv) : w.cell? ⟨p, 0, none⟩ = some v ∧ w.cell? ⟨p, 1, none⟩ = some fv ∧ w.frozen? ⟨p, 0, none⟩ = false := by
  refine ⟨?_, ?_, frozen_of_row w p 0 _ _ h⟩
  · rw [cell_of_row w p 0 _ _ (0, 0) h]; rfl
  · rw [cell_of_row w p 1 _ _ (0, 0) h]; rfl
theorem Stk.set {w : World} {p : Nat} {v fv : Value} (h : Stk w p v fv) (u : Value) : Stk (w.setCell ⟨p, 0, none⟩ u) p u fv := by
  unfold Stk; rw [heap_setCell_same w p 0 _ _ u h]; rfl
theorem Stk.same {w w' : World} {p : Nat} {v fv : Value} (h : Stk w p v fv) (he : w'.heap[p]? = w.heap[p]?) : Stk w' p v fv := he.trans h
theorem Own.same {w w' : World} {B : Nat} {v : Value} {xs : List Int} (h : Own w B v xs) (he : ∀ k, v.ownBlock = some k → w'.heap[k]? = w.heap[k]?) : Own w' B v xs := by
  refine ⟨h.1, ?_⟩
  rcases h.2 with hn | ⟨g, cap, cur, hv, hg, hh, r⟩
  · exact .inl hn
  · exact .inr ⟨g, cap, cur, hv, hg, by rw [he g (by rw [hv]; rfl)]; exact hh, r⟩
theorem Own.at {w : World} {B : Nat} {sa : Option Addr} {N cap : Nat} {L : List Int} (h : Own w B (.slice sa N cap) L) (hl : L.length = N) (j : Nat) (hj : j < N) :
    ∃ g, sa = some ⟨g, 0, none⟩ ∧ B ≤ g ∧ g < w.heap.size ∧ w.cell? ⟨g, j, none⟩ = some (.int .i64 (L.getD j 0)) ∧ w.frozen? ⟨g, j, none⟩ = false ∧
      ∀ u, Own (w.setCell ⟨g, j, none⟩ (.int .i64 u)) B (.slice sa N cap) (L.set j u) ∧ w.grownBy (w.setCell ⟨g, j, none⟩ (.int .i64 u)) (some g) := by
  rcases h.cases with ⟨hv, hx⟩ | ⟨g, c, hv, h1, h2, h3, h4, h5⟩
  · subst hx; simp at hl; omega
  · injection hv with e1 e2 e3
    subst e1 e3
    refine ⟨g, rfl, h1, h2, h4 j (by omega), h5 j, fun u => ?_⟩
    have h0 : w.ownsRow B 2 1 (.slice (some ⟨g, 0, none⟩) N cap) L.length (L.map (Value.int .i64)) := h
    rw [hl] at h0
    have hst := World.ownsRow.stored h0 j (.int .i64 u)
    rw [← List.map_set] at hst
    refine ⟨?_, hst.2⟩
    show World.ownsRow _ _ _ _ _ (L.set j u).length _
    rw [List.length_set, hl]
    exact hst.1
/-- What is written elsewhere leaves the block. -/
theorem set_other {w : World} {b : Nat} {a : Addr} (u : Value) (h : b ≠ a.block) : (w.setCell a u).heap[b]? = w.heap[b]? := heap_setCell_other w a b u h
theorem wpList_appB {ops : Array Oper} {rest : List Oper} {o : Oper} {a : Act} {Q : Exit → Act → World → Prop} (wr : World) (hgd : o.guard = none) (s x : Operand)
    (ho : o.op = .call { callee := .builtin .append, args := #[s, x], argTypes := #[24, 24] })
    (B : Nat) (v : Value) (xs : List Int) (u : Int) (hs : a.eval s = v) (hx : a.eval x = .slice (some ⟨wr.heap.size, 0, none⟩) 1 1) (hown : Own wr B v xs)
    (hlen : xs.length + 1 ≤ 1000000000) (hB : B ≤ wr.heap.size)
    (h : ∀ v' w', Own w' B v' (xs ++ [u]) → Below B wr w' → (∀ k, k < wr.heap.size → v.ownBlock ≠ some k → w'.heap[k]? = wr.heap[k]?) → (∀ k, v'.ownBlock = some k → v.ownBlock = some k ∨ wr.heap.size ≤ k) → wpList Try.prog ops Q rest (a.put o.dst v') w') :
    wpList Try.prog ops Q (o :: rest) a (wr.alloc (.cells #[.int .i64 u] 2)) := by
  obtain ⟨i0, hi, hz0, hz1, hz2⟩ := info_parts infoI
  refine wpList_append_own_at _ hgd s x 24 ho B 2 i0 (.int .i64 0) 1 8 Try.underlying24 hi hz0 hz1 hz2 rfl (by decide) v xs.length (xs.map (Value.int .i64)) hs (World.ownsRow.alloc hown _)
    ⟨wr.heap.size, 0, none⟩ 1 1 [.int .i64 u] hx rfl (cell_one_new _ _ _) ?_ ?_ ?_ ?_ ?_
  · intro u' hu; simp at hu; subst hu; rfl
  · unfold maxLen; omega
  · omega
  · simp; omega
  · intro v' w' hown' hgrow _ hblk
    have hsz : (wr.alloc (.cells #[.int .i64 u] 2)).heap.size = wr.heap.size + 1 := Array.size_push _
    refine h v' w' ?_ ?_ ?_ ?_
    · show World.ownsRow _ _ _ _ _ (xs ++ [u]).length _
      rw [List.length_append, List.map_append]
      exact hown'
    · exact ((Below.refl B wr).alloc hB _).grown hgrow (by omega) (fun k hk => (Own.block hown k hk).1)
    · intro k hk hne
      rw [hgrow.block k (by omega) (fun e => hne e.symm)]
      exact Below.heap_alloc wr _ k hk
    · intro k hk
      rcases hblk with hb | hb
      · exact .inl (hb ▸ hk)
      · right; rw [hb, hsz] at hk; injection hk with hk; omega
theorem below_of {B : Nat} {w w' : World} {row : Option Nat} (hg : w.grownBy w' row) (hr : ∀ k, row = some k → B ≤ k) (hB : B ≤ w.heap.size) : Below B w w' := (Below.refl B w).grown hg hB hr
theorem World.grownBy.rfl' (w : World) (row : Option Nat) : w.grownBy w row := ⟨rfl, rfl, rfl, Nat.le_refl _, fun _ _ _ => rfl⟩
end Go.Proofs.Ytfjaaoogbjcgaaa
namespace Go.Proofs.Ytfjaaoogbjcgaaa.Tr
theorem carry_nil (f : Int → Int → Bool) (a c : Int) (k : Nat) : carry f a c k [] = ([c], -1) := rfl
theorem carry_hit (f : Int → Int → Bool) (a c : Int) (k : Nat) (r : List Int) : carry f a c k (a :: r) = (c :: r, (k : Int)) := by unfold carry; rw [if_pos rfl]
theorem carry_swap (f : Int → Int → Bool) (a c t : Int) (k : Nat) (r : List Int) (h : t ≠ a) (h2 : k = 0 ∨ f c t = true) : carry f a c k (t :: r) = (c :: (carry f a t (k + 1) r).1, (carry f a t (k + 1) r).2) := by
  show (if t = a then _ else _) = _
  rw [if_neg h, if_pos h2]
theorem carry_keep (f : Int → Int → Bool) (a c t : Int) (k : Nat) (r : List Int) (h : t ≠ a) (h1 : k ≠ 0) (h2 : f c t = false) : carry f a c k (t :: r) = (t :: (carry f a c (k + 1) r).1, (carry f a c (k + 1) r).2) := by
  show (if t = a then _ else _) = _
  rw [if_neg h, if_neg (by rw [h2]; simp [h1])]
/-- The rest from j on, taken apart. -/
theorem drop_at (st : List Int) (j : Nat) (h : j < st.length) : st.drop j = st.getD j 0 :: st.drop (j + 1) := by
  rw [List.drop_eq_getElem_cons h, getD_get' st j h]
theorem pre_get (pre r : List Int) (t : Int) (j : Nat) (h : pre.length = j) : (pre ++ t :: r).getD j 0 = t := by
  subst h; simp [List.getD_eq_getElem?_getD]
theorem pre_set (pre r : List Int) (t c : Int) (j : Nat) (h : pre.length = j) : (pre ++ t :: r).set j c = pre ++ c :: r := by
  subst h; simp
end Go.Proofs.Ytfjaaoogbjcgaaa.Tr
namespace Go.Proofs.Ytfjaaoogbjcgaaa
/-- What a test leaves that reads alone, in an order that is drawn. -/
def Dw (b : Bool) (w : World) (e : Ending) (w' : World) : Prop := e = .returned (.bool b) ∧ ∃ k, w' = w.drewN k
end Go.Proofs.Ytfjaaoogbjcgaaa
namespace Go.Proofs.Ytfjaaoogbjcgaaa.Tr
open Go.RowKit
set_option maxHeartbeats 2000000 in
set_option maxRecDepth 100000 in
theorem use_L (f : Int → Int → Bool) (B p : Nat) (v : Value) (st : List Int) (a : Int) (w : World) (hs : Stk w p v (.func (.func 20) #[] #[])) (ho : Own w B v st) (hBp : B ≤ p) (hsep : v.ownBlock ≠ some p) (hl : st.length ≤ 60) (hst : ∀ y ∈ st, 0 ≤ y ∧ y ≤ 63) (ha : 0 ≤ a ∧ a ≤ 63)
    (hF : ∀ c t w', 0 ≤ c ∧ c ≤ 63 → 0 ≤ t ∧ t ≤ 63 → Below B w w' → Calls Try.prog 20 #[.int .i64 c, .int .i64 t] w' (Bl (f c t) w')) :
    Calls Try.prog 37 #[.pointer (some ⟨p, 0, none⟩), .int .i64 a] w (fun e w' => e = .returned (.int .i64 (push f st a).2) ∧ ∃ v', Stk w' p v' (.func (.func 20) #[] #[]) ∧ Own w' B v' (push f st a).1 ∧ Below B w w' ∧
      (∀ k, k < w.heap.size → k ≠ p → v.ownBlock ≠ some k → w'.heap[k]? = w.heap[k]?) ∧ (∀ k, v'.ownBlock = some k → v.ownBlock = some k ∨ w.heap.size ≤ k)) := by
  obtain ⟨sa, cap, hv⟩ := ho.form
  have hBw : B ≤ w.heap.size := Nat.le_trans hBp (Nat.le_of_lt hs.lt)
  have hpw := hs.lt
  have HF := Lib.hid hF
  have HST := Lib.hid (fun j (hj : j < st.length) => hst _ (getD_mem st j hj))
  have HD := Lib.hid (fun j (hj : j < st.length) => drop_at st j hj)
  have HE := Lib.hid (show st.drop st.length = [] from List.drop_length)
  have H0 : Hid (push f st a = ([] ++ (carry f a a 0 (st.drop 0)).1, (carry f a a 0 (st.drop 0)).2)) := by show _ = _; rw [List.drop_zero]; rfl
  have HL0 := Lib.hid (show ∀ j, (st.drop j).length = st.length - j from fun j => List.length_drop)
  have HO0 := Lib.hid (show Own w B v ([] ++ st.drop 0) by rw [List.drop_zero]; exact ho)
  clear hF hst ho
  generalize push f st a = PP at *
  obtain ⟨P1, P2⟩ := PP
  generalize hN : st.length = N at *
  have HN := Lib.hid hN
  clear hN
  subst hv
  have hsep' : ∀ g, sa = some ⟨g, 0, none⟩ → g ≠ p := fun g e h => hsep (by rw [e, ← h]; rfl)
  have HSEP := Lib.hid hsep'
  have HSEP2 := Lib.hid hsep
  clear hsep hsep'
  have hN63 : N ≤ 9223372036854775807 := by omega
  go_enter Try.func37, Try.ntmps37
  obtain ⟨c0, c1, f0⟩ := hs.cells
  go_wp2
  go_step3
  go_wp2
  go_step3
  go_wp2
  go_loopw [5, 6] (fun cv pv wr => ∃ (j : Nat) (c : Int) (pre : List Int), j ≤ N ∧ pv = .int .i64 j ∧ cv = .int .i64 c ∧ Hid (pre.length = j) ∧ Hid (0 ≤ c ∧ c ≤ 63) ∧ Hid ((P1, P2) = (pre ++ (carry f a c j (st.drop j)).1, (carry f a c j (st.drop j)).2)) ∧ Hid (Own wr B (.slice sa N cap) (pre ++ st.drop j)) ∧ Stk wr p (.slice sa N cap) (.func (.func 20) #[] #[]) ∧ Hid (w.grownBy wr (Value.slice sa N cap).ownBlock)) (fun _ pv _ => N - (intOf pv).toNat)
  case atStart => exact ⟨0, a, [], Nat.zero_le _, rfl, rfl, Lib.hid rfl, Lib.hid ha, H0, HO0, hs, Lib.hid (World.grownBy.rfl' _ _)⟩
  case round =>
    obtain ⟨j, c, pre, hj, rfl, rfl, hpre, hc, hP, ho, hsr, hg⟩ := hrel
    clear c0 c1 f0
    obtain ⟨c0, c1, f0⟩ := hsr.cells
    have hpr := hsr.lt
    by_cases hlt : j < N
    · have hd := HD.out j hlt
      have ht := HST.out j hlt
      have hji : (j : Int) < N := by omega
      have hlen : (pre ++ st.drop j).length = N := by rw [List.length_append, hpre.out, HL0.out]; omega
      obtain ⟨g, hsa, hBg, hgw, hcell, hfz, hset⟩ := Own.at ho.out hlen j hlt
      rw [hd, pre_get _ _ _ j hpre.out] at hcell
      rw [hd] at hP
      have hset' : ∀ u, Own (wr.setCell ⟨g, j, none⟩ (.int .i64 u)) B (.slice sa N cap) (pre ++ u :: st.drop (j + 1)) ∧ wr.grownBy (wr.setCell ⟨g, j, none⟩ (.int .i64 u)) (some g) := fun u => by
        have h := hset u
        rw [hd, pre_set _ _ _ _ j hpre.out] at h
        exact h
      have HO2 := Lib.hid (show pre ++ st.getD j 0 :: st.drop (j + 1) = (pre ++ [st.getD j 0]) ++ st.drop (j + 1) by simp)
      rw [hd] at ho
      clear hd hset hlen
      have hgp := HSEP.out g hsa
      have HSET := Lib.hid (fun u => show Own (wr.setCell ⟨g, j, none⟩ (.int .i64 u)) B (.slice sa N cap) (pre ++ u :: st.drop (j + 1)) ∧ Stk (wr.setCell ⟨g, j, none⟩ (.int .i64 u)) p (.slice sa N cap) (.func (.func 20) #[] #[]) ∧ w.grownBy (wr.setCell ⟨g, j, none⟩ (.int .i64 u)) (Value.slice sa N cap).ownBlock from
        ⟨(hset' u).1, hsr.same (set_other _ (fun e => hgp e.symm)), grownBy_trans hg.out (by rw [hsa]; exact (hset' u).2)⟩)
      clear hset'
      subst hsa
      generalize st.getD j 0 = t at *
      have hBwr : Below B w wr := below_of hg.out (fun k hk => by injection hk with hk; rw [← hk]; exact hBg) hBw
      by_cases hta : t = a
      · subst hta
        rw [carry_hit] at hP
        injection hP.out with e1 e2
        subst e1 e2
        obtain ⟨hO, hS, hG⟩ := HSET.out c
        have HB := Lib.hid (below_of hG (fun k hk => by injection hk with hk; rw [← hk]; exact hBg) hBw)
        clear HSET
        go_wp2
        go_ret
        exact ⟨rfl, _, hS, hO, HB.out, fun k hk hkp hkv => hG.block k hk (fun e => hkv e.symm), fun k hk => .inl hk⟩
      · by_cases hj0 : j = 0
        · subst hj0
          rw [carry_swap f a c t 0 _ hta (.inl rfl)] at hP
          obtain ⟨hO, hS, hG⟩ := HSET.out c
          clear HSET
          go_wp2
          go_roundw
          case rel => exact ⟨1, t, pre ++ [c], hlt, rfl, rfl, Lib.hid (by rw [List.length_append, hpre.out]; rfl), Lib.hid ht, Lib.hid (by rw [hP.out]; simp), Lib.hid (by simpa using hO), hS, Lib.hid hG⟩
          case measure => simp [intOf]; omega
        · have hj0' : ¬ (j : Int) = 0 := by omega
          have HFJ := Lib.hid (HF.out c t wr hc.out ht hBwr)
          cases hft : f c t
          · rw [carry_keep f a c t j _ hta hj0 hft] at hP
            rw [hft] at HFJ
            clear hft HSET
            go_wp2_with (go_at_call 20; (with_reducible refine HFJ.out.mono ?_); rintro e w' ⟨rfl, rfl⟩)
            go_roundw
            case rel => exact ⟨j + 1, c, pre ++ [t], hlt, by go_num, rfl, Lib.hid (by rw [List.length_append, hpre.out]; rfl), hc, Lib.hid (by rw [hP.out]; simp), Lib.hid (by rw [← HO2.out]; exact ho.out), hsr, Lib.hid ⟨hg.out.os, hg.out.tape, hg.out.output, hg.out.size, hg.out.block⟩⟩
            case measure => simp [intOf]; omega
          · rw [carry_swap f a c t j _ hta (.inr hft)] at hP
            rw [hft] at HFJ
            clear hft
            obtain ⟨hO, hS, hG⟩ := HSET.out c
            clear HSET
            go_wp2_with (go_at_call 20; (with_reducible refine HFJ.out.mono ?_); rintro e w' ⟨rfl, rfl⟩)
            go_roundw
            case rel => exact ⟨j + 1, t, pre ++ [c], hlt, by go_num, rfl, Lib.hid (by rw [List.length_append, hpre.out]; rfl), Lib.hid ht, Lib.hid (by rw [hP.out]; simp), Lib.hid (by rw [List.append_assoc]; exact hO), hS, Lib.hid ⟨hG.os, hG.tape, hG.output, hG.size, hG.block⟩⟩
            case measure => simp [intOf]; omega
    · have e : j = N := by omega
      subst e
      rw [HE.out, List.append_nil] at ho
      rw [HE.out, carry_nil] at hP
      injection hP.out with e1 e2
      subst e1 e2
      have hlen : pre.length + 1 ≤ 1000000000 := by rw [hpre.out]; omega
      have hBwr2 : B ≤ wr.heap.size := Nat.le_trans hBw hg.out.size
      have HOO := ho.out
      go_wp2_with (at_builtin; refine wpList_appB wr rfl _ _ rfl B _ pre c ?_ ?_ HOO hlen hBwr2 ?_; rfl; rfl)
      intro v' w1 ho1 hb1 hk1 hv1
      have hs1 : Stk w1 p (.slice sa j cap) (.func (.func 20) #[] #[]) := hsr.same (hk1 p hpr HSEP2.out)
      obtain ⟨d0, d1, g0⟩ := hs1.cells
      have hS2 := hs1.set v'
      have hv'p : v'.ownBlock ≠ some p := fun e => by
        rcases hv1 p e with h | h
        · exact HSEP2.out h
        · omega
      have ho2 : Own (w1.setCell ⟨p, 0, none⟩ v') B v' (pre ++ [c]) := ho1.same fun k hk => set_other _ (fun e => hv'p (by rw [hk]; exact congrArg some e))
      obtain ⟨a3, n3, c3, e3⟩ : ∃ a n c, v' = Value.slice a n c := by obtain ⟨a3, c3, e3⟩ := ho1.form; exact ⟨a3, _, c3, e3⟩
      subst e3
      go_wp2
      (first | go_ret | (rw [Exit.noGoto_ret]; go_ret))
      refine ⟨rfl, _, hS2, ho2, ?_, fun k hk hkp hkv => ?_, fun k hk => ?_⟩
      · exact ((below_of hg.out (fun k hk => (HOO.block k hk).1) hBw).trans hb1).setCell hBp _
      · rw [set_other _ hkp, hk1 k (Nat.lt_of_lt_of_le hk hg.out.size) hkv]
        exact hg.out.block k hk (fun e => hkv e.symm)
      · rcases hv1 k hk with h | h
        · exact .inl h
        · exact .inr (Nat.le_trans hg.out.size h)
end Go.Proofs.Ytfjaaoogbjcgaaa.Tr
namespace Go.Proofs.Ytfjaaoogbjcgaaa.Tr
open Go.RowKit
theorem told_atL (f : Int → Int → Bool) (xs : List Int) (j : Nat) : told (stoodAt f xs) (j + 1) = told (stoodAt f xs) j ++ [(push f (stackK f xs j) (xs.getD j 0)).2] := told_succ _ _
set_option maxHeartbeats 2000000 in
set_option maxRecDepth 100000 in
theorem stack_L (f : Int → Int → Bool) (sl : Option Addr) (c : Nat) (xs : List Int) (w : World) (hok : okU xs = true) (hr : Row w sl xs)
    (hF : ∀ c t w', 0 ≤ c ∧ c ≤ 63 → 0 ≤ t ∧ t ≤ 63 → Below w.heap.size w w' → Calls Try.prog 20 #[.int .i64 c, .int .i64 t] w' (Bl (f c t) w')) :
    Calls Try.prog 19 #[.slice sl xs.length c, (.func (.func 20) #[] #[])] w (fun e w' => ∃ v1 v2, e = .returned (.tuple #[v1, v2]) ∧ Own w' w.heap.size v1 (stackK f xs xs.length) ∧ Own w' w.heap.size v2 (told (stoodAt f xs) xs.length) ∧ Below w.heap.size w w') := by
  have hn := okU_len hok
  have HA := Lib.hid (fun j (hj : j < xs.length) => okU_at hok j hj)
  have HM := Lib.hid (fun j (hj : j ≤ xs.length) => show ∀ y ∈ stackK f xs j, 0 ≤ y ∧ y ≤ 63 from fun y hy => by
    rw [stackK_mem f xs j hj] at hy
    obtain ⟨i, hi, e⟩ := List.getElem_of_mem (List.mem_of_mem_take hy)
    have := okU_at hok i hi
    rw [getD_get' xs i hi, e] at this
    exact this)
  have HC := Lib.hid hr
  have HF := Lib.hid hF
  have HSL := Lib.hid (fun j => stackK_len f xs j)
  have HT := Lib.hid (told_atL f xs)
  have HTL := Lib.hid (fun j => told_length (stoodAt f xs) j)
  have HK := Lib.hid (fun j => show stackK f xs (j + 1) = (push f (stackK f xs j) (xs.getD j 0)).1 from rfl)
  have HK0 := Lib.hid (show stackK f xs 0 = [] from rfl)
  have HT0 := Lib.hid (show told (stoodAt f xs) 0 = [] from rfl)
  clear hok hr hF
  unfold Row at HC
  generalize hSK : stackK f xs = SK at *
  generalize hTK : told (stoodAt f xs) = TK at *
  clear hSK hTK
  generalize hN : xs.length = N at *
  have HN := Lib.hid hN
  clear hN
  go_enter Try.func19, Try.ntmps19
  go_wp2_with (at_make; refine wpList_make0 _ rfl _ _ rfl N .i64 .i64 (N : Int) ?_ ?_ rfl ?_ ?_; rfl; rfl; omega)
  intro v0 w0 ho0 hb0 hsz0
  have hS0 : Stk w0 w.heap.size (.slice none 0 0) (.func (.func 20) #[] #[]) := by
    show w0.heap[w.heap.size]? = _
    rw [hb0.block _ (Nat.lt_succ_self _)]
    exact heap_alloc_new w _
  have hB0 : Below w.heap.size w w0 := ((Below.refl _ w).alloc (Nat.le_refl _) _).trans (hb0.mono (Nat.le_succ _))
  have hsepy : v0.ownBlock ≠ some w.heap.size := fun e => by have := (ho0.block _ e).1; omega
  have hoy0 : Own w0 w.heap.size v0 (TK 0) := by rw [HT0.out]; exact ho0.mono (Nat.le_succ _)
  have hov0 : Own w0 w.heap.size (.slice none 0 0) (SK 0) := by rw [HK0.out]; exact Own.nil _ _
  clear ho0 hb0 hsz0
  go_wp2
  go_loopw [7, 17] (fun yv0 i wr => ∃ (j : Nat) (v yv : Value), yv = yv0 ∧ j ≤ N ∧ i = .int .i64 j ∧ Stk wr w.heap.size v (.func (.func 20) #[] #[]) ∧ Hid (Own wr w.heap.size v (SK j)) ∧ Hid (Own wr w.heap.size yv (TK j)) ∧ Hid (v.ownBlock ≠ some w.heap.size) ∧ Hid (yv.ownBlock ≠ some w.heap.size) ∧ Hid (Apart v yv) ∧ Hid (Below w.heap.size w wr)) (fun _ i _ => N - (intOf i).toNat)
  case atStart => exact ⟨0, _, _, rfl, Nat.zero_le _, rfl, hS0, Lib.hid hov0, Lib.hid hoy0, Lib.hid (fun e => by cases e), Lib.hid hsepy, Lib.hid (Apart.nil _), Lib.hid hB0⟩
  case round =>
    obtain ⟨j, v, yv, eyv, hj, rfl, hsr, hov, hoy, hvp, hyp, hap, hB⟩ := hrel
    subst eyv
    obtain ⟨c0, c1, f0⟩ := hsr.cells
    have hpr := hsr.lt
    by_cases hlt : j < N
    · obtain ⟨b0, off, rfl, c2, hb0⟩ := HC.out j hlt
      have c3 : wr.cell? ⟨b0, off + j, none⟩ = some (.int .i64 (xs.getD j 0)) := (hB.out.cell (p := ⟨b0, off + j, none⟩) hb0).trans c2
      have hj60 : (SK j).length ≤ 60 := Nat.le_trans (HSL.out j) (by omega)
      have HUSE := Lib.hid (use_L f w.heap.size w.heap.size v (SK j) (xs.getD j 0) wr hsr hov.out (Nat.le_refl _) hvp.out hj60 (HM.out j (Nat.le_of_lt hlt)) (HA.out j hlt) (fun c t w' h1 h2 h3 => HF.out c t w' h1 h2 (hB.out.trans h3)))
      have hk := HK.out j
      have ht := HT.out j
      rw [← hk] at HUSE
      have HTJ := Lib.hid ht
      have hq : (TK j).length + 1 ≤ 1000000000 := by rw [HTL.out]; omega
      clear hk ht c2
      generalize (push f (SK j) (xs.getD j 0)).2 = pl at *
      generalize xs.getD j 0 = u at *
      have HX := Lib.hid (fun (w1 : World) (v' : Value) (hs1 : Stk w1 w.heap.size v' (.func (.func 20) #[] #[])) (hb1 : Below w.heap.size wr w1) (hk1 : ∀ k, k < wr.heap.size → k ≠ w.heap.size → v.ownBlock ≠ some k → w1.heap[k]? = wr.heap[k]?) (hv1 : ∀ k, v'.ownBlock = some k → v.ownBlock = some k ∨ wr.heap.size ≤ k) =>
        (show Own w1 w.heap.size yv (TK j) ∧ Apart v' yv ∧ v'.ownBlock ≠ some w.heap.size ∧ w.heap.size ≤ w1.heap.size ∧ w1.cell? ⟨w.heap.size, 0, none⟩ = some v' from by
          refine ⟨hoy.out.same fun k hk => hk1 k (hoy.out.block k hk).2 (fun e => hyp.out (by rw [hk, e])) (hap.out k hk), fun k hk e => ?_, fun e => ?_, Nat.le_trans hB.out.size hb1.size, hs1.cells.1⟩
          · rcases hv1 k e with h | h
            · exact hap.out k hk h
            · have := (hoy.out.block k hk).2; omega
          · rcases hv1 _ e with h | h
            · exact hvp.out h
            · omega))
      go_wp2_with (first | (go_at_call 37; (with_reducible refine HUSE.out.mono ?_); rintro e w1 ⟨rfl, v', hs1, ho1, hb1, hk1, hv1⟩; obtain ⟨hoy1, hap1, hv'p, hsz1, d0⟩ := HX.out w1 v' hs1 hb1 hk1 hv1) | (at_builtin; refine wpList_appB w1 rfl _ _ rfl w.heap.size _ (TK j) pl ?_ ?_ hoy1 hq hsz1 ?_; rfl; rfl))
      intro y' w2 ho2 hb2 hk2 hy2
      have hs2 : Stk w2 w.heap.size v' (.func (.func 20) #[] #[]) := hs1.same (hk2 _ hs1.lt hyp.out)
      have ho12 : Own w2 w.heap.size v' (SK (j + 1)) := ho1.same fun k hk => hk2 k (ho1.block k hk).2 (fun e => hap1 k e hk)
      have hap2 : Apart v' y' := fun k hk e => by
        rcases hy2 k hk with h | h
        · exact hap1 k h e
        · have := (ho1.block k e).2; omega
      have hyp2 : y'.ownBlock ≠ some w.heap.size := fun e => by
        rcases hy2 _ e with h | h
        · exact hyp.out h
        · have := hs1.lt; omega
      go_wp2
      go_roundw
      case rel => exact ⟨j + 1, v', _, rfl, by omega, by go_num, hs2, Lib.hid ho12, Lib.hid (by rw [HTJ.out]; exact ho2), Lib.hid hv'p, Lib.hid hyp2, Lib.hid hap2, Lib.hid ((hB.out.trans hb1).trans hb2)⟩
      case measure => simp [intOf]; omega
    · have e : j = N := by omega
      subst e
      go_wp2
      go_ret2
      exact ⟨_, _, rfl, hov.out, hoy.out, hB.out⟩
end Go.Proofs.Ytfjaaoogbjcgaaa.Tr
namespace Go.Proofs.Ytfjaaoogbjcgaaa.Tr
open Go.RowKit
theorem bump_neg (cs : List Int) (p : Int) (h : p < 0) : bump cs p = cs := by unfold bump; rw [if_pos h]
theorem bump_pos (cs : List Int) (p : Nat) (m : Nat) (h1 : p < cs.length + m) (h2 : m = 0 ∨ cs.length + m ≤ p + 1) :
    bump cs (p : Int) = (cs ++ List.replicate m 0).set p ((cs ++ List.replicate m 0).getD p 0 + 1) := by
  have e : m = p + 1 - cs.length := by omega
  unfold bump
  rw [if_neg (by omega), Int.toNat_natCast, ← e]
theorem rep_snoc (cs : List Int) (m : Nat) : (cs ++ List.replicate m (0 : Int)) ++ [0] = cs ++ List.replicate (m + 1) 0 := by
  rw [List.append_assoc, List.replicate_succ']
theorem rep_len (cs : List Int) (m : Nat) : (cs ++ List.replicate m (0 : Int)).length = cs.length + m := by simp
theorem rep_get (cs : List Int) (m q : Nat) : (cs ++ List.replicate m (0 : Int)).getD q 0 = cs.getD q 0 := by
  simp only [List.getD_eq_getElem?_getD]
  by_cases hj : q < cs.length
  · rw [List.getElem?_append_left hj]
  · rw [List.getElem?_append_right (by omega), List.getElem?_eq_none (l := cs) (by omega), List.getElem?_replicate]
    split <;> rfl
theorem bumps_rng (ds : List Int) (j q : Nat) (hj : j ≤ ds.length) : 0 ≤ (bumps ds j).getD q 0 ∧ (bumps ds j).getD q 0 ≤ j := by
  rw [bumps_get ds j hj]
  have h1 : (ds.take j).countP (fun d => d == (q : Int)) ≤ (ds.take j).length := List.countP_le_length
  rw [List.length_take] at h1
  omega
set_option maxHeartbeats 2000000 in
theorem places_i (a : Option Addr) (c : Nat) (ds : List Int) (w : World) (hn : ds.length ≤ 60) (hd : ∀ j, j < ds.length → -1 ≤ ds.getD j 0 ∧ ds.getD j 0 < 60) (hr : Row w a ds) :
    Calls Try.prog 24 #[.slice a ds.length c] w (Lb (bumps ds ds.length) w) := by
  have HC := Lib.hid hr
  have HD := Lib.hid hd
  have HB := Lib.hid (fun j => show bumps ds (j + 1) = bump (bumps ds j) (ds.getD j 0) from rfl)
  have HL := Lib.hid (fun j (hj : j ≤ ds.length) => bumps_len ds 60 (fun i hi => (hd i hi).2) j hj)
  have HG := Lib.hid (fun j q (hj : j ≤ ds.length) => bumps_rng ds j q hj)
  have HB0 := Lib.hid (show bumps ds 0 = [] from rfl)
  clear hr hd
  unfold Row at HC
  generalize hS : bumps ds = BS at *
  clear hS
  generalize hN : ds.length = N at *
  clear hN
  go_enter Try.func24, Try.ntmps24
  go_wp2
  go_loopw [3, 8] (fun v i wr => ∃ j : Nat, j ≤ N ∧ i = .int .i64 j ∧ Own wr w.heap.size v (BS j) ∧ Below w.heap.size w wr) (fun _ i _ => N - (intOf i).toNat)
  case atStart => exact ⟨0, Nat.zero_le _, rfl, by rw [HB0.out]; exact Own.nil _ _, Below.refl _ _⟩
  case round =>
    obtain ⟨j, hj, rfl, ho, hb⟩ := hrel
    have hsz := hb.size
    by_cases hlt : j < N
    · obtain ⟨b0, off, rfl, c1, hb0⟩ := HC.out j hlt
      have c2 : wr.cell? ⟨b0, off + j, none⟩ = some (.int .i64 (ds.getD j 0)) := (hb.cell (p := ⟨b0, off + j, none⟩) hb0).trans c1
      have hbb := Lib.hid (HB.out j)
      have hdj := HD.out j hlt
      have hlj := HL.out j hj
      have hgj := Lib.hid (fun q => HG.out j q hj)
      clear c1 HB HL HG
      generalize BS j = cs at *
      generalize ds.getD j 0 = p at *
      obtain ⟨p1, p2⟩ := hdj
      have hBo := Lib.hid (show Own wr w.heap.size _ (cs ++ List.replicate 0 0) by rw [List.replicate_zero, List.append_nil]; exact ho)
      have HPN := Lib.hid (bump_neg cs p)
      have HPP := Lib.hid (fun (q m : Nat) => bump_pos cs q m)
      have HRS := Lib.hid (rep_snoc cs)
      have HRL := Lib.hid (rep_len cs)
      generalize hK : cs.length = K at *
      clear hK ho
      go_wp2
      go_loopw [3] (fun v2 wr2 => ∃ (m : Nat) (sa : Option Addr) (cap : Nat), v2 = .slice sa (K + m) cap ∧ (m = 0 ∨ (K : Int) + m ≤ p + 1) ∧ Hid (Own wr2 w.heap.size (.slice sa (K + m) cap) (cs ++ List.replicate m 0)) ∧ Hid (Below w.heap.size w wr2)) (fun v2 _ => (p + 1 - K).toNat + 1 - (match v2 with | .slice _ n _ => n - K | _ => 0))
      case atStart =>
        obtain ⟨x, y, z⟩ := hBo.out.form
        rw [HRL.out] at z
        exact ⟨0, x, y, z, .inl rfl, Lib.hid (by rw [← z]; exact hBo.out), Lib.hid hb⟩
      case round =>
        obtain ⟨m, sa, cap, rfl, hm, hO, hB2⟩ := hrel
        have hsz2 : w.heap.size ≤ wr.heap.size := hB2.out.size
        have hOO := hO.out
        have hq : (cs ++ List.replicate m (0 : Int)).length + 1 ≤ 1000000000 := by rw [HRL.out]; omega
        have hlen := HRL.out m
        by_cases hle : (K : Int) + m ≤ p
        · have hle2 : ((K + m : Nat) : Int) ≤ p := by omega
          have hrs := Lib.hid (HRS.out m)
          generalize (cs ++ List.replicate m (0 : Int)) = L at *
          go_wp2_with (at_builtin; refine wpList_app _ rfl _ _ rfl w.heap.size _ L _ ?_ ?_ hOO hq hsz2 ?_; rfl; rfl)
          intro v' w2 ho3 hb3
          obtain ⟨x, y, z⟩ := ho3.form
          have hz : (L ++ [0]).length = K + (m + 1) := by rw [List.length_append, hlen]; rfl
          rw [hz] at z
          subst z
          go_wp2
          go_roundw
          case rel => exact ⟨m + 1, x, y, rfl, .inr (by omega), Lib.hid (by rw [← hrs.out]; exact ho3), Lib.hid (hB2.out.trans hb3)⟩
          case measure => simp; omega
        · have hle2 : ¬ ((K + m : Nat) : Int) ≤ p := by omega
          by_cases hp : p = -1
          · subst hp
            have hm0 : m = 0 := by omega
            subst hm0
            have hbb2 := hbb.out
            rw [HPN.out (by omega)] at hbb2
            have HBB := Lib.hid hbb2
            clear hbb hbb2
            go_wp2
            go_roundw
            case rel => exact ⟨j + 1, by omega, by go_num, by rw [HBB.out]; simpa using hO.out, hB2.out⟩
            case measure => simp [intOf]; omega
          · obtain ⟨q, rfl⟩ := Int.eq_ofNat_of_zero_le (show 0 ≤ p by omega)
            have hqi : q < K + m := by omega
            have hbb2 := hbb.out
            rw [HPP.out q m hqi (by omega)] at hbb2
            have HBB := Lib.hid hbb2
            obtain ⟨g, hsa, hBg, hgw, hcell, hfz, hset⟩ := Own.at hOO hlen q hqi
            have HSET := Lib.hid hset
            have hu := hgj.out q
            rw [← rep_get cs m q] at hu
            clear hbb hbb2 hset
            subst hsa
            generalize (cs ++ List.replicate m (0 : Int)) = L at *
            generalize L.getD q 0 = u at *
            have hpi : ((K + m : Nat) : Int) = (K : Int) + m := by omega
            obtain ⟨hO2, hG2⟩ := HSET.out (u + 1)
            have HB3 := Lib.hid ((hB2.out.setCell (p := ⟨g, q, none⟩) hBg (.int .i64 (u + 1))))
            clear HSET
            go_wp2
            go_roundw
            case rel => exact ⟨j + 1, by omega, by go_num, by rw [HBB.out]; exact hO2, HB3.out⟩
            case measure => simp [intOf]; omega
    · have e : j = N := by omega
      subst e
      go_wp2
      go_ret
      exact ⟨_, rfl, ho, hb⟩
end Go.Proofs.Ytfjaaoogbjcgaaa.Tr
namespace Go.Proofs.Ytfjaaoogbjcgaaa.Tr
open Go.RowKit
theorem wrap_id (x : Int) (h : -1000 ≤ x) (h2 : x ≤ 1000) : IntKind.i64.wrap x = x := by
  unfold IntKind.wrap IntKind.signed IntKind.bits
  simp
  omega
theorem curve_snoc (ds : List Int) (k : Nat) : told (fun n => ((missP ds n : Nat) : Int)) (k + 1) = told (fun n => ((missP ds n : Nat) : Int)) k ++ [((missP ds k : Nat) : Int)] := told_succ _ _
set_option maxHeartbeats 2000000 in
theorem curve_i (a : Option Addr) (c : Nat) (ds : List Int) (most : Nat) (w : World) (hm : most ≤ 60) (hn : ds.length ≤ 60) (hd : ∀ j, j < ds.length → -1 ≤ ds.getD j 0 ∧ ds.getD j 0 < 60) (hr : Row w a ds) :
    Calls Try.prog 21 #[.slice a ds.length c, .int .i64 (most : Int)] w (Lb (curveP ds most) w) := by
  have HP := Lib.hid (places_i a c ds w hn hd hr)
  have HS := Lib.hid (fun n => miss_step ds n)
  have HLE := Lib.hid (fun n => miss_le ds n)
  have HL := Lib.hid (bumps_len ds 60 (fun i hi => (hd i hi).2) ds.length (Nat.le_refl _))
  have HR := Lib.hid (fun q => bumps_rng ds ds.length q (Nat.le_refl _))
  have HT := Lib.hid (fun k => curve_snoc ds k)
  have HTL := Lib.hid (fun k => told_length (fun n => ((missP ds n : Nat) : Int)) k)
  have H0 := Lib.hid (miss_zero ds)
  have HT1 := Lib.hid (show told (fun n => ((missP ds n : Nat) : Int)) (0 + 1) = [((missP ds 0 : Nat) : Int)] from rfl)
  unfold curveP
  clear hd hr
  generalize bumps ds ds.length = hs at *
  generalize hTD : told (fun n => ((missP ds n : Nat) : Int)) = TD at *
  generalize hMI : missP ds = MI at *
  clear hTD hMI
  generalize hN : ds.length = N at *
  have hN2 := Lib.hid hN
  clear hN
  go_enter Try.func21, Try.ntmps21
  go_wp2_with fail
  refine HP.out.mono ?_; rintro e w1 ⟨v1, rfl, o1, b1⟩
  obtain ⟨ha, hc, rfl, _, _, hrow⟩ := o1.rd
  have HROW := Lib.hid hrow
  unfold Row at HROW
  have B1 := Lib.hid b1
  have hs1 := b1.size
  clear hrow b1 o1 HP
  generalize hK : hs.length = K at *
  have HLEN := Lib.hid hK
  clear hK
  go_wp2
  go_loopw [6, 7, 16] (fun mv v i wr => ∃ k : Nat, k ≤ most ∧ i = .int .i64 k ∧ mv = .int .i64 ((MI k : Nat) : Int) ∧ Own wr w1.heap.size v (TD (k + 1)) ∧ Below w1.heap.size w1 wr) (fun _ _ i _ => most - (intOf i).toNat)
  case atStart => exact ⟨0, Nat.zero_le _, rfl, by rw [H0.out], by rw [HT1.out, H0.out]; exact Own.lit w1 _, (Below.refl _ _).alloc (Nat.le_refl _) _⟩
  case round =>
    obtain ⟨k, hk, rfl, rfl, ho, hb⟩ := hrel
    have hsz := hb.size
    have hq : (TD (k + 1)).length + 1 ≤ 1000000000 := by rw [HTL.out]; omega
    by_cases hlt : k < most
    · have hst := HS.out k
      have hle := HLE.out k
      have hle2 := HLE.out (k + 1)
      have hrk := HR.out k
      have ht := HT.out (k + 1)
      by_cases hkK : k < K
      · obtain ⟨b0, off, hab, c1, hb0⟩ := HROW.out k hkK
        subst hab
        have c2 : wr.cell? ⟨b0, off + k, none⟩ = some (.int .i64 (hs.getD k 0)) := (hb.cell (p := ⟨b0, off + k, none⟩) hb0).trans c1
        rw [hst] at ht
        have HTT := Lib.hid ht
        have HST := Lib.hid hst
        clear c1 ht HS HLE HR HT
        generalize hs.getD k 0 = u at *
        have hw : IntKind.i64.wrap (((MI k : Nat) : Int) - u) = ((MI k : Nat) : Int) - u := wrap_id _ (by omega) (by omega)
        clear hst
        go_wp2_with (at_builtin; refine wpList_app _ rfl _ _ rfl w1.heap.size _ (TD (k + 1)) _ ?_ ?_ ho hq hsz ?_; rfl; rfl)
        intro v' w2 ho3 hb3
        go_wp2
        go_roundw
        case rel => exact ⟨k + 1, by omega, by go_num, by rw [HST.out], by rw [HTT.out]; exact ho3, hb.trans hb3⟩
        case measure => simp [intOf]; omega
      · have h0 : hs.getD k 0 = 0 := by rw [List.getD_eq_getElem?_getD, List.getElem?_eq_none]; rfl; have := HLEN.out; omega
        rw [h0, Int.sub_zero] at hst
        rw [hst] at ht
        have HTT := Lib.hid ht
        have HST := Lib.hid hst
        have hkKi : ¬ (k : Int) < K := by omega
        clear ht HS HLE HR HT hst h0 hrk
        go_wp2_with (at_builtin; refine wpList_app _ rfl _ _ rfl w1.heap.size _ (TD (k + 1)) _ ?_ ?_ ho hq hsz ?_; rfl; rfl)
        intro v' w2 ho3 hb3
        go_wp2
        go_roundw
        case rel => exact ⟨k + 1, by omega, by go_num, by rw [HST.out], by rw [HTT.out]; exact ho3, hb.trans hb3⟩
        case measure => simp [intOf]; omega
    · have e : k = most := by omega
      subst e
      go_wp2
      go_ret
      exact ⟨_, rfl, ho.mono hs1, B1.out.trans (hb.mono hs1)⟩
end Go.Proofs.Ytfjaaoogbjcgaaa.Tr
namespace Go.Proofs.Ytfjaaoogbjcgaaa.Tr
open Go.RowKit
/-- What a function leaves that reads alone and returns a number. -/
def Nw (n : Int) (w : World) (e : Ending) (w' : World) : Prop := e = .returned (.int .i64 n) ∧ w = w'
theorem lastAt_succ (xs : List Int) (x : Int) (m : Nat) : lastAt xs x (m + 1) = if xs.getD m 0 = x then (m : Int) else lastAt xs x m := rfl
theorem lastAt_rng (xs : List Int) (x : Int) (m : Nat) : -1 ≤ lastAt xs x m ∧ lastAt xs x m < m := by
  induction m with
  | zero => simp [lastAt]
  | succ m ih => rw [lastAt_succ]; split <;> omega
theorem nextFrom_succ (xs : List Int) (x : Int) (k m : Nat) : nextFrom xs x k (m + 1) = if xs.getD k 0 = x then (k : Int) else nextFrom xs x (k + 1) m := rfl
theorem nextFrom_rng (xs : List Int) (x : Int) (k m : Nat) : -1 ≤ nextFrom xs x k m ∧ nextFrom xs x k m < k + m := by
  induction m generalizing k with
  | zero => simp only [nextFrom]; omega
  | succ m ih => rw [nextFrom_succ]; have := ih (k + 1); split <;> omega
end Go.Proofs.Ytfjaaoogbjcgaaa.Tr
namespace Go.Proofs.Ytfjaaoogbjcgaaa.Tr
open Go.RowKit
theorem frontK (xs : List Int) (n : Int) (j : Nat) (h : j < xs.length) : (n :: (xs.take (j + 1)).filter (fun x => x != n)) = (n :: (xs.take j).filter (fun x => x != n)) ++ if xs.getD j 0 = n then [] else [xs.getD j 0] := by
  rw [List.take_succ_eq_append_getElem h, List.filter_append, getD_get' xs j h, List.cons_append]
  congr 2
  by_cases e : xs[j] = n
  · simp [e]
  · have : (xs[j] != n) = true := by simpa using e
    rw [if_neg e, List.filter_cons, this]; rfl
end Go.Proofs.Ytfjaaoogbjcgaaa.Tr
namespace Go.Proofs.Ytfjaaoogbjcgaaa.Tr
open Go.RowKit
end Go.Proofs.Ytfjaaoogbjcgaaa.Tr
namespace Go.Proofs.Ytfjaaoogbjcgaaa.Tr
open Go.RowKit
theorem told_get (f : Nat → Int) (n j : Nat) (h : j < n) : (told f n).getD j 0 = f j := by simp [told, List.getD_eq_getElem?_getD, h]
theorem stood_told (f : Int → Int → Bool) (xs : List Int) (hn : xs.length ≤ 60) : ∀ j, j < (told (stoodAt f xs) xs.length).length → -1 ≤ (told (stoodAt f xs) xs.length).getD j 0 ∧ (told (stoodAt f xs) xs.length).getD j 0 < 60 := fun j hj => by
  rw [told_length] at hj
  rw [told_get _ _ _ hj]
  have h := stood_rng f xs j
  generalize stoodAt f xs j = z at *
  omega
end Go.Proofs.Ytfjaaoogbjcgaaa.Tr
namespace Go.Proofs.Ytfjaaoogbjcgaaa.Tr
open Go.RowKit
theorem bw_yes (x lo hi : Int) (w : World) (h1 : lo ≤ x) (h2 : x ≤ hi) : Calls Try.prog 30 #[.int .i64 x, .int .i64 lo, .int .i64 hi] w (Bl true w) := by
  go_enter Try.func30, Try.ntmps30
  go_wp2
  go_ret
  exact ⟨rfl, rfl⟩
theorem bw_no (x lo hi : Int) (w : World) (h : ¬ (lo ≤ x ∧ x ≤ hi)) : Calls Try.prog 30 #[.int .i64 x, .int .i64 lo, .int .i64 hi] w (Bl false w) := by
  by_cases h0 : lo ≤ x
  · have h1 : ¬ x ≤ hi := fun h2 => h ⟨h0, h2⟩
    clear h
    go_enter Try.func30, Try.ntmps30
    go_wp2
    go_ret
    exact ⟨rfl, rfl⟩
  · clear h
    go_enter Try.func30, Try.ntmps30
    go_wp2
    go_ret
    exact ⟨rfl, rfl⟩
def okS (x : Int) : Bool := decide (0 ≤ x ∧ x ≤ 60)
theorem size_i (x : Int) (w : World) : Calls Try.prog 18 #[.int .i64 x] w (Bl (okS x) w) := by
  unfold okS
  by_cases h : 0 ≤ x ∧ x ≤ 60
  · rw [decide_eq_true h]
    have hB := Lib.hid (bw_yes x 0 60 w h.1 h.2)
    clear h
    go_enter Try.func18, Try.ntmps18
    go_wp2_with (go_at_call 30; refine hB.out.mono ?_; rintro e w' ⟨rfl, rfl⟩)
    go_ret
    exact ⟨rfl, rfl⟩
  · rw [decide_eq_false h]
    have hB := Lib.hid (bw_no x 0 60 w h)
    clear h
    go_enter Try.func18, Try.ntmps18
    go_wp2_with (go_at_call 30; refine hB.out.mono ?_; rintro e w' ⟨rfl, rfl⟩)
    go_ret
    exact ⟨rfl, rfl⟩
end Go.Proofs.Ytfjaaoogbjcgaaa.Tr
namespace Go.Proofs.Ytfjaaoogbjcgaaa.Tr
open Go.RowKit
theorem latest_i (c t : Int) (w : World) : Calls Try.prog 20 #[.int .i64 c, .int .i64 t] w (Bl (always c t) w) := by
  show Calls _ _ _ _ (Bl true w)
  go_enter Try.func20, Try.ntmps20
  go_wp2
  go_ret
  exact ⟨rfl, rfl⟩
def distP (xs : List Int) : List Int := told (stoodAt always xs) xs.length
theorem distP_len (xs : List Int) : (distP xs).length = xs.length := told_length _ _
theorem stk_any (sl : Option Addr) (c : Nat) (xs : List Int) (w : World) (hok : okU xs = true) (hr : Row w sl xs) :
    Calls Try.prog 19 #[.slice sl xs.length c, .func (.func 20) #[] #[]] w (fun e w' => ∃ v1 v2, e = .returned (.tuple #[v1, v2]) ∧ Own w' w.heap.size v1 (stackK always xs xs.length) ∧ Own w' w.heap.size v2 (distP xs) ∧ Below w.heap.size w w') :=
  stack_L always sl c xs w hok hr (fun c t w' _ _ _ => latest_i c t w')
theorem dcnt_no_i {v : Value} {xs : List Int} {w : World} (h : Rd w v xs) (hn : xs.length ≤ 1048576) (hok : okU xs = false) :
    Calls Try.prog 8 #[v] w (Res [] false w) := by
  have hU := Lib.hid (uses_iR h hn)
  rw [hok] at hU
  go_enter Try.func8, Try.ntmps8
  go_wp2_with (go_at_call 17; (with_reducible refine hU.out.mono ?_); rintro e w' ⟨rfl, rfl⟩)
  go_ret2
  exact ⟨_, rfl, Own.nil _ _, Below.refl _ _⟩
set_option maxHeartbeats 1000000 in
theorem dcnt_yes_i {v : Value} {xs : List Int} {w : World} (h : Rd w v xs) (hok : okU xs = true) :
    Calls Try.prog 8 #[v] w (Res (bumps (distP xs) (distP xs).length) true w) := by
  have hU := Lib.hid (uses_iR h (by have := okU_len hok; omega))
  rw [hok] at hU
  obtain ⟨a, c, rfl, _, _, hr⟩ := h
  have hS := Lib.hid (stk_any a c xs w hok hr)
  have hn := okU_len hok
  have hl := distP_len xs
  have HB := Lib.hid (fun (w1 : World) (v2 : Value) (o2 : Own w1 w.heap.size v2 (distP xs)) => show Calls Try.prog 24 #[v2] w1 (Lb (bumps (distP xs) (distP xs).length) w1) from by
    obtain ⟨a2, c2, rfl, _, _, hr2⟩ := o2.rd
    exact places_i a2 c2 (distP xs) w1 (by omega) (stood_told always xs hn) hr2)
  clear hn hl
  clear hok hr
  generalize stackK always xs xs.length = SK at *
  generalize distP xs = DP at *
  generalize xs.length = N at *
  go_enter Try.func8, Try.ntmps8
  go_wp2_with (first | (go_at_call 17; (with_reducible refine hU.out.mono ?_); rintro e w' ⟨rfl, rfl⟩) | (go_at_call 19; (with_reducible refine hS.out.mono ?_); rintro e w1 ⟨v1, v2, rfl, o1, o2, b1⟩) | (go_at_call 24; (with_reducible refine (HB.out w1 v2 o2).mono ?_); rintro e w2 ⟨v3, rfl, o3, b3⟩))
  go_ret2
  exact ⟨_, rfl, o3.mono b1.size, b1.trans (b3.mono b1.size)⟩
theorem dcnt_len (xs : List Int) (hn : xs.length ≤ 60) : (bumps (distP xs) (distP xs).length).length ≤ 60 := bumps_len (distP xs) 60 (fun j hj => (stood_told always xs hn j hj).2) _ (Nat.le_refl _)
set_option maxHeartbeats 1000000 in
theorem lru_yes_i {v : Value} {xs : List Int} {w : World} (m : Nat) (hm : m ≤ 60) (h : Rd w v xs) (hok : okU xs = true) :
    Calls Try.prog 6 #[v, .int .i64 (m : Int)] w (Res (curveP (distP xs) m) true w) := by
  have hn := okU_len hok
  have hU := Lib.hid (uses_iR h (by omega))
  rw [hok] at hU
  obtain ⟨a, c, rfl, _, _, hr⟩ := h
  have hS := Lib.hid (stk_any a c xs w hok hr)
  have hZ := Lib.hid (size_i (m : Int) w)
  have e : okS (m : Int) = true := decide_eq_true ⟨by omega, by omega⟩
  rw [e] at hZ
  have hl := distP_len xs
  have HB := Lib.hid (fun (w1 : World) (v2 : Value) (o2 : Own w1 w.heap.size v2 (distP xs)) => show Calls Try.prog 21 #[v2, .int .i64 (m : Int)] w1 (Lb (curveP (distP xs) m) w1) from by
    obtain ⟨a2, c2, rfl, _, _, hr2⟩ := o2.rd
    exact curve_i a2 c2 (distP xs) m w1 hm (by omega) (stood_told always xs hn) hr2)
  clear hok hr e hl
  generalize curveP (distP xs) m = CP at *
  generalize stackK always xs xs.length = SK at *
  generalize distP xs = DP at *
  generalize xs.length = N at *
  go_enter Try.func6, Try.ntmps6
  go_wp2_with (first | (go_at_call 17; (with_reducible refine hU.out.mono ?_); rintro e w' ⟨rfl, rfl⟩) | (go_at_call 18; (with_reducible refine hZ.out.mono ?_); rintro e w' ⟨rfl, rfl⟩) | (go_at_call 19; (with_reducible refine hS.out.mono ?_); rintro e w1 ⟨v1, v2, rfl, o1, o2, b1⟩) | (go_at_call 21; (with_reducible refine (HB.out w1 v2 o2).mono ?_); rintro e w2 ⟨v3, rfl, o3, b3⟩))
  go_ret2
  exact ⟨_, rfl, o3.mono b1.size, b1.trans (b3.mono b1.size)⟩
theorem lru_no_i {v : Value} {xs : List Int} {w : World} (x : Int) (h : Rd w v xs) (hn : xs.length ≤ 1048576) (hno : ¬ (okU xs = true ∧ 0 ≤ x ∧ x ≤ 60)) :
    Calls Try.prog 6 #[v, .int .i64 x] w (Res [] false w) := by
  have hU := Lib.hid (uses_iR h hn)
  cases hok : okU xs
  · rw [hok] at hU
    clear hno hok
    go_enter Try.func6, Try.ntmps6
    go_wp2_with (go_at_call 17; (with_reducible refine hU.out.mono ?_); rintro e w' ⟨rfl, rfl⟩)
    go_ret2
    exact ⟨_, rfl, Own.nil _ _, Below.refl _ _⟩
  · rw [hok] at hU
    have e : okS x = false := decide_eq_false (fun hx => hno ⟨hok, hx⟩)
    have hZ := Lib.hid (size_i x w)
    rw [e] at hZ
    clear hno hok e
    go_enter Try.func6, Try.ntmps6
    go_wp2_with (first | (go_at_call 17; (with_reducible refine hU.out.mono ?_); rintro e w' ⟨rfl, rfl⟩) | (go_at_call 18; (with_reducible refine hZ.out.mono ?_); rintro e w' ⟨rfl, rfl⟩))
    go_ret2
    exact ⟨_, rfl, Own.nil _ _, Below.refl _ _⟩
end Go.Proofs.Ytfjaaoogbjcgaaa.Tr
namespace Go.Proofs.Ytfjaaoogbjcgaaa.Tr
open Go.RowKit
def cmp3 (a b : Int) : Int := if a < b then -1 else if b < a then 1 else 0
theorem nan_i (a : Int) (w : World) : Calls Try.prog 45 #[.int .i64 a] w (Bl false w) := by
  go_enter Try.func45, Try.ntmps45
  go_wp2
  go_ret
  exact ⟨ret_bool (by simp), rfl⟩
theorem cmp_i (a b : Int) (w : World) : Calls Try.prog 33 #[.int .i64 a, .int .i64 b] w (Nw (cmp3 a b) w) := by
  have hA := Lib.hid (nan_i a w)
  have hB := Lib.hid (nan_i b w)
  unfold cmp3
  by_cases h : a < b
  · rw [if_pos h]
    go_enter Try.func33, Try.ntmps33
    go_wp2_with (go_at_call 45; first | ((with_reducible refine hA.out.mono ?_); rintro e w' ⟨rfl, rfl⟩) | ((with_reducible refine hB.out.mono ?_); rintro e w' ⟨rfl, rfl⟩))
    go_ret
    exact ⟨rfl, rfl⟩
  · rw [if_neg h]
    by_cases h2 : b < a
    · rw [if_pos h2]
      go_enter Try.func33, Try.ntmps33
      go_wp2_with (go_at_call 45; first | ((with_reducible refine hA.out.mono ?_); rintro e w' ⟨rfl, rfl⟩) | ((with_reducible refine hB.out.mono ?_); rintro e w' ⟨rfl, rfl⟩))
      go_ret
      exact ⟨rfl, rfl⟩
    · rw [if_neg h2]
      go_enter Try.func33, Try.ntmps33
      go_wp2_with (go_at_call 45; first | ((with_reducible refine hA.out.mono ?_); rintro e w' ⟨rfl, rfl⟩) | ((with_reducible refine hB.out.mono ?_); rintro e w' ⟨rfl, rfl⟩))
      go_ret
      exact ⟨rfl, rfl⟩
theorem clo_i (a b : Int) (w : World) : Calls Try.prog 32 #[.int .i64 a, .int .i64 b] w (Nw (cmp3 b a) w) := by
  have hA := Lib.hid (cmp_i b a w)
  generalize cmp3 b a = n at *
  go_enter Try.func32, Try.ntmps32
  go_wp2_with (go_at_call 33; refine hA.out.mono ?_; rintro e w' ⟨rfl, rfl⟩)
  go_ret
  exact ⟨rfl, rfl⟩
/-- How many elements are greater, in a list that never grows. -/
def over (xs : List Int) (m : Int) : Nat := xs.countP fun x => decide (m < x)
theorem over_le (xs : List Int) (m : Int) : over xs m ≤ xs.length := List.countP_le_length
/-- A list never grows. -/
def Falls (xs : List Int) : Prop := ∀ i j, i ≤ j → j < xs.length → xs.getD j 0 ≤ xs.getD i 0
theorem over_split (xs : List Int) (m : Int) : Falls xs → (∀ k, k < over xs m → m < xs.getD k 0) ∧ (∀ k, over xs m ≤ k → k < xs.length → xs.getD k 0 ≤ m) := by
  induction xs with
  | nil => intro _; simp [over]
  | cons x xs ih =>
    intro hf
    have hf' : Falls xs := fun i j hij hj => by
      have := hf (i + 1) (j + 1) (by omega) (by simp; omega)
      simpa using this
    obtain ⟨i1, i2⟩ := ih hf'
    have ho : over (x :: xs) m = over xs m + if m < x then 1 else 0 := by unfold over; rw [List.countP_cons]; simp
    by_cases hx : m < x
    · rw [ho, if_pos hx]
      refine ⟨fun k hk => ?_, fun k hk hl => ?_⟩
      · cases k with
        | zero => simpa using hx
        | succ k => simpa using i1 k (by omega)
      · cases k with
        | zero => omega
        | succ k => simpa using i2 k (by omega) (by simpa using hl)
    · rw [ho, if_neg hx]
      have h0 : over xs m = 0 := by
        rcases Nat.eq_zero_or_pos (over xs m) with h | h
        · exact h
        · have h1 := i1 0 h
          have hne : 0 < xs.length := Nat.lt_of_lt_of_le h (over_le xs m)
          have h2 := hf 0 1 (by omega) (by simp; omega)
          simp at h2 h1
          omega
      refine ⟨fun k hk => by omega, fun k hk hl => ?_⟩
      have := hf 0 k (by omega) hl
      simp at this ⊢
      omega
set_option maxHeartbeats 1000000 in
theorem search_i (a : Option Addr) (c : Nat) (xs : List Int) (m : Int) (w : World) (hn : xs.length ≤ 1000) (hf : Falls xs) (hr : Row w a xs) :
    Calls Try.prog 31 #[.slice a xs.length c, .int .i64 m, .func (.func 32) #[] #[]] w (fun e w' => ∃ b, e = .returned (.tuple #[.int .i64 ((over xs m : Nat) : Int), .bool b]) ∧ w = w') := by
  have HC := Lib.hid hr
  obtain ⟨s1, s2⟩ := over_split xs m hf
  have HS1 := Lib.hid s1
  have HS2 := Lib.hid s2
  have hov := over_le xs m
  clear hr hf s1 s2
  unfold Row at HC
  generalize over xs m = K at *
  generalize hN : xs.length = N at *
  clear hN
  go_enter Try.func31, Try.ntmps31
  go_wp2
  go_loop [9, 10, 11] (fun i j _ => ∃ p q : Nat, i = .int .i64 p ∧ j = .int .i64 q ∧ p ≤ K ∧ K ≤ q ∧ q ≤ N) (fun i j _ => (intOf j).toNat - (intOf i).toNat)
  case atStart => exact ⟨0, N, rfl, rfl, Nat.zero_le _, hov, Nat.le_refl _⟩
  case round =>
    obtain ⟨p, q, rfl, rfl, hp, hq, hqN⟩ := hrel
    by_cases hlt : p < q
    · have hlti : (p : Int) < q := by omega
      obtain ⟨b, off, rfl, c1, _⟩ := HC.out ((p + q) / 2) (by omega)
      have hc1 := HS1.out ((p + q) / 2)
      have hc2 := HS2.out ((p + q) / 2)
      have HL := Lib.hid (clo_i (xs.getD ((p + q) / 2) 0) m w)
      generalize xs.getD ((p + q) / 2) 0 = u at *
      have hd : (((p + q) / 2 : Nat) : Int) = ((p : Int) + q) / 2 := by omega
      by_cases hmu : m < u
      · have e : cmp3 m u = -1 := if_pos hmu
        have hK : (p + q) / 2 < K := by
          apply Classical.byContradiction; intro hno
          have := hc2 (by omega) (by omega); omega
        rw [e] at HL
        clear hc1 hc2 e
        go_wp2_with (go_at_call 32; refine HL.out.mono ?_; rintro e w' ⟨rfl, rfl⟩)
        go_round
        case rel => exact ⟨(p + q) / 2 + 1, q, by congr 1, rfl, by omega, hq, hqN⟩
        case measure => simp [intOf]; omega
      · have e : 0 ≤ cmp3 m u := by unfold cmp3; rw [if_neg hmu]; split <;> decide
        have e2 : ¬ cmp3 m u < 0 := by omega
        have hK : K ≤ (p + q) / 2 := by
          apply Classical.byContradiction; intro hno
          have := hc1 (by omega); omega
        clear hc1 hc2
        go_wp2_with (go_at_call 32; refine HL.out.mono ?_; rintro e w' ⟨rfl, rfl⟩)
        go_round
        case rel => exact ⟨p, (p + q) / 2, rfl, by congr 1, hp, hK, by omega⟩
        case measure => simp [intOf]; omega
    · have e1 : p = K := by omega
      have e2 : q = K := by omega
      subst e1 e2
      by_cases hl : q < N
      · obtain ⟨b, off, rfl, c1, _⟩ := HC.out q hl
        have HL := Lib.hid (clo_i (xs.getD q 0) m w)
        have hli : (q : Int) < N := by omega
        generalize xs.getD q 0 = u at *
        go_wp2_with (go_at_call 32; refine HL.out.mono ?_; rintro e w' ⟨rfl, rfl⟩)
        go_ret2
        exact ⟨_, rfl, rfl⟩
      · have hli : ¬ (q : Int) < N := by omega
        go_wp2
        go_ret2
        first | exact ⟨_, rfl, rfl⟩ | exact ⟨rfl, rfl⟩ | (refine ⟨?_, rfl⟩; simp; done)
/-- What a function leaves that returns a number and whether it succeeded. -/
def Ib2 (n : Int) (ok : Bool) (w : World) (e : Ending) (w' : World) : Prop := e = .returned (.tuple #[.int .i64 n, .bool ok]) ∧ Below w.heap.size w w'
theorem curve_falls (ds : List Int) (k : Nat) : Falls (curveP ds k) := by
  intro i j hij hj
  rw [curve_len] at hj
  unfold curveP
  rw [told_get _ _ _ (by omega), told_get _ _ _ (by omega)]
  have : ∀ n m, missP ds (n + m) ≤ missP ds n := by
    intro n m
    induction m with
    | zero => exact Nat.le_refl _
    | succ m ih => have := miss_succ ds (n + m); rw [← Nat.add_assoc]; omega
  have h := this i (j - i)
  rw [Nat.add_sub_cancel' hij] at h
  omega
def szOk (xs : List Int) (m : Int) : Bool := okU xs && okS m && decide (over (curveP (distP xs) 60) m < 61)
def szV (xs : List Int) (m : Int) : Int := if szOk xs m then ((over (curveP (distP xs) 60) m : Nat) : Int) else 0
set_option maxHeartbeats 1000000 in
theorem size_for_i {v : Value} {xs : List Int} {w : World} (m : Int) (h : Rd w v xs) (hn : xs.length ≤ 1048576) :
    Calls Try.prog 13 #[v, .int .i64 m] w (Ib2 (szV xs m) (szOk xs m) w) := by
  cases hok : okU xs
  · have hL := Lib.hid (lru_no_i 60 h hn (fun hh => by rw [hok] at hh; cases hh.1))
    have e : szOk xs m = false := by unfold szOk; rw [hok]; rfl
    have e2 : szV xs m = 0 := by unfold szV; rw [e]; rfl
    rw [e, e2]
    clear e e2 hok
    go_enter Try.func13, Try.ntmps13
    go_wp2_with (go_at_call 6; (with_reducible refine hL.out.mono ?_); rintro e w1 ⟨v1, rfl, o1, b1⟩)
    go_ret2
    exact ⟨rfl, b1⟩
  · have hL : Hid (Calls Try.prog 6 #[v, .int .i64 60] w (Res (curveP (distP xs) 60) true w)) := Lib.hid (lru_yes_i 60 (Nat.le_refl _) h hok)
    cases hm : okS m
    · have hB := Lib.hid (fun (w' : World) => bw_no m 0 60 w' (fun hh => by unfold okS at hm; rw [decide_eq_true hh] at hm; cases hm))
      have e : szOk xs m = false := by unfold szOk; rw [hm, Bool.and_false]; rfl
      have e2 : szV xs m = 0 := by unfold szV; rw [e]; rfl
      rw [e, e2]
      clear e e2 hok hm
      go_enter Try.func13, Try.ntmps13
      go_wp2_with (first | (go_at_call 6; (with_reducible refine hL.out.mono ?_); rintro e w1 ⟨v1, rfl, o1, b1⟩) | (go_at_call 30; (with_reducible refine (hB.out _).mono ?_); rintro e w2 ⟨rfl, rfl⟩))
      go_ret2
      exact ⟨rfl, b1⟩
    · have hm2 : 0 ≤ m ∧ m ≤ 60 := by unfold okS at hm; exact of_decide_eq_true hm
      have hB := Lib.hid (fun (w' : World) => bw_yes m 0 60 w' hm2.1 hm2.2)
      have hl := curve_len (distP xs) 60
      have HS := Lib.hid (fun (w1 : World) (B : Nat) (v1 : Value) (o1 : Own w1 B v1 (curveP (distP xs) 60)) => show ∃ a1 c1, v1 = .slice a1 61 c1 ∧ Calls Try.prog 31 #[.slice a1 61 c1, .int .i64 m, .func (.func 32) #[] #[]] w1 (fun e w' => ∃ b, e = .returned (.tuple #[.int .i64 ((over (curveP (distP xs) 60) m : Nat) : Int), .bool b]) ∧ w1 = w') from by
        obtain ⟨a1, c1, e1, _, _, hr1⟩ := o1.rd
        rw [hl] at e1
        refine ⟨a1, c1, e1, ?_⟩
        have := search_i a1 c1 (curveP (distP xs) 60) m w1 (by omega) (curve_falls _ _) hr1
        rw [hl] at this
        exact this)
      have hE1 : szOk xs m = decide (over (curveP (distP xs) 60) m < 61) := by unfold szOk; rw [hok, hm]; rfl
      have hov := over_le (curveP (distP xs) 60) m
      have hE2 : szV xs m = if szOk xs m then ((over (curveP (distP xs) 60) m : Nat) : Int) else 0 := rfl
      rw [hE1] at hE2
      rw [hE1, hE2]
      rw [hl] at hov
      clear hE1 hE2 hok hm hm2 hl
      generalize over (curveP (distP xs) 60) m = K at *
      generalize curveP (distP xs) 60 = CP at *
      by_cases hK : K < 61
      · have hKi : ¬ (K : Int) = 61 := by omega
        rw [decide_eq_true hK, if_pos rfl]
        clear hK
        go_enter Try.func13, Try.ntmps13
        go_wp2_with (first | (go_at_call 6; (with_reducible refine hL.out.mono ?_); rintro e w1 ⟨v1, rfl, o1, b1⟩; obtain ⟨a1, c1, rfl, hQ⟩ := HS.out w1 _ v1 o1; have HQ := Lib.hid hQ; clear hQ) | (go_at_call 30; (with_reducible refine (hB.out _).mono ?_); rintro e w2 ⟨rfl, rfl⟩) | (go_at_call 31; (with_reducible refine HQ.out.mono ?_); rintro e w3 ⟨b3, rfl, rfl⟩))
        go_ret2
        exact ⟨rfl, b1⟩
      · have hKi : K = 61 := by omega
        subst hKi
        rw [decide_eq_false (by omega)]
        clear hK
        go_enter Try.func13, Try.ntmps13
        go_wp2_with (first | (go_at_call 6; (with_reducible refine hL.out.mono ?_); rintro e w1 ⟨v1, rfl, o1, b1⟩; obtain ⟨a1, c1, rfl, hQ⟩ := HS.out w1 _ v1 o1; have HQ := Lib.hid hQ; clear hQ) | (go_at_call 30; (with_reducible refine (hB.out _).mono ?_); rintro e w2 ⟨rfl, rfl⟩) | (go_at_call 31; (with_reducible refine HQ.out.mono ?_); rintro e w3 ⟨b3, rfl, rfl⟩))
        go_ret2
        exact ⟨rfl, b1⟩
end Go.Proofs.Ytfjaaoogbjcgaaa.Tr
