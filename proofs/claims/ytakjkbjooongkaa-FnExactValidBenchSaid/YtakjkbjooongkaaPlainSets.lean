/- Sets as rising lists: a number put in, the set of a list; the uses before and behind a use. No program. -/
import Derived.PlainAid
namespace Go.Proofs.Ytakjkbjooongkaa.Tr
theorem getD_get' (xs : List Int) (j : Nat) (h : j < xs.length) : xs.getD j 0 = xs[j] := by simp [List.getD_eq_getElem?_getD, List.getElem?_eq_getElem h]
def isA (x : Int) : Bool := decide (0 ≤ x) && decide (x ≤ 63)
def okU (xs : List Int) : Bool := decide (xs.length ≤ 60) && xs.all isA
/-- the index of the last use of a below n, or -1 -/
def lastAt (xs : List Int) (a : Int) : Nat → Int
  | 0 => -1
  | n + 1 => if xs.getD n 0 = a then (n : Int) else lastAt xs a n
def gapAt (xs : List Int) (i : Nat) : Int := let l := lastAt xs (xs.getD i 0) i; if l < 0 then 0 else (i : Int) - l
/-- the index of the next use from k on, m places being left, or -1 -/
def nextFrom (xs : List Int) (a : Int) : Nat → Nat → Int
  | _, 0 => -1
  | k, m + 1 => if xs.getD k 0 = a then (k : Int) else nextFrom xs a (k + 1) m
def nextAt (xs : List Int) (i : Nat) : Int := nextFrom xs (xs.getD i 0) (i + 1) (xs.length - (i + 1))
/-- what f tells of the first n places -/
def told (f : Nat → Int) (n : Nat) : List Int := (List.range n).map f
theorem told_length (f : Nat → Int) (n : Nat) : (told f n).length = n := by simp [told]
theorem told_succ (f : Nat → Int) (n : Nat) : told f (n + 1) = told f n ++ [f n] := by simp [told, List.range_succ]
/-- a number into a rising list -/
def put : List Int → Int → List Int
  | [], n => [n]
  | x :: s, n => if x < n then x :: put s n else if x = n then x :: s else n :: x :: s
def Up (s : List Int) : Prop := s.Pairwise (· < ·)
theorem mem_put (s : List Int) (n y : Int) : y ∈ put s n ↔ y = n ∨ y ∈ s := by
  induction s with
  | nil => simp [put]
  | cons x s ih =>
    unfold put
    split
    · simp [ih]; constructor <;> (intro h; rcases h with h | h | h <;> simp [h])
    · split
      · rename_i h; subst h; simp
      · simp
theorem put_up {s : List Int} (n : Int) (h : Up s) : Up (put s n) := by
  induction s with
  | nil => simp [put, Up]
  | cons x s ih =>
    have h' := List.pairwise_cons.1 h
    unfold put
    split
    · rename_i hx
      refine List.pairwise_cons.2 ⟨fun y hy => ?_, ih h'.2⟩
      rcases (mem_put s n y).1 hy with rfl | hy
      · exact hx
      · exact h'.1 y hy
    · split
      · exact h
      · refine List.pairwise_cons.2 ⟨fun y hy => ?_, h⟩
        rcases List.mem_cons.1 hy with rfl | hy
        · omega
        · have := h'.1 y hy; omega
theorem up_ext {s t : List Int} (hs : Up s) (ht : Up t) (h : ∀ y, y ∈ s ↔ y ∈ t) : s = t := by
  induction s generalizing t with
  | nil =>
    cases t with
    | nil => rfl
    | cons b t => exact absurd ((h b).2 (by simp)) (by simp)
  | cons a s ih =>
    cases t with
    | nil => exact absurd ((h a).1 (by simp)) (by simp)
    | cons b t =>
      have hs' := List.pairwise_cons.1 hs
      have ht' := List.pairwise_cons.1 ht
      have e : a = b := by
        have h1 := (h a).1 (by simp)
        have h2 := (h b).2 (by simp)
        rcases List.mem_cons.1 h1 with h1 | h1
        · exact h1
        · rcases List.mem_cons.1 h2 with h2 | h2
          · exact h2.symm
          · have := hs'.1 b h2; have := ht'.1 a h1; omega
      subst e
      rw [ih hs'.2 ht'.2 fun y => ?_]
      constructor
      · intro hy
        have := hs'.1 y hy
        rcases List.mem_cons.1 ((h y).1 (by simp [hy])) with h3 | h3
        · omega
        · exact h3
      · intro hy
        have := ht'.1 y hy
        rcases List.mem_cons.1 ((h y).2 (by simp [hy])) with h3 | h3
        · omega
        · exact h3
def setP (xs : List Int) : List Int := xs.foldl put []
theorem setP_snoc (xs : List Int) (a : Int) : setP (xs ++ [a]) = put (setP xs) a := by simp [setP]
theorem foldl_put_up (xs s : List Int) (h : Up s) : Up (xs.foldl put s) := by
  induction xs generalizing s with
  | nil => exact h
  | cons x xs ih => exact ih _ (put_up x h)
theorem setP_up (xs : List Int) : Up (setP xs) := foldl_put_up xs [] (by simp [Up])
theorem mem_foldl_put (xs s : List Int) (y : Int) : y ∈ xs.foldl put s ↔ y ∈ xs ∨ y ∈ s := by
  induction xs generalizing s with
  | nil => simp
  | cons x xs ih =>
    rw [List.foldl_cons, ih, mem_put, List.mem_cons]
    constructor
    · rintro (h | h | h) <;> simp [h]
    · rintro ((h | h) | h) <;> simp [h]
theorem mem_setP (xs : List Int) (y : Int) : y ∈ setP xs ↔ y ∈ xs := by simp [setP, mem_foldl_put]
theorem setP_congr {xs ys : List Int} (h : ∀ y, y ∈ xs ↔ y ∈ ys) : setP xs = setP ys :=
  up_ext (setP_up _) (setP_up _) fun y => by rw [mem_setP, mem_setP, h]
theorem put_length (s : List Int) (n : Int) : (put s n).length ≤ s.length + 1 := by
  induction s with
  | nil => simp [put]
  | cons x s ih => unfold put; split <;> (try split) <;> simp <;> omega
theorem foldl_put_length (xs s : List Int) : (xs.foldl put s).length ≤ s.length + xs.length := by
  induction xs generalizing s with
  | nil => simp
  | cons x xs ih => have := ih (put s x); have := put_length s x; simp only [List.foldl_cons, List.length_cons]; omega
theorem setP_length (xs : List Int) : (setP xs).length ≤ xs.length := by have := foldl_put_length xs []; simpa [setP] using this
/-- how many are less -/
def below (s : List Int) (n : Int) : Nat := s.countP (fun x => decide (x < n))
theorem below_le (s : List Int) (n : Int) : below s n ≤ s.length := List.countP_le_length
theorem below_cons (x : Int) (s : List Int) (n : Int) : below (x :: s) n = below s n + if x < n then 1 else 0 := by simp [below, List.countP_cons]
theorem below_zero {s : List Int} {n : Int} (h : ∀ y ∈ s, ¬ y < n) : below s n = 0 := by
  unfold below; rw [List.countP_eq_zero]; intro y hy; simpa using h y hy
theorem put_new {s : List Int} {n : Int} (h : Up s) (hn : n ∉ s) : put s n = s.take (below s n) ++ n :: s.drop (below s n) := by
  induction s with
  | nil => simp [put, below]
  | cons x s ih =>
    have h' := List.pairwise_cons.1 h
    rw [below_cons]
    unfold put
    split
    · rw [ih h'.2 (fun h => hn (by simp [h]))]; simp
    · split
      · rename_i e; exact absurd (by simp [e]) hn
      · rw [below_zero fun y hy => by have := h'.1 y hy; omega]; simp
theorem put_old {s : List Int} {n : Int} (h : Up s) (hn : n ∈ s) : put s n = s :=
  up_ext (put_up n h) h fun y => by rw [mem_put]; constructor; (intro h; rcases h with rfl | h; exact hn; exact h); (intro h; exact .inr h)
/-- what the model's insertion holds after j elements, and whether the number is placed -/
def putK (s : List Int) (n : Int) : Nat → List Int × Bool
  | 0 => ([], false)
  | j + 1 =>
    let p := putK s n j
    let x := s.getD j 0
    if p.2 = false ∧ n ≤ x then (if n < x then p.1 ++ [n, x] else p.1 ++ [x], true) else (p.1 ++ [x], p.2)
theorem putK_false (s : List Int) (n : Int) (j : Nat) (hj : j ≤ s.length) (h : (putK s n j).2 = false) : (putK s n j).1 = s.take j ∧ ∀ y ∈ s.take j, y < n := by
  induction j with
  | zero => simp [putK]
  | succ j ih =>
    simp only [putK] at h ⊢
    split at h
    · simp at h
    · rename_i hc
      rw [if_neg hc]
      have ih := ih (by omega) h
      have hx : s.getD j 0 = s[j] := by simp [List.getD_eq_getElem?_getD, List.getElem?_eq_getElem (show j < s.length by omega)]
      rw [List.take_succ_eq_append_getElem (by omega), ih.1, hx]
      refine ⟨rfl, fun y hy => ?_⟩
      rcases List.mem_append.1 hy with hy | hy
      · exact ih.2 y hy
      · simp at hy; subst hy; rw [hx] at hc
        have : ¬ (n ≤ s[j]) := fun hle => hc ⟨h, hle⟩
        omega
theorem put_append_lt (a b : List Int) (n : Int) (h : ∀ y ∈ a, y < n) : put (a ++ b) n = a ++ put b n := by
  induction a with
  | nil => rfl
  | cons x a ih =>
    rw [List.cons_append, put, if_pos (h x (by simp)), ih fun y hy => h y (by simp [hy])]; rfl
theorem putK_true (s : List Int) (n : Int) (j : Nat) (hj : j ≤ s.length) (h : (putK s n j).2 = true) : (putK s n j).1 = put (s.take j) n := by
  induction j with
  | zero => simp [putK] at h
  | succ j ih =>
    have hx : s.getD j 0 = s[j] := by simp [List.getD_eq_getElem?_getD, List.getElem?_eq_getElem (show j < s.length by omega)]
    simp only [putK] at h ⊢
    rw [List.take_succ_eq_append_getElem (show j < s.length by omega)]
    by_cases hc : (putK s n j).2 = false ∧ n ≤ s.getD j 0
    · rw [if_pos hc]
      have hf := putK_false s n j (by omega) hc.1
      rw [put_append_lt _ _ _ hf.2, hf.1]
      rw [hx] at hc ⊢
      have hp : put [s[j]] n = if n < s[j] then [n, s[j]] else [s[j]] := by
        have h0 : put [s[j]] n = if s[j] < n then s[j] :: put [] n else if s[j] = n then s[j] :: [] else n :: s[j] :: [] := rfl
        rw [h0, if_neg (by omega)]
        by_cases e : s[j] = n
        · rw [if_pos e, if_neg (by omega)]
        · rw [if_neg e, if_pos (by omega)]
      rw [hp]
      show (if n < s[j] then s.take j ++ [n, s[j]] else s.take j ++ [s[j]]) = _
      split <;> rfl
    · rw [if_neg hc] at h ⊢
      have ih := ih (by omega) h
      rw [ih, hx]
      have key : ∀ (a : List Int) (x : Int), (∃ y ∈ a, n ≤ y) → put (a ++ [x]) n = put a n ++ [x] := by
        intro a x ⟨y, hy, hny⟩
        induction a with
        | nil => simp at hy
        | cons z a iha =>
          rw [List.cons_append]
          unfold put
          split
          · rename_i hz
            have hy' : y ∈ a := by rcases List.mem_cons.1 hy with rfl | hy; omega; exact hy
            rw [iha hy']; rfl
          · split <;> rfl
      refine (key _ _ ?_).symm
      exact Classical.byContradiction fun hno => by
        have hall : ∀ y ∈ s.take j, y < n := fun y hy => by
          apply Classical.byContradiction; intro hlt; exact hno ⟨y, hy, by omega⟩
        have : put (s.take j) n = s.take j ++ [n] := by
          have := put_append_lt (s.take j) [] n hall
          simpa [put] using this
        -- the placed number came behind an element that is not less
        have hex : ∀ k, k ≤ s.length → (putK s n k).2 = true → ∃ y ∈ s.take k, n ≤ y := by
          intro k
          induction k with
          | zero => intro _ h0; simp [putK] at h0
          | succ k ihk =>
            intro hk h0
            have hxk : s.getD k 0 = s[k] := by simp [List.getD_eq_getElem?_getD, List.getElem?_eq_getElem (show k < s.length by omega)]
            simp only [putK] at h0
            rw [List.take_succ_eq_append_getElem (show k < s.length by omega)]
            by_cases hck : (putK s n k).2 = false ∧ n ≤ s.getD k 0
            · exact ⟨s[k], List.mem_append_right _ (by simp), by rw [hxk] at hck; exact hck.2⟩
            · rw [if_neg hck] at h0
              obtain ⟨y, hy, hn⟩ := ihk (by omega) h0
              exact ⟨y, List.mem_append_left _ hy, hn⟩
        exact hno (hex j (by omega) h)
theorem putK_end (s : List Int) (n : Int) : (if (putK s n s.length).2 then (putK s n s.length).1 else (putK s n s.length).1 ++ [n]) = put s n := by
  cases h : (putK s n s.length).2
  · have hf := putK_false s n s.length (Nat.le_refl _) h
    rw [List.take_length] at hf
    have := put_append_lt s [] n hf.2
    simp only [List.append_nil] at this
    rw [this, hf.1]; simp [put]
  · have ht := putK_true s n s.length (Nat.le_refl _) h
    rw [List.take_length] at ht
    simpa using ht
theorem putK_length (s : List Int) (n : Int) (j : Nat) : (putK s n j).1.length ≤ j + 1 ∧ ((putK s n j).2 = false → (putK s n j).1.length = j) := by
  induction j with
  | zero => simp [putK]
  | succ j ih =>
    simp only [putK]
    split
    · rename_i hc; have := ih.2 hc.1; split <;> simp <;> omega
    · simp; refine ⟨by omega, fun h => by have := ih.2 h; omega⟩
end Go.Proofs.Ytakjkbjooongkaa.Tr
