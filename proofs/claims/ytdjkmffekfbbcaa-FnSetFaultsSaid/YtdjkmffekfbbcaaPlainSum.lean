/- The sizes of the working sets add up to what each use is followed by until the next use of its address, or the end, at most the window. No program. -/
import Derived.Test.YtdjkmffekfbbcaaPlainUses
namespace Go.Proofs.Ytdjkmffekfbbcaa.Tr
theorem nextFrom_spec (xs : List Int) (x : Int) : ∀ m k, (nextFrom xs x k m = -1 ∧ ∀ t, k ≤ t → t < k + m → xs.getD t 0 ≠ x) ∨
    ∃ t, nextFrom xs x k m = (t : Nat) ∧ k ≤ t ∧ t < k + m ∧ xs.getD t 0 = x ∧ ∀ s, k ≤ s → s < t → xs.getD s 0 ≠ x
  | 0, k => .inl ⟨rfl, fun t h1 h2 => by omega⟩
  | m + 1, k => by
    have h0 : nextFrom xs x k (m + 1) = if xs.getD k 0 = x then (k : Int) else nextFrom xs x (k + 1) m := rfl
    by_cases h : xs.getD k 0 = x
    · exact .inr ⟨k, by rw [h0, if_pos h], by omega, by omega, h, fun s h1 h2 => by omega⟩
    · rw [if_neg h] at h0
      rcases nextFrom_spec xs x m (k + 1) with ⟨h1, h2⟩ | ⟨t, h1, h2, h3, h4, h5⟩
      · refine .inl ⟨by rw [h0, h1], fun t h3 h4 => ?_⟩
        by_cases e : t = k
        · subst e; exact h
        · exact h2 t (by omega) (by omega)
      · refine .inr ⟨t, by rw [h0, h1], by omega, by omega, h4, fun s h6 h7 => ?_⟩
        by_cases e : s = k
        · subst e; exact h
        · exact h5 s (by omega) h7
/-- where a use is followed by the next one, or the end -/
def endN (xs : List Int) (j : Nat) : Nat := if nextAt xs j < 0 then xs.length else (nextAt xs j).toNat
theorem endN_le (xs : List Int) (j : Nat) (hj : j < xs.length) : j < endN xs j ∧ endN xs j ≤ xs.length := by
  unfold endN nextAt
  rcases nextFrom_spec xs (xs.getD j 0) (xs.length - (j + 1)) (j + 1) with ⟨h1, _⟩ | ⟨t, h1, h2, h3, _, _⟩
  · rw [h1, if_pos (by omega)]; omega
  · rw [h1, if_neg (by omega)]; simp; omega
theorem endN_lt (xs : List Int) (j i : Nat) (hj : j < xs.length) (hi : i < xs.length) : i < endN xs j ↔ ∀ k, j < k → k ≤ i → xs.getD k 0 ≠ xs.getD j 0 := by
  unfold endN nextAt
  rcases nextFrom_spec xs (xs.getD j 0) (xs.length - (j + 1)) (j + 1) with ⟨h1, h2⟩ | ⟨t, h1, h2, h3, h4, h5⟩
  · rw [h1, if_pos (by omega)]
    exact ⟨fun _ k h3 h4 => h2 k (by omega) (by omega), fun _ => hi⟩
  · rw [h1, if_neg (by omega)]
    constructor
    · intro h k h6 h7
      exact h5 k (by omega) (by simp at h; omega)
    · intro h
      apply Classical.byContradiction
      intro hn
      exact h t (by omega) (by simp at hn; omega) h4
def sumTo (f : Nat → Nat) : Nat → Nat
  | 0 => 0
  | n + 1 => sumTo f n + f n
theorem sumTo_congr {f g : Nat → Nat} (n : Nat) (h : ∀ i, i < n → f i = g i) : sumTo f n = sumTo g n := by
  induction n with
  | zero => rfl
  | succ n ih => simp only [sumTo]; rw [ih fun i hi => h i (by omega), h n (by omega)]
theorem sumTo_zero (n : Nat) : sumTo (fun _ => 0) n = 0 := by
  induction n with
  | zero => rfl
  | succ n ih => simp [sumTo, ih]
theorem sumTo_add (f g : Nat → Nat) (n : Nat) : sumTo (fun i => f i + g i) n = sumTo f n + sumTo g n := by
  induction n with
  | zero => rfl
  | succ n ih => simp only [sumTo]; omega
theorem sumTo_swap (f : Nat → Nat → Nat) (n m : Nat) : sumTo (fun i => sumTo (f i) m) n = sumTo (fun j => sumTo (fun i => f i j) n) m := by
  induction n with
  | zero => simp [sumTo, sumTo_zero]
  | succ n ih => simp only [sumTo]; rw [ih, sumTo_add]
theorem sumTo_split (f : Nat → Nat) (a b : Nat) : sumTo f (a + b) = sumTo f a + sumTo (fun p => f (a + p)) b := by
  induction b with
  | zero => rfl
  | succ b ih => show sumTo f (a + b) + f (a + b) = _; rw [ih]; simp only [sumTo]; omega
/-- so many numbers from a to b - 1 -/
theorem sumTo_interval (a b n : Nat) (hb : b ≤ n) : sumTo (fun i => if a ≤ i ∧ i < b then 1 else 0) n = b - a := by
  induction n generalizing b with
  | zero => simp [sumTo]; omega
  | succ n ih =>
    simp only [sumTo]
    by_cases e : b = n + 1
    · subst e
      have h1 : sumTo (fun i => if a ≤ i ∧ i < n + 1 then 1 else 0) n = sumTo (fun i => if a ≤ i ∧ i < n then 1 else 0) n :=
        sumTo_congr n fun i hi => by
          by_cases h : a ≤ i
          · rw [if_pos ⟨h, by omega⟩, if_pos ⟨h, hi⟩]
          · rw [if_neg (fun h' => h h'.1), if_neg (fun h' => h h'.1)]
      rw [h1, ih n (Nat.le_refl _)]
      by_cases h : a ≤ n
      · rw [if_pos ⟨h, by omega⟩]; omega
      · rw [if_neg (fun h' => h h'.1)]; omega
    · rw [ih b (by omega), if_neg (by omega)]; omega
/-- how many places of a list hold what does not come again -/
def lastN : List Int → Nat
  | [] => 0
  | x :: l => (if x ∈ l then 0 else 1) + lastN l
theorem put_cons_length (s : List Int) (n : Int) (h : Up s) : (put s n).length = s.length + if n ∈ s then 0 else 1 := by
  by_cases hn : n ∈ s
  · rw [put_old h hn, if_pos hn]; rfl
  · rw [put_new h hn, if_neg hn]
    have := below_le s n
    simp; omega
theorem lastN_set (l : List Int) : lastN l = (setP l).length := by
  induction l with
  | nil => rfl
  | cons x l ih =>
    have e : setP (x :: l) = put (setP l) x := up_ext (setP_up _) (put_up _ (setP_up _)) fun y => by rw [mem_setP, mem_put, mem_setP, List.mem_cons]
    rw [e, put_cons_length _ _ (setP_up l), lastN, ih]
    by_cases h : x ∈ l
    · rw [if_pos h, if_pos ((mem_setP l x).2 h)]; omega
    · rw [if_neg h, if_neg (fun h' => h ((mem_setP l x).1 h'))]; omega
theorem lastN_sum (l : List Int) : lastN l = sumTo (fun p => if l.getD p 0 ∈ l.drop (p + 1) then 0 else 1) l.length := by
  induction l with
  | nil => rfl
  | cons x l ih =>
    rw [lastN, List.length_cons, Nat.add_comm l.length 1, sumTo_split, ih]
    simp [sumTo]
    exact sumTo_congr _ fun p _ => by rw [Nat.add_comm 1 p]; rfl
def wsP (xs : List Int) (q i : Nat) : List Int := setP ((xs.take (i + 1)).drop (i + 1 - q))
theorem ws_live (xs : List Int) (q i : Nat) (hi : i < xs.length) (hq : 1 ≤ q) :
    (wsP xs q i).length = sumTo (fun j => if j ≤ i ∧ i < j + q ∧ i < endN xs j then 1 else 0) xs.length := by
  unfold wsP
  rw [← lastN_set, lastN_sum]
  have hl : ((xs.take (i + 1)).drop (i + 1 - q)).length = i + 1 - (i + 1 - q) := by simp; omega
  rw [hl]
  obtain ⟨lo, hlo⟩ : ∃ lo, i + 1 - q = lo := ⟨_, rfl⟩
  rw [hlo]
  have e1 : xs.length = lo + ((i + 1 - lo) + (xs.length - (i + 1))) := by omega
  have e2 := sumTo_split (fun j => if j ≤ i ∧ i < j + q ∧ i < endN xs j then 1 else 0) lo ((i + 1 - lo) + (xs.length - (i + 1)))
  rw [← e1] at e2
  have e3 := sumTo_split (fun p => if lo + p ≤ i ∧ i < lo + p + q ∧ i < endN xs (lo + p) then 1 else 0) (i + 1 - lo) (xs.length - (i + 1))
  rw [e2, e3]
  have z1 : sumTo (fun j => if j ≤ i ∧ i < j + q ∧ i < endN xs j then 1 else 0) lo = 0 := by
    rw [sumTo_congr (g := fun _ => 0) lo fun j hj => by rw [if_neg (by omega)], sumTo_zero]
  have z2 : sumTo (fun p => if lo + (i + 1 - lo + p) ≤ i ∧ i < lo + (i + 1 - lo + p) + q ∧ i < endN xs (lo + (i + 1 - lo + p)) then 1 else 0) (xs.length - (i + 1)) = 0 := by
    rw [sumTo_congr (g := fun _ => 0) _ fun j hj => by rw [if_neg (by omega)], sumTo_zero]
  rw [z1, z2, Nat.zero_add, Nat.add_zero]
  refine sumTo_congr _ fun p hp => ?_
  have hg : ∀ r, r < i + 1 - lo → ((xs.take (i + 1)).drop lo).getD r 0 = xs.getD (lo + r) 0 := fun r hr => by
    rw [List.getD_eq_getElem?_getD, List.getD_eq_getElem?_getD, List.getElem?_drop, List.getElem?_take_of_lt (by omega)]
  have hiff : ((xs.take (i + 1)).drop lo).getD p 0 ∈ ((xs.take (i + 1)).drop lo).drop (p + 1) ↔ ¬ (i < endN xs (lo + p)) := by
    rw [endN_lt xs (lo + p) i (by omega) hi, hg p hp]
    constructor
    · intro hm hall
      obtain ⟨r, hr, er⟩ := List.mem_iff_getElem.1 hm
      have hr' : p + 1 + r < i + 1 - lo := by simp at hr; omega
      refine hall (lo + (p + 1 + r)) (by omega) (by omega) ?_
      rw [← er, ← hg _ hr', List.getElem_drop]
      rw [List.getD_eq_getElem?_getD, List.getElem?_eq_getElem]; rfl
    · intro hn
      have : ∃ k, lo + p < k ∧ k ≤ i ∧ xs.getD k 0 = xs.getD (lo + p) 0 := by
        apply Classical.byContradiction
        intro hno
        exact hn fun k h1 h2 h3 => hno ⟨k, h1, h2, h3⟩
      obtain ⟨k, h1, h2, h3⟩ := this
      rw [← h3, show k = lo + (p + 1 + (k - (lo + p + 1))) by omega, ← hg _ (by omega)]
      have hlt : k - (lo + p + 1) < (((xs.take (i + 1)).drop lo).drop (p + 1)).length := by simp; omega
      have := List.getElem_mem hlt
      rw [List.getElem_drop] at this
      rw [List.getD_eq_getElem?_getD, List.getElem?_eq_getElem (by simp; omega)]
      exact this
  by_cases h : i < endN xs (lo + p)
  · rw [if_neg (fun h' => hiff.1 h' h), if_pos ⟨by omega, by omega, h⟩]
  · rw [if_pos (hiff.2 h), if_neg (fun h' => h h'.2.2)]
/-- The sizes of the working sets add up to what each use is followed by, at most the window. -/
theorem working_sum (xs : List Int) (q : Nat) (hq : 1 ≤ q) : sumTo (fun i => (wsP xs q i).length) xs.length = sumTo (fun j => min (endN xs j - j) q) xs.length := by
  rw [sumTo_congr xs.length fun i hi => ws_live xs q i hi hq, sumTo_swap]
  refine sumTo_congr _ fun j hj => ?_
  have h := endN_le xs j hj
  rw [sumTo_congr (g := fun i => if j ≤ i ∧ i < min (endN xs j) (j + q) then 1 else 0) xs.length fun i _ => by
    by_cases c : j ≤ i ∧ i < j + q ∧ i < endN xs j
    · rw [if_pos c, if_pos (by omega)]
    · rw [if_neg c, if_neg (by omega)], sumTo_interval j (min (endN xs j) (j + q)) xs.length (by omega)]
  omega
end Go.Proofs.Ytdjkmffekfbbcaa.Tr
