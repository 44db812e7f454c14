/- The order that follows from a seed: exchanges, one behind the other, of a list that rises from 0. It has each number once. No program. -/
import Derived.Test.YthfgaoojgdikpaaPlainSeed
namespace Go.Proofs.Ythfgaoojgdikpaa.Sd
def swap (xs : List Int) (i k : Nat) : List Int := (xs.set i (xs.getD k 0)).set k (xs.getD i 0)
def iota : Nat → List Int
  | 0 => []
  | n + 1 => iota n ++ [(n : Int)]
theorem iota_length (n : Nat) : (iota n).length = n := by
  induction n with
  | zero => rfl
  | succ n ih => simp [iota, ih]
theorem iota_get (n p : Nat) (h : p < n) : (iota n).getD p 0 = p := by
  induction n with
  | zero => omega
  | succ n ih =>
    rw [iota, List.getD_eq_getElem?_getD]
    by_cases hp : p < n
    · rw [List.getElem?_append_left (by rw [iota_length]; exact hp), ← List.getD_eq_getElem?_getD, ih hp]
    · have e : p = n := by omega
      subst e
      rw [List.getElem?_append_right (by rw [iota_length]; exact Nat.le_refl _), iota_length]
      simp
/-- The list after j exchanges. -/
def ordF (s n : Nat) : Nat → List Int
  | 0 => iota n
  | j + 1 => swap (ordF s n j) (n - 1 - j) (at_ s (j + 1) % (n - 1 - j + 1))
def ord (s n : Nat) : List Int := ordF s n (n - 1)
theorem swap_length (xs : List Int) (i k : Nat) : (swap xs i k).length = xs.length := by simp [swap]
theorem ordF_length (s n j : Nat) : (ordF s n j).length = n := by
  induction j with
  | zero => exact iota_length n
  | succ j ih => rw [ordF, swap_length, ih]
theorem swap_get (xs : List Int) (i k p : Nat) (hi : i < xs.length) (hk : k < xs.length) (_hp : p < xs.length) :
    (swap xs i k).getD p 0 = xs.getD (if p = k then i else if p = i then k else p) 0 := by
  simp only [swap, List.getD_eq_getElem?_getD, List.getElem?_set, List.length_set]
  by_cases h1 : k = p
  · subst h1; simp [hk]
  · have h1' : ¬ p = k := fun h => h1 h.symm
    by_cases h2 : i = p
    · subst h2; simp [h1, h1', hi]
    · have h2' : ¬ p = i := fun h => h2 h.symm
      simp [h1, h1', h2, h2']
/-- Each place holds a number below n, no two the same. -/
def Once (n : Nat) (xs : List Int) : Prop := xs.length = n ∧ (∀ p, p < n → 0 ≤ xs.getD p 0 ∧ xs.getD p 0 < n) ∧ ∀ p q, p < n → q < n → xs.getD p 0 = xs.getD q 0 → p = q
theorem once_swap {n : Nat} {xs : List Int} (h : Once n xs) (i k : Nat) (hi : i < n) (hk : k < n) : Once n (swap xs i k) := by
  obtain ⟨hl, hr, hu⟩ := h
  refine ⟨by rw [swap_length, hl], fun p hp => ?_, fun p q hp hq e => ?_⟩
  · rw [swap_get xs i k p (by omega) (by omega) (by omega)]
    split
    · exact hr _ hi
    · split
      · exact hr _ hk
      · exact hr _ hp
  · rw [swap_get xs i k p (by omega) (by omega) (by omega), swap_get xs i k q (by omega) (by omega) (by omega)] at e
    have e2 := hu _ _ (by split <;> (try split) <;> omega) (by split <;> (try split) <;> omega) e
    split at e2 <;> split at e2 <;> (try split at e2) <;> (try split at e2) <;> omega
theorem once_iota (n : Nat) : Once n (iota n) := by
  refine ⟨iota_length n, fun p hp => ?_, fun p q hp hq e => ?_⟩
  · rw [iota_get n p hp]; omega
  · rw [iota_get n p hp, iota_get n q hq] at e; omega
theorem once_ordF (s n j : Nat) (h : j < n) : Once n (ordF s n j) := by
  induction j with
  | zero => exact once_iota n
  | succ j ih =>
    have hm : at_ s (j + 1) % (n - 1 - j + 1) < n - 1 - j + 1 := Nat.mod_lt _ (by omega)
    exact once_swap (ih (by omega)) _ _ (by omega) (by omega)
theorem once_ord (s n : Nat) : Once n (ord s n) := by
  cases n with
  | zero => exact ⟨rfl, fun p hp => by omega, fun p q hp => by omega⟩
  | succ n => exact once_ordF s (n + 1) n (by omega)
theorem ord_length (s n : Nat) : (ord s n).length = n := ordF_length s n _
end Go.Proofs.Ythfgaoojgdikpaa.Sd
