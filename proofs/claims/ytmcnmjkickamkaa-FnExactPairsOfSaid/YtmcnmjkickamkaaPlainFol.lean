/- Which line has followed each line of a list. No program. -/
namespace Go.Proofs.Ytmcnmjkickamkaa.St
/-- What follows the last place of x ahead of place i. -/
def fdn (L : List Int) (x : Int) : Nat → Int
  | 0 => -1
  | i + 1 => if L.getD i 0 = x then L.getD (i + 1) 0 else fdn L x i
def fol (L : List Int) (x : Int) : Int := fdn L x (L.length - 1)
/-- The rows of the lines below j. -/
def prw (L : List Int) : Nat → List (List Int)
  | 0 => []
  | j + 1 => if 0 ≤ fol L (j : Int) then prw L j ++ [[(j : Int), fol L (j : Int)]] else prw L j
theorem prw_len (L : List Int) (j : Nat) : (prw L j).length ≤ j := by
  induction j with
  | zero => simp [prw]
  | succ j ih =>
    unfold prw
    split
    · simp; omega
    · omega
theorem prw_sum (L : List Int) (j : Nat) : ((prw L j).map List.length).sum ≤ 2 * j := by
  induction j with
  | zero => simp [prw]
  | succ j ih =>
    unfold prw
    split
    · simp only [List.map_append, List.sum_append, List.map_cons, List.map_nil, List.sum_cons, List.sum_nil, List.length_cons, List.length_nil]; omega
    · omega
theorem prw_succ (L : List Int) (j : Nat) : prw L (j + 1) = if 0 ≤ fol L (j : Int) then prw L j ++ [[(j : Int), fol L (j : Int)]] else prw L j := rfl
theorem fdn_succ (L : List Int) (x : Int) (i : Nat) : fdn L x (i + 1) = if L.getD i 0 = x then L.getD (i + 1) 0 else fdn L x i := rfl
/-- One more at the end: it follows the one that was last. -/
theorem fdn_app (L : List Int) (y x : Int) (i : Nat) (h : i + 1 ≤ L.length) : fdn (L ++ [y]) x i = fdn L x i := by
  induction i with
  | zero => rfl
  | succ i ih =>
    rw [fdn_succ, fdn_succ, ih (by omega)]
    rw [List.getD_eq_getElem?_getD, List.getElem?_append_left (by omega), List.getD_eq_getElem?_getD (l := L ++ [y]), List.getElem?_append_left (by omega), ← List.getD_eq_getElem?_getD, ← List.getD_eq_getElem?_getD]
theorem fol_app (L : List Int) (y x : Int) (h : 1 ≤ L.length) : fol (L ++ [y]) x = if L.getD (L.length - 1) 0 = x then y else fol L x := by
  obtain ⟨m, hm⟩ : ∃ m, L.length = m + 1 := ⟨L.length - 1, by omega⟩
  unfold fol
  rw [show (L ++ [y]).length - 1 = m + 1 by simp [hm], fdn_succ, show L.length - 1 = m by omega, fdn_app _ _ _ _ (by omega)]
  rw [List.getD_eq_getElem?_getD, List.getElem?_append_left (by omega), List.getD_eq_getElem?_getD (l := L ++ [y]), List.getElem?_append_right (by omega), ← List.getD_eq_getElem?_getD]
  simp [hm]
theorem fol_one (L : List Int) (x : Int) (h : L.length ≤ 1) : fol L x = -1 := by
  unfold fol
  rw [show L.length - 1 = 0 by omega]
  rfl
theorem fdn_in (L : List Int) (x : Int) (hL : ∀ v ∈ L, 0 ≤ v ∧ v ≤ 63) (i : Nat) (hi : i + 1 ≤ L.length ∨ i = 0) : -1 ≤ fdn L x i ∧ fdn L x i ≤ 63 := by
  induction i with
  | zero => exact ⟨by show (-1 : Int) ≤ -1; decide, by show (-1 : Int) ≤ 63; decide⟩
  | succ i ih =>
    rw [fdn_succ]
    split
    · have hi2 : i + 1 < L.length := by omega
      have := hL (L.getD (i + 1) 0) (by rw [List.getD_eq_getElem?_getD, List.getElem?_eq_getElem hi2]; exact List.getElem_mem hi2)
      omega
    · exact ih (by omega)
theorem fol_in (L : List Int) (x : Int) (hL : ∀ v ∈ L, 0 ≤ v ∧ v ≤ 63) : -1 ≤ fol L x ∧ fol L x ≤ 63 := fdn_in L x hL _ (by omega)
end Go.Proofs.Ytmcnmjkickamkaa.St
