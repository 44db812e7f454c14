/- The text of a list of numbers: built from the left, and joined by blanks. No program. -/
import Derived.Test.YtdilbogjihafoaaDoorPlainDec
import Derived.Lib.Join
namespace Go.Proofs.YtdilbogjihafoaaDoor.Tx
theorem itoa_len (n : Int) (h0 : -1000000000 ≤ n) (h1 : n ≤ 1000000000) : (Lib.itoa n).length ≤ 20 ∧ Lib.itoa n ≠ [] := by
  by_cases hz : n = 0
  · subst hz; rw [Dc.itoa_zero]; simp
  · by_cases hp : 0 < n
    · obtain ⟨u, rfl⟩ := Int.eq_ofNat_of_zero_le (show 0 ≤ n by omega)
      rw [Dc.itoa_pos u (by omega)]
      refine ⟨Dc.decR_len 20 u (by omega), ?_⟩
      rw [Dc.decR_step u (by omega)]; simp
    · obtain ⟨u, hu⟩ := Int.eq_ofNat_of_zero_le (show 0 ≤ -n by omega)
      rw [show n = -(u : Int) by omega, Dc.itoa_neg u (by omega)]
      refine ⟨?_, by simp⟩
      have := Dc.decR_len 19 u (by omega)
      simp; omega
/-- The text after j numbers, as it is built from the left. -/
def sp (xs : List Int) : Nat → List UInt8
  | 0 => []
  | j + 1 => (if j = 0 then sp xs j else sp xs j ++ [32]) ++ Lib.itoa (xs.getD j 0)
theorem sp_join (xs : List Int) (j : Nat) (h : j ≤ xs.length) : sp xs j = Lib.join ((xs.take j).map Lib.itoa) [32] := by
  induction j with
  | zero => rfl
  | succ j ih =>
    have ih := ih (by omega)
    cases xs with
    | nil => simp at h
    | cons x r =>
      cases j with
      | zero => simp [sp, Lib.join_one]
      | succ j =>
        rw [sp, if_neg (by omega), ih]
        simp only [List.take_succ_cons, List.map_cons, Lib.join_cons]
        have hr : (r.map Lib.itoa)[j]? = some (Lib.itoa (r.getD j 0)) := by
          simp at h
          rw [List.getElem?_map, List.getD_eq_getElem?_getD, List.getElem?_eq_getElem (by omega)]; rfl
        have e := Lib.joinTail_take_succ [32] (r.map Lib.itoa) j _ hr
        rw [← List.map_take, ← List.map_take] at e
        rw [e]
        simp [List.append_assoc]
theorem sp_len (xs : List Int) (hx : ∀ i, i < xs.length → -1000000000 ≤ xs.getD i 0 ∧ xs.getD i 0 ≤ 1000000000) (j : Nat) (h : j ≤ xs.length) : (sp xs j).length ≤ 21 * j := by
  induction j with
  | zero => simp [sp]
  | succ j ih =>
    have ih := ih (by omega)
    have hb := hx j (by omega)
    have hl := (itoa_len _ hb.1 hb.2).1
    have e : (sp xs (j + 1)).length ≤ (sp xs j).length + 1 + (Lib.itoa (xs.getD j 0)).length := by
      rw [sp, List.length_append]
      split
      · omega
      · rw [List.length_append]; simp
    omega
theorem sp_ne (xs : List Int) (hx : ∀ i, i < xs.length → -1000000000 ≤ xs.getD i 0 ∧ xs.getD i 0 ≤ 1000000000) (j : Nat) (h : j < xs.length) : sp xs (j + 1) ≠ [] := by
  have hb := hx j h
  have hl := (itoa_len _ hb.1 hb.2).2
  rw [sp]
  intro h2
  exact hl (List.append_eq_nil_iff.1 h2).2
def text (xs : List Int) : List UInt8 := if xs = [] then [110, 111, 110, 101] else Lib.join (xs.map Lib.itoa) [32]
theorem text_sp (xs : List Int) (h : xs ≠ []) : text xs = sp xs xs.length := by
  rw [sp_join xs _ (Nat.le_refl _), List.take_length, text, if_neg h]
end Go.Proofs.YtdilbogjihafoaaDoor.Tx
