/- The lines of a stream, its strides. No program. -/
namespace Go.Proofs.Ytmcnmjkickamkaa.St
/-- The lines of stream s among the first loads. -/
def lst (xs : List (Int × Int)) (s : Int) : Nat → List Int
  | 0 => []
  | i + 1 => if (xs.getD i (0, 0)).1 = s then lst xs s i ++ [(xs.getD i (0, 0)).2] else lst xs s i
/-- The stride at the end of a list. -/
def strd (L : List Int) : Int := if L.length < 3 then 0 else if L.getD (L.length - 1) 0 - L.getD (L.length - 2) 0 = L.getD (L.length - 2) 0 - L.getD (L.length - 3) 0 then L.getD (L.length - 1) 0 - L.getD (L.length - 2) 0 else 0
/-- The stride behind load j. -/
def sF (xs : List (Int × Int)) (j : Nat) : Int := strd (lst xs (xs.getD j (0, 0)).1 (j + 1))
def strs (xs : List (Int × Int)) (j : Nat) : List Int := (List.range j).map (sF xs)
theorem strs_len (xs : List (Int × Int)) (j : Nat) : (strs xs j).length = j := by simp [strs]
theorem strs_succ (xs : List (Int × Int)) (j : Nat) : strs xs (j + 1) = strs xs j ++ [sF xs j] := by simp [strs, List.range_succ]
theorem lst_len (xs : List (Int × Int)) (s : Int) (i : Nat) : (lst xs s i).length ≤ i := by
  induction i with
  | zero => simp [lst]
  | succ i ih =>
    unfold lst
    split
    · simp; omega
    · omega
theorem lst_in (xs : List (Int × Int)) (P : Int → Prop) (h : ∀ i, i < xs.length → P (xs.getD i (0, 0)).2) (s : Int) (i : Nat) (hi : i ≤ xs.length) : ∀ v ∈ lst xs s i, P v := by
  induction i with
  | zero => intro v hv; simp [lst] at hv
  | succ i ih =>
    intro v hv
    unfold lst at hv
    split at hv
    · rcases List.mem_append.1 hv with hv | hv
      · exact ih (by omega) v hv
      · rw [List.mem_singleton.1 hv]; exact h i (by omega)
    · exact ih (by omega) v hv
/-- What the program keeps of a stream: its last three lines and how many there are. -/
abbrev C4 := Int × Int × Int × Nat
def stp (c : C4) (x : Int) : C4 := (c.2.1, c.2.2.1, x, c.2.2.2 + 1)
def cst (xs : List (Int × Int)) (s : Int) : Nat → C4
  | 0 => (0, 0, 0, 0)
  | i + 1 => if (xs.getD i (0, 0)).1 = s then stp (cst xs s i) (xs.getD i (0, 0)).2 else cst xs s i
def prS (c : C4) : Int := if c.2.2.2 < 3 then 0 else if c.2.2.1 - c.2.1 = c.2.1 - c.1 then c.2.2.1 - c.2.1 else 0
structure Of (c : C4) (L : List Int) : Prop where
  n : c.2.2.2 = L.length
  h1 : 1 ≤ L.length → c.2.2.1 = L.getD (L.length - 1) 0
  h2 : 2 ≤ L.length → c.2.1 = L.getD (L.length - 2) 0
  h3 : 3 ≤ L.length → c.1 = L.getD (L.length - 3) 0
theorem getD_app (L : List Int) (x : Int) (k : Nat) (h : k < L.length) : (L ++ [x]).getD k 0 = L.getD k 0 := by
  rw [List.getD_eq_getElem?_getD, List.getD_eq_getElem?_getD, List.getElem?_append_left h]
theorem Of.stp {c : C4} {L : List Int} (h : Of c L) (x : Int) : Of (stp c x) (L ++ [x]) := by
  have hl : (L ++ [x]).length = L.length + 1 := by simp
  refine ⟨?_, fun _ => ?_, fun h2 => ?_, fun h3 => ?_⟩
  · rw [hl]; exact congrArg (· + 1) h.n
  · rw [hl]; show x = _
    rw [List.getD_eq_getElem?_getD, Nat.add_sub_cancel, List.getElem?_append_right (Nat.le_refl _)]; simp
  · rw [hl] at h2 ⊢
    rw [show L.length + 1 - 2 = L.length - 1 by omega, getD_app _ _ _ (by omega)]
    exact h.h1 (by omega)
  · rw [hl] at h3 ⊢
    rw [show L.length + 1 - 3 = L.length - 2 by omega, getD_app _ _ _ (by omega)]
    exact h.h2 (by omega)
theorem cst_of (xs : List (Int × Int)) (s : Int) (i : Nat) : Of (cst xs s i) (lst xs s i) := by
  induction i with
  | zero => exact ⟨rfl, fun h => by simp [lst] at h, fun h => by simp [lst] at h, fun h => by simp [lst] at h⟩
  | succ i ih =>
    unfold cst lst
    split
    · exact ih.stp _
    · exact ih
theorem prS_of {c : C4} {L : List Int} (h : Of c L) : prS c = strd L := by
  unfold prS strd
  rw [h.n]
  by_cases h3 : L.length < 3
  · rw [if_pos h3, if_pos h3]
  · rw [if_neg h3, if_neg h3, h.h1 (by omega), h.h2 (by omega), h.h3 (by omega)]
theorem sF_cst (xs : List (Int × Int)) (j : Nat) : sF xs j = prS (stp (cst xs (xs.getD j (0, 0)).1 j) (xs.getD j (0, 0)).2) := by
  have h := prS_of (cst_of xs (xs.getD j (0, 0)).1 (j + 1))
  unfold sF
  rw [← h]
  show prS (if _ then _ else _) = _
  rw [if_pos rfl]
def In3 (c : C4) (m : Nat) : Prop := (0 ≤ c.1 ∧ c.1 ≤ 63) ∧ (0 ≤ c.2.1 ∧ c.2.1 ≤ 63) ∧ (0 ≤ c.2.2.1 ∧ c.2.2.1 ≤ 63) ∧ c.2.2.2 ≤ m
theorem cst_in (xs : List (Int × Int)) (h : ∀ i, i < xs.length → 0 ≤ (xs.getD i (0, 0)).2 ∧ (xs.getD i (0, 0)).2 ≤ 63) (s : Int) (i : Nat) (hi : i ≤ xs.length) : In3 (cst xs s i) i := by
  induction i with
  | zero => exact (show In3 ((0, 0, 0, 0) : C4) 0 from ⟨⟨by decide, by decide⟩, ⟨by decide, by decide⟩, ⟨by decide, by decide⟩, by decide⟩)
  | succ i ih =>
    obtain ⟨a, b, c, d⟩ := ih (by omega)
    unfold cst
    split
    · exact ⟨b, c, h i (by omega), by show _ + 1 ≤ _; omega⟩
    · exact ⟨a, b, c, by omega⟩
theorem cst_other (xs : List (Int × Int)) (s : Int) (i : Nat) (h : (xs.getD i (0, 0)).1 ≠ s) : cst xs s (i + 1) = cst xs s i := by
  show (if _ then _ else _) = _
  rw [if_neg h]
theorem cst_same (xs : List (Int × Int)) (s : Int) (i : Nat) (h : (xs.getD i (0, 0)).1 = s) : cst xs s (i + 1) = stp (cst xs s i) (xs.getD i (0, 0)).2 := by
  show (if _ then _ else _) = _
  rw [if_pos h]
end Go.Proofs.Ytmcnmjkickamkaa.St
