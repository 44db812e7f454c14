/- Orders of ages, and policies: each age once, told by a scan and by a sort. No program. -/
import Derived.PlainAid
namespace Go.Proofs.Ytakjkbjooongkaa.Pv
theorem getDg (xs : List Int) (j : Nat) (h : j < xs.length) : xs.getD j 0 = xs[j] := by simp [List.getD_eq_getElem?_getD, List.getElem?_eq_getElem h]
def inN (n : Nat) (x : Int) : Bool := decide (0 ≤ x) && decide (x ≤ (n : Int) - 1)
def okO (n : Nat) (xs : List Int) (i : Nat) : Bool := inN n (xs.getD i 0) && !((xs.take i).contains (xs.getD i 0))
def okTo (n : Nat) (xs : List Int) : Nat → Bool
  | 0 => true
  | j + 1 => okTo n xs j && okO n xs j
/-- whether a list has each number below n once -/
def ordB (n : Nat) (xs : List Int) : Bool := okTo n xs xs.length && decide (xs.length = n)
theorem okTo_no {n : Nat} {xs : List Int} {j : Nat} (h : okO n xs j = false) : ∀ m, j < m → okTo n xs m = false
  | 0, hj => by omega
  | m + 1, hj => by
    rw [okTo]
    rcases Nat.lt_or_eq_of_le (Nat.le_of_lt_succ hj) with hl | rfl
    · rw [okTo_no h m hl]; rfl
    · rw [h]; simp
theorem okTo_all {n : Nat} {xs : List Int} : ∀ m, okTo n xs m = true → ∀ i, i < m → okO n xs i = true
  | 0, _, i, hi => by omega
  | m + 1, h, i, hi => by
    rw [okTo, Bool.and_eq_true] at h
    rcases Nat.lt_or_eq_of_le (Nat.le_of_lt_succ hi) with hl | rfl
    · exact okTo_all m h.1 i hl
    · exact h.2
theorem okTo_of {n : Nat} {xs : List Int} : ∀ m, (∀ i, i < m → okO n xs i = true) → okTo n xs m = true
  | 0, _ => rfl
  | m + 1, h => by rw [okTo, okTo_of m (fun i hi => h i (by omega)), h m (by omega)]; rfl
theorem ordB_no {n : Nat} {xs : List Int} {j : Nat} (hj : j < xs.length) (h : okO n xs j = false) : ordB n xs = false := by unfold ordB; rw [okTo_no h _ hj]; rfl
theorem ordB_end {n : Nat} {xs : List Int} (h : okTo n xs xs.length = true) : ordB n xs = decide (xs.length = n) := by unfold ordB; rw [h]; rfl
theorem ordB_len {n : Nat} {xs : List Int} (h : ordB n xs = true) : xs.length = n := by unfold ordB at h; simp at h; exact h.2
theorem okTo_succ {n : Nat} {xs : List Int} {j : Nat} (h : okTo n xs j = true) (h2 : okO n xs j = true) : okTo n xs (j + 1) = true := by rw [okTo, h, h2]; rfl
theorem okO_in {n : Nat} {xs : List Int} {j : Nat} (h : inN n (xs.getD j 0) = false) : okO n xs j = false := by unfold okO; rw [h]; rfl
theorem okO_has {n : Nat} {xs : List Int} {j : Nat} (h : (xs.take j).contains (xs.getD j 0) = true) : okO n xs j = false := by unfold okO; rw [h]; simp
theorem okO_yes {n : Nat} {xs : List Int} {j : Nat} (h1 : inN n (xs.getD j 0) = true) (h2 : (xs.take j).contains (xs.getD j 0) = false) : okO n xs j = true := by unfold okO; rw [h1, h2]; rfl
/-- the numbers below n in their order -/
def upTo (n : Nat) : List Int := (List.range n).map fun i : Nat => (i : Int)
theorem upTo_length (n : Nat) : (upTo n).length = n := by simp [upTo]
theorem mem_upTo {n : Nat} {x : Int} : x ∈ upTo n ↔ 0 ≤ x ∧ x ≤ (n : Int) - 1 := by
  unfold upTo
  rw [List.mem_map]
  constructor
  · rintro ⟨i, hi, rfl⟩
    rw [List.mem_range] at hi
    omega
  · intro h
    exact ⟨x.toNat, by rw [List.mem_range]; omega, by omega⟩
theorem okO_of_nodup {n : Nat} {xs : List Int} (hN : xs.Nodup) (hm : ∀ x ∈ xs, inN n x = true) (i : Nat) (hi : i < xs.length) : okO n xs i = true := by
  refine okO_yes ?_ ?_
  · rw [getDg xs i hi]; exact hm _ (List.getElem_mem hi)
  · rw [getDg xs i hi]
    rw [List.contains_eq_mem, decide_eq_false_iff_not]
    intro hx
    obtain ⟨j, hj, e⟩ := List.mem_take_iff_getElem.1 hx
    have hji : j < i := by omega
    have := (List.pairwise_iff_getElem.1 hN) j i (by omega) hi hji
    exact this e
theorem nodup_of_okO {n : Nat} {xs : List Int} (h : ∀ i, i < xs.length → okO n xs i = true) : xs.Nodup ∧ ∀ x ∈ xs, inN n x = true := by
  constructor
  · refine List.pairwise_iff_getElem.2 fun j i hj hi hji e => ?_
    have h1 := h i hi
    unfold okO at h1
    rw [Bool.and_eq_true, getDg xs i hi] at h1
    have h2 : (xs.take i).contains xs[i] = true := by
      rw [List.contains_eq_mem]
      exact decide_eq_true (List.mem_take_iff_getElem.2 ⟨j, by omega, e⟩)
    rw [h2] at h1
    exact absurd h1.2 (by decide)
  · intro x hx
    obtain ⟨i, hi, rfl⟩ := List.getElem_of_mem hx
    have h1 := h i hi
    unfold okO at h1
    rw [Bool.and_eq_true, getDg xs i hi] at h1
    exact h1.1
theorem inN_mem {n : Nat} {x : Int} : inN n x = true ↔ 0 ≤ x ∧ x ≤ (n : Int) - 1 := by unfold inN; simp
/-- A rising list of n numbers below n. -/
theorem rise_eq (s : List Int) (n : Nat) (hl : s.length = n) (hs : s.Pairwise (· < ·)) (hm : ∀ x ∈ s, 0 ≤ x ∧ x ≤ (n : Int) - 1) : s = upTo n := by
  have hp := List.pairwise_iff_getElem.1 hs
  have lo : ∀ i (hi : i < s.length), (i : Int) ≤ s[i] := by
    intro i
    induction i with
    | zero => intro hi; exact (hm _ (List.getElem_mem hi)).1
    | succ i ih =>
      intro hi
      have h1 := ih (by omega)
      have h2 := hp i (i + 1) (by omega) hi (by omega)
      omega
  have hi2 : ∀ k i (hi : i < s.length), i + k + 1 = n → s[i] ≤ (i : Int) := by
    intro k
    induction k with
    | zero =>
      intro i hi e
      have := (hm _ (List.getElem_mem hi)).2
      omega
    | succ k ih =>
      intro i hi e
      have h1 := ih (i + 1) (by omega) (by omega)
      have h2 := hp i (i + 1) hi (by omega) (by omega)
      omega
  refine List.ext_getElem (by rw [hl, upTo_length]) fun i h1 h2 => ?_
  have a := lo i h1
  have b := hi2 (n - i - 1) i h1 (by omega)
  have c : (upTo n)[i] = (i : Int) := by simp [upTo]
  rw [c]
  omega
/-- A list of n numbers has each below n once exactly if its sort is those numbers in their order. -/
theorem ordB_sort (n : Nat) (xs : List Int) (hl : xs.length = n) : ordB n xs = decide (xs.mergeSort (fun x y => decide (x ≤ y)) = upTo n) := by
  have hperm := List.mergeSort_perm xs (fun x y => decide (x ≤ y))
  have hpw : (xs.mergeSort (fun x y => decide (x ≤ y))).Pairwise (· ≤ ·) := by
    have h := List.pairwise_mergeSort (le := fun x y : Int => decide (x ≤ y)) (fun a b c h1 h2 => by simp at *; omega) (fun a b => by simp; omega) xs
    exact h.imp fun h => by simpa using h
  by_cases ho : ordB n xs = true
  · rw [ho]
    symm
    rw [decide_eq_true_eq]
    have h1 : okTo n xs xs.length = true := by unfold ordB at ho; simp at ho; exact ho.1
    obtain ⟨hnd, hin⟩ := nodup_of_okO (okTo_all _ h1)
    have hnd2 : (xs.mergeSort (fun x y => decide (x ≤ y))).Nodup := (hperm.nodup_iff).2 hnd
    refine rise_eq _ n (by rw [hperm.length_eq, hl]) ?_ fun x hx => inN_mem.1 (hin x (hperm.mem_iff.1 hx))
    have hb := List.pairwise_and_iff.2 ⟨hpw, hnd2⟩
    exact hb.imp fun {a b} h => by omega
  · have ho2 : ordB n xs = false := by simpa using ho
    rw [ho2]
    symm
    rw [decide_eq_false_iff_not]
    intro e
    refine ho ?_
    have hmem : ∀ x ∈ xs, inN n x = true := fun x hx => by
      have := hperm.mem_iff.2 hx
      rw [e] at this
      exact inN_mem.2 (mem_upTo.1 this)
    have hnd : xs.Nodup := by
      refine hperm.nodup_iff.1 ?_
      rw [e]
      refine List.pairwise_iff_getElem.2 fun j i hj hi hji e2 => ?_
      have c1 : (upTo n)[j] = (j : Int) := by simp [upTo]
      have c2 : (upTo n)[i] = (i : Int) := by simp [upTo]
      rw [c1, c2] at e2
      omega
    rw [ordB_end (okTo_of _ (okO_of_nodup hnd hmem)), decide_eq_true hl]
/-- whether orders for hits and one for a miss are a valid policy -/
def isP (hs : List (List Int)) (ms : List Int) : Bool := decide (1 ≤ ms.length) && decide (ms.length ≤ 6) && decide (hs.length = ms.length) && ordB ms.length ms && hs.all (ordB ms.length)
theorem all_take (hs : List (List Int)) (n j : Nat) (hj : j < hs.length) : (hs.take (j + 1)).all (ordB n) = ((hs.take j).all (ordB n) && ordB n (hs.getD j [])) := by
  rw [List.take_succ_eq_append_getElem hj, List.all_append, List.getD_eq_getElem?_getD, List.getElem?_eq_getElem hj]
  simp
theorem all_no (hs : List (List Int)) (n j : Nat) (hj : j < hs.length) (h : ordB n (hs.getD j []) = false) : hs.all (ordB n) = false := by
  rw [List.all_eq_false]
  refine ⟨hs.getD j [], ?_, by rw [h]; decide⟩
  rw [List.getD_eq_getElem?_getD, List.getElem?_eq_getElem hj]
  exact List.getElem_mem hj
end Go.Proofs.Ytakjkbjooongkaa.Pv
