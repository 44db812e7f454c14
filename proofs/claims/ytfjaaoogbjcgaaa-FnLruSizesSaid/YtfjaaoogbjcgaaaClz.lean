/- The misses of the least recently used policies, in the machine's terms: those of the curve; the size for some misses. -/
import Derived.Test.YtfjaaoogbjcgaaaLz1
import Derived.Test.YtfjaaoogbjcgaaaLz2
import Derived.Test.YtfjaaoogbjcgaaaLz3
namespace Go.Proofs.Ytfjaaoogbjcgaaa.Pv
open Go.RowKit
theorem n6 {n : Nat} (h1 : 1 ≤ n) (h6 : n ≤ 6) : n = 1 ∨ n = 2 ∨ n = 3 ∨ n = 4 ∨ n = 5 ∨ n = 6 := by omega
theorem j6 {j n : Nat} (h : j < n) (h6 : n ≤ 6) : j = 0 ∨ j = 1 ∨ j = 2 ∨ j = 3 ∨ j = 4 ∨ j = 5 := by omega
theorem hitL (n J : Nat) (h6 : n ≤ 6) (h : J < n) (k : Nat → Int) : rowL n (fun i => k (ordN (rowL n (yng J)) i)) = k J :: (rowL n k).eraseIdx J := by
  rcases n6 (by omega) h6 with rfl | rfl | rfl | rfl | rfl | rfl <;> rcases j6 h (by omega) with rfl | rfl | rfl | rfl | rfl | rfl <;> first | rfl | exact absurd h (by decide)
theorem missL (n : Nat) (h1 : 1 ≤ n) (h6 : n ≤ 6) (k : Nat → Int) (x : Int) : rowL n (fun i => putA k (n - 1) x (ordN (rowL n (yng (n - 1))) i)) = x :: (rowL n k).dropLast := by
  rcases n6 h1 h6 with rfl | rfl | rfl | rfl | rfl | rfl <;> rfl
theorem polP_get (n : Nat) (o : Nat → Nat → Int) (m J : Nat) (h : J < m) : (polP n o m).getD J [] = rowL n (o J) := by
  simp [polP, List.getD_eq_getElem?_getD, h]
theorem lnk_lru (n : Nat) (h1 : 1 ≤ n) (h6 : n ≤ 6) (k : Nat → Int) (x : Int) : rowL n (stN (polP n yng n) (rowL n (yng (n - 1))) k x) = lruS (rowL n k) x := by
  unfold stN lruS
  rw [rowL_len]
  by_cases h : (rowL n k).idxOf x < n
  · have hx := idx_hit n k x h
    have hm : x ∈ rowL n k := List.idxOf_lt_length_iff.1 (by rw [rowL_len]; exact h)
    rw [if_pos hm, List.erase_eq_eraseIdx_of_idxOf (rfl : (rowL n k).idxOf x = _)]
    have e : rowL n (fun i => if (rowL n k).idxOf x < n then k (ordN ((polP n yng n).getD ((rowL n k).idxOf x) []) i) else putA k (n - 1) x (ordN (rowL n (yng (n - 1))) i)) = rowL n (fun i => k (ordN (rowL n (yng ((rowL n k).idxOf x))) i)) :=
      rowL_eq _ _ _ fun i _ => by rw [if_pos h, polP_get _ _ _ _ h]
    rw [e, hitL n _ h6 h, hx.1]
  · have hm : ¬ x ∈ rowL n k := fun hm => h (by have := List.idxOf_lt_length_of_mem hm; rwa [rowL_len] at this)
    rw [if_neg hm]
    have e : rowL n (fun i => if (rowL n k).idxOf x < n then k (ordN ((polP n yng n).getD ((rowL n k).idxOf x) []) i) else putA k (n - 1) x (ordN (rowL n (yng (n - 1))) i)) = rowL n (fun i => putA k (n - 1) x (ordN (rowL n (yng (n - 1))) i)) :=
      rowL_eq _ _ _ fun i _ => by rw [if_neg h]
    rw [e, missL n h1 h6]
theorem kK_lru (n : Nat) (h1 : 1 ≤ n) (h6 : n ≤ 6) (xs : List Int) : ∀ j, rowL n (kK (polP n yng n) (rowL n (yng (n - 1))) xs j) = lruK n xs j
  | 0 => by
    rcases n6 h1 h6 with rfl | rfl | rfl | rfl | rfl | rfl <;> rfl
  | j + 1 => by rw [lruK, ← kK_lru n h1 h6 xs j, kK, lnk_lru n h1 h6]
theorem isP_lru (n : Nat) (h1 : 1 ≤ n) (h6 : n ≤ 6) : isP (polP n yng n) (rowL n (yng (n - 1))) = true := by
  rcases n6 h1 h6 with rfl | rfl | rfl | rfl | rfl | rfl <;> decide
theorem hit_lru (n : Nat) (h1 : 1 ≤ n) (h6 : n ≤ 6) (xs : List Int) (i : Nat) : hitK (polP n yng n) (rowL n (yng (n - 1))) xs i = decide (xs.getD i 0 ∈ lruK n xs i) := by
  unfold hitK hitB
  rw [rowL_len, ← kK_lru n h1 h6]
  by_cases h : (rowL n (kK (polP n yng n) (rowL n (yng (n - 1))) xs i)).idxOf (xs.getD i 0) < n
  · have hm : xs.getD i 0 ∈ rowL n (kK (polP n yng n) (rowL n (yng (n - 1))) xs i) := List.idxOf_lt_length_iff.1 (by rw [rowL_len]; exact h)
    rw [decide_eq_true h, decide_eq_true hm]
  · have hm : ¬ xs.getD i 0 ∈ rowL n (kK (polP n yng n) (rowL n (yng (n - 1))) xs i) := fun hm => h (by have := List.idxOf_lt_length_of_mem hm; rwa [rowL_len] at this)
    rw [decide_eq_false h, decide_eq_false hm]
theorem missN_lru (n : Nat) (h1 : 1 ≤ n) (h6 : n ≤ 6) (xs : List Int) (hx : ∀ y ∈ xs, 0 ≤ y) : ∀ j, j ≤ xs.length → missN (polP n yng n) (rowL n (yng (n - 1))) xs j = Tr.missK (dsP xs) n j
  | 0, _ => by simp [missN, Tr.missK]
  | j + 1, h => by
    have hp := hit_place n xs h1 hx j (by omega)
    rw [missN, missN_lru n h1 h6 xs hx j (by omega), Tr.missK_succ _ _ _ (by rw [dsP_len]; omega), dsP_get xs j (by omega), hit_lru n h1 h6]
    congr 1
    by_cases hm : xs.getD j 0 ∈ lruK n xs j
    · rw [if_pos (decide_eq_true hm), if_neg (hp.1 hm)]
    · rw [if_neg (by rw [decide_eq_false hm]; decide), if_pos (Classical.byContradiction fun hh => hm (hp.2 hh))]
theorem rdP_lru (n : Nat) (h6 : n ≤ 6) {w : World} {B T : Nat} {v : Value} (h : OwnP w B T v (polP n yng n) (rowL n (yng (n - 1)))) : RdP w v (polP n yng n) (rowL n (yng (n - 1))) :=
  RdP.of h (by rw [polP_len]; omega) (fun i hi => by rw [polP_len] at hi; rw [polP_get n yng n i hi, rowL_len]; omega) (by rw [rowL_len]; omega)
theorem mis_lru (n : Nat) (h1 : 1 ≤ n) (h6 : n ≤ 6) (xs : List Int) (hok : Tr.okU xs = true) {w : World} {v : Value} {a : Option Addr} {c : Nat} (h : RdP w v (polP n yng n) (rowL n (yng (n - 1)))) (hx : Rd w (.slice a xs.length c) xs) :
    Calls Try.prog 11 #[v, .slice a xs.length c] w (IbP ((Tr.missP (Tr.distP xs) n : Nat) : Int) true w) := by
  have hl := Tr.okU_len hok
  have hpos : ∀ y ∈ xs, 0 ≤ y := fun y hy => by
    obtain ⟨j, hj, e⟩ := List.mem_iff_getElem.1 hy
    have := (Tr.okU_at hok j hj).1
    rwa [Tr.getD_get' xs j hj, e] at this
  have hm : misOk (polP n yng n) (rowL n (yng (n - 1))) xs = true := by unfold misOk; rw [isP_lru n h1 h6, hok]; rfl
  have e : misV (polP n yng n) (rowL n (yng (n - 1))) xs = ((Tr.missP (Tr.distP xs) n : Nat) : Int) := by
    unfold misV
    rw [if_pos hm, missN_lru n h1 h6 xs hpos _ (Nat.le_refl _), ← Tr.missK_end, Tr.distP_len]
    rfl
  have := mis_i h hx (by omega)
  rwa [hm, e] at this
theorem curve_get (ds : List Int) (k n : Nat) (h : n ≤ k) : (Tr.curveP ds k).getD n 0 = ((Tr.missP ds n : Nat) : Int) := by
  unfold Tr.curveP
  rw [Tr.told_get _ _ _ (by omega)]
theorem sz_no (xs : List Int) (m : Int) (hl : xs.length ≤ 13) (h : ¬ (((Tr.setP xs).length : Nat) : Int) ≤ m) : Tr.szOk xs m = false := by
  obtain ⟨_, h2⟩ := Tr.over_split (Tr.curveP (Tr.distP xs) 60) m (Tr.curve_falls _ _)
  unfold Tr.szOk
  rw [Bool.and_eq_false_iff]
  right
  rw [decide_eq_false_iff_not]
  intro ho
  have := h2 60 (by omega) (by rw [Tr.curve_len]; omega)
  rw [curve_get _ _ _ (by omega)] at this
  have e := miss_all xs 60 (by omega)
  unfold dsP at e
  unfold Tr.distP at this
  rw [e] at this
  exact h this
theorem sz_yes (xs : List Int) (m : Int) (hok : Tr.okU xs = true) (hm : Tr.okS m = true) (hl : xs.length ≤ 13) (h : (((Tr.setP xs).length : Nat) : Int) ≤ m) :
    Tr.szOk xs m = true ∧ ∃ s : Nat, Tr.szV xs m = (s : Int) ∧ s ≤ 20 ∧ ((Tr.missP (Tr.distP xs) s : Nat) : Int) ≤ m ∧ (s = 0 ∨ m < ((Tr.missP (Tr.distP xs) (s - 1) : Nat) : Int)) := by
  obtain ⟨h1, h2⟩ := Tr.over_split (Tr.curveP (Tr.distP xs) 60) m (Tr.curve_falls _ _)
  have e := miss_all xs 20 (by omega)
  have ho : Tr.over (Tr.curveP (Tr.distP xs) 60) m ≤ 20 := Classical.byContradiction fun hh => by
    have h3 := h1 20 (by omega)
    rw [curve_get _ _ _ (by omega)] at h3
    unfold dsP at e
    unfold Tr.distP at h3
    rw [e] at h3
    omega
  have hy : Tr.szOk xs m = true := by unfold Tr.szOk; rw [hok, hm, decide_eq_true (by omega)]; rfl
  refine ⟨hy, _, by unfold Tr.szV; rw [if_pos hy], ho, ?_, ?_⟩
  · have h3 := h2 _ (Nat.le_refl _) (by rw [Tr.curve_len]; omega)
    rwa [curve_get _ _ _ (by omega)] at h3
  · by_cases h0 : Tr.over (Tr.curveP (Tr.distP xs) 60) m = 0
    · exact .inl h0
    · right
      have h3 := h1 (Tr.over (Tr.curveP (Tr.distP xs) 60) m - 1) (by omega)
      rwa [curve_get _ _ _ (by omega)] at h3
end Go.Proofs.Ytfjaaoogbjcgaaa.Pv
