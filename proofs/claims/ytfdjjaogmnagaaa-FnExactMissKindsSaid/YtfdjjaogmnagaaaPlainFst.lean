/- The first uses are the addresses that are used: no program. -/
import Derived.Test.YtfdjjaogmnagaaaPlainHi
import Derived.Test.YtfdjjaogmnagaaaCput
namespace Go.Proofs.Ytfdjjaogmnagaaa.Ix
open Tr Bt
theorem take_snoc (us : List Nat) (j : Nat) (hj : j < us.length) : castL (us.take (j + 1)) = castL (us.take j) ++ [((us.getD j 0 : Nat) : Int)] := by
  rw [List.take_add_one, List.getElem?_eq_getElem hj, List.getD_eq_getElem?_getD, List.getElem?_eq_getElem hj]
  unfold castL
  rw [List.map_append]
  rfl
theorem mem_takes (us : List Nat) (j x : Nat) (hj : j ≤ us.length) : ((x : Int) ∈ castL (us.take j)) ↔ ∃ i, i < j ∧ us.getD i 0 = x := by
  rw [mem_castL]
  constructor
  · rintro ⟨n, hn, e⟩
    obtain ⟨i, hi, e2⟩ := List.getElem_of_mem hn
    have hij : i < j := by simp at hi; omega
    refine ⟨i, hij, ?_⟩
    rw [List.getElem_take] at e2
    rw [List.getD_eq_getElem?_getD, List.getElem?_eq_getElem (by omega), Option.getD_some, e2]
    omega
  · rintro ⟨i, hi, e⟩
    refine ⟨x, ?_, rfl⟩
    refine List.mem_iff_getElem.2 ⟨i, by simp; omega, ?_⟩
    rw [List.getElem_take]
    rw [List.getD_eq_getElem?_getD, List.getElem?_eq_getElem (by omega), Option.getD_some] at e
    exact e
theorem put_len_new {s : List Int} {n : Int} (hs : Up s) (h : n ∉ s) : (put s n).length = s.length + 1 := by
  have h1 := put_new (n := n) hs h
  rw [h1]; simp; have := below_le s n; omega
theorem put_len_old {s : List Int} {n : Int} (hs : Up s) (h : n ∈ s) : put s n = s :=
  up_ext (put_up n hs) hs fun y => by
    rw [mem_put]
    constructor
    · rintro (rfl | h2)
      · exact h
      · exact h2
    · exact .inr
theorem frst_set (us : List Nat) (j : Nat) (hj : j ≤ us.length) : frst us j = (setP (castL (us.take j))).length := by
  induction j with
  | zero => rfl
  | succ j ih =>
    rw [frst, ih (by omega), take_snoc us j (by omega), setP_snoc]
    have hm := snc_some us j (us.getD j 0)
    cases hs : snc us j (us.getD j 0) with
    | none =>
      rw [hs] at hm
      have hno : ¬ ∃ i, i < j ∧ us.getD i 0 = us.getD j 0 := of_decide_eq_false hm.symm
      rw [put_len_new (setP_up _) (by rw [mem_setP, mem_takes us j _ (by omega)]; exact hno)]
    | some o =>
      rw [hs] at hm
      have hy : ∃ i, i < j ∧ us.getD i 0 = us.getD j 0 := of_decide_eq_true hm.symm
      rw [put_len_old (setP_up _) (by rw [mem_setP, mem_takes us j _ (by omega)]; exact hy)]
      rfl
theorem frst_all (us : List Nat) : frst us us.length = (setP (castL us)).length := by
  have h := frst_set us us.length (Nat.le_refl _)
  rwa [List.take_length] at h
end Go.Proofs.Ytfdjjaogmnagaaa.Ix
