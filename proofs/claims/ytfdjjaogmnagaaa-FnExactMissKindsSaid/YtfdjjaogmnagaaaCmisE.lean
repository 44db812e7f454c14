/- The misses that the history tells are those of the document: no program. -/
import Derived.Test.YtfdjjaogmnagaaaCmis
import Derived.Test.YtfdjjaogmnagaaaCmisS
namespace Go.Proofs.Ytfdjjaogmnagaaa.Ix
open Go.RowKit Tr Bt
theorem par_xor (a b : Nat) : par (a ^^^ b) = (par a + par b) % 2 := by
  unfold par
  rw [pc_xor, Nat.add_mod]
theorem two_parts {P A B p q : Nat} (hA : A < P) (hB : B < P) (hp : p < 2) (hq : q < 2) : A + P * p = B + P * q ↔ A = B ∧ p = q := by
  have h1 : p = 0 ∨ p = 1 := by omega
  have h2 : q = 0 ∨ q = 1 := by omega
  rcases h1 with rfl | rfl <;> rcases h2 with rfl | rfl <;> simp <;> omega
theorem set_xor (r : Nat → Nat) (y u : Nat) : ∀ n, setF r (y ^^^ u) n = 0 ↔ setF r y n = setF r u n
  | 0 => by simp [setF]
  | n + 1 => by
    have ih := set_xor r y u n
    have h1 := setF_lt r y n
    have h2 := setF_lt r u n
    have h3 := setF_lt r (y ^^^ u) n
    have p1 := par_lt (r n &&& y)
    have p2 := par_lt (r n &&& u)
    have e : par (r n &&& (y ^^^ u)) = (par (r n &&& y) + par (r n &&& u)) % 2 := by rw [Nat.and_xor_distrib_left, par_xor]
    have h0 : setF r (y ^^^ u) n + 2 ^ n * par (r n &&& (y ^^^ u)) = 0 + 2 ^ n * 0 ↔ _ := two_parts h3 (Nat.lt_of_le_of_lt (Nat.zero_le _) h3) (par_lt _) (by omega)
    rw [setF, setF, setF, two_parts h1 h2 p1 p2, ← ih]
    rw [show (0 : Nat) + 2 ^ n * 0 = 0 by simp] at h0
    rw [h0, e]
    constructor
    · rintro ⟨a, b⟩; exact ⟨a, by omega⟩
    · rintro ⟨a, b⟩; exact ⟨a, by omega⟩
theorem mem_mid (us : List Nat) (l j : Nat) (hj : j ≤ us.length) (y : Int) : y ∈ ((castL us).take j).drop (l + 1) ↔ ∃ m, l < m ∧ m < j ∧ ((us.getD m 0 : Nat) : Int) = y := by
  constructor
  · intro h
    obtain ⟨i, hi, e⟩ := List.getElem_of_mem h
    have hi' : l + 1 + i < j := by simp [castL_len] at hi; omega
    refine ⟨l + 1 + i, by omega, hi', ?_⟩
    rw [List.getElem_drop, List.getElem_take] at e
    rw [← castL_get, List.getD_eq_getElem?_getD, List.getElem?_eq_getElem (by rw [castL_len]; omega), Option.getD_some, e]
  · rintro ⟨m, h1, h2, e⟩
    have hl : (((castL us).take j).drop (l + 1)).length = j - (l + 1) := by simp [castL_len]; omega
    refine List.mem_iff_getElem.2 ⟨m - (l + 1), by rw [hl]; omega, ?_⟩
    rw [List.getElem_drop, List.getElem_take]
    rw [← castL_get, List.getD_eq_getElem?_getD, List.getElem?_eq_getElem (by rw [castL_len]; omega), Option.getD_some] at e
    rw [← e]
    congr 1
    omega
theorem oth_pc (r : Nat → Nat) (n : Nat) (hn : ∀ y, setF r y n = setF r y 3) (us : List Nat) (h64 : ∀ i, us.getD i 0 < 64) (j x o : Nat) (hj : j ≤ us.length) (hs : snc us j x = some o) (hx : us.getD j 0 = x) :
    0 ≤ lastAt (castL us) ((castL us).getD j 0) j ∧ othP r n (sinP (castL us) j) ((castL us).getD j 0).toNat (sinP (castL us) j).length = pc 64 (o &&& setK r 64 (setF r x 3)) := by
  have hex : ∃ i, i < j ∧ us.getD i 0 = x := by
    have h := snc_some us j x
    rw [hs] at h
    exact of_decide_eq_true h.symm
  obtain ⟨l, hl, e1, e2, e3⟩ := lastAt_cast us x j hex
  have hg : (castL us).getD j 0 = (x : Int) := by rw [castL_get, hx]
  rw [hg, e1]
  refine ⟨by omega, ?_⟩
  have hS : sinP (castL us) j = setP (((castL us).take j).drop (l + 1)) := by
    unfold sinP
    rw [hg, e1, if_pos (by omega), show ((l : Int) + 1).toNat = l + 1 by omega]
  rw [hS, pc_count]
  unfold othP
  rw [List.take_length, Int.toNat_natCast, ← castL_len]
  congr 1
  refine up_ext (List.Pairwise.filter _ (setP_up _)) (castL_up (List.Pairwise.filter _ List.pairwise_lt_range)) fun y => ?_
  rw [List.mem_filter, mem_setP, mem_mid us l j hj, mem_castL]
  constructor
  · rintro ⟨⟨m, h1, h2, rfl⟩, h4⟩
    refine ⟨us.getD m 0, List.mem_filter.2 ⟨List.mem_range.2 (h64 m), ?_⟩, rfl⟩
    rw [Int.toNat_natCast, beq_iff_eq, set_xor, hn, hn] at h4
    rw [Nat.testBit_and, (snc_bit us j x o l hs hl e2 e3 _).2 ⟨m, h1, h2, rfl⟩, Bool.true_and]
    unfold setK
    rw [mask_bit, decide_eq_true (h64 m), Bool.true_and]
    rw [h4]; exact Nat.beq_refl _
  · rintro ⟨i, hi, rfl⟩
    obtain ⟨hr, ht⟩ := List.mem_filter.1 hi
    rw [Nat.testBit_and, Bool.and_eq_true] at ht
    obtain ⟨m, h1, h2, h3⟩ := (snc_bit us j x o l hs hl e2 e3 i).1 ht.1
    refine ⟨⟨m, h1, h2, by rw [h3]⟩, ?_⟩
    have hk := ht.2
    unfold setK at hk
    rw [mask_bit, Bool.and_eq_true] at hk
    rw [Int.toNat_natCast, beq_iff_eq, set_xor, hn, hn]
    exact Nat.eq_of_beq_eq_true hk.2
theorem mis_eq (r : Nat → Nat) (n pl : Nat) (hn : ∀ y, setF r y n = setF r y 3) (us : List Nat) (h64 : ∀ i, us.getD i 0 < 64) (j : Nat) (hj : j ≤ us.length) :
    misS r n (pl : Int) (castL us) j = frst us j + ((reus us j).map (missAt r pl)).sum := by
  induction j with
  | zero => rfl
  | succ j ih =>
    rw [misS, ih (by omega), frst, reus]
    cases hs : snc us j (us.getD j 0) with
    | none =>
      have hno : ¬ ∃ i, i < j ∧ us.getD i 0 = us.getD j 0 := by
        have h := snc_some us j (us.getD j 0)
        rw [hs] at h
        exact of_decide_eq_false h.symm
      have hl := lastAt_none us (us.getD j 0) j hno
      rw [castL_get, hl, if_neg (fun h => by have := h.1; omega)]
      simp
      omega
    | some o =>
      obtain ⟨h0, h1⟩ := oth_pc r n hn us h64 j _ o (by omega) hs rfl
      rw [h1]
      simp only [List.map_append, List.map_cons, List.map_nil, List.sum_append, List.sum_cons, List.sum_nil, Nat.add_zero]
      have e : missAt r pl (us.getD j 0, o) = if pl ≤ pc 64 (o &&& setK r 64 (setF r (us.getD j 0) 3)) then 1 else 0 := rfl
      rw [e]
      by_cases hp : pl ≤ pc 64 (o &&& setK r 64 (setF r (us.getD j 0) 3))
      · rw [if_pos hp, if_neg (fun h => by have := h.2; omega)]; omega
      · rw [if_neg hp, if_pos ⟨h0, by omega⟩]; omega
end Go.Proofs.Ytfdjjaogmnagaaa.Ix
