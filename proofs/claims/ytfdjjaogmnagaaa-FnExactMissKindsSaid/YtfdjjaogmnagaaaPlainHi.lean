/- The history of uses: which other addresses have been used since the last use of each address, as bits; the uses of addresses that were used before. No program. -/
import Derived.Test.YtfdjjaogmnagaaaPlainIx4
import Derived.Test.YtfdjjaogmnagaaaPlainBits64
namespace Go.Proofs.Ytfdjjaogmnagaaa.Ix
open Tr Bt
/-- What has been used since the last use of an address, of the first j uses; none where it hasn't been used. -/
def snc (us : List Nat) : Nat → Nat → Option Nat
  | 0, _ => none
  | j + 1, x => if x = us.getD j 0 then some 0 else (snc us j x).map (fun o => o ||| 2 ^ us.getD j 0)
/-- The uses of addresses that were used before, with what has been used since then. -/
def reus (us : List Nat) : Nat → List (Nat × Nat)
  | 0 => []
  | j + 1 => reus us j ++ (match snc us j (us.getD j 0) with | some o => [(us.getD j 0, o)] | none => [])
def frst (us : List Nat) : Nat → Nat
  | 0 => 0
  | j + 1 => frst us j + (match snc us j (us.getD j 0) with | some _ => 0 | none => 1)
theorem reus_len (us : List Nat) (j : Nat) : (reus us j).length ≤ j := by
  induction j with
  | zero => simp [reus]
  | succ j ih => rw [reus]; cases snc us j (us.getD j 0) <;> simp <;> omega
theorem frst_le (us : List Nat) (j : Nat) : frst us j ≤ j := by
  induction j with
  | zero => simp [frst]
  | succ j ih => rw [frst]; cases snc us j (us.getD j 0) <;> simp <;> omega
theorem snc_lt {us : List Nat} (h : ∀ i, us.getD i 0 < 64) (j x o : Nat) (he : snc us j x = some o) : o < 18446744073709551616 := by
  induction j generalizing o with
  | zero => simp [snc] at he
  | succ j ih =>
    rw [snc] at he
    split at he
    · injection he with he; omega
    · cases hs : snc us j x with
      | none => rw [hs] at he; cases he
      | some q =>
        rw [hs] at he
        injection he with he
        have h1 := ih q hs
        have h2 : 2 ^ us.getD j 0 < 2 ^ 64 := Nat.pow_lt_pow_right (by omega) (h j)
        rw [← he]
        exact Nat.or_lt_two_pow (n := 64) (by simpa using h1) h2
theorem reus_mem {us : List Nat} (h : ∀ i, us.getD i 0 < 64) (j : Nat) : ∀ p ∈ reus us j, p.1 < 64 ∧ p.2 < 18446744073709551616 := by
  induction j with
  | zero => intro p hp; simp [reus] at hp
  | succ j ih =>
    intro p hp
    rw [reus] at hp
    rcases List.mem_append.1 hp with hp | hp
    · exact ih p hp
    · cases hs : snc us j (us.getD j 0) with
      | none => rw [hs] at hp; simp at hp
      | some o =>
        rw [hs] at hp
        simp at hp
        subst hp
        exact ⟨h j, snc_lt h j _ _ hs⟩
/-- The misses with so many places: first uses, and the others with as many of their set since then. -/
def missAt (r : Nat → Nat) (places : Nat) (p : Nat × Nat) : Nat := if places ≤ pc 64 (p.2 &&& setK r 64 (setF r p.1 3)) then 1 else 0
def missH (r : Nat → Nat) (places : Nat) (us : List Nat) (j : Nat) : Nat := frst us us.length + ((reus us us.length).take j |>.map (missAt r places)).sum
/-! ### What the bits say -/
theorem snc_some (us : List Nat) (j x : Nat) : (snc us j x).isSome = decide (∃ i, i < j ∧ us.getD i 0 = x) := by
  induction j with
  | zero => simp [snc]
  | succ j ih =>
    rw [snc]
    split
    · rename_i h
      rw [decide_eq_true ⟨j, by omega, h.symm⟩]; rfl
    · rename_i h
      rw [Option.isSome_map, ih]
      rw [Bool.eq_iff_iff, decide_eq_true_eq, decide_eq_true_eq]
      constructor
      · rintro ⟨i, hi, e⟩; exact ⟨i, by omega, e⟩
      · rintro ⟨i, hi, e⟩
        refine ⟨i, ?_, e⟩
        by_cases hij : i = j
        · subst hij; exact absurd e.symm h
        · omega
theorem lastAt_cast (us : List Nat) (x j : Nat) : (∃ i : Nat, i < j ∧ us.getD i 0 = x) → ∃ l : Nat, l < j ∧ lastAt (castL us) (x : Int) j = (l : Int) ∧ us.getD l 0 = x ∧ ∀ m, l < m → m < j → us.getD m 0 ≠ x := by
  induction j with
  | zero => rintro ⟨i, hi, _⟩; omega
  | succ j ih =>
    rintro ⟨i, hi, e⟩
    rw [lastAt, castL_get]
    by_cases h : us.getD j 0 = x
    · rw [if_pos (by rw [h])]
      exact ⟨j, by omega, rfl, h, fun m h1 h2 => by omega⟩
    · rw [if_neg (by intro h2; exact h (by omega))]
      have hij : i ≠ j := fun e2 => h (by rw [← e2]; exact e)
      obtain ⟨l, hl, h1, h2, h3⟩ := ih ⟨i, by omega, e⟩
      exact ⟨l, by omega, h1, h2, fun m hm hm2 => by
        by_cases e3 : m = j
        · subst e3; exact h
        · exact h3 m hm (by omega)⟩
theorem lastAt_none (us : List Nat) (x j : Nat) (h : ¬ ∃ i, i < j ∧ us.getD i 0 = x) : lastAt (castL us) (x : Int) j = -1 := by
  induction j with
  | zero => rfl
  | succ j ih =>
    rw [lastAt, castL_get, if_neg (by intro h2; exact h ⟨j, by omega, by omega⟩)]
    exact ih fun ⟨i, hi, e⟩ => h ⟨i, by omega, e⟩
/-- The bits are the addresses used behind the last use. -/
theorem snc_bit (us : List Nat) (j x o l : Nat) (hs : snc us j x = some o) (hl : l < j) (hlx : us.getD l 0 = x) (hlast : ∀ m, l < m → m < j → us.getD m 0 ≠ x) (y : Nat) : o.testBit y = true ↔ ∃ m, l < m ∧ m < j ∧ us.getD m 0 = y := by
  induction j generalizing o with
  | zero => omega
  | succ j ih =>
    rw [snc] at hs
    by_cases hj : x = us.getD j 0
    · rw [if_pos hj] at hs
      injection hs with hs
      subst hs
      have : l = j := by
        rcases Nat.lt_or_ge l j with h | h
        · exact absurd hj.symm (hlast j h (by omega))
        · omega
      subst this
      rw [Nat.zero_testBit]
      constructor
      · intro h; cases h
      · rintro ⟨m, h1, h2, _⟩; omega
    · rw [if_neg hj] at hs
      have hlj : l < j := by
        rcases Nat.lt_or_ge l j with h | h
        · exact h
        · have : l = j := by omega
          subst this; exact absurd hlx.symm hj
      cases hq : snc us j x with
      | none => rw [hq] at hs; cases hs
      | some q =>
        rw [hq] at hs
        injection hs with hs
        rw [← hs, Nat.testBit_or, Nat.testBit_two_pow, Bool.or_eq_true, ih q hq hlj (fun m h1 h2 => hlast m h1 (by omega)), decide_eq_true_eq]
        constructor
        · rintro (⟨m, h1, h2, h3⟩ | h)
          · exact ⟨m, h1, by omega, h3⟩
          · exact ⟨j, hlj, by omega, h⟩
        · rintro ⟨m, h1, h2, h3⟩
          by_cases e : m = j
          · subst e; exact .inr h3
          · exact .inl ⟨m, h1, by omega, h3⟩
/-- The sum of the bits is how many are one. -/
theorem pc_count : ∀ (k s : Nat), pc k s = ((List.range k).filter (fun i => s.testBit i)).length
  | 0, _ => rfl
  | k + 1, s => by
    have ih := pc_count k (s / 2)
    rw [pc, ih, List.range_succ_eq_map, List.filter_cons, List.filter_map]
    have e : ((fun i => s.testBit i) ∘ Nat.succ) = fun i => (s / 2).testBit i := funext fun i => by simp [Nat.testBit_succ]
    rw [e, Nat.testBit_zero]
    by_cases h : s % 2 = 1
    · rw [decide_eq_true h, if_pos rfl, List.length_cons, List.length_map]
      omega
    · rw [decide_eq_false h, if_neg (by simp), List.length_map]
      omega
end Go.Proofs.Ytfdjjaogmnagaaa.Ix
