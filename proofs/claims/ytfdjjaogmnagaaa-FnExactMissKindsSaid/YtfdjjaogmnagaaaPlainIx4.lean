/- Sets of addresses as bits of a number: the list of its bits, taken off one after another from the least; the numbers of the sets of an index. No program. -/
import Derived.Test.YtfdjjaogmnagaaaPlainIx2
import Derived.Lib.TrailingZeros
namespace Go.Proofs.Ytfdjjaogmnagaaa.Ix
open Tr Bt
def bitsOf (s : Nat) : List Nat := (List.range 64).filter (fun i => s.testBit i)
theorem mem_bitsOf {s i : Nat} : i ∈ bitsOf s ↔ i < 64 ∧ s.testBit i = true := by simp [bitsOf]
theorem bitsOf_up (s : Nat) : (bitsOf s).Pairwise (· < ·) := List.Pairwise.filter _ List.pairwise_lt_range
theorem bitsOf_zero : bitsOf 0 = [] := by simp [bitsOf]
theorem bitsOf_len (s : Nat) : (bitsOf s).length ≤ 64 := by
  have := List.length_filter_le (fun i => s.testBit i) (List.range 64)
  simpa [bitsOf] using this
theorem low_bits (x : Nat) (h0 : x ≠ 0) (h : x < 2 ^ 64) : Lib.ctz 64 x < 64 ∧ x.testBit (Lib.ctz 64 x) = true ∧ (∀ i, i < Lib.ctz 64 x → x.testBit i = false) ∧ ∀ i, (x &&& (x - 1)).testBit i = (x.testBit i && decide (i ≠ Lib.ctz 64 x)) := by
  obtain ⟨m, hm, hk⟩ := Lib.ctzFrom_spec 64 x (by omega) h
  have e : Lib.ctz 64 x = Lib.ctzFrom 64 x := by simp [Lib.ctz, h0]
  rw [e]
  generalize Lib.ctzFrom 64 x = c at *
  have hp : 1 ≤ 2 ^ c := Nat.two_pow_pos c
  have hx1 : x - 1 = 2 ^ c * (2 * m) + (2 ^ c - 1) := by
    have e1 : 2 ^ c * (2 * m + 1) = 2 ^ c * (2 * m) + 2 ^ c := by rw [Nat.mul_add, Nat.mul_one]
    omega
  have hb : ∀ i, x.testBit i = (decide (c ≤ i) && (2 * m + 1).testBit (i - c)) := fun i => by
    rw [hm, Nat.mul_comm, Nat.testBit_mul_two_pow]
  refine ⟨hk, ?_, fun i hi => ?_, fun i => ?_⟩
  · rw [hb]; simp [Nat.testBit_zero]
  · rw [hb, decide_eq_false (by omega), Bool.false_and]
  · rw [Nat.testBit_and, hb, hx1, Nat.testBit_two_pow_mul_add (2 * m) (by omega) i]
    by_cases hi : c ≤ i
    · by_cases hic : i = c
      · subst hic
        simp
      · obtain ⟨d, rfl⟩ : ∃ d, i = c + (d + 1) := ⟨i - c - 1, by omega⟩
        rw [if_neg (by omega), decide_eq_true hi, show c + (d + 1) - c = d + 1 by omega, Nat.testBit_succ, Nat.testBit_succ, show (2 * m + 1) / 2 = m by omega, show 2 * m / 2 = m by omega, decide_eq_true hic]
        cases m.testBit d <;> rfl
    · rw [decide_eq_false hi, Bool.false_and, Bool.false_and, Bool.false_and]
theorem bitsOf_step (x : Nat) (h0 : x ≠ 0) (h : x < 2 ^ 64) : castL (bitsOf x) = ((Lib.ctz 64 x : Nat) : Int) :: castL (bitsOf (x &&& (x - 1))) := by
  obtain ⟨hc, h1, h2, h3⟩ := low_bits x h0 h
  refine up_ext (castL_up (bitsOf_up x)) ?_ fun y => ?_
  · refine List.pairwise_cons.2 ⟨fun y hy => ?_, castL_up (bitsOf_up _)⟩
    obtain ⟨i, hi, rfl⟩ := mem_castL.1 hy
    obtain ⟨_, hi2⟩ := mem_bitsOf.1 hi
    rw [h3, Bool.and_eq_true, decide_eq_true_eq] at hi2
    have : ¬ i < Lib.ctz 64 x := fun hlt => by rw [h2 i hlt] at hi2; exact absurd hi2.1 (by simp)
    omega
  · rw [mem_castL, List.mem_cons, mem_castL]
    constructor
    · rintro ⟨i, hi, rfl⟩
      obtain ⟨hi1, hi2⟩ := mem_bitsOf.1 hi
      by_cases e : i = Lib.ctz 64 x
      · exact .inl (by rw [e])
      · exact .inr ⟨i, mem_bitsOf.2 ⟨hi1, by rw [h3, hi2, decide_eq_true e]; rfl⟩, rfl⟩
    · rintro (rfl | ⟨i, hi, rfl⟩)
      · exact ⟨_, mem_bitsOf.2 ⟨hc, h1⟩, rfl⟩
      · obtain ⟨hi1, hi2⟩ := mem_bitsOf.1 hi
        rw [h3, Bool.and_eq_true] at hi2
        exact ⟨i, mem_bitsOf.2 ⟨hi1, hi2.1⟩, rfl⟩
/-! ### The numbers of the sets -/
def mask (P : Nat → Bool) : Nat → Nat
  | 0 => 0
  | n + 1 => mask P n ||| (bif P n then 2 ^ n else 0)
theorem mask_bit (P : Nat → Bool) (n i : Nat) : (mask P n).testBit i = (decide (i < n) && P i) := by
  induction n with
  | zero => simp [mask]
  | succ n ih =>
    rw [mask, Nat.testBit_or, ih]
    have e : (bif P n then 2 ^ n else 0).testBit i = (P n && decide (i = n)) := by
      cases P n
      · simp
      · rw [cond_true, Nat.testBit_two_pow, Bool.true_and, Bool.eq_iff_iff]; simp [eq_comm]
    rw [e]
    by_cases h1 : i = n
    · subst h1; simp
    · by_cases h2 : i < n
      · rw [decide_eq_true h2, decide_eq_true (show i < n + 1 by omega), decide_eq_false h1]; simp
      · rw [decide_eq_false h2, decide_eq_false (show ¬ i < n + 1 by omega), decide_eq_false h1]; simp
theorem mask_lt (P : Nat → Bool) (n : Nat) : mask P n < 2 ^ n := by
  induction n with
  | zero => simp [mask]
  | succ n ih =>
    rw [mask]
    refine Nat.or_lt_two_pow (Nat.lt_of_lt_of_le ih (Nat.pow_le_pow_right (by omega) (by omega))) ?_
    cases P n
    · exact Nat.two_pow_pos _
    · exact Nat.pow_lt_pow_right (by omega) (by omega)
theorem mask_lt64 (P : Nat → Bool) (n : Nat) (h : n ≤ 64) : mask P n < 18446744073709551616 :=
  Nat.lt_of_lt_of_le (mask_lt P n) (by have : 2 ^ n ≤ 2 ^ 64 := Nat.pow_le_pow_right (by omega) h; simpa using this)
theorem mask_bits (P : Nat → Bool) : bitsOf (mask P 64) = (List.range 64).filter P := by
  unfold bitsOf
  refine List.filter_congr fun i hi => ?_
  rw [mask_bit, decide_eq_true (List.mem_range.1 hi), Bool.true_and]
/-- The number of the set k after j addresses. -/
def setK (r : Nat → Nat) (j k : Nat) : Nat := mask (fun a => Nat.beq (setF r a 3) k) j
theorem setK_zero (r : Nat → Nat) (k : Nat) : setK r 0 k = 0 := rfl
theorem setK_hit (r : Nat → Nat) (j : Nat) : setK r (j + 1) (setF r j 3) = setK r j (setF r j 3) ||| 2 ^ j := by
  unfold setK
  rw [mask, Nat.beq_refl]
  rfl
theorem setK_miss (r : Nat → Nat) (j k : Nat) (h : k ≠ setF r j 3) : setK r (j + 1) k = setK r j k := by
  unfold setK
  have e : Nat.beq (setF r j 3) k = false := by
    cases hb : Nat.beq (setF r j 3) k
    · rfl
    · exact absurd (Nat.eq_of_beq_eq_true hb).symm h
  rw [mask, e]
  simp
theorem setK_lt (r : Nat → Nat) (j k : Nat) (hj : j ≤ 64) : setK r j k < 18446744073709551616 := mask_lt64 _ _ hj
/-- The members of a set, in order. -/
def members (r : Nat → Nat) (k : Nat) : List Nat := (List.range 64).filter (fun a => Nat.beq (setF r a 3) k)
theorem members_bits (r : Nat → Nat) (k : Nat) : bitsOf (setK r 64 k) = members r k := mask_bits _
theorem members_len (r : Nat → Nat) (k : Nat) : (members r k).length ≤ 64 := by
  have := List.length_filter_le (fun a => Nat.beq (setF r a 3) k) (List.range 64)
  simpa [members] using this
/-- The members among the first addresses. -/
def memK (r : Nat → Nat) (k j : Nat) : List Nat := (List.range j).filter (fun a => Nat.beq (setF r a 3) k)
theorem memK_len (r : Nat → Nat) (k j : Nat) : (memK r k j).length ≤ j := by
  have := List.length_filter_le (fun a => Nat.beq (setF r a 3) k) (List.range j)
  simpa [memK] using this
theorem memK_hit (r : Nat → Nat) (k j : Nat) (h : setF r j 3 = k) : castL (memK r k (j + 1)) = castL (memK r k j) ++ [(j : Int)] := by
  unfold memK
  rw [List.range_succ, List.filter_append]
  subst h
  simp [castL]
theorem memK_miss (r : Nat → Nat) (k j : Nat) (h : setF r j 3 ≠ k) : castL (memK r k (j + 1)) = castL (memK r k j) := by
  unfold memK
  have e : Nat.beq (setF r j 3) k = false := by
    cases hb : Nat.beq (setF r j 3) k
    · rfl
    · exact absurd (Nat.eq_of_beq_eq_true hb) h
  rw [List.range_succ, List.filter_append]
  simp [e]
theorem setF_lt8 (r : Nat → Nat) (x : Nat) : setF r x 3 < 8 := setF_lt r x 3
/-- The value of SetMembers; of KernelOf with the address 0. -/
def memV (xs : List Int) (x : Int) : List Int := if okX xs && isA x then castL (members (fun i => (xs.getD i 0).toNat) (setF (fun i => (xs.getD i 0).toNat) x.toNat 3)) else []
theorem memV_len (xs : List Int) (x : Int) : (memV xs x).length ≤ 1000000 := by
  unfold memV
  split
  · rw [castL_len]; have := members_len (fun i => (xs.getD i 0).toNat) (setF (fun i => (xs.getD i 0).toNat) x.toNat 3); omega
  · simp
end Go.Proofs.Ytfdjjaogmnagaaa.Ix
