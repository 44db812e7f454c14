/- Decimal digits, gathered from the last one on. No program. -/
import Derived.PlainAid
import Derived.Lib.ItoaNum
namespace Go.Proofs.YtdilbogjihafoaaDoor.Dc
def decR (m : Nat) : List UInt8 := if _h : m = 0 then [] else decR (m / 10) ++ [UInt8.ofNat (48 + m % 10)]
termination_by m
decreasing_by omega
theorem decR_zero : decR 0 = [] := by rw [decR]; simp
theorem decR_step (m : Nat) (h : 0 < m) : decR m = decR (m / 10) ++ [UInt8.ofNat (48 + m % 10)] := by rw [decR, dif_neg (by omega)]
theorem decR_len (k m : Nat) (h : m < 10 ^ k) : (decR m).length ≤ k := by
  induction k generalizing m with
  | zero => have : m = 0 := by simp at h; omega
            subst this; rw [decR_zero]; simp
  | succ k ih =>
    by_cases h0 : m = 0
    · subst h0; rw [decR_zero]; simp
    · rw [decR_step m (by omega), List.length_append]
      have := ih (m / 10) (by rw [Nat.pow_succ] at h; omega)
      simp; omega
theorem suffix_len (m n : Nat) (l : List UInt8) (h : decR m ++ l = decR n) (hn : n ≤ 9223372036854775808) : l.length ≤ 20 := by
  have h1 := decR_len 20 n (by omega)
  have h2 := congrArg List.length h
  rw [List.length_append] at h2
  omega
theorem suffix_step (m n : Nat) (l : List UInt8) (h : decR m ++ l = decR n) (hm : 0 < m) : decR (m / 10) ++ (UInt8.ofNat (48 + m % 10) :: l) = decR n := by
  rw [decR_step m hm, List.append_assoc] at h
  exact h
theorem decDigits_eq (u : Nat) (h : 0 < u) : Lib.decDigits u = decR u := by
  induction u using Nat.strongRecOn with
  | ind u ih =>
    rw [Lib.decDigits]
    by_cases h10 : u < 10
    · rw [dif_pos h10, decR_step u h, show u / 10 = 0 by omega, decR_zero, show u % 10 = u by omega]; rfl
    · rw [dif_neg h10, ih (u / 10) (by omega) (by omega), decR_step u h]
theorem itoa_zero : Lib.itoa 0 = [48] := by
  unfold Lib.itoa
  rw [if_neg (by omega), Lib.decDigits]
  rfl
theorem itoa_pos (u : Nat) (h : 0 < u) : Lib.itoa (u : Int) = decR u := by
  unfold Lib.itoa
  rw [if_neg (by omega)]
  simp [decDigits_eq u h]
theorem itoa_neg (u : Nat) (h : 0 < u) : Lib.itoa (-(u : Int)) = 45 :: decR u := by
  unfold Lib.itoa
  rw [if_pos (by omega)]
  simp [decDigits_eq u h]
theorem tmod_neg (m : Nat) : (-(m : Int)).tmod 10 = -((m % 10 : Nat) : Int) := by
  rw [Int.neg_tmod]; rfl
theorem tdiv_neg (m : Nat) : (-(m : Int)).tdiv 10 = -((m / 10 : Nat) : Int) := by
  rw [Int.neg_tdiv]; rfl
end Go.Proofs.YtdilbogjihafoaaDoor.Dc
