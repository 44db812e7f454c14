/- The numbers that follow from a seed, as lists. No program. -/
import Derived.PlainAid
namespace Go.Proofs.Ythfgaoojgdikpaa.Sd
def nx (s : Nat) : Nat := 48271 * s % 2147483647
/-- The seed after n steps. -/
def at_ (s : Nat) : Nat → Nat
  | 0 => s
  | n + 1 => nx (at_ s n)
theorem nx_lt (s : Nat) : nx s < 2147483647 := Nat.mod_lt _ (by omega)
theorem at_lt (s n : Nat) (h : s < 2147483647) : at_ s n < 2147483647 := by
  cases n with
  | zero => exact h
  | succ n => exact nx_lt _
def sl (s b : Nat) : Nat → List Int
  | 0 => []
  | n + 1 => sl s b n ++ [((at_ s (n + 1) : Nat) : Int) % (b : Int)]
theorem sl_length (s b n : Nat) : (sl s b n).length = n := by
  induction n with
  | zero => rfl
  | succ n ih => simp [sl, ih]
end Go.Proofs.Ythfgaoojgdikpaa.Sd
