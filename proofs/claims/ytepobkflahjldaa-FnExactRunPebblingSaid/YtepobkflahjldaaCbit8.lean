/- Sets of nodes as bytes and as numbers of 64 bits: what the operations on them make. -/
import Derived.Test.YtepobkflahjldaaPlainPeb
namespace Go.Proofs.Ytepobkflahjldaa.Pb
theorem or8' : ∀ a : Fin 64, ∀ b : Fin 64, bits .or .u8 (a.val : Int) (b.val : Int) = ((a.val ||| b.val : Nat) : Int) := by decide +kernel
theorem and8' : ∀ a : Fin 64, ∀ b : Fin 64, bits .and .u8 (a.val : Int) (b.val : Int) = ((a.val &&& b.val : Nat) : Int) := by decide +kernel
theorem xor8' : ∀ a : Fin 64, ∀ b : Fin 64, bits .xor .u8 (a.val : Int) (b.val : Int) = ((a.val ^^^ b.val : Nat) : Int) := by decide +kernel
theorem adn8' : ∀ a : Fin 64, ∀ b : Fin 64, bits .andNot .u8 (a.val : Int) (b.val : Int) = ((adn a.val b.val : Nat) : Int) := by decide +kernel
theorem or64' : ∀ a : Fin 64, ∀ b : Fin 64, bits .or .i64 (a.val : Int) (b.val : Int) = ((a.val ||| b.val : Nat) : Int) := by decide +kernel
theorem and64' : ∀ a : Fin 64, ∀ b : Fin 64, bits .and .i64 (a.val : Int) (b.val : Int) = ((a.val &&& b.val : Nat) : Int) := by decide +kernel
theorem xor64' : ∀ a : Fin 64, ∀ b : Fin 64, bits .xor .i64 (a.val : Int) (b.val : Int) = ((a.val ^^^ b.val : Nat) : Int) := by decide +kernel
theorem adn64' : ∀ a : Fin 64, ∀ b : Fin 64, bits .andNot .i64 (a.val : Int) (b.val : Int) = ((adn a.val b.val : Nat) : Int) := by decide +kernel
theorem or8 (a b : Nat) (ha : a < 64) (hb : b < 64) : bits .or .u8 (a : Int) (b : Int) = ((a ||| b : Nat) : Int) := or8' ⟨a, ha⟩ ⟨b, hb⟩
theorem and8 (a b : Nat) (ha : a < 64) (hb : b < 64) : bits .and .u8 (a : Int) (b : Int) = ((a &&& b : Nat) : Int) := and8' ⟨a, ha⟩ ⟨b, hb⟩
theorem xor8 (a b : Nat) (ha : a < 64) (hb : b < 64) : bits .xor .u8 (a : Int) (b : Int) = ((a ^^^ b : Nat) : Int) := xor8' ⟨a, ha⟩ ⟨b, hb⟩
theorem adn8 (a b : Nat) (ha : a < 64) (hb : b < 64) : bits .andNot .u8 (a : Int) (b : Int) = ((adn a b : Nat) : Int) := adn8' ⟨a, ha⟩ ⟨b, hb⟩
theorem or64 (a b : Nat) (ha : a < 64) (hb : b < 64) : bits .or .i64 (a : Int) (b : Int) = ((a ||| b : Nat) : Int) := or64' ⟨a, ha⟩ ⟨b, hb⟩
theorem and64 (a b : Nat) (ha : a < 64) (hb : b < 64) : bits .and .i64 (a : Int) (b : Int) = ((a &&& b : Nat) : Int) := and64' ⟨a, ha⟩ ⟨b, hb⟩
theorem xor64 (a b : Nat) (ha : a < 64) (hb : b < 64) : bits .xor .i64 (a : Int) (b : Int) = ((a ^^^ b : Nat) : Int) := xor64' ⟨a, ha⟩ ⟨b, hb⟩
theorem adn64 (a b : Nat) (ha : a < 64) (hb : b < 64) : bits .andNot .i64 (a : Int) (b : Int) = ((adn a b : Nat) : Int) := adn64' ⟨a, ha⟩ ⟨b, hb⟩
theorem bit_test : ∀ a : Fin 64, ∀ k : Fin 6, (a.val &&& 2 ^ k.val != 0) = a.val.testBit k.val := by decide +kernel
theorem shr_test : ∀ a : Fin 64, ∀ k : Fin 6, (bits .and .i64 ((a.val : Int) / (2 ^ k.val)) 1 == 1) = a.val.testBit k.val := by decide +kernel
end Go.Proofs.Ytepobkflahjldaa.Pb
