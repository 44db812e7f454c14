/- The law's helper that marks a list, from any number on; only that it marks and how the world grows. -/
import Derived.Test.YtepobkflahjldaaCmark1
namespace Go.Proofs.Ytepobkflahjldaa
open Go.RowKit
def MarkedK (K : Nat) (v : Value) (w : World) (e : Ending) (w' : World) : Prop := ∃ k : Nat, e = .returned (.int .i64 (k : Int)) ∧ k ≤ K ∧ w.grownBy w' v.ownBlock
theorem mark1K {w : World} {B : Nat} {v : Value} {xs : List Int} (h : Own w B v xs) (hn : xs.length ≤ 1048576) :
    Calls Try.prog 16 #[v, .int .i64 1] w (MarkedK 2000000 v w) :=
  (mark1 h (by omega)).mono fun e w' ⟨he, _, hg⟩ => ⟨1 + xs.length, by rw [he]; simp, by omega, hg⟩
theorem markK {w : World} {B : Nat} {v : Value} {xs : List Int} (k : Nat) (h : Own w B v xs) (hk : k ≤ 2000000) (hn : xs.length ≤ 1048576) :
    Calls Try.prog 16 #[v, .int .i64 (k : Int)] w (MarkedK 4000000 v w) :=
  (mark_own k h (by omega)).mono fun e w' ⟨he, _, hg⟩ => ⟨k + xs.length, by rw [he]; simp, by omega, hg⟩
end Go.Proofs.Ytepobkflahjldaa
