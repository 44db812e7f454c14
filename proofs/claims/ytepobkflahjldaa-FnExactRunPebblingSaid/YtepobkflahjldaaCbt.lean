/- Small lemmas for walks of laws: two steps below; marks and sizes at numbers that are sums. -/
import Derived.Test.YtepobkflahjldaaCmarkE
import Derived.Test.YtepobkflahjldaaCrd
namespace Go.Proofs.Ytepobkflahjldaa
open Go.RowKit
theorem bt {a b c : World} (h : Below a.heap.size a b) (k : Below b.heap.size b c) : Below a.heap.size a c := h.trans (k.mono h.size)
theorem btB {B : Nat} {a b c : World} (h : Below B a b) (hB : B ≤ a.heap.size) (k : Below b.heap.size b c) : Below B a c := h.trans (k.mono (Nat.le_trans hB h.size))
/-- A mark of lists: a number that is not too great comes back, and only the list's own block is written. -/
def MarkI (K : Int) (v : Value) (w : World) (e : Ending) (w' : World) : Prop := ∃ k : Int, e = .returned (.int .i64 k) ∧ (0 ≤ k ∧ k ≤ K) ∧ w.grownBy w' v.ownBlock
theorem mark_int {w : World} {B : Nat} {v : Value} {xs : List Int} (K : Int) (hK0 : 0 ≤ K) (hK1 : K ≤ 100000000) (h : Own w B v xs) (hn : xs.length ≤ 1048576) :
    Calls Try.prog 16 #[v, .int .i64 K] w (MarkI 200000000 v w) := by
  have e : K = ((K.toNat : Nat) : Int) := by omega
  rw [e]
  exact (mark_own K.toNat h (by omega)).mono fun e w' ⟨he, _, hg⟩ => ⟨_, he, by omega, hg⟩
end Go.Proofs.Ytepobkflahjldaa
