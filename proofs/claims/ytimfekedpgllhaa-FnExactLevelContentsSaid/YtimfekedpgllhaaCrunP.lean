/- Runs of a policy: what is at each age after the uses so far. -/
import Derived.Test.YtimfekedpgllhaaCstepI
namespace Go.Proofs.Ytimfekedpgllhaa.Pv
open Go.RowKit
/-- What is at each age after j uses. -/
def kK (hs : List (List Int)) (ms xs : List Int) : Nat → Nat → Int
  | 0 => fun _ => -1
  | j + 1 => stN hs ms (kK hs ms xs j) (xs.getD j 0)
def oldK (hs : List (List Int)) (ms xs : List Int) (j : Nat) : Int := kK hs ms xs j (ms.length - 1)
def hitK (hs : List (List Int)) (ms xs : List Int) (j : Nat) : Bool := hitB ms.length (kK hs ms xs j) (xs.getD j 0)
/-- What a call of the closure leaves. -/
def Told (Val : Nat → Value → World → Prop) (T : TypeId) (Z bq j : Nat) (y : Value) (w : World) (e : Ending) (w' : World) : Prop :=
  e = .returned (.tuple #[]) ∧ ∃ y', Blk w' bq [y'] T ∧ Val (j + 1) y' w' ∧ y'.ownBlock ≠ some bq ∧ Below Z w w' ∧ (∀ k, k < w.heap.size → k ≠ bq → y.ownBlock ≠ some k → w'.heap[k]? = w.heap[k]?) ∧ (∀ k, y'.ownBlock = some k → y.ownBlock = some k ∨ w.heap.size ≤ k)
/-- What the run leaves. -/
def RanP (Val : Nat → Value → World → Prop) (T : TypeId) (Z bq N : Nat) (xs : List Int) (w : World) (e : Ending) (w' : World) : Prop :=
  ∃ v y, e = .returned (.tuple #[v, .bool true]) ∧ OwnW w' Z v xs ∧ Blk w' bq [y] T ∧ Val N y w' ∧ y.ownBlock ≠ some bq ∧ (∀ k, v.ownBlock = some k → w.heap.size ≤ k ∧ y.ownBlock ≠ some k) ∧ Below Z w w'
theorem Blk.sameB {w w' : World} {b : Nat} {cs : List Value} {t : TypeId} (h : Blk w b cs t) (he : w'.heap[b]? = w.heap[b]?) : Blk w' b cs t := he.trans h
theorem one_six (k : Nat → Int) : ∀ v ∈ six6 k, v.oneCell' = true := fun v hv => by
  unfold six6 at hv
  simp at hv
  rcases hv with rfl | rfl | rfl | rfl | rfl | rfl <;> rfl
end Go.Proofs.Ytimfekedpgllhaa.Pv
