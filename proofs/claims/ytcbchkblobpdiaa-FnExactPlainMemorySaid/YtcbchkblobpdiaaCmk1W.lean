/- Marks of a list in a block of any type, from 1 on; a list and whether a call succeeded. -/
import Derived.Test.YtcbchkblobpdiaaCow
namespace Go.Proofs.Ytcbchkblobpdiaa
open Go.RowKit
def Marked1W (B : Nat) (v : Value) (N : Nat) (w : World) (e : Ending) (w' : World) : Prop := e = .returned (.int .i64 (1 + (N : Int))) ∧ OwnW w' B v (marks 1 N) ∧ w.grownBy w' v.ownBlock
theorem mark1W {w : World} {B : Nat} {v : Value} {xs : List Int} (h : OwnW w B v xs) (hn : xs.length + 1 ≤ 9223372036854775807) :
    Calls Try.prog 18 #[v, .int .i64 1] w (Marked1W B v xs.length w) := mark_ownW 1 h hn
theorem held1W {w : World} {B : Nat} {v : Value} {N : Nat} (h : OwnW w B v (marks 1 N)) (hn : N + 1 ≤ 9223372036854775807) :
    Calls Try.prog 19 #[v, .int .i64 1] w (Count (1 + (N : Int)) w) := held_ownW 1 N h hn
/-- A list in a block of any type, and whether the call succeeded. -/
def ResV (xs : List Int) (ok : Bool) (w : World) (e : Ending) (w' : World) : Prop := ∃ v, e = .returned (.tuple #[v, .bool ok]) ∧ OwnW w' w.heap.size v xs ∧ Below w.heap.size w w'
theorem Res.weak {xs : List Int} {ok : Bool} {w w' : World} {e : Ending} (h : Res xs ok w e w') : ResV xs ok w e w' := by
  obtain ⟨v, h1, h2, h3⟩ := h
  exact ⟨v, h1, h2.weak, h3⟩
end Go.Proofs.Ytcbchkblobpdiaa
