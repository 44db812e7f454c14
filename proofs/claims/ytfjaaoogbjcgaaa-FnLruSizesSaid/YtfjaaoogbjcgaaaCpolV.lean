/- Policies that came in by value: their size, and a copy of the call's own. -/
import Derived.Test.YtfjaaoogbjcgaaaCpol
import Derived.Test.YtfjaaoogbjcgaaaCtoM
import Derived.Test.YtfjaaoogbjcgaaaCblk
namespace Go.Proofs.Ytfjaaoogbjcgaaa
open Go.RowKit
theorem weak2 {w : World} {B : Nat} {v : Value} {vs : List Value} {R : List (List Int)} (h : Own2 w B v vs R) : Own2W w B v vs R := ⟨h.1, h.2.1, fun i hi => (h.2.2.1 i hi).weak, h.2.2.2⟩
def NbI (n : Int) (w : World) (e : Ending) (w' : World) : Prop := e = .returned (.int .i64 n) ∧ Below w.heap.size w w'
theorem Wr.set (B T : Nat) (w : World) (b o : Nat) (v : Value) (h : B ≤ b ∧ b < T) : Wr B T w (w.setCell ⟨b, o, none⟩ v) :=
  ⟨rfl, rfl, rfl, by simp, fun i _ hi => Go.heap_setCell_other w ⟨b, o, none⟩ i v (fun e => by simp at e; omega)⟩
def CopP (hs : List (List Int)) (ms : List Int) (w : World) (e : Ending) (w' : World) : Prop := ∃ u, e = .returned u ∧ OwnP w' (w.heap.size + 3) w'.heap.size u hs ms ∧ Below w.heap.size w w'
def CopS (hs : List (List Int)) (ms : List Int) (w : World) (e : Ending) (w' : World) : Prop := ∃ u, e = .returned u ∧ OwnP w' (w.heap.size + 3) w'.heap.size u hs ms ∧ Below w.heap.size w w' ∧ w.heap.size + 3 ≤ w'.heap.size
end Go.Proofs.Ytfjaaoogbjcgaaa
