/- Lists of lists of the call's own: more on them. -/
import Derived.Test.YtmcnmjkickamkaaCapp2
import Derived.Test.YtmcnmjkickamkaaCmark2
namespace Go.Proofs.Ytmcnmjkickamkaa.Tr
open Go.RowKit
/-- What a function leaves that returns a list of lists and whether it succeeded. -/
def Res2 (xss : List (List Int)) (ok : Bool) (w : World) (e : Ending) (w' : World) : Prop := ∃ v vs, e = .returned (.tuple #[v, .bool ok]) ∧ Own2 w' w.heap.size v vs xss ∧ Below w.heap.size w w'
theorem Own2.mono {w : World} {B B' : Nat} {v : Value} {vs : List Value} {xss : List (List Int)} (h : Own2 w B v vs xss) (hB : B' ≤ B) : Own2 w B' v vs xss :=
  ⟨h.1, ⟨h.2.1.1, by
    rcases h.2.1.2 with hn | ⟨g, cap, cur, hv, hg, r⟩
    · exact .inl hn
    · exact .inr ⟨g, cap, cur, hv, Nat.le_trans hB hg, r⟩⟩, fun i hi => (h.2.2.1 i hi).mono hB, h.2.2.2⟩
theorem Own2.kept {w w' : World} {B : Nat} {row : Option Nat} {v : Value} {vs : List Value} {xss : List (List Int)} (h : Own2 w B v vs xss) (hg : w.grownBy w' row) (hne : ∀ k, row = some k → k < B) : Own2 w' B v vs xss := by
  obtain ⟨h0, h1, h2, h3⟩ := h
  refine ⟨h0, World.ownsRow.kept h1 hg ?_, fun i hi => (h2 i hi).kept hg fun k hk e => ?_, h3⟩
  · cases hv : v.ownBlock with
    | none => exact .inl rfl
    | some k => exact .inr fun e => by have := hne k e.symm; have := (World.ownsRow.lt h1 k hv).1; omega
  · have := hne k e.symm
    have := ((h2 i hi).block k hk).1
    omega
theorem Own2.form {w : World} {B : Nat} {v : Value} {vs : List Value} {xss : List (List Int)} (h : Own2 w B v vs xss) : ∃ a c, v = .slice a xss.length c := by
  rcases h.cases with ⟨rfl, rfl⟩ | ⟨g, cap, rfl, _⟩
  · exact ⟨_, _, rfl⟩
  · exact ⟨_, _, rfl⟩
theorem Own.lit2 (w : World) (u t : Int) : Own (w.alloc (.cells #[.int .i64 u, .int .i64 t] 2)) w.heap.size (.slice (some ⟨w.heap.size, 0, none⟩) 2 2) [u, t] :=
  World.ownsRow_lit w #[.int .i64 u, .int .i64 t] 2 (Nat.le_refl _) (by unfold maxLen; omega) rfl
theorem Own2.new {w w' : World} {B g n c : Nat} {v : Value} {vs : List Value} {xss : List (List Int)} (h : Own2 w B v vs xss) (hg : w.heap.size ≤ g) :
    (∀ i k, i < xss.length → (vs.getD i s0).ownBlock = some k → (Value.slice (some ⟨g, 0, none⟩) n c).ownBlock ≠ some k) ∧ ∀ k, (Value.slice (some ⟨g, 0, none⟩) n c).ownBlock = some k → v.ownBlock ≠ some k := by
  refine ⟨fun i k hi hk e => ?_, fun k e hk => ?_⟩
  · have h1 := ((h.2.2.1 i hi).block k hk).2
    simp [Value.ownBlock] at e
    omega
  · have h1 := (World.ownsRow.lt h.2.1 k hk).2
    simp [Value.ownBlock] at e
    omega
theorem Own2.lit0 (w : World) : Own2 (w.alloc (.cells #[] 35)) w.heap.size (.slice (some ⟨w.heap.size, 0, none⟩) 0 0) [] [] :=
  ⟨rfl, World.ownsRow_lit w #[] 0 (Nat.le_refl _) (by unfold maxLen; omega) rfl, fun i h => by simp at h, fun i j k _ h => by simp at h, fun i k h => by simp at h⟩
end Go.Proofs.Ytmcnmjkickamkaa.Tr
