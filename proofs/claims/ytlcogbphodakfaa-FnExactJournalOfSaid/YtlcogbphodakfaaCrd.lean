/- Lists of int64 that are only read: wherever they lie, and wherever they begin in their block. -/
import Derived.Test.YtlcogbphodakfaaCsl
namespace Go.Proofs.Ytlcogbphodakfaa
open Go.RowKit
/-- Behind a lie the numbers xs. -/
def Row (w : World) (a : Option Addr) (xs : List Int) : Prop :=
  ∀ i, i < xs.length → ∃ b off, a = some ⟨b, off, none⟩ ∧ w.cell? ⟨b, off + i, none⟩ = some (.int .i64 (xs.getD i 0)) ∧ b < w.heap.size
/-- v is a slice that leads to the numbers xs. -/
def Rd (w : World) (v : Value) (xs : List Int) : Prop := ∃ a c, v = .slice a xs.length c ∧ xs.length ≤ c ∧ (c ≤ 9223372036854775807 ∧ (a = none ∨ ∃ b off, a = some ⟨b, off, none⟩)) ∧ Row w a xs
theorem Row.below {w w' : World} {a : Option Addr} {xs : List Int} (h : Row w a xs) (hb : Below w.heap.size w w') : Row w' a xs := fun i hi => by
  obtain ⟨b, off, ha, hc, hlt⟩ := h i hi
  exact ⟨b, off, ha, (hb.cell (p := ⟨b, off + i, none⟩) hlt).trans hc, Nat.lt_of_lt_of_le hlt hb.size⟩
theorem Rd.below {w w' : World} {v : Value} {xs : List Int} (h : Rd w v xs) (hb : Below w.heap.size w w') : Rd w' v xs := by
  obtain ⟨a, c, hv, h1, h2, h3⟩ := h
  exact ⟨a, c, hv, h1, h2, h3.below hb⟩
theorem Row.nil (w : World) (a : Option Addr) : Row w a [] := fun i hi => by simp at hi
theorem Rd.nil (w : World) : Rd w (.slice none 0 0) [] := ⟨none, 0, rfl, Nat.le_refl _, ⟨by omega, .inl rfl⟩, Row.nil w _⟩
theorem Own.rd {w : World} {B : Nat} {v : Value} {xs : List Int} (h : Own w B v xs) : Rd w v xs := by
  have h0 : w.ownsRow B 2 1 v xs.length (xs.map (Value.int .i64)) := h
  rcases h.cases with ⟨rfl, rfl⟩ | ⟨g, cap, rfl, hB, hg, hm, hc, _⟩
  · exact Rd.nil w
  · refine ⟨_, cap, rfl, ?_, ⟨?_, .inr ⟨g, 0, rfl⟩⟩, fun i hi => ⟨g, 0, rfl, by rw [Nat.zero_add]; exact hc i hi, hg⟩⟩
    · rcases h0.2 with ⟨hn, _⟩ | ⟨g', cap', cur, he, _, _, hnc, _⟩
      · cases hn
      · injection he with _ _ e3; omega
    · rcases h0.2 with ⟨hn, _⟩ | ⟨g', cap', cur, he, _, _, _, hcm, _⟩
      · cases hn
      · injection he with _ _ e3; unfold maxLen at hcm; omega
theorem Row.sub {w : World} {b off : Nat} {xs : List Int} (h : Row w (some ⟨b, off, none⟩) xs) (i j : Nat) (_hij : i ≤ j) (hj : j ≤ xs.length) :
    Row w (some ⟨b, off + i, none⟩) ((xs.take j).drop i) := fun k hk => by
  have hk' : i + k < j := by simp at hk; omega
  obtain ⟨b', off', ha, hc, hlt⟩ := h (i + k) (by omega)
  injection ha with ha
  injection ha with e1 e2
  subst e1 e2
  refine ⟨b, off + i, rfl, ?_, hlt⟩
  rw [Nat.add_assoc, hc]
  congr 2
  rw [List.getD_eq_getElem?_getD, List.getD_eq_getElem?_getD, List.getElem?_drop, List.getElem?_take_of_lt hk']
/-- What a test leaves that reads alone. -/
def Bl (b : Bool) (w : World) (e : Ending) (w' : World) : Prop := e = .returned (.bool b) ∧ w = w'
/-- What a test leaves that may make memory. -/
def Bb (b : Bool) (w : World) (e : Ending) (w' : World) : Prop := e = .returned (.bool b) ∧ Below w.heap.size w w'
/-- What a function leaves that returns a number and may make memory. -/
def Nb (n : Int) (w : World) (e : Ending) (w' : World) : Prop := e = .returned (.int .i64 n) ∧ Below w.heap.size w w'
/-- What a function leaves that returns a list of its own. -/
def Lb (xs : List Int) (w : World) (e : Ending) (w' : World) : Prop := ∃ v, e = .returned v ∧ Own w' w.heap.size v xs ∧ Below w.heap.size w w'
theorem isRow_below {k : IntKind} {w w' : World} {a : Option Addr} {len cap : Nat} {zs : List Int} (h : IsRow k w a len cap zs) (hb : Below w.heap.size w w') : IsRow k w' a len cap zs := by
  rcases h with h | ⟨x, rfl, h1, h2, h3, h4, h5⟩
  · exact .inl h
  · refine .inr ⟨x, rfl, h1, h2, h3, fun i hi => ?_, h5⟩
    have hlt := World.block_lt_of_cell? w _ (h4 i hi)
    exact (hb.cell hlt).trans (h4 i hi)
end Go.Proofs.Ytlcogbphodakfaa
