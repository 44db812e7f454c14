/- Policies that are read, as values; the contracts of both ValidPolicy. -/
import Derived.Test.YtimfekedpgllhaaCrul
import Derived.Test.YtimfekedpgllhaaCpolV
namespace Go.Proofs.Ytimfekedpgllhaa.Pv
open Go.RowKit
theorem RdR.below {w w' : World} {a : Option Addr} {hs : List (List Int)} (h : RdR w a hs) (hb : Below w.heap.size w w') : RdR w' a hs := fun i hi => by
  obtain ⟨b, off, A, C, h1, h2, h3, h4, r⟩ := h i hi
  exact ⟨b, off, A, C, h1, (hb.cell (p := ⟨b, off + i, none⟩) h4).trans h2, h3.below hb, Nat.lt_of_lt_of_le h4 hb.size, r⟩
/-- v is a policy that is read: orders for hits, and one for a miss. -/
def RdP (w : World) (v : Value) (hs : List (List Int)) (ms : List Int) : Prop :=
  ∃ a c a' c', v = .agg #[.slice a hs.length c, .slice a' ms.length c'] ∧ RdR w a hs ∧ hs.length ≤ 1048576 ∧ Row w a' ms ∧ ms.length ≤ 1048576 ∧ (ms.length ≤ c' ∧ c' ≤ 9223372036854775807)
theorem RdP.of {w : World} {B T : Nat} {v : Value} {hs : List (List Int)} {ms : List Int} (h : OwnP w B T v hs ms) (hl : hs.length ≤ 1048576) (hx : ∀ i, i < hs.length → (hs.getD i []).length ≤ 1048576) (hm : ms.length ≤ 1048576) : RdP w v hs ms := by
  obtain ⟨hh, m, vs, rfl, h1, h2, _⟩ := h
  obtain ⟨a', c', rfl, e1, ⟨e2, _⟩, hr⟩ := h2.rd
  rcases h1.cases with ⟨rfl, rfl⟩ | ⟨g, cap, rfl, _, hg, _, hc, _⟩
  · exact ⟨none, 0, a', c', rfl, fun i hi => by simp at hi, hl, hr, hm, e1, e2⟩
  · refine ⟨_, cap, a', c', rfl, fun i hi => ?_, hl, hr, hm, e1, e2⟩
    obtain ⟨A, C, e, k1, ⟨k2, k3⟩, hri⟩ := (h1.2.2.1 i hi).rd
    exact ⟨g, 0, A, C, rfl, by rw [Nat.zero_add, hc i hi, e], hri, hg, hx i hi, k1, k2, k3⟩
def rulC (b : Bool) (n : Nat) (hs : List (List Int)) (ms : List Int) : List Value := if b then rulesL n hs n (rowC ms) else z43
theorem rulC_len (b : Bool) (n : Nat) (hs : List (List Int)) (ms : List Int) : (rulC b n hs ms).length = 43 := by
  unfold rulC
  split
  · exact rulesL_len _ _ _ _ rfl
  · rfl
theorem one_rulC (b : Bool) (n : Nat) (hs : List (List Int)) (ms : List Int) : ∀ v ∈ rulC b n hs ms, v.oneCell' = true := by
  unfold rulC
  split
  · exact one_rules _ _ _ _ (one_row _)
  · intro v hv; simp [z43, z6l] at hv; rw [hv]; rfl
/-- What rulesOf leaves. -/
def RulR (b : Bool) (n : Nat) (hs : List (List Int)) (ms : List Int) (w : World) (e : Ending) (w' : World) : Prop := e = .returned (.tuple #[.agg (rulC b n hs ms).toArray, .bool b]) ∧ Below w.heap.size w w'
theorem rules_any {v : Value} {hs : List (List Int)} {ms : List Int} {w : World} (h : RdP w v hs ms) : Calls Try.prog 53 #[v] w (RulR (isP hs ms) ms.length hs ms w) := by
  obtain ⟨a, c, a', c', rfl, h1, h2, h3, h4, h5⟩ := h
  exact rules_i a a' c c' hs ms w h3 h5 h4 h1 h2
end Go.Proofs.Ytimfekedpgllhaa.Pv
