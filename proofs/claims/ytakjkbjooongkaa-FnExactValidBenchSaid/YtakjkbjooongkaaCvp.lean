/- Policies that are read, as values; the contracts of both ValidPolicy. -/
import Derived.Test.YtakjkbjooongkaaCrul
import Derived.Test.YtakjkbjooongkaaCpolV
namespace Go.Proofs.Ytakjkbjooongkaa.Pv
open Go.RowKit
theorem RdR.below {w w' : World} {a : Option Addr} {hs : List (List Int)} (h : RdR w a hs) (hb : Below w.heap.size w w') : RdR w' a hs := fun i hi => by
  obtain ⟨b, off, A, C, h1, h2, h3, h4, r⟩ := h i hi
  exact ⟨b, off, A, C, h1, (hb.cell (p := ⟨b, off + i, none⟩) h4).trans h2, h3.below hb, Nat.lt_of_lt_of_le h4 hb.size, r⟩
/-- v is a policy that is read: orders for hits, and one for a miss. -/
def RdP (w : World) (v : Value) (hs : List (List Int)) (ms : List Int) : Prop :=
  ∃ a c a' c', v = .agg #[.slice a hs.length c, .slice a' ms.length c'] ∧ RdR w a hs ∧ hs.length ≤ 1048576 ∧ Row w a' ms ∧ ms.length ≤ 1048576 ∧ (ms.length ≤ c' ∧ c' ≤ 9223372036854775807)
theorem RdP.of {w : World} {B T : Nat} {v : Value} {hs : List (List Int)} {ms : List Int} (h : OwnP w B T v hs ms) (hl : hs.length ≤ 1048576) (hx : ∀ i, i < hs.length → (hs.getD i []).length ≤ 1048576) (hm : ms.length ≤ 1048576) : RdP w v hs ms := by
  obtain ⟨hh, m, vs, rfl, h1, h2, _⟩ := h
  obtain ⟨a', c', rfl, e1, ⟨e2, _⟩, hr⟩ := h2.rd
  rcases h1.cases with ⟨rfl, rfl⟩ | ⟨g, cap, rfl, _, hg, _, hc, _⟩
  · exact ⟨none, 0, a', c', rfl, fun i hi => by simp at hi, hl, hr, hm, e1, e2⟩
  · refine ⟨_, cap, a', c', rfl, fun i hi => ?_, hl, hr, hm, e1, e2⟩
    obtain ⟨A, C, e, k1, ⟨k2, k3⟩, hri⟩ := (h1.2.2.1 i hi).rd
    exact ⟨g, 0, A, C, rfl, by rw [Nat.zero_add, hc i hi, e], hri, hg, hx i hi, k1, k2, k3⟩
def rulC (b : Bool) (n : Nat) (hs : List (List Int)) (ms : List Int) : List Value := if b then rulesL n hs n (rowC ms) else z43
theorem rulC_len (b : Bool) (n : Nat) (hs : List (List Int)) (ms : List Int) : (rulC b n hs ms).length = 43 := by
  unfold rulC
  split
  · exact rulesL_len _ _ _ _ rfl
  · rfl
theorem one_rulC (b : Bool) (n : Nat) (hs : List (List Int)) (ms : List Int) : ∀ v ∈ rulC b n hs ms, v.oneCell' = true := by
  unfold rulC
  split
  · exact one_rules _ _ _ _ (one_row _)
  · intro v hv; simp [z43, z6l] at hv; rw [hv]; rfl
/-- What rulesOf leaves. -/
def RulR (b : Bool) (n : Nat) (hs : List (List Int)) (ms : List Int) (w : World) (e : Ending) (w' : World) : Prop := e = .returned (.tuple #[.agg (rulC b n hs ms).toArray, .bool b]) ∧ Below w.heap.size w w'
theorem rules_any {v : Value} {hs : List (List Int)} {ms : List Int} {w : World} (h : RdP w v hs ms) : Calls Try.prog 27 #[v] w (RulR (isP hs ms) ms.length hs ms w) := by
  obtain ⟨a, c, a', c', rfl, h1, h2, h3, h4, h5⟩ := h
  exact rules_i a a' c c' hs ms w h3 h5 h4 h1 h2
set_option maxHeartbeats 2000000 in
set_option maxRecDepth 100000 in
theorem valid_i {v : Value} {hs : List (List Int)} {ms : List Int} {w : World} (h : RdP w v hs ms) : Calls Try.prog 15 #[v] w (Bb (isP hs ms) w) := by
  have h' := h
  obtain ⟨a, c, a', c', rfl, h1, h2, h3, h4, h5⟩ := h'
  have b0 := (Below.refl w.heap.size w).alloc (Nat.le_refl _) (.cells #[.slice a hs.length c, .slice a' ms.length c'] 32)
  have HR := Lib.hid (rules_any (w := w.alloc (.cells #[.slice a hs.length c, .slice a' ms.length c'] 32)) ⟨a, c, a', c', rfl, h1.below b0, h2, h3.below b0, h4, h5⟩)
  unfold RulR at HR
  have HL := Lib.hid (rulC_len (isP hs ms) ms.length hs ms)
  have H1 := Lib.hid (one_rulC (isP hs ms) ms.length hs ms)
  clear h h1 h3 h5
  generalize rulC (isP hs ms) ms.length hs ms = rc at *
  generalize isP hs ms = r at *
  generalize hs.length = N at *
  generalize ms.length = M at *
  go_enter Try.func15, Try.ntmps15
  go_wp2_with fail
  refine HR.out.mono ?_; rintro e w1 ⟨rfl, b1⟩
  have B1 := Lib.hid (bt b0 b1)
  clear b0 b1
  go_wp2_with (with_reducible refine wpList_storeB rfl 63 (.tmp 3) (.tmp 8) rfl w1.heap.size 0 rc ?_ ?_ z43 63 ?_ ?_ ?_ ?_ ?_)
  · rfl
  · rfl
  · exact Blk.newAt _ _ _ _ rfl
  · rw [HL.out]; decide
  · rw [HL.out]; exact isz43
  · exact H1.out
  intro w2 _ hK
  have hb2 : Below w.heap.size w w2 := (B1.out.alloc (B1.out.size) _).trans (hK.out.below B1.out.size)
  have hB2 := Lib.hid hb2
  clear hb2
  go_wp2
  go_ret
  exact ⟨rfl, hB2.out⟩
end Go.Proofs.Ytakjkbjooongkaa.Pv
