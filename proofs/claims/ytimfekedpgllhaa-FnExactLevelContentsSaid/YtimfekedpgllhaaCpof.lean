/- The program's policyOf. -/
import Derived.Test.YtimfekedpgllhaaCage2
import Derived.Test.YtimfekedpgllhaaCap2
import Derived.Test.YtimfekedpgllhaaCpol
import Derived.Deep.RegionHeld3
namespace Go.Proofs.Ytimfekedpgllhaa
open Go.RowKit
theorem drewB {w w' : World} (h : Below w.drew.heap.size w.drew w') : Below w.heap.size w w' := (Below.refl _ w).drew.trans h
def rowL (n : Nat) (o : Nat → Int) : List Int := (List.range n).map o
def polP (n : Nat) (o : Nat → Nat → Int) (j : Nat) : List (List Int) := (List.range j).map fun age => rowL n (o age)
theorem polP_succ (n : Nat) (o : Nat → Nat → Int) (j : Nat) : polP n o (j + 1) = polP n o j ++ [rowL n (o j)] := by
  unfold polP; rw [List.range_succ, List.map_append]; rfl
theorem polP_len (n : Nat) (o : Nat → Nat → Int) (j : Nat) : (polP n o j).length = j := by simp [polP]
theorem rowL_len (n : Nat) (o : Nat → Int) : (rowL n o).length = n := by simp [rowL]
/-- What a function leaves that returns a policy of its own. -/
def RetP (hs : List (List Int)) (ms : List Int) (w : World) (e : Ending) (w' : World) : Prop := ∃ v, e = .returned v ∧ OwnP w' w.heap.size w'.heap.size v hs ms ∧ Below w.heap.size w w'
abbrev c6 (a b c d e f : Int) : Array Value := #[.int .i64 a, .int .i64 b, .int .i64 c, .int .i64 d, .int .i64 e, .int .i64 f]
/-- The first ages of an array, as a slice of the call's own. -/
theorem first_i (n : Nat) (h1 : 1 ≤ n) (h6 : n ≤ 6) (a b c d e f : Int) (w : World) :
    Calls Try.prog 51 #[six a b c d e f, .int .i64 (n : Nat)] w fun e' w' => e' = .returned (.slice (some ⟨w.heap.size, 0, none⟩) n n) ∧ w.alloc (.cells (c6 a b c d e f) 53) = w' := by
  unfold six
  have hn1 : (n : Int) ≤ 6 := by omega
  go_enter Try.func51, Try.ntmps51
  go_wp2
  go_ret
  exact ⟨by simp, rfl⟩
theorem first_row (n : Nat) (h6 : n ≤ 6) (o : Nat → Int) (w : World) (T : TypeId) : OwnW (w.alloc (.cells (c6 (o 0) (o 1) (o 2) (o 3) (o 4) (o 5)) T)) w.heap.size (.slice (some ⟨w.heap.size, 0, none⟩) n n) (rowL n o) := by
  unfold OwnW
  rw [rowL_len]
  refine ⟨by rw [List.length_map, rowL_len], .inr ⟨w.heap.size, n, _, T, rfl, Nat.le_refl _, heap_alloc_new w _, Nat.le_refl _, by unfold maxLen; omega, by show n ≤ 6; exact h6, ?_⟩⟩
  have : n = 0 ∨ n = 1 ∨ n = 2 ∨ n = 3 ∨ n = 4 ∨ n = 5 ∨ n = 6 := by omega
  rcases this with rfl | rfl | rfl | rfl | rfl | rfl | rfl <;> rfl
theorem Own2W.form {w : World} {B : Nat} {v : Value} {vs : List Value} {xss : List (List Int)} (h : Own2W w B v vs xss) : ∃ a c, v = .slice a xss.length c := by
  rcases h.cases with ⟨rfl, rfl⟩ | ⟨g, cap, rfl, _⟩
  · exact ⟨_, _, rfl⟩
  · exact ⟨_, _, rfl⟩
/-- One more row for a policy: what append wants of the world behind firstAges. -/
theorem pol_step (n : Nat) (o : Nat → Nat → Int) (B j : Nat) (wr : World) (v : Value) (vs : List Value) (hj : j < n) (h6 : n ≤ 6) (hO : Own2W wr B v vs (polP n o j)) (hB : B ≤ wr.heap.size) (w1 : World) (bb : Below wr.heap.size wr w1) :
    Own2W (w1.alloc (.cells (c6 (o j 0) (o j 1) (o j 2) (o j 3) (o j 4) (o j 5)) 53)) B v vs (polP n o j) ∧
      OwnW (w1.alloc (.cells (c6 (o j 0) (o j 1) (o j 2) (o j 3) (o j 4) (o j 5)) 53)) B (.slice (some ⟨w1.heap.size, 0, none⟩) n n) (rowL n (o j)) ∧
      (∀ i k, i < (polP n o j).length → (vs.getD i s0).ownBlock = some k → (Value.slice (some ⟨w1.heap.size, 0, none⟩) n n).ownBlock ≠ some k) ∧
      (∀ k, (Value.slice (some ⟨w1.heap.size, 0, none⟩) n n).ownBlock = some k → v.ownBlock ≠ some k) ∧ (polP n o j).length + 1 ≤ 1000000000 ∧ B ≤ (w1.alloc (.cells (c6 (o j 0) (o j 1) (o j 2) (o j 3) (o j 4) (o j 5)) 53)).heap.size := by
  have s1 := bb.size
  have hz : (w1.alloc (.cells (c6 (o j 0) (o j 1) (o j 2) (o j 3) (o j 4) (o j 5)) 53)).heap.size = w1.heap.size + 1 := Array.size_push _
  refine ⟨Own2W.below hO (bb.alloc s1 _) (Nat.le_refl _), (first_row n h6 (o j) w1 _).mono (by omega), fun i k hi hk e => ?_, fun k hk e => ?_, by rw [polP_len]; omega, by omega⟩
  · have h1 := ((hO.2.2.1 i hi).block k hk).2
    injection e with e
    have e : w1.heap.size = k := e
    omega
  · injection hk with hk
    have hk : w1.heap.size = k := hk
    have h1 := (World.ownsRow.lt hO.2.1 k e).2
    omega
theorem OwnP.mono {w : World} {B B' T : Nat} {v : Value} {hs : List (List Int)} {ms : List Int} (h : OwnP w B T v hs ms) (hB : B' ≤ B) : OwnP w B' T v hs ms := by
  obtain ⟨hh, m, vs, e, h1, h2, h3, h4⟩ := h
  obtain ⟨g0, g1, g2, g3⟩ := h1
  refine ⟨hh, m, vs, e, ⟨g0, ⟨g1.1, ?_⟩, fun i hi => (g2 i hi).mono hB, g3⟩, h2.mono hB, h3, h4⟩
  rcases g1.2 with hn | ⟨g, cap, cur, hv, hg, r⟩
  · exact .inl hn
  · exact .inr ⟨g, cap, cur, hv, by omega, r⟩
theorem pol_end (n : Nat) (o : Nat → Nat → Int) (m0 m1 m2 m3 m4 m5 : Int) (ms : List Int) (hM : ∀ w' : World, OwnW (w'.alloc (.cells (c6 m0 m1 m2 m3 m4 m5) 53)) w'.heap.size (.slice (some ⟨w'.heap.size, 0, none⟩) n n) ms)
    (Z : Nat) (wr : World) (v : Value) (vs : List Value) (hO : Own2W wr (Z + 3) v vs (polP n o n)) (hB : Z + 3 ≤ wr.heap.size) (u0 u1 u2 : Value) :
    OwnP ((((wr.setCell ⟨Z + 2, 1, none⟩ u0).setCell ⟨Z + 1, 0, none⟩ u1).setCell ⟨Z + 1, 1, none⟩ u2).alloc (.cells (c6 m0 m1 m2 m3 m4 m5) 53)) Z
      ((((wr.setCell ⟨Z + 2, 1, none⟩ u0).setCell ⟨Z + 1, 0, none⟩ u1).setCell ⟨Z + 1, 1, none⟩ u2).alloc (.cells (c6 m0 m1 m2 m3 m4 m5) 53)).heap.size (.agg #[v, .slice (some ⟨wr.heap.size, 0, none⟩) n n]) (polP n o n) ms := by
  have hW : ∀ (w : World) (b off : Nat) (u : Value) (_ : Z ≤ b) (_ : b < Z + 3), Wr Z (Z + 3) w (w.setCell ⟨b, off, none⟩ u) := fun w b off u h1 h2 => ⟨rfl, rfl, rfl, by simp [World.setCell], fun b' hb hr => Below.heap_setCell _ _ _ _ (by show b' ≠ b; omega)⟩
  have W1 := ((hW wr (Z + 2) 1 u0 (by omega) (by omega)).trans (hW _ (Z + 1) 0 u1 (by omega) (by omega))).trans (hW _ (Z + 1) 1 u2 (by omega) (by omega))
  have hs1 : ((((wr.setCell ⟨Z + 2, 1, none⟩ u0).setCell ⟨Z + 1, 0, none⟩ u1).setCell ⟨Z + 1, 1, none⟩ u2)).heap.size = wr.heap.size := by simp [World.setCell]
  have hm := hM (((wr.setCell ⟨Z + 2, 1, none⟩ u0).setCell ⟨Z + 1, 0, none⟩ u1).setCell ⟨Z + 1, 1, none⟩ u2)
  rw [hs1] at hm
  generalize (((wr.setCell ⟨Z + 2, 1, none⟩ u0).setCell ⟨Z + 1, 0, none⟩ u1).setCell ⟨Z + 1, 1, none⟩ u2) = W at *
  have hz' : (W.alloc (.cells (c6 m0 m1 m2 m3 m4 m5) 53)).heap.size = wr.heap.size + 1 := by rw [← hs1]; exact Array.size_push _
  have hv : ∀ k, v.ownBlock = some k → k < wr.heap.size := fun k hk => (World.ownsRow.lt hO.2.1 k hk).2
  have hvs : ∀ i k, i < (polP n o n).length → (vs.getD i s0).ownBlock = some k → k < wr.heap.size := fun i k hi hk => ((hO.2.2.1 i hi).block k hk).2
  have hO2 := hO.wr W1 hv hvs (.inr (by omega))
  have hO3 := Own2W.below hO2 ((Below.refl W.heap.size W).alloc (Nat.le_refl _) (.cells (c6 m0 m1 m2 m3 m4 m5) 53)) (Nat.le_refl _)
  refine OwnP.mono (B := Z + 3) ⟨v, _, vs, rfl, hO3, hm.mono hB, fun b hb => ⟨fun e => ?_, fun i hi e => ?_⟩, fun k hk => ?_, fun k hk => ?_, fun i k hi hk => ?_⟩ (by omega)
  · injection hb with hb; have hb : wr.heap.size = b := hb; have := hv b e; omega
  · injection hb with hb; have hb : wr.heap.size = b := hb; have := hvs i b hi e; omega
  · injection hk with hk; have hk : wr.heap.size = k := hk; omega
  · have := hv k hk; omega
  · have := hvs i k hi hk; omega
end Go.Proofs.Ytimfekedpgllhaa
