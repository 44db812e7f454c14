/- Shared words of this seat's walks: what a slice of integers that came in is; small lemmas on endings and worlds. Lists of int64 that the call itself made: what it is to own one, and the contracts of the three helpers that compare, mark and look such a list through. Lists of int64 that are only read: wherever they lie, and wherever they begin in their block. The helpers that mark and look through a list, begun at 1. The law's helper that marks a list, from any number on; only that it marks and how the world grows. Small lemmas for walks of laws: two steps below; marks and sizes at numbers that are sums. Lists of int64 in blocks of the call's own, of whatever type and size the block is: what it is to hold one, and the contracts of the helpers that compare, mark and look such a list through. The program's orders of ages: arrays of six numbers, as values. The program's orders of ages: what stays, what goes to the end, the tree's. -/
import Derived.Test.YtngbddmbmkphcaaRows
import Derived.WalkKit
import Derived.ProofKit
import Derived.BigQuiet
import Derived.Deep.QuietTactic
import Derived.Lib.Hide
import Derived.ChangeOld
import Derived.Below
import Derived.Laws.OwnMore
import Derived.Handy
import Derived.Laws.CopyOwn
import Derived.Deep.RegionLaw
import Derived.Deep.AppendLies
namespace Go.Proofs.Ytngbddmbmkphcaa
open Go.RowKit
/-- What the walk is told of a slice of integers that came in: it is nil; or it leads to a row of 'cap' cells, the numbers 'zs'. -/
def IsRow (k : IntKind) (w : World) (a : Option Addr) (len cap : Nat) (zs : List Int) : Prop :=
  (a = none ∧ len = 0 ∧ cap = 0 ∧ zs = []) ∨
  ∃ x, a = some x ∧ len ≤ cap ∧ cap ≤ maxLen ∧ zs.length = cap ∧ (∀ i, i < zs.length → w.cell? (x.add i) = some (.int k (zs.getD i 0))) ∧ ∀ n ∈ zs, (Lit.int k n).wf = true
theorem ret_i64 {a b : Int} (h : a = b) : Ending.returned (.int .i64 a) = .returned (.int .i64 b) := by rw [h]
theorem ret_bool {a b : Bool} (h : a = b) : Ending.returned (.bool a) = .returned (.bool b) := by rw [h]
theorem ret_iib {a b c d : Int} {p : Bool} (h1 : a = c) (h2 : b = d) : Ending.returned (.tuple #[.int .i64 a, .int .i64 b, .bool p]) = .returned (.tuple #[.int .i64 c, .int .i64 d, .bool p]) := by rw [h1, h2]
theorem div_bd (a : Nat) (g : Nat) (h : a ≤ 1000000000) : 0 ≤ (a : Int) / (g : Nat) ∧ (a : Int) / (g : Nat) ≤ 1000000000 :=
  ⟨Int.ediv_nonneg (by omega) (by omega), Int.le_trans (Int.ediv_le_self _ (by omega)) (by omega)⟩
theorem below_drewN {B : Nat} {a w : World} (n : Nat) (h : Below B a w) : Below B a (w.drewN n) := ⟨h.os, h.tape, h.output, h.size, h.block⟩
end Go.Proofs.Ytngbddmbmkphcaa
namespace Go.Proofs.Ytngbddmbmkphcaa
open Go.RowKit
/-- v is a list of int64 in a block from B on, with the numbers xs. -/
def Own (w : World) (B : Nat) (v : Value) (xs : List Int) : Prop := w.ownsRow B 2 1 v xs.length (xs.map (Value.int .i64))
/-- What a function leaves that returns such a list and whether it succeeded. -/
def Res (xs : List Int) (ok : Bool) (w : World) (e : Ending) (w' : World) : Prop := ∃ v, e = .returned (.tuple #[v, .bool ok]) ∧ Own w' w.heap.size v xs ∧ Below w.heap.size w w'
def Drew (w : World) (e : Ending) (w' : World) : Prop := ∃ k, e = .returned (.bool true) ∧ w' = w.drewN k
theorem Own.nil (w : World) (B : Nat) : Own w B (.slice none 0 0) [] := World.ownsRow_nil _ _ _ _
theorem Own.cases {w : World} {B : Nat} {v : Value} {xs : List Int} (h : Own w B v xs) :
    (v = .slice none 0 0 ∧ xs = []) ∨ ∃ g cap, v = .slice (some ⟨g, 0, none⟩) xs.length cap ∧ B ≤ g ∧ g < w.heap.size ∧ xs.length ≤ 9223372036854775807 ∧
      (∀ i, i < xs.length → w.cell? ⟨g, i, none⟩ = some (.int .i64 (xs.getD i 0))) ∧ ∀ i, w.frozen? ⟨g, i, none⟩ = false := by
  have h0 : w.ownsRow B 2 1 v xs.length (xs.map (Value.int .i64)) := h
  rcases h0.2 with ⟨rfl, hn⟩ | ⟨g, cap, cur, rfl, hB, hg, hnc, hcm, hcs, htake⟩
  · exact .inl ⟨rfl, List.eq_nil_of_length_eq_zero hn⟩
  · refine .inr ⟨g, cap, rfl, hB, (Array.getElem?_eq_some_iff.1 hg).1, by unfold maxLen at hcm; omega, fun i hi => ?_, fun i => h0.frozenAt i⟩
    rw [h0.cellAt i (by omega), List.getElem?_map, List.getElem?_eq_getElem hi, List.getD_eq_getElem?_getD, List.getElem?_eq_getElem hi]
    rfl
theorem Own.below {w w' : World} {B : Nat} {v : Value} {xs : List Int} (h : Own w B v xs) {C : Nat} (hb : Below C w w') (hC : w.heap.size ≤ C) : Own w' B v xs := by
  refine ⟨h.1, ?_⟩
  rcases h.2 with hn | ⟨g, cap, cur, hv, hg, hh, r⟩
  · exact .inl hn
  · exact .inr ⟨g, cap, cur, hv, hg, by rw [hb.block g (Nat.lt_of_lt_of_le (Array.getElem?_eq_some_iff.1 hh).1 hC)]; exact hh, r⟩
theorem Own.drewN {w : World} {B : Nat} {v : Value} {xs : List Int} (h : Own w B v xs) (k : Nat) : Own (w.drewN k) B v xs := h
theorem Own.block {w : World} {B : Nat} {v : Value} {xs : List Int} (h : Own w B v xs) : ∀ k, v.ownBlock = some k → B ≤ k ∧ k < w.heap.size := World.ownsRow.lt h
theorem Own.kept {w w' : World} {B : Nat} {v : Value} {xs : List Int} {row : Option Nat} (h : Own w B v xs) (hg : w.grownBy w' row) (hne : ∀ k, v.ownBlock = some k → some k ≠ row) : Own w' B v xs := by
  refine World.ownsRow.kept h hg ?_
  cases hv : v.ownBlock with
  | none => exact .inl rfl
  | some k => exact .inr (hne k hv)
theorem Own.mono {w : World} {B B' : Nat} {v : Value} {xs : List Int} (h : Own w B v xs) (hB : B' ≤ B) : Own w B' v xs := by
  refine ⟨h.1, ?_⟩
  rcases h.2 with hn | ⟨g, cap, cur, hv, hg, r⟩
  · exact .inl hn
  · exact .inr ⟨g, cap, cur, hv, by omega, r⟩
/-- The numbers k, k + 1 .. -/
def marks : Nat → Nat → List Int
  | _, 0 => []
  | k, n + 1 => (k : Int) :: marks (k + 1) n
theorem marks_length (k n : Nat) : (marks k n).length = n := by
  induction n generalizing k with
  | zero => rfl
  | succ n ih => simp [marks, ih]
theorem marks_get (k n i : Nat) (h : i < n) : (marks k n).getD i 0 = ((k + i : Nat) : Int) := by
  induction n generalizing k i with
  | zero => omega
  | succ n ih =>
    cases i with
    | zero => simp [marks]
    | succ i => simp only [marks, List.getD_cons_succ]; rw [ih (k + 1) i (by omega)]; congr 1; omega
theorem marks_snoc (k n : Nat) : marks k (n + 1) = marks k n ++ [((k + n : Nat) : Int)] := by
  induction n generalizing k with
  | zero => simp [marks]
  | succ n ih => rw [marks, ih (k + 1), marks, List.cons_append, show k + 1 + n = k + (n + 1) by omega]
theorem eq_zero (a1 a2 : Option Addr) (c1 c2 : Nat) (w : World) : Calls Try.prog 13 #[.slice a1 0 c1, .slice a2 0 c2] w (Drew w) := by
  go_enter Try.func13, Try.ntmps13
  go_wp2
  refine wp_loop_rounds 1 ?_
  rw [rounds_succ]
  go_wp2
  go_ret
  exact ⟨0, rfl, rfl⟩
set_option maxHeartbeats 400000 in
theorem eq_cells (b1 b2 c1 c2 : Nat) (xs : List Int) (w : World) (hn : xs.length ≤ 9223372036854775807)
    (h1 : ∀ i, i < xs.length → w.cell? ⟨b1, i, none⟩ = some (.int .i64 (xs.getD i 0))) (h2 : ∀ i, i < xs.length → w.cell? ⟨b2, i, none⟩ = some (.int .i64 (xs.getD i 0))) :
    Calls Try.prog 13 #[.slice (some ⟨b1, 0, none⟩) xs.length c1, .slice (some ⟨b2, 0, none⟩) xs.length c2] w (Drew w) := by
  have H1 := Lib.hid h1
  have H2 := Lib.hid h2
  clear h1 h2
  generalize hN : xs.length = N at *
  have HN := Lib.hid hN
  clear hN
  go_enter Try.func13, Try.ntmps13
  go_wp2
  go_loopw [5] (fun i wr => ∃ k q : Nat, k ≤ N ∧ i = .int .i64 k ∧ wr = w.drewN q) (fun i _ => N - (intOf i).toNat)
  case atStart => exact ⟨0, 0, Nat.zero_le _, rfl, rfl⟩
  case round =>
    obtain ⟨k, q, hk, rfl, rfl⟩ := hrel
    by_cases hlt : k < N
    · have g1 := H1.out k hlt
      have g2 := H2.out k hlt
      generalize xs.getD k 0 = u at *
      go_wp2
      go_quiet (fail)
      go_wp2
      go_roundw
      case rel => exact ⟨k + 1, _, by omega, by go_num, rfl⟩
      case measure => simp [intOf]; omega
    · go_wp2
      go_ret
      exact ⟨q, rfl, rfl⟩
theorem eq_own {w : World} {B1 B2 : Nat} {v1 v2 : Value} {xs : List Int} (h1 : Own w B1 v1 xs) (h2 : Own w B2 v2 xs) :
    Calls Try.prog 13 #[v1, v2] w (Drew w) := by
  rcases h1.cases with ⟨rfl, rfl⟩ | ⟨g1, c1, rfl, _, _, hm, hc1, _⟩
  · rcases h2.cases with ⟨rfl, _⟩ | ⟨g2, c2, rfl, _, _, _, hc2, _⟩
    · exact eq_zero _ _ _ _ _
    · exact eq_zero _ _ _ _ _
  · rcases h2.cases with ⟨rfl, rfl⟩ | ⟨g2, c2, rfl, _, _, _, hc2, _⟩
    · exact eq_zero _ _ _ _ _
    · exact eq_cells _ _ _ _ _ _ hm hc1 hc2
def Count (n : Int) (w : World) (e : Ending) (w' : World) : Prop := e = .returned (.int .i64 n) ∧ w = w'
theorem held_zero (a : Option Addr) (c : Nat) (k : Int) (w : World) : Calls Try.prog 19 #[.slice a 0 c, .int .i64 k] w (Count k w) := by
  go_enter Try.func19, Try.ntmps19
  go_wp2
  refine wp_loop_rounds 1 ?_
  rw [rounds_succ]
  go_wp2
  go_ret
  exact ⟨rfl, rfl⟩
set_option maxHeartbeats 400000 in
theorem held_cells (b c k N : Nat) (w : World) (hn : N + k ≤ 9223372036854775807)
    (h1 : ∀ i, i < N → w.cell? ⟨b, i, none⟩ = some (.int .i64 ((k + i : Nat) : Int))) :
    Calls Try.prog 19 #[.slice (some ⟨b, 0, none⟩) N c, .int .i64 k] w (Count ((k : Int) + N) w) := by
  have H1 := Lib.hid h1
  clear h1
  go_enter Try.func19, Try.ntmps19
  go_wp2
  go_loop [1, 5] (fun m i => ∃ j : Nat, j ≤ N ∧ i = .int .i64 j ∧ m = .int .i64 ((k : Int) + j)) (fun _ i => N - (intOf i).toNat)
  case atStart => exact ⟨0, Nat.zero_le _, rfl, by simp⟩
  case round =>
    obtain ⟨j, hj, rfl, rfl⟩ := hrel
    by_cases hlt : j < N
    · have g1 : w.cell? ⟨b, j, none⟩ = some (.int .i64 ((k : Int) + j)) := H1.out j hlt
      go_wp2
      go_round
      case rel => exact ⟨j + 1, by omega, by go_num, by go_num⟩
      case measure => simp [intOf]; omega
    · go_wp2
      go_ret
      have e : j = N := by omega
      exact ⟨ret_i64 (by rw [e]), rfl⟩
theorem held_own {w : World} {B : Nat} {v : Value} (k N : Nat) (h : Own w B v (marks k N)) (hn : N + k ≤ 9223372036854775807) :
    Calls Try.prog 19 #[v, .int .i64 k] w (Count ((k : Int) + N) w) := by
  rcases h.cases with ⟨rfl, hx⟩ | ⟨g, c, rfl, _, _, _, hc, _⟩
  · have : N = 0 := by rw [← marks_length k N, hx]; rfl
    subst this
    exact (held_zero none 0 k w).mono fun e w' ⟨he, hw⟩ => ⟨by rw [he]; simp, hw⟩
  · rw [marks_length] at hc ⊢
    exact held_cells g c k N w hn fun i hi => by rw [hc i hi, marks_get k N i hi]
def Marked (B : Nat) (v : Value) (k N : Nat) (w : World) (e : Ending) (w' : World) : Prop := e = .returned (.int .i64 ((k : Int) + N)) ∧ Own w' B v (marks k N) ∧ w.grownBy w' v.ownBlock
theorem mark_zero (a : Option Addr) (c : Nat) (k : Int) (w : World) : Calls Try.prog 18 #[.slice a 0 c, .int .i64 k] w (Count k w) := by
  go_enter Try.func18, Try.ntmps18
  go_wp2
  refine wp_loop_rounds 1 ?_
  rw [rounds_succ]
  go_wp2
  go_ret
  exact ⟨rfl, rfl⟩
/-- After j rounds: the first j numbers are marks, the others as they were. -/
def mixed (k j : Nat) (xs : List Int) : List Int := marks k j ++ xs.drop j
theorem mixed_length (k j : Nat) (xs : List Int) (h : j ≤ xs.length) : (mixed k j xs).length = xs.length := by simp [mixed, marks_length]; omega
theorem mixed_step (k j : Nat) (xs : List Int) (h : j < xs.length) : ((mixed k j xs).map (Value.int .i64)).set j (.int .i64 ((k : Int) + j)) = (mixed k (j + 1) xs).map (Value.int .i64) := by
  rw [show (Value.int .i64 ((k : Int) + j)) = Value.int .i64 (((k + j : Nat)) : Int) by simp, ← List.map_set]
  congr 1
  unfold mixed
  rw [marks_snoc, List.set_append_right _ _ (by rw [marks_length]; exact Nat.le_refl _), marks_length, Nat.sub_self, List.drop_eq_getElem_cons h, List.set_cons_zero, List.append_assoc]
  rfl
theorem mixed_end (k : Nat) (xs : List Int) : mixed k xs.length xs = marks k xs.length := by simp [mixed]
theorem grownBy_trans {a b c : World} {r : Option Nat} (h : a.grownBy b r) (k : b.grownBy c r) : a.grownBy c r :=
  ⟨k.os.trans h.os, k.tape.trans h.tape, k.output.trans h.output, Nat.le_trans h.size k.size, fun i hi hr => (k.block i (Nat.lt_of_lt_of_le hi h.size) hr).trans (h.block i hi hr)⟩
def MarkRel (B g c k N : Nat) (xs : List Int) (w : World) (j : Nat) (wr : World) : Prop := wr.ownsRow B 2 1 (.slice (some ⟨g, 0, none⟩) N c) N ((mixed k j xs).map (Value.int .i64)) ∧ w.grownBy wr (some g)
theorem MarkRel.step {B g c k N : Nat} {xs : List Int} {w : World} {j : Nat} {wr : World} (h : MarkRel B g c k N xs w j wr) (hx : xs.length = N) (hj : j < N) :
    (∃ old, wr.cell? ⟨g, j, none⟩ = some old) ∧ wr.frozen? ⟨g, j, none⟩ = false ∧ MarkRel B g c k N xs w (j + 1) (wr.setCell ⟨g, j, none⟩ (.int .i64 ((k : Int) + j))) := by
  subst hx
  have hst := World.ownsRow.stored h.1 j (.int .i64 ((k : Int) + j))
  rw [mixed_step k j xs hj] at hst
  refine ⟨?_, h.1.frozenAt j, hst.1, grownBy_trans h.2 hst.2⟩
  rw [h.1.cellAt j (by omega), List.getElem?_eq_getElem (by simp [mixed_length k j xs (by omega)]; exact hj)]
  exact ⟨_, rfl⟩
set_option maxHeartbeats 400000 in
theorem mark_cells (B g c k : Nat) (xs : List Int) (w : World) (hn : xs.length + k ≤ 9223372036854775807) (h : Own w B (.slice (some ⟨g, 0, none⟩) xs.length c) xs) :
    Calls Try.prog 18 #[.slice (some ⟨g, 0, none⟩) xs.length c, .int .i64 k] w (Marked B (.slice (some ⟨g, 0, none⟩) xs.length c) k xs.length w) := by
  have HE := Lib.hid (mixed_end k xs)
  have H0 : MarkRel B g c k xs.length xs w 0 w := ⟨by simpa [mixed, marks] using (show w.ownsRow B 2 1 _ _ _ from h), ⟨rfl, rfl, rfl, Nat.le_refl _, fun _ _ _ => rfl⟩⟩
  clear h
  generalize hN : xs.length = N at *
  have HN := Lib.hid hN
  clear hN
  go_enter Try.func18, Try.ntmps18
  go_wp2
  go_loopw [1, 5] (fun m i wr => ∃ j : Nat, j ≤ N ∧ i = .int .i64 j ∧ m = .int .i64 ((k : Int) + j) ∧ MarkRel B g c k N xs w j wr) (fun _ i _ => N - (intOf i).toNat)
  case atStart => exact ⟨0, Nat.zero_le _, rfl, by simp, H0⟩
  case round =>
    obtain ⟨j, hj, rfl, rfl, ho⟩ := hrel
    by_cases hlt : j < N
    · obtain ⟨⟨old, h1⟩, h2, h3⟩ := ho.step HN.out hlt
      go_wp2
      go_roundw
      case rel => exact ⟨j + 1, by omega, by go_num, by go_num, h3⟩
      case measure => simp [intOf]; omega
    · go_wp2
      go_ret
      have e : j = N := by omega
      subst e
      refine ⟨rfl, ?_, ho.2⟩
      have h5 := ho.1
      rw [HE.out] at h5
      show World.ownsRow _ _ _ _ _ (marks k j).length _
      rw [marks_length]
      exact h5
theorem mark_own {w : World} {B : Nat} {v : Value} {xs : List Int} (k : Nat) (h : Own w B v xs) (hn : xs.length + k ≤ 9223372036854775807) :
    Calls Try.prog 18 #[v, .int .i64 k] w (Marked B v k xs.length w) := by
  rcases h.cases with ⟨rfl, rfl⟩ | ⟨g, c, rfl, _, _, _, _, _⟩
  · exact (mark_zero none 0 k w).mono fun e w' ⟨he, hw⟩ => ⟨by rw [he]; simp, by rw [← hw]; exact h, by rw [← hw]; exact ⟨rfl, rfl, rfl, Nat.le_refl _, fun _ _ _ => rfl⟩⟩
  · exact mark_cells B g c k xs w hn h
end Go.Proofs.Ytngbddmbmkphcaa
namespace Go.Proofs.Ytngbddmbmkphcaa
open Go.RowKit
/-- Behind a lie the numbers xs. -/
def Row (w : World) (a : Option Addr) (xs : List Int) : Prop :=
  ∀ i, i < xs.length → ∃ b off, a = some ⟨b, off, none⟩ ∧ w.cell? ⟨b, off + i, none⟩ = some (.int .i64 (xs.getD i 0)) ∧ b < w.heap.size
/-- v is a slice that leads to the numbers xs. -/
def Rd (w : World) (v : Value) (xs : List Int) : Prop := ∃ a c, v = .slice a xs.length c ∧ xs.length ≤ c ∧ (c ≤ 9223372036854775807 ∧ (a = none ∨ ∃ b off, a = some ⟨b, off, none⟩)) ∧ Row w a xs
theorem Row.below {w w' : World} {a : Option Addr} {xs : List Int} (h : Row w a xs) (hb : Below w.heap.size w w') : Row w' a xs := fun i hi => by
  obtain ⟨b, off, ha, hc, hlt⟩ := h i hi
  exact ⟨b, off, ha, (hb.cell (p := ⟨b, off + i, none⟩) hlt).trans hc, Nat.lt_of_lt_of_le hlt hb.size⟩
theorem Rd.below {w w' : World} {v : Value} {xs : List Int} (h : Rd w v xs) (hb : Below w.heap.size w w') : Rd w' v xs := by
  obtain ⟨a, c, hv, h1, h2, h3⟩ := h
  exact ⟨a, c, hv, h1, h2, h3.below hb⟩
theorem Row.nil (w : World) (a : Option Addr) : Row w a [] := fun i hi => by simp at hi
theorem Rd.nil (w : World) : Rd w (.slice none 0 0) [] := ⟨none, 0, rfl, Nat.le_refl _, ⟨by omega, .inl rfl⟩, Row.nil w _⟩
theorem Own.rd {w : World} {B : Nat} {v : Value} {xs : List Int} (h : Own w B v xs) : Rd w v xs := by
  have h0 : w.ownsRow B 2 1 v xs.length (xs.map (Value.int .i64)) := h
  rcases h.cases with ⟨rfl, rfl⟩ | ⟨g, cap, rfl, hB, hg, hm, hc, _⟩
  · exact Rd.nil w
  · refine ⟨_, cap, rfl, ?_, ⟨?_, .inr ⟨g, 0, rfl⟩⟩, fun i hi => ⟨g, 0, rfl, by rw [Nat.zero_add]; exact hc i hi, hg⟩⟩
    · rcases h0.2 with ⟨hn, _⟩ | ⟨g', cap', cur, he, _, _, hnc, _⟩
      · cases hn
      · injection he with _ _ e3; omega
    · rcases h0.2 with ⟨hn, _⟩ | ⟨g', cap', cur, he, _, _, _, hcm, _⟩
      · cases hn
      · injection he with _ _ e3; unfold maxLen at hcm; omega
theorem Row.sub {w : World} {b off : Nat} {xs : List Int} (h : Row w (some ⟨b, off, none⟩) xs) (i j : Nat) (_hij : i ≤ j) (hj : j ≤ xs.length) :
    Row w (some ⟨b, off + i, none⟩) ((xs.take j).drop i) := fun k hk => by
  have hk' : i + k < j := by simp at hk; omega
  obtain ⟨b', off', ha, hc, hlt⟩ := h (i + k) (by omega)
  injection ha with ha
  injection ha with e1 e2
  subst e1 e2
  refine ⟨b, off + i, rfl, ?_, hlt⟩
  rw [Nat.add_assoc, hc]
  congr 2
  rw [List.getD_eq_getElem?_getD, List.getD_eq_getElem?_getD, List.getElem?_drop, List.getElem?_take_of_lt hk']
/-- What a test leaves that reads alone. -/
def Bl (b : Bool) (w : World) (e : Ending) (w' : World) : Prop := e = .returned (.bool b) ∧ w = w'
/-- What a test leaves that may make memory. -/
def Bb (b : Bool) (w : World) (e : Ending) (w' : World) : Prop := e = .returned (.bool b) ∧ Below w.heap.size w w'
/-- What a function leaves that returns a number and may make memory. -/
def Nb (n : Int) (w : World) (e : Ending) (w' : World) : Prop := e = .returned (.int .i64 n) ∧ Below w.heap.size w w'
/-- What a function leaves that returns a list of its own. -/
def Lb (xs : List Int) (w : World) (e : Ending) (w' : World) : Prop := ∃ v, e = .returned v ∧ Own w' w.heap.size v xs ∧ Below w.heap.size w w'
theorem eq_below {w : World} {B1 B2 : Nat} {v1 v2 : Value} {xs : List Int} (h1 : Own w B1 v1 xs) (h2 : Own w B2 v2 xs) :
    Calls Try.prog 13 #[v1, v2] w (Bb true w) :=
  (eq_own h1 h2).mono fun e w' ⟨k, he, hw⟩ => ⟨he, by rw [hw]; exact below_drewN k (Below.refl _ _)⟩
theorem isRow_below {k : IntKind} {w w' : World} {a : Option Addr} {len cap : Nat} {zs : List Int} (h : IsRow k w a len cap zs) (hb : Below w.heap.size w w') : IsRow k w' a len cap zs := by
  rcases h with h | ⟨x, rfl, h1, h2, h3, h4, h5⟩
  · exact .inl h
  · refine .inr ⟨x, rfl, h1, h2, h3, fun i hi => ?_, h5⟩
    have hlt := World.block_lt_of_cell? w _ (h4 i hi)
    exact (hb.cell hlt).trans (h4 i hi)
end Go.Proofs.Ytngbddmbmkphcaa
namespace Go.Proofs.Ytngbddmbmkphcaa
open Go.RowKit
def Marked1 (B : Nat) (v : Value) (N : Nat) (w : World) (e : Ending) (w' : World) : Prop := e = .returned (.int .i64 (1 + (N : Int))) ∧ Own w' B v (marks 1 N) ∧ w.grownBy w' v.ownBlock
theorem mark1 {w : World} {B : Nat} {v : Value} {xs : List Int} (h : Own w B v xs) (hn : xs.length + 1 ≤ 9223372036854775807) :
    Calls Try.prog 18 #[v, .int .i64 1] w (Marked1 B v xs.length w) := mark_own 1 h hn
theorem held1 {w : World} {B : Nat} {v : Value} {N : Nat} (h : Own w B v (marks 1 N)) (hn : N + 1 ≤ 9223372036854775807) :
    Calls Try.prog 19 #[v, .int .i64 1] w (Count (1 + (N : Int)) w) := held_own 1 N h hn
end Go.Proofs.Ytngbddmbmkphcaa
namespace Go.Proofs.Ytngbddmbmkphcaa
open Go.RowKit
def MarkedK (K : Nat) (v : Value) (w : World) (e : Ending) (w' : World) : Prop := ∃ k : Nat, e = .returned (.int .i64 (k : Int)) ∧ k ≤ K ∧ w.grownBy w' v.ownBlock
theorem mark1K {w : World} {B : Nat} {v : Value} {xs : List Int} (h : Own w B v xs) (hn : xs.length ≤ 1048576) :
    Calls Try.prog 18 #[v, .int .i64 1] w (MarkedK 2000000 v w) :=
  (mark1 h (by omega)).mono fun e w' ⟨he, _, hg⟩ => ⟨1 + xs.length, by rw [he]; simp, by omega, hg⟩
theorem markK {w : World} {B : Nat} {v : Value} {xs : List Int} (k : Nat) (h : Own w B v xs) (hk : k ≤ 2000000) (hn : xs.length ≤ 1048576) :
    Calls Try.prog 18 #[v, .int .i64 (k : Int)] w (MarkedK 4000000 v w) :=
  (mark_own k h (by omega)).mono fun e w' ⟨he, _, hg⟩ => ⟨k + xs.length, by rw [he]; simp, by omega, hg⟩
end Go.Proofs.Ytngbddmbmkphcaa
namespace Go.Proofs.Ytngbddmbmkphcaa
open Go.RowKit
theorem bt {a b c : World} (h : Below a.heap.size a b) (k : Below b.heap.size b c) : Below a.heap.size a c := h.trans (k.mono h.size)
theorem btB {B : Nat} {a b c : World} (h : Below B a b) (hB : B ≤ a.heap.size) (k : Below b.heap.size b c) : Below B a c := h.trans (k.mono (Nat.le_trans hB h.size))
/-- A mark of lists: a number that is not too great comes back, and only the list's own block is written. -/
def MarkI (K : Int) (v : Value) (w : World) (e : Ending) (w' : World) : Prop := ∃ k : Int, e = .returned (.int .i64 k) ∧ (0 ≤ k ∧ k ≤ K) ∧ w.grownBy w' v.ownBlock
theorem mark_int {w : World} {B : Nat} {v : Value} {xs : List Int} (K : Int) (hK0 : 0 ≤ K) (hK1 : K ≤ 100000000) (h : Own w B v xs) (hn : xs.length ≤ 1048576) :
    Calls Try.prog 18 #[v, .int .i64 K] w (MarkI 200000000 v w) := by
  have e : K = ((K.toNat : Nat) : Int) := by omega
  rw [e]
  exact (mark_own K.toNat h (by omega)).mono fun e w' ⟨he, _, hg⟩ => ⟨_, he, by omega, hg⟩
end Go.Proofs.Ytngbddmbmkphcaa
namespace Go.Proofs.Ytngbddmbmkphcaa
open Go.RowKit
/-- v is a slice of n cells in a block from B on that can be written. -/
def rowW (w : World) (B : Nat) (v : Value) (n : Nat) (xs : List Value) : Prop :=
  xs.length = n ∧ ((v = .slice none 0 0 ∧ n = 0) ∨
    ∃ g cap cur e, v = .slice (some ⟨g, 0, none⟩) n cap ∧ B ≤ g ∧ w.heap[g]? = some (.cells cur e (0, 0)) ∧ n ≤ cap ∧ cap ≤ maxLen ∧ n ≤ cur.size ∧ cur.toList.take n = xs)
theorem rowW.of {w : World} {B e : Nat} {v : Value} {n : Nat} {xs : List Value} (h : w.ownsRow B e 1 v n xs) : rowW w B v n xs := by
  refine ⟨by simpa using h.1, ?_⟩
  rcases h.2 with hn | ⟨g, cap, cur, hv, hB, hg, h1, h2, h3, h4⟩
  · exact .inl hn
  · exact .inr ⟨g, cap, cur, e, hv, hB, hg, h1, h2, by omega, by simpa using h4⟩
theorem rowW.cellAt {w : World} {B g n cap : Nat} {xs : List Value} (h : rowW w B (.slice (some ⟨g, 0, none⟩) n cap) n xs) (j : Nat) (hj : j < n) : w.cell? ⟨g, j, none⟩ = xs[j]? := by
  rcases h.2 with ⟨h', _⟩ | ⟨g', cap', cur, e, h', _, hg, _, _, _, htake⟩
  · simp at h'
  · simp only [Value.slice.injEq, Option.some.injEq, Addr.mk.injEq, and_true, true_and] at h'
    obtain ⟨rfl, rfl⟩ := h'
    rw [cell_of_row w g j cur e (0, 0) hg, ← htake, List.getElem?_take, if_pos hj]
    simp
theorem rowW.frozenAt {w : World} {B g n cap : Nat} {xs : List Value} (h : rowW w B (.slice (some ⟨g, 0, none⟩) n cap) n xs) (j : Nat) : w.frozen? ⟨g, j, none⟩ = false := by
  rcases h.2 with ⟨h', _⟩ | ⟨g', cap', cur, e, h', _, hg, _⟩
  · simp at h'
  · simp only [Value.slice.injEq, Option.some.injEq, Addr.mk.injEq, and_true, true_and] at h'
    obtain ⟨rfl, rfl⟩ := h'
    exact frozen_of_row w g j cur e hg
theorem rowW.stored {w : World} {B g n cap : Nat} {xs : List Value} (h : rowW w B (.slice (some ⟨g, 0, none⟩) n cap) n xs) (j : Nat) (u : Value) :
    rowW (w.setCell ⟨g, j, none⟩ u) B (.slice (some ⟨g, 0, none⟩) n cap) n (xs.set j u) ∧ w.grownBy (w.setCell ⟨g, j, none⟩ u) (some g) := by
  rcases h.2 with ⟨h', _⟩ | ⟨g', cap', cur, e, h', hb, hg, hnc, hcm, hcs, htake⟩
  · simp at h'
  · simp only [Value.slice.injEq, Option.some.injEq, Addr.mk.injEq, and_true, true_and] at h'
    obtain ⟨rfl, rfl⟩ := h'
    refine ⟨⟨by simpa using h.1, .inr ⟨g, cap, cur.setIfInBounds j u, e, rfl, hb, Go.heap_setCell_same w g j cur e u hg, hnc, hcm, by simpa using hcs, ?_⟩⟩,
      ⟨rfl, rfl, rfl, by simp, fun k _ hk => Go.heap_setCell_other w ⟨g, j, none⟩ k u (fun e => hk (by simp [e]))⟩⟩
    rw [Array.toList_setIfInBounds, ← htake, List.take_set]
theorem rowW.lt {w : World} {B : Nat} {v : Value} {n : Nat} {xs : List Value} (h : rowW w B v n xs) : ∀ k, v.ownBlock = some k → B ≤ k ∧ k < w.heap.size := by
  intro k hk
  rcases h.2 with ⟨rfl, _⟩ | ⟨g, cap, cur, e, rfl, hb, hg, _⟩
  · simp [Value.ownBlock] at hk
  · simp [Value.ownBlock] at hk
    subst hk
    exact ⟨hb, (Array.getElem?_eq_some_iff.1 hg).1⟩
theorem rowW.kept {w w' : World} {B : Nat} {v : Value} {n : Nat} {xs : List Value} {row : Option Nat} (h : rowW w B v n xs) (hg : w.grownBy w' row) (hne : v.ownBlock = none ∨ v.ownBlock ≠ row) : rowW w' B v n xs := by
  refine ⟨h.1, ?_⟩
  rcases h.2 with hn | ⟨g, cap, cur, e, rfl, hb, hgg, rest⟩
  · exact .inl hn
  · refine .inr ⟨g, cap, cur, e, rfl, hb, ?_, rest⟩
    rw [hg.block g (Array.getElem?_eq_some_iff.1 hgg).1 (by simpa [Value.ownBlock] using hne)]
    exact hgg
theorem rowW.alloc {w : World} {B : Nat} {v : Value} {n : Nat} {xs : List Value} (h : rowW w B v n xs) (o : Obj) : rowW (w.alloc o) B v n xs :=
  h.kept (World.grownBy_alloc w o none) (by cases hv : v.ownBlock <;> simp)
/-- What says that one block is as it was. -/
theorem rowW.same {w w' : World} {B : Nat} {v : Value} {n : Nat} {xs : List Value} (h : rowW w B v n xs) (hb : ∀ b, v.ownBlock = some b → b < w.heap.size → w'.heap[b]? = w.heap[b]?) : rowW w' B v n xs := by
  refine ⟨h.1, ?_⟩
  rcases h.2 with hn | ⟨g, cap, cur, e, rfl, hB, hg, r⟩
  · exact .inl hn
  · exact .inr ⟨g, cap, cur, e, rfl, hB, by rw [hb g rfl (Array.getElem?_eq_some_iff.1 hg).1]; exact hg, r⟩
/-- v is a list of int64 in a block from B on, with the numbers xs. -/
def OwnW (w : World) (B : Nat) (v : Value) (xs : List Int) : Prop := rowW w B v xs.length (xs.map (Value.int .i64))
theorem Own.weak {w : World} {B : Nat} {v : Value} {xs : List Int} (h : Own w B v xs) : OwnW w B v xs := rowW.of h
theorem OwnW.nil (w : World) (B : Nat) : OwnW w B (.slice none 0 0) [] := ⟨rfl, .inl ⟨rfl, rfl⟩⟩
theorem OwnW.cases {w : World} {B : Nat} {v : Value} {xs : List Int} (h : OwnW w B v xs) :
    (v = .slice none 0 0 ∧ xs = []) ∨ ∃ g cap, v = .slice (some ⟨g, 0, none⟩) xs.length cap ∧ B ≤ g ∧ g < w.heap.size ∧ xs.length ≤ 9223372036854775807 ∧
      (∀ i, i < xs.length → w.cell? ⟨g, i, none⟩ = some (.int .i64 (xs.getD i 0))) ∧ ∀ i, w.frozen? ⟨g, i, none⟩ = false := by
  have h0 : rowW w B v xs.length (xs.map (Value.int .i64)) := h
  rcases h0.2 with ⟨rfl, hn⟩ | ⟨g, cap, cur, e, rfl, hB, hg, hnc, hcm, hcs, htake⟩
  · exact .inl ⟨rfl, List.eq_nil_of_length_eq_zero hn⟩
  · refine .inr ⟨g, cap, rfl, hB, (Array.getElem?_eq_some_iff.1 hg).1, by unfold maxLen at hcm; omega, fun i hi => ?_, fun i => h0.frozenAt i⟩
    rw [h0.cellAt i (by omega), List.getElem?_map, List.getElem?_eq_getElem hi, List.getD_eq_getElem?_getD, List.getElem?_eq_getElem hi]
    rfl
theorem OwnW.below {w w' : World} {B : Nat} {v : Value} {xs : List Int} (h : OwnW w B v xs) {C : Nat} (hb : Below C w w') (hC : w.heap.size ≤ C) : OwnW w' B v xs := by
  refine ⟨h.1, ?_⟩
  rcases h.2 with hn | ⟨g, cap, cur, e, hv, hg, hh, r⟩
  · exact .inl hn
  · exact .inr ⟨g, cap, cur, e, hv, hg, by rw [hb.block g (Nat.lt_of_lt_of_le (Array.getElem?_eq_some_iff.1 hh).1 hC)]; exact hh, r⟩
theorem OwnW.drewN {w : World} {B : Nat} {v : Value} {xs : List Int} (h : OwnW w B v xs) (k : Nat) : OwnW (w.drewN k) B v xs := h
theorem OwnW.block {w : World} {B : Nat} {v : Value} {xs : List Int} (h : OwnW w B v xs) : ∀ k, v.ownBlock = some k → B ≤ k ∧ k < w.heap.size := rowW.lt h
theorem OwnW.kept {w w' : World} {B : Nat} {v : Value} {xs : List Int} {row : Option Nat} (h : OwnW w B v xs) (hg : w.grownBy w' row) (hne : ∀ k, v.ownBlock = some k → some k ≠ row) : OwnW w' B v xs := by
  refine rowW.kept h hg ?_
  cases hv : v.ownBlock with
  | none => exact .inl rfl
  | some k => exact .inr (hne k hv)
theorem OwnW.mono {w : World} {B B' : Nat} {v : Value} {xs : List Int} (h : OwnW w B v xs) (hB : B' ≤ B) : OwnW w B' v xs := by
  refine ⟨h.1, ?_⟩
  rcases h.2 with hn | ⟨g, cap, cur, e, hv, hg, r⟩
  · exact .inl hn
  · exact .inr ⟨g, cap, cur, e, hv, by omega, r⟩
theorem eq_ownW {w : World} {B1 B2 : Nat} {v1 v2 : Value} {xs : List Int} (h1 : OwnW w B1 v1 xs) (h2 : OwnW w B2 v2 xs) :
    Calls Try.prog 13 #[v1, v2] w (Drew w) := by
  rcases h1.cases with ⟨rfl, rfl⟩ | ⟨g1, c1, rfl, _, _, hm, hc1, _⟩
  · rcases h2.cases with ⟨rfl, _⟩ | ⟨g2, c2, rfl, _, _, _, hc2, _⟩
    · exact eq_zero _ _ _ _ _
    · exact eq_zero _ _ _ _ _
  · rcases h2.cases with ⟨rfl, rfl⟩ | ⟨g2, c2, rfl, _, _, _, hc2, _⟩
    · exact eq_zero _ _ _ _ _
    · exact eq_cells _ _ _ _ _ _ hm hc1 hc2
theorem held_ownW {w : World} {B : Nat} {v : Value} (k N : Nat) (h : OwnW w B v (marks k N)) (hn : N + k ≤ 9223372036854775807) :
    Calls Try.prog 19 #[v, .int .i64 k] w (Count ((k : Int) + N) w) := by
  rcases h.cases with ⟨rfl, hx⟩ | ⟨g, c, rfl, _, _, _, hc, _⟩
  · have : N = 0 := by rw [← marks_length k N, hx]; rfl
    subst this
    exact (held_zero none 0 k w).mono fun e w' ⟨he, hw⟩ => ⟨by rw [he]; simp, hw⟩
  · rw [marks_length] at hc ⊢
    exact held_cells g c k N w hn fun i hi => by rw [hc i hi, marks_get k N i hi]
def MarkedW (B : Nat) (v : Value) (k N : Nat) (w : World) (e : Ending) (w' : World) : Prop := e = .returned (.int .i64 ((k : Int) + N)) ∧ OwnW w' B v (marks k N) ∧ w.grownBy w' v.ownBlock
def MarkRelW (B g c k N : Nat) (xs : List Int) (w : World) (j : Nat) (wr : World) : Prop := rowW wr B (.slice (some ⟨g, 0, none⟩) N c) N ((mixed k j xs).map (Value.int .i64)) ∧ w.grownBy wr (some g)
theorem MarkRelW.step {B g c k N : Nat} {xs : List Int} {w : World} {j : Nat} {wr : World} (h : MarkRelW B g c k N xs w j wr) (hx : xs.length = N) (hj : j < N) :
    (∃ old, wr.cell? ⟨g, j, none⟩ = some old) ∧ wr.frozen? ⟨g, j, none⟩ = false ∧ MarkRelW B g c k N xs w (j + 1) (wr.setCell ⟨g, j, none⟩ (.int .i64 ((k : Int) + j))) := by
  subst hx
  have hst := rowW.stored h.1 j (.int .i64 ((k : Int) + j))
  rw [mixed_step k j xs hj] at hst
  refine ⟨?_, h.1.frozenAt j, hst.1, grownBy_trans h.2 hst.2⟩
  rw [h.1.cellAt j (by omega), List.getElem?_eq_getElem (by simp [mixed_length k j xs (by omega)]; exact hj)]
  exact ⟨_, rfl⟩
set_option maxHeartbeats 400000 in
theorem mark_cellsW (B g c k : Nat) (xs : List Int) (w : World) (hn : xs.length + k ≤ 9223372036854775807) (h : OwnW w B (.slice (some ⟨g, 0, none⟩) xs.length c) xs) :
    Calls Try.prog 18 #[.slice (some ⟨g, 0, none⟩) xs.length c, .int .i64 k] w (MarkedW B (.slice (some ⟨g, 0, none⟩) xs.length c) k xs.length w) := by
  have HE := Lib.hid (mixed_end k xs)
  have H0 : MarkRelW B g c k xs.length xs w 0 w := ⟨by simpa [mixed, marks] using (show rowW w B _ _ _ from h), ⟨rfl, rfl, rfl, Nat.le_refl _, fun _ _ _ => rfl⟩⟩
  clear h
  generalize hN : xs.length = N at *
  have HN := Lib.hid hN
  clear hN
  go_enter Try.func18, Try.ntmps18
  go_wp2
  go_loopw [1, 5] (fun m i wr => ∃ j : Nat, j ≤ N ∧ i = .int .i64 j ∧ m = .int .i64 ((k : Int) + j) ∧ MarkRelW B g c k N xs w j wr) (fun _ i _ => N - (intOf i).toNat)
  case atStart => exact ⟨0, Nat.zero_le _, rfl, by simp, H0⟩
  case round =>
    obtain ⟨j, hj, rfl, rfl, ho⟩ := hrel
    by_cases hlt : j < N
    · obtain ⟨⟨old, h1⟩, h2, h3⟩ := ho.step HN.out hlt
      go_wp2
      go_roundw
      case rel => exact ⟨j + 1, by omega, by go_num, by go_num, h3⟩
      case measure => simp [intOf]; omega
    · go_wp2
      go_ret
      have e : j = N := by omega
      subst e
      refine ⟨rfl, ?_, ho.2⟩
      have h5 := ho.1
      rw [HE.out] at h5
      show rowW _ _ _ (marks k j).length _
      rw [marks_length]
      exact h5
theorem mark_ownW {w : World} {B : Nat} {v : Value} {xs : List Int} (k : Nat) (h : OwnW w B v xs) (hn : xs.length + k ≤ 9223372036854775807) :
    Calls Try.prog 18 #[v, .int .i64 k] w (MarkedW B v k xs.length w) := by
  rcases h.cases with ⟨rfl, rfl⟩ | ⟨g, c, rfl, _, _, _, _, _⟩
  · exact (mark_zero none 0 k w).mono fun e w' ⟨he, hw⟩ => ⟨by rw [he]; simp, by rw [← hw]; exact h, by rw [← hw]; exact ⟨rfl, rfl, rfl, Nat.le_refl _, fun _ _ _ => rfl⟩⟩
  · exact mark_cellsW B g c k xs w hn h
theorem OwnW.same {w w' : World} {B : Nat} {v : Value} {xs : List Int} (h : OwnW w B v xs) (hb : ∀ b, v.ownBlock = some b → b < w.heap.size → w'.heap[b]? = w.heap[b]?) : OwnW w' B v xs := rowW.same h hb
/-- A weak list of the call's own, read. -/
theorem OwnW.rd {w : World} {B : Nat} {v : Value} {xs : List Int} (h : OwnW w B v xs) : Rd w v xs := by
  have h0 : rowW w B v xs.length (xs.map (Value.int .i64)) := h
  rcases h.cases with ⟨rfl, rfl⟩ | ⟨g, cap, rfl, hB, hg, hm, hc, _⟩
  · exact Rd.nil w
  · refine ⟨_, cap, rfl, ?_, ⟨?_, .inr ⟨g, 0, rfl⟩⟩, fun i hi => ⟨g, 0, rfl, by rw [Nat.zero_add]; exact hc i hi, hg⟩⟩
    · rcases h0.2 with ⟨hn, _⟩ | ⟨g', cap', cur, e, he, _, _, hnc, _⟩
      · cases hn
      · injection he with _ _ e3; omega
    · rcases h0.2 with ⟨hn, _⟩ | ⟨g', cap', cur, e, he, _, _, _, hcm, _⟩
      · cases hn
      · injection he with _ _ e3; unfold maxLen at hcm; omega
theorem eqW_below {w : World} {B1 B2 : Nat} {v1 v2 : Value} {xs : List Int} (h1 : OwnW w B1 v1 xs) (h2 : OwnW w B2 v2 xs) :
    Calls Try.prog 13 #[v1, v2] w (Bb true w) :=
  (eq_ownW h1 h2).mono fun e w' ⟨k, he, hw⟩ => ⟨he, by rw [hw]; exact below_drewN k (Below.refl _ _)⟩
theorem mark_intW {w : World} {B : Nat} {v : Value} {xs : List Int} (K : Int) (hK0 : 0 ≤ K) (hK1 : K ≤ 100000000) (h : OwnW w B v xs) (hn : xs.length ≤ 1048576) :
    Calls Try.prog 18 #[v, .int .i64 K] w (MarkI 200000000 v w) := by
  have e : K = ((K.toNat : Nat) : Int) := by omega
  rw [e]
  exact (mark_ownW K.toNat h (by omega)).mono fun e w' ⟨he, _, hg⟩ => ⟨_, he, by omega, hg⟩
end Go.Proofs.Ytngbddmbmkphcaa
namespace Go.Proofs.Ytngbddmbmkphcaa
open Go.RowKit
/-- Six numbers as a value. -/
def six (a b c d e f : Int) : Value := .agg #[.int .i64 a, .int .i64 b, .int .i64 c, .int .i64 d, .int .i64 e, .int .i64 f]
def RetB (v : Value) (w : World) (e : Ending) (w' : World) : Prop := e = .returned v ∧ Below w.heap.size w w'
set_option maxHeartbeats 1000000 in
set_option maxRecDepth 100000 in
theorem same_i (w : World) : Calls Try.prog 80 #[] w (RetB (six 0 1 2 3 4 5) w) := by
  go_enter Try.func80, Try.ntmps80
  go_wp2
  refine wp_loop_rounds 7 ?_
  rw [rounds_succ]
  go_wp2
  rw [rounds_succ]
  go_wp2
  rw [rounds_succ]
  go_wp2
  rw [rounds_succ]
  go_wp2
  rw [rounds_succ]
  go_wp2
  rw [rounds_succ]
  go_wp2
  rw [rounds_succ]
  go_wp2
  refine bodyPost_ret (v := six 0 1 2 3 4 5) (by simp [six, results, Try.results80, go_sem]) rfl ⟨rfl, ?_⟩
  go_grown
/-- An order of ages as a value. -/
def sixf (o : Nat → Int) : Value := six (o 0) (o 1) (o 2) (o 3) (o 4) (o 5)
/-- The order that moves an age to the front. -/
def yng (age i : Nat) : Int := if i = 0 then age else if i ≤ age then (i : Int) - 1 else i
def sameO (i : Nat) : Int := i
def cur6 : List Value := [.int .i64 0, .int .i64 1, .int .i64 2, .int .i64 3, .int .i64 4, .int .i64 5]
theorem isz : (Try.prog.info? 2).map (·.size) = some 1 := by kernel_rfl
theorem below6 {n : Nat} (h : n < 6) : n = 0 ∨ n = 1 ∨ n = 2 ∨ n = 3 ∨ n = 4 ∨ n = 5 := by omega
theorem yng_cells (age : Nat) (h : age < 6) (i : Nat) (hi : 0 < i) (hi6 : i < 6) : (Go.splice cur6 1 (cur6.take age)).toArray[i]? = some (.int .i64 (yng age i)) := by
  rcases below6 h with rfl | rfl | rfl | rfl | rfl | rfl <;> rcases below6 hi6 with rfl | rfl | rfl | rfl | rfl | rfl <;> first | rfl | (exact absurd hi (by omega))
theorem yng_cell0 (age : Nat) : (Go.splice cur6 1 (cur6.take age)).toArray[0]? = some (.int .i64 0) := rfl
theorem cur6_take (age : Nat) (j : Nat) (v : Value) (hv : (cur6.take age)[j]? = some v) : cur6.toArray[j]? = some v := by
  rw [List.getElem?_take] at hv
  split at hv
  · simpa using hv
  · cases hv
theorem cur6_one (age : Nat) : ∀ v ∈ cur6.take age, v.oneCell' = true := fun v hv => by
  have := List.mem_of_mem_take hv
  simp [cur6] at this
  rcases this with rfl | rfl | rfl | rfl | rfl | rfl <;> rfl
end Go.Proofs.Ytngbddmbmkphcaa
namespace Go.Proofs.Ytngbddmbmkphcaa
open Go.RowKit
abbrev z6 : Array Value := #[.int .i64 0, .int .i64 0, .int .i64 0, .int .i64 0, .int .i64 0, .int .i64 0]
theorem res6 (w w' : World) (hb : Below (w.heap.size + 1) (w.alloc (.cells z6 69)) w') (i : Nat) (hi : i < 6) : w'.cell? ⟨w.heap.size, i, none⟩ = some (.int .i64 0) ∧ w'.frozen? ⟨w.heap.size, i, none⟩ = false := by
  have e1 : w'.heap[w.heap.size]? = (w.alloc (.cells z6 69)).heap[w.heap.size]? := hb.block _ (by omega)
  rw [World.cell?_of_block (w := w.alloc (.cells z6 69)) (a := ⟨w.heap.size, i, none⟩) e1, World.frozen?_of_block (w := w.alloc (.cells z6 69)) (a := ⟨w.heap.size, i, none⟩) e1]
  rcases below6 hi with rfl | rfl | rfl | rfl | rfl | rfl <;> exact ⟨by simp [go_sem], by simp⟩
theorem z6_size (w : World) : (w.alloc (.cells z6 69)).heap.size = w.heap.size + 1 := Array.size_push _
/-- The tree's order of a hit. -/
def treO (age i : Nat) : Int := if i = 0 then age else if i = 1 then (age ^^^ 1 : Nat) else if i = 2 then 2 - 2 * (age / 2 : Nat) else if i = 3 then 3 - 2 * (age / 2 : Nat) else i
end Go.Proofs.Ytngbddmbmkphcaa
