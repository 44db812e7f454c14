/- The program's contents after a miss. -/
import Derived.Test.YtimfekedpgllhaaCaft
namespace Go.Proofs.Ytimfekedpgllhaa.Pv
open Go.RowKit
/-- the cells of contents in which one age holds a new number -/
def putA (k : Nat → Int) (i : Nat) (n : Int) (j : Nat) : Int := if j = i then n else k j
theorem six6_put (k : Nat → Int) (i : Nat) (n : Int) (h : i < 6) : Go.splice (six6 k) i [.int .i64 n] = six6 (putA k i n) := by
  rcases below6 h with rfl | rfl | rfl | rfl | rfl | rfl <;> rfl
/-- the ages that a miss's order names -/
def ordN (xs : List Int) (i : Nat) : Nat := (ordF xs i).toNat
theorem ordN_lt {xs : List Int} (h : ordB xs.length xs = true) (hl : xs.length ≤ 6) (i : Nat) (hi : i < 6) : ordN xs i < 6 ∧ ((ordN xs i : Nat) : Int) = ordF xs i := by
  unfold ordN ordF
  by_cases h2 : i < xs.length
  · rw [if_pos h2]
    have h1 : okTo xs.length xs xs.length = true := by unfold ordB at h; simp at h; exact h
    have h3 := okTo_all _ h1 i h2
    unfold okO at h3
    rw [Bool.and_eq_true] at h3
    have h4 := inN_mem.1 h3.1
    omega
  · rw [if_neg h2]
    omega
/-- the order of a miss, by the rules' last six cells -/
theorem rules_miss (n : Nat) (h6 : n ≤ 6) (hs : List (List Int)) (ms : List Int) : ((rulesL n hs n (rowC ms)).drop 37).take 6 = rowC ms := by
  have : n = 0 ∨ n = 1 ∨ n = 2 ∨ n = 3 ∨ n = 4 ∨ n = 5 ∨ n = 6 := by omega
  rcases this with rfl | rfl | rfl | rfl | rfl | rfl | rfl <;> rfl
/-- the order of a hit at an age, by the six cells of its place -/
theorem rules_hit (n : Nat) (h6 : n ≤ 6) (hs : List (List Int)) (ms : List Int) (i : Nat) (hi : i < n) : ((rulesL n hs n (rowC ms)).drop (1 + i * 6)).take 6 = rowC (hs.getD i []) := by
  have : n = 0 ∨ n = 1 ∨ n = 2 ∨ n = 3 ∨ n = 4 ∨ n = 5 ∨ n = 6 := by omega
  have h : i < 6 := by omega
  rcases this with rfl | rfl | rfl | rfl | rfl | rfl | rfl <;> rcases below6 h with rfl | rfl | rfl | rfl | rfl | rfl <;> first | rfl | (exact absurd hi (by decide))
/-- A policy's orders name ages. -/
theorem isP_miss_ord {hs : List (List Int)} {ms : List Int} (h : isP hs ms = true) : ordB ms.length ms = true ∧ ms.length ≤ 6 ∧ hs.length = ms.length := by
  unfold isP at h
  simp only [Bool.and_eq_true, decide_eq_true_eq] at h
  exact ⟨h.1.2, h.1.1.1.2, h.1.1.2⟩
theorem isP_hit_ord {hs : List (List Int)} {ms : List Int} (h : isP hs ms = true) (i : Nat) (hi : i < hs.length) : ordB ms.length (hs.getD i []) = true := by
  cases e : ordB ms.length (hs.getD i [])
  · rw [isP_hit i hi e] at h; cases h
  · rfl
theorem und6 : ∃ d, Try.prog.underlying 58 = some d ∧ d.isRow = true := by
  cases h : Try.prog.underlying 58 with
  | none => exact absurd h (by decide +kernel)
  | some d =>
    refine ⟨d, rfl, ?_⟩
    have e : (Try.prog.underlying 58).map (fun d => d.isRow) = some true := by kernel_rfl
    rw [h] at e
    simpa using e
theorem set_put (k : Nat → Int) (m : Nat) (n : Int) (h : m < 6) : [Value.int .i64 (k 0), .int .i64 (k 1), .int .i64 (k 2), .int .i64 (k 3), .int .i64 (k 4), .int .i64 (k 5)].set m (.int .i64 n) = six6 (putA k m n) := by
  rcases below6 h with rfl | rfl | rfl | rfl | rfl | rfl <;> rfl
theorem isz6c : (Try.prog.info? 58).map (·.size) = some 6 := by kernel_rfl
set_option maxHeartbeats 4000000 in
set_option maxRecDepth 100000 in
theorem miss_i (m : Nat) (h6 : m < 6) (rc : List Value) (rt : List Value) (hrc : rc = .int .i64 ((m : Int) + 1) :: rt) (p : Nat → Nat) (hp : ∀ i, i < 6 → p i < 6) (hm : (rc.drop 37).take 6 = six6 fun i => ((p i : Nat) : Int)) (k : Nat → Int) (n : Int) (w : World) :
    Calls Try.prog 64 #[.agg rc.toArray, six (k 0) (k 1) (k 2) (k 3) (k 4) (k 5), .int .i64 n] w (RetB (six (putA k m n (p 0)) (putA k m n (p 1)) (putA k m n (p 2)) (putA k m n (p 3)) (putA k m n (p 4)) (putA k m n (p 5))) w) := by
  obtain ⟨d6, hu6, hd6⟩ := und6
  have HU := Lib.hid (And.intro hu6 hd6)
  clear hu6 hd6
  have HM := Lib.hid (fun (i : Nat) (hi : i < 6) => (show rc[37 + i]? = some (.int .i64 ((p i : Nat) : Int)) by
    have h := six6_get (fun i => ((p i : Nat) : Int)) i hi
    rw [← hm, List.getElem?_take_of_lt hi, List.getElem?_drop] at h
    exact h))
  have HA := Lib.hid (fun w' => (show Calls Try.prog 65 #[.agg (six6 fun i => ((p i : Nat) : Int)).toArray, .agg (six6 (putA k m n)).toArray] w' (RetB (six (putA k m n (p 0)) (putA k m n (p 1)) (putA k m n (p 2)) (putA k m n (p 3)) (putA k m n (p 4)) (putA k m n (p 5))) w') from after_i p hp (putA k m n) w'))
  unfold six at HA
  have hmi : (m : Int) < 6 := by omega
  have HR := Lib.hid (fun (w' : World) (hb : Blk w' w.heap.size rc 57) => (show w'.rangeAt w.heap.size 37 (six6 fun i => ((p i : Nat) : Int)) by rw [← hm]; exact hb.range 37 6))
  clear hm
  have HRC := Lib.hid hrc
  subst hrc
  unfold six
  go_enter Try.func64, Try.ntmps64
  go_wp2_with (first | (with_reducible refine wpList_load_mid rfl 54 (.tmp 12) rfl w.heap.size 37 ?_ (six6 fun i => ((p i : Nat) : Int)) _ (HR.out _ ?_) Try.underlying54 rfl ?_ ?_) | (with_reducible refine wpList_loadB rfl 58 (.tmp 4) rfl (w.heap.size + 1) ?_ (six6 (putA k m n)) 58 ?_ d6 HU.out.1 HU.out.2 ?_ ?_))
  · exact Blk.alloc (Blk.alloc (Blk.newAt w _ _ _ rfl) _) _
  · have h := isz6; rw [Option.map_eq_some_iff] at h; exact h
  · rw [set_put k m n h6]; exact Blk.alloc (Blk.newAt _ _ _ _ (by simp)) _
  · have h := isz6c; rw [Option.map_eq_some_iff] at h; exact h
  refine (HA.out _).mono ?_; rintro e w3 ⟨rfl, b3⟩
  have bk : Blk w3 (w.heap.size + 1 + 1) z6l 58 := Blk.below (Blk.newAt _ _ z6l _ (by simp)) b3 (by simp)
  have hb3 : Below w.heap.size w w3 := bt ((((Below.refl _ w).alloc (Nat.le_refl _) _).alloc (by simp) _).alloc (by simp; omega) _) b3
  have HB3 := Lib.hid hb3
  have r0 : w3.cell? ⟨w.heap.size + 1 + 1, 0, none⟩ = some (.int .i64 0) := bk.cell 0
  have r1 : w3.cell? ⟨w.heap.size + 1 + 1, 1, none⟩ = some (.int .i64 0) := bk.cell 1
  have r2 : w3.cell? ⟨w.heap.size + 1 + 1, 2, none⟩ = some (.int .i64 0) := bk.cell 2
  have r3 : w3.cell? ⟨w.heap.size + 1 + 1, 3, none⟩ = some (.int .i64 0) := bk.cell 3
  have r4 : w3.cell? ⟨w.heap.size + 1 + 1, 4, none⟩ = some (.int .i64 0) := bk.cell 4
  have r5 : w3.cell? ⟨w.heap.size + 1 + 1, 5, none⟩ = some (.int .i64 0) := bk.cell 5
  have q0 := bk.froz 0
  have q1 := bk.froz 1
  have q2 := bk.froz 2
  have q3 := bk.froz 3
  have q4 := bk.froz 4
  have q5 := bk.froz 5
  clear bk b3 hb3 HA HR HM
  generalize putA k m n (p 0) = v0 at *
  generalize putA k m n (p 1) = v1 at *
  generalize putA k m n (p 2) = v2 at *
  generalize putA k m n (p 3) = v3 at *
  generalize putA k m n (p 4) = v4 at *
  generalize putA k m n (p 5) = v5 at *
  go_wp2
  refine bodyPost_ret (v := .agg #[.int .i64 v0, .int .i64 v1, .int .i64 v2, .int .i64 v3, .int .i64 v4, .int .i64 v5]) (by simp [results, Try.results64, go_sem, r0, r1, r2, r3, r4, r5, q0, q1, q2, q3, q4, q5]) rfl ⟨rfl, ?_⟩
  have hb5 := HB3.out
  go_grown
end Go.Proofs.Ytimfekedpgllhaa.Pv
