/- The program's orders of ages: arrays of six numbers, as values. -/
import Derived.Test.YtbjgfbhfmaddgaaCow
import Derived.Handy
import Derived.Laws.CopyOwn
import Derived.Deep.RegionLaw
import Derived.Deep.AppendLies
namespace Go.Proofs.Ytbjgfbhfmaddgaa
open Go.RowKit
/-- Six numbers as a value. -/
def six (a b c d e f : Int) : Value := .agg #[.int .i64 a, .int .i64 b, .int .i64 c, .int .i64 d, .int .i64 e, .int .i64 f]
def RetB (v : Value) (w : World) (e : Ending) (w' : World) : Prop := e = .returned v ∧ Below w.heap.size w w'
set_option maxHeartbeats 1000000 in
set_option maxRecDepth 100000 in
theorem same_i (w : World) : Calls Try.prog 48 #[] w (RetB (six 0 1 2 3 4 5) w) := by
  go_enter Try.func48, Try.ntmps48
  go_wp2
  refine wp_loop_rounds 7 ?_
  rw [rounds_succ]
  go_wp2
  rw [rounds_succ]
  go_wp2
  rw [rounds_succ]
  go_wp2
  rw [rounds_succ]
  go_wp2
  rw [rounds_succ]
  go_wp2
  rw [rounds_succ]
  go_wp2
  rw [rounds_succ]
  go_wp2
  refine bodyPost_ret (v := six 0 1 2 3 4 5) (by simp [six, results, Try.results48, go_sem]) rfl ⟨rfl, ?_⟩
  go_grown
/-- An order of ages as a value. -/
def sixf (o : Nat → Int) : Value := six (o 0) (o 1) (o 2) (o 3) (o 4) (o 5)
/-- The order that moves an age to the front. -/
def yng (age i : Nat) : Int := if i = 0 then age else if i ≤ age then (i : Int) - 1 else i
def sameO (i : Nat) : Int := i
def cur6 : List Value := [.int .i64 0, .int .i64 1, .int .i64 2, .int .i64 3, .int .i64 4, .int .i64 5]
theorem isz : (Try.prog.info? 2).map (·.size) = some 1 := by kernel_rfl
theorem below6 {n : Nat} (h : n < 6) : n = 0 ∨ n = 1 ∨ n = 2 ∨ n = 3 ∨ n = 4 ∨ n = 5 := by omega
theorem yng_cells (age : Nat) (h : age < 6) (i : Nat) (hi : 0 < i) (hi6 : i < 6) : (Go.splice cur6 1 (cur6.take age)).toArray[i]? = some (.int .i64 (yng age i)) := by
  rcases below6 h with rfl | rfl | rfl | rfl | rfl | rfl <;> rcases below6 hi6 with rfl | rfl | rfl | rfl | rfl | rfl <;> first | rfl | (exact absurd hi (by omega))
theorem yng_cell0 (age : Nat) : (Go.splice cur6 1 (cur6.take age)).toArray[0]? = some (.int .i64 0) := rfl
theorem cur6_take (age : Nat) (j : Nat) (v : Value) (hv : (cur6.take age)[j]? = some v) : cur6.toArray[j]? = some v := by
  rw [List.getElem?_take] at hv
  split at hv
  · simpa using hv
  · cases hv
theorem cur6_one (age : Nat) : ∀ v ∈ cur6.take age, v.oneCell' = true := fun v hv => by
  have := List.mem_of_mem_take hv
  simp [cur6] at this
  rcases this with rfl | rfl | rfl | rfl | rfl | rfl <;> rfl
set_option maxHeartbeats 2000000 in
set_option maxRecDepth 100000 in
theorem young_i (age : Nat) (h6 : age < 6) (w : World) : Calls Try.prog 33 #[.int .i64 (age : Nat)] w (RetB (sixf (yng age)) w) := by
  have HS := Lib.hid (fun w => same_i w)
  have hl : (cur6.take age).length = age := by rw [List.length_take]; show min age 6 = age; omega
  have HY := Lib.hid (yng_cells age h6)
  have HT := Lib.hid (cur6_take age)
  have HL := Lib.hid hl
  have h60 : (age : Int) ≤ 6 := by omega
  have h61 : 0 ≤ (age : Int) := by omega
  have HV := Lib.hid (show six (age : Int) (yng age 1) (yng age 2) (yng age 3) (yng age 4) (yng age 5) = sixf (yng age) from rfl)
  clear hl
  unfold six at HS HV
  go_enter Try.func33, Try.ntmps33
  go_wp2_with fail
  refine (HS.out _).mono ?_
  rintro e w1 ⟨rfl, b1⟩
  have hG : Hid ((w1.alloc (.cells cur6.toArray 62)).heap[w1.heap.size]? = some (.cells cur6.toArray 62 (0, 0))) := heap_alloc_new w1 _
  have hz1 : (w.alloc (.cells #[.int .i64 0, .int .i64 0, .int .i64 0, .int .i64 0, .int .i64 0, .int .i64 0] 62)).heap.size = w.heap.size + 1 := Array.size_push _
  have s1 := b1.size
  have hb2 : Below w.heap.size w (w1.alloc (.cells cur6.toArray 62)) := (((Below.refl _ _).alloc (Nat.le_refl _) _).trans (b1.mono (by omega))).alloc (by omega) _
  have hres := Lib.hid (fun (w' : World) (hb : Below (w.heap.size + 1) (w1.alloc (.cells cur6.toArray 62)) w') (i : Nat) (hi : i < 6) => (show w'.cell? ⟨w.heap.size, i, none⟩ = some (.int .i64 0) ∧ w'.frozen? ⟨w.heap.size, i, none⟩ = false by
    have e1 : w'.heap[w.heap.size]? = (w.alloc (.cells #[.int .i64 0, .int .i64 0, .int .i64 0, .int .i64 0, .int .i64 0, .int .i64 0] 62)).heap[w.heap.size]? :=
      (hb.block _ (by omega)).trans ((Below.heap_alloc w1 _ _ (by omega)).trans (b1.block _ (by omega)))
    rw [World.cell?_of_block (w := w.alloc (.cells #[.int .i64 0, .int .i64 0, .int .i64 0, .int .i64 0, .int .i64 0, .int .i64 0] 62)) (a := ⟨w.heap.size, i, none⟩) e1, World.frozen?_of_block (w := w.alloc (.cells #[.int .i64 0, .int .i64 0, .int .i64 0, .int .i64 0, .int .i64 0, .int .i64 0] 62)) (a := ⟨w.heap.size, i, none⟩) e1]
    rcases below6 hi with rfl | rfl | rfl | rfl | rfl | rfl <;> exact ⟨by simp [go_sem], by simp⟩))
  have hwg : w.heap.size + 1 ≤ w1.heap.size := by omega
  clear hz1
  go_wp2
  have eW : w1.alloc (.cells #[.int .i64 0, .int .i64 1, .int .i64 2, .int .i64 3, .int .i64 4, .int .i64 5] 62) = w1.alloc (.cells cur6.toArray 62) := rfl
  rw [eW]
  clear eW
  generalize w1.alloc (.cells cur6.toArray 62) = w2 at *
  generalize w1.heap.size = g at *
  have hsrc : ∀ j v, (cur6.take age)[j]? = some v → w2.drew.cell? ((⟨g, 0, none⟩ : Addr).add j) = some v := fun j v hv => by
    have e : (⟨g, 0, none⟩ : Addr).add j = ⟨g, j, none⟩ := by unfold Addr.add; split <;> simp_all
    rw [e]
    exact (cell_of_row w2 g j _ _ (0, 0) hG.out).trans (HT.out j v hv)
  have HSRC := Lib.hid hsrc
  have hBd : Below (w.heap.size + 1) w2 w2.drew := (Below.refl _ _).drew
  clear hsrc b1
  go_region_law (refine step_copy_splice rfl (.tmp 5) (.tmp 7) 23 23 rfl 2 Try.underlying23 isz (some ⟨g, 1, none⟩) (some ⟨g, 0, none⟩) 5 5 age 6 (by simp [Act.eval, Act.put]) (by simp [Act.eval, Act.put]) g 1 cur6 62 hG.out (cur6.take age) (by rw [HL.out]; exact (Nat.min_eq_left (by omega)).symm) (fun _ => ⟨rfl, _, rfl, HSRC.out⟩) (by rw [HL.out]; show 1 + age ≤ 6; omega) (cur6_one age) (w.heap.size + 1) w2 hBd hwg ?_; intro w4 hG4 hB4)
  have hc : ∀ i, i < 6 → w4.cell? ⟨g, i, none⟩ = (Go.splice cur6 1 (cur6.take age)).toArray[i]? := fun i hi => by
    rw [cell_of_row w4 g i _ _ (0, 0) hG4.out]
  have c0 := (hc 0 (by omega)).trans (yng_cell0 age)
  have c1 := (hc 1 (by omega)).trans (HY.out 1 (by omega) (by omega))
  have c2 := (hc 2 (by omega)).trans (HY.out 2 (by omega) (by omega))
  have c3 := (hc 3 (by omega)).trans (HY.out 3 (by omega) (by omega))
  have c4 := (hc 4 (by omega)).trans (HY.out 4 (by omega) (by omega))
  have c5 := (hc 5 (by omega)).trans (HY.out 5 (by omega) (by omega))
  have f0 := frozen_of_row w4 g 0 _ _ hG4.out
  obtain ⟨r0, q0⟩ := hres.out w4 hB4 0 (by omega)
  obtain ⟨r1, q1⟩ := hres.out w4 hB4 1 (by omega)
  obtain ⟨r2, q2⟩ := hres.out w4 hB4 2 (by omega)
  obtain ⟨r3, q3⟩ := hres.out w4 hB4 3 (by omega)
  obtain ⟨r4, q4⟩ := hres.out w4 hB4 4 (by omega)
  obtain ⟨r5, q5⟩ := hres.out w4 hB4 5 (by omega)
  have hne : ¬ g = w.heap.size := by omega
  have hne2 : ¬ w.heap.size = g := by omega
  have HB4 := Lib.hid (hb2.trans (hB4.mono (by omega)))
  clear hc hG hG4 hres hB4 hBd hb2
  generalize yng age 1 = y1 at *
  generalize yng age 2 = y2 at *
  generalize yng age 3 = y3 at *
  generalize yng age 4 = y4 at *
  generalize yng age 5 = y5 at *
  go_wp2
  refine bodyPost_ret (v := six age y1 y2 y3 y4 y5) (by simp [six, results, Try.results33, go_sem, c0, c1, c2, c3, c4, c5, r0, r1, r2, r3, r4, r5, hne, hne2]) rfl ⟨by rw [← HV.out]; rfl, ?_⟩
  have hb5 := HB4.out
  have hg9 : w.heap.size ≤ g := by omega
  go_grown
end Go.Proofs.Ytbjgfbhfmaddgaa
