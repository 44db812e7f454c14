/- The program's orders of ages: what stays, what goes to the end, the tree's. -/
import Derived.Test.YthfgaoojgdikpaaCage
namespace Go.Proofs.Ythfgaoojgdikpaa
open Go.RowKit
abbrev z6 : Array Value := #[.int .i64 0, .int .i64 0, .int .i64 0, .int .i64 0, .int .i64 0, .int .i64 0]
theorem res6 (w w' : World) (hb : Below (w.heap.size + 1) (w.alloc (.cells z6 45)) w') (i : Nat) (hi : i < 6) : w'.cell? ⟨w.heap.size, i, none⟩ = some (.int .i64 0) ∧ w'.frozen? ⟨w.heap.size, i, none⟩ = false := by
  have e1 : w'.heap[w.heap.size]? = (w.alloc (.cells z6 45)).heap[w.heap.size]? := hb.block _ (by omega)
  rw [World.cell?_of_block (w := w.alloc (.cells z6 45)) (a := ⟨w.heap.size, i, none⟩) e1, World.frozen?_of_block (w := w.alloc (.cells z6 45)) (a := ⟨w.heap.size, i, none⟩) e1]
  rcases below6 hi with rfl | rfl | rfl | rfl | rfl | rfl <;> exact ⟨by simp [go_sem], by simp⟩
theorem z6_size (w : World) : (w.alloc (.cells z6 45)).heap.size = w.heap.size + 1 := Array.size_push _
set_option maxHeartbeats 2000000 in
set_option maxRecDepth 100000 in
theorem stay_i (age : Int) (w : World) : Calls Try.prog 40 #[.int .i64 age] w (RetB (sixf sameO) w) := by
  have HS := Lib.hid (fun w => same_i w)
  have HV := Lib.hid (show six 0 1 2 3 4 5 = sixf sameO from rfl)
  unfold six at HS HV
  have hz := z6_size w
  go_enter Try.func40, Try.ntmps40
  go_wp2_with fail
  refine (HS.out _).mono ?_
  rintro e w1 ⟨rfl, b1⟩
  have b1' : Below (w.heap.size + 1) (w.alloc (.cells z6 45)) w1 := b1.mono (Nat.le_of_eq hz.symm)
  obtain ⟨r0, q0⟩ := res6 w w1 b1' 0 (by omega)
  obtain ⟨r1, q1⟩ := res6 w w1 b1' 1 (by omega)
  obtain ⟨r2, q2⟩ := res6 w w1 b1' 2 (by omega)
  obtain ⟨r3, q3⟩ := res6 w w1 b1' 3 (by omega)
  obtain ⟨r4, q4⟩ := res6 w w1 b1' 4 (by omega)
  obtain ⟨r5, q5⟩ := res6 w w1 b1' 5 (by omega)
  have HB := Lib.hid (((Below.refl w.heap.size w).alloc (Nat.le_refl _) (.cells z6 45)).trans (b1'.mono (by omega)))
  clear b1 b1' hz
  go_wp2
  refine bodyPost_ret (v := six 0 1 2 3 4 5) (by simp [six, results, Try.results40, go_sem, r0, r1, r2, r3, r4, r5]) rfl ⟨by rw [← HV.out]; rfl, ?_⟩
  have hb5 := HB.out
  go_grown
/-- The tree's order of a hit. -/
def treO (age i : Nat) : Int := if i = 0 then age else if i = 1 then (age ^^^ 1 : Nat) else if i = 2 then 2 - 2 * (age / 2 : Nat) else if i = 3 then 3 - 2 * (age / 2 : Nat) else i
set_option maxHeartbeats 2000000 in
set_option maxRecDepth 100000 in
theorem tree_0 (w : World) : Calls Try.prog 33 #[.int .i64 0] w (RetB (sixf (treO 0)) w) := by
  have HS := Lib.hid (fun w => same_i w)
  have hx : bits BinOp.xor IntKind.i64 0 1 = 1 := by decide
  have HV := Lib.hid (show six 0 1 2 3 4 5 = sixf (treO 0) from rfl)
  unfold six at HS HV
  have hz := z6_size w
  go_enter Try.func33, Try.ntmps33
  go_wp2_with fail
  refine (HS.out _).mono ?_
  rintro e w1 ⟨rfl, b1⟩
  have b1' : Below (w.heap.size + 1) (w.alloc (.cells z6 45)) w1 := b1.mono (Nat.le_of_eq hz.symm)
  have s1 : w.heap.size + 1 ≤ w1.heap.size := by
    have h : (w.alloc (.cells z6 45)).heap.size ≤ w1.heap.size := b1'.size
    omega
  have hG : Hid (((w1.alloc (.cells #[.int .i64 0, .int .i64 1, .int .i64 2, .int .i64 3, .int .i64 4, .int .i64 5] 45)).alloc (.cells #[.int .i64 0, .int .i64 1, .int .i64 2, .int .i64 3] 2)).heap[w1.heap.size]? = some (.cells #[.int .i64 0, .int .i64 1, .int .i64 2, .int .i64 3, .int .i64 4, .int .i64 5] 45 (0, 0))) :=
    (Below.heap_alloc _ _ _ (by simp)).trans (heap_alloc_new w1 _)
  have hB2 : Below (w.heap.size + 1) (w.alloc (.cells z6 45)) ((w1.alloc (.cells #[.int .i64 0, .int .i64 1, .int .i64 2, .int .i64 3, .int .i64 4, .int .i64 5] 45)).alloc (.cells #[.int .i64 0, .int .i64 1, .int .i64 2, .int .i64 3] 2)) := (b1'.alloc s1 _).alloc (by simp; omega) _
  have hsrc : ∀ j v, [Value.int .i64 0, .int .i64 1, .int .i64 2, .int .i64 3][j]? = some v → ((w1.alloc (.cells #[.int .i64 0, .int .i64 1, .int .i64 2, .int .i64 3, .int .i64 4, .int .i64 5] 45)).alloc (.cells #[.int .i64 0, .int .i64 1, .int .i64 2, .int .i64 3] 2)).cell? ((⟨w1.heap.size + 1, 0, none⟩ : Addr).add j) = some v := fun j v hv => by
    have e : (⟨w1.heap.size + 1, 0, none⟩ : Addr).add j = ⟨w1.heap.size + 1, j, none⟩ := by unfold Addr.add; split <;> simp_all
    rw [e, World.cell?_alloc_at _ _ _ _ (by simp)]
    simpa using hv
  go_wp2_with (with_reducible refine wpList_copy_splice rfl (.tmp 8) (.tmp 18) 23 23 rfl 2 Try.underlying23 isz _ _ _ _ _ _ rfl rfl w1.heap.size 0 [Value.int .i64 0, .int .i64 1, .int .i64 2, .int .i64 3, .int .i64 4, .int .i64 5] 45 hG.out [Value.int .i64 0, .int .i64 1, .int .i64 2, .int .i64 3] ?_ ?_ ?_ ?_ (w.heap.size + 1) _ hB2 s1 ?_)
  · rfl
  · show 0 + 4 ≤ 6; omega
  · intro v hv; simp at hv; rcases hv with rfl | rfl | rfl | rfl <;> rfl
  intro w4 hG4 hB4
  have hc : ∀ i, w4.cell? ⟨w1.heap.size, i, none⟩ = (Go.splice [Value.int .i64 0, .int .i64 1, .int .i64 2, .int .i64 3, .int .i64 4, .int .i64 5] 0 [Value.int .i64 0, .int .i64 1, .int .i64 2, .int .i64 3]).toArray[i]? := fun i => by
    rw [cell_of_row w4 w1.heap.size i _ _ (0, 0) hG4.out]
  have c0 : w4.cell? ⟨w1.heap.size, 0, none⟩ = some (.int .i64 0) := hc 0
  have c1 : w4.cell? ⟨w1.heap.size, 1, none⟩ = some (.int .i64 1) := hc 1
  have c2 : w4.cell? ⟨w1.heap.size, 2, none⟩ = some (.int .i64 2) := hc 2
  have c3 : w4.cell? ⟨w1.heap.size, 3, none⟩ = some (.int .i64 3) := hc 3
  have c4 : w4.cell? ⟨w1.heap.size, 4, none⟩ = some (.int .i64 4) := hc 4
  have c5 : w4.cell? ⟨w1.heap.size, 5, none⟩ = some (.int .i64 5) := hc 5
  obtain ⟨r0, q0⟩ := res6 w w4 hB4 0 (by omega)
  obtain ⟨r1, q1⟩ := res6 w w4 hB4 1 (by omega)
  obtain ⟨r2, q2⟩ := res6 w w4 hB4 2 (by omega)
  obtain ⟨r3, q3⟩ := res6 w w4 hB4 3 (by omega)
  obtain ⟨r4, q4⟩ := res6 w w4 hB4 4 (by omega)
  obtain ⟨r5, q5⟩ := res6 w w4 hB4 5 (by omega)
  have hne : ¬ w1.heap.size = w.heap.size := by omega
  have hne2 : ¬ w.heap.size = w1.heap.size := by omega
  have HB4 := Lib.hid (((Below.refl w.heap.size w).alloc (Nat.le_refl _) (.cells z6 45)).trans (hB4.mono (by omega)))
  clear hc hG hG4 hB4 hB2 hsrc b1 b1' hz
  go_wp2
  refine bodyPost_ret (v := six 0 1 2 3 4 5) (by simp [six, results, Try.results33, go_sem, c0, c1, c2, c3, c4, c5, r0, r1, r2, r3, r4, r5, hne, hne2]) rfl ⟨by rw [← HV.out]; rfl, ?_⟩
  have hb5 := HB4.out
  go_grown
set_option maxHeartbeats 2000000 in
set_option maxRecDepth 100000 in
theorem tree_1 (w : World) : Calls Try.prog 33 #[.int .i64 1] w (RetB (sixf (treO 1)) w) := by
  have HS := Lib.hid (fun w => same_i w)
  have hx : bits BinOp.xor IntKind.i64 1 1 = 0 := by decide
  have HV := Lib.hid (show six 1 0 2 3 4 5 = sixf (treO 1) from rfl)
  unfold six at HS HV
  have hz := z6_size w
  go_enter Try.func33, Try.ntmps33
  go_wp2_with fail
  refine (HS.out _).mono ?_
  rintro e w1 ⟨rfl, b1⟩
  have b1' : Below (w.heap.size + 1) (w.alloc (.cells z6 45)) w1 := b1.mono (Nat.le_of_eq hz.symm)
  have s1 : w.heap.size + 1 ≤ w1.heap.size := by
    have h : (w.alloc (.cells z6 45)).heap.size ≤ w1.heap.size := b1'.size
    omega
  have hG : Hid (((w1.alloc (.cells #[.int .i64 0, .int .i64 1, .int .i64 2, .int .i64 3, .int .i64 4, .int .i64 5] 45)).alloc (.cells #[.int .i64 1, .int .i64 0, .int .i64 2, .int .i64 3] 2)).heap[w1.heap.size]? = some (.cells #[.int .i64 0, .int .i64 1, .int .i64 2, .int .i64 3, .int .i64 4, .int .i64 5] 45 (0, 0))) :=
    (Below.heap_alloc _ _ _ (by simp)).trans (heap_alloc_new w1 _)
  have hB2 : Below (w.heap.size + 1) (w.alloc (.cells z6 45)) ((w1.alloc (.cells #[.int .i64 0, .int .i64 1, .int .i64 2, .int .i64 3, .int .i64 4, .int .i64 5] 45)).alloc (.cells #[.int .i64 1, .int .i64 0, .int .i64 2, .int .i64 3] 2)) := (b1'.alloc s1 _).alloc (by simp; omega) _
  have hsrc : ∀ j v, [Value.int .i64 1, .int .i64 0, .int .i64 2, .int .i64 3][j]? = some v → ((w1.alloc (.cells #[.int .i64 0, .int .i64 1, .int .i64 2, .int .i64 3, .int .i64 4, .int .i64 5] 45)).alloc (.cells #[.int .i64 1, .int .i64 0, .int .i64 2, .int .i64 3] 2)).cell? ((⟨w1.heap.size + 1, 0, none⟩ : Addr).add j) = some v := fun j v hv => by
    have e : (⟨w1.heap.size + 1, 0, none⟩ : Addr).add j = ⟨w1.heap.size + 1, j, none⟩ := by unfold Addr.add; split <;> simp_all
    rw [e, World.cell?_alloc_at _ _ _ _ (by simp)]
    simpa using hv
  go_wp2_with (with_reducible refine wpList_copy_splice rfl (.tmp 8) (.tmp 18) 23 23 rfl 2 Try.underlying23 isz _ _ _ _ _ _ rfl rfl w1.heap.size 0 [Value.int .i64 0, .int .i64 1, .int .i64 2, .int .i64 3, .int .i64 4, .int .i64 5] 45 hG.out [Value.int .i64 1, .int .i64 0, .int .i64 2, .int .i64 3] ?_ ?_ ?_ ?_ (w.heap.size + 1) _ hB2 s1 ?_)
  · rfl
  · show 0 + 4 ≤ 6; omega
  · intro v hv; simp at hv; rcases hv with rfl | rfl | rfl | rfl <;> rfl
  intro w4 hG4 hB4
  have hc : ∀ i, w4.cell? ⟨w1.heap.size, i, none⟩ = (Go.splice [Value.int .i64 0, .int .i64 1, .int .i64 2, .int .i64 3, .int .i64 4, .int .i64 5] 0 [Value.int .i64 1, .int .i64 0, .int .i64 2, .int .i64 3]).toArray[i]? := fun i => by
    rw [cell_of_row w4 w1.heap.size i _ _ (0, 0) hG4.out]
  have c0 : w4.cell? ⟨w1.heap.size, 0, none⟩ = some (.int .i64 1) := hc 0
  have c1 : w4.cell? ⟨w1.heap.size, 1, none⟩ = some (.int .i64 0) := hc 1
  have c2 : w4.cell? ⟨w1.heap.size, 2, none⟩ = some (.int .i64 2) := hc 2
  have c3 : w4.cell? ⟨w1.heap.size, 3, none⟩ = some (.int .i64 3) := hc 3
  have c4 : w4.cell? ⟨w1.heap.size, 4, none⟩ = some (.int .i64 4) := hc 4
  have c5 : w4.cell? ⟨w1.heap.size, 5, none⟩ = some (.int .i64 5) := hc 5
  obtain ⟨r0, q0⟩ := res6 w w4 hB4 0 (by omega)
  obtain ⟨r1, q1⟩ := res6 w w4 hB4 1 (by omega)
  obtain ⟨r2, q2⟩ := res6 w w4 hB4 2 (by omega)
  obtain ⟨r3, q3⟩ := res6 w w4 hB4 3 (by omega)
  obtain ⟨r4, q4⟩ := res6 w w4 hB4 4 (by omega)
  obtain ⟨r5, q5⟩ := res6 w w4 hB4 5 (by omega)
  have hne : ¬ w1.heap.size = w.heap.size := by omega
  have hne2 : ¬ w.heap.size = w1.heap.size := by omega
  have HB4 := Lib.hid (((Below.refl w.heap.size w).alloc (Nat.le_refl _) (.cells z6 45)).trans (hB4.mono (by omega)))
  clear hc hG hG4 hB4 hB2 hsrc b1 b1' hz
  go_wp2
  refine bodyPost_ret (v := six 1 0 2 3 4 5) (by simp [six, results, Try.results33, go_sem, c0, c1, c2, c3, c4, c5, r0, r1, r2, r3, r4, r5, hne, hne2]) rfl ⟨by rw [← HV.out]; rfl, ?_⟩
  have hb5 := HB4.out
  go_grown
set_option maxHeartbeats 2000000 in
set_option maxRecDepth 100000 in
theorem tree_2 (w : World) : Calls Try.prog 33 #[.int .i64 2] w (RetB (sixf (treO 2)) w) := by
  have HS := Lib.hid (fun w => same_i w)
  have hx : bits BinOp.xor IntKind.i64 2 1 = 3 := by decide
  have HV := Lib.hid (show six 2 3 0 1 4 5 = sixf (treO 2) from rfl)
  unfold six at HS HV
  have hz := z6_size w
  go_enter Try.func33, Try.ntmps33
  go_wp2_with fail
  refine (HS.out _).mono ?_
  rintro e w1 ⟨rfl, b1⟩
  have b1' : Below (w.heap.size + 1) (w.alloc (.cells z6 45)) w1 := b1.mono (Nat.le_of_eq hz.symm)
  have s1 : w.heap.size + 1 ≤ w1.heap.size := by
    have h : (w.alloc (.cells z6 45)).heap.size ≤ w1.heap.size := b1'.size
    omega
  have hG : Hid (((w1.alloc (.cells #[.int .i64 0, .int .i64 1, .int .i64 2, .int .i64 3, .int .i64 4, .int .i64 5] 45)).alloc (.cells #[.int .i64 2, .int .i64 3, .int .i64 0, .int .i64 1] 2)).heap[w1.heap.size]? = some (.cells #[.int .i64 0, .int .i64 1, .int .i64 2, .int .i64 3, .int .i64 4, .int .i64 5] 45 (0, 0))) :=
    (Below.heap_alloc _ _ _ (by simp)).trans (heap_alloc_new w1 _)
  have hB2 : Below (w.heap.size + 1) (w.alloc (.cells z6 45)) ((w1.alloc (.cells #[.int .i64 0, .int .i64 1, .int .i64 2, .int .i64 3, .int .i64 4, .int .i64 5] 45)).alloc (.cells #[.int .i64 2, .int .i64 3, .int .i64 0, .int .i64 1] 2)) := (b1'.alloc s1 _).alloc (by simp; omega) _
  have hsrc : ∀ j v, [Value.int .i64 2, .int .i64 3, .int .i64 0, .int .i64 1][j]? = some v → ((w1.alloc (.cells #[.int .i64 0, .int .i64 1, .int .i64 2, .int .i64 3, .int .i64 4, .int .i64 5] 45)).alloc (.cells #[.int .i64 2, .int .i64 3, .int .i64 0, .int .i64 1] 2)).cell? ((⟨w1.heap.size + 1, 0, none⟩ : Addr).add j) = some v := fun j v hv => by
    have e : (⟨w1.heap.size + 1, 0, none⟩ : Addr).add j = ⟨w1.heap.size + 1, j, none⟩ := by unfold Addr.add; split <;> simp_all
    rw [e, World.cell?_alloc_at _ _ _ _ (by simp)]
    simpa using hv
  go_wp2_with (with_reducible refine wpList_copy_splice rfl (.tmp 8) (.tmp 18) 23 23 rfl 2 Try.underlying23 isz _ _ _ _ _ _ rfl rfl w1.heap.size 0 [Value.int .i64 0, .int .i64 1, .int .i64 2, .int .i64 3, .int .i64 4, .int .i64 5] 45 hG.out [Value.int .i64 2, .int .i64 3, .int .i64 0, .int .i64 1] ?_ ?_ ?_ ?_ (w.heap.size + 1) _ hB2 s1 ?_)
  · rfl
  · show 0 + 4 ≤ 6; omega
  · intro v hv; simp at hv; rcases hv with rfl | rfl | rfl | rfl <;> rfl
  intro w4 hG4 hB4
  have hc : ∀ i, w4.cell? ⟨w1.heap.size, i, none⟩ = (Go.splice [Value.int .i64 0, .int .i64 1, .int .i64 2, .int .i64 3, .int .i64 4, .int .i64 5] 0 [Value.int .i64 2, .int .i64 3, .int .i64 0, .int .i64 1]).toArray[i]? := fun i => by
    rw [cell_of_row w4 w1.heap.size i _ _ (0, 0) hG4.out]
  have c0 : w4.cell? ⟨w1.heap.size, 0, none⟩ = some (.int .i64 2) := hc 0
  have c1 : w4.cell? ⟨w1.heap.size, 1, none⟩ = some (.int .i64 3) := hc 1
  have c2 : w4.cell? ⟨w1.heap.size, 2, none⟩ = some (.int .i64 0) := hc 2
  have c3 : w4.cell? ⟨w1.heap.size, 3, none⟩ = some (.int .i64 1) := hc 3
  have c4 : w4.cell? ⟨w1.heap.size, 4, none⟩ = some (.int .i64 4) := hc 4
  have c5 : w4.cell? ⟨w1.heap.size, 5, none⟩ = some (.int .i64 5) := hc 5
  obtain ⟨r0, q0⟩ := res6 w w4 hB4 0 (by omega)
  obtain ⟨r1, q1⟩ := res6 w w4 hB4 1 (by omega)
  obtain ⟨r2, q2⟩ := res6 w w4 hB4 2 (by omega)
  obtain ⟨r3, q3⟩ := res6 w w4 hB4 3 (by omega)
  obtain ⟨r4, q4⟩ := res6 w w4 hB4 4 (by omega)
  obtain ⟨r5, q5⟩ := res6 w w4 hB4 5 (by omega)
  have hne : ¬ w1.heap.size = w.heap.size := by omega
  have hne2 : ¬ w.heap.size = w1.heap.size := by omega
  have HB4 := Lib.hid (((Below.refl w.heap.size w).alloc (Nat.le_refl _) (.cells z6 45)).trans (hB4.mono (by omega)))
  clear hc hG hG4 hB4 hB2 hsrc b1 b1' hz
  go_wp2
  refine bodyPost_ret (v := six 2 3 0 1 4 5) (by simp [six, results, Try.results33, go_sem, c0, c1, c2, c3, c4, c5, r0, r1, r2, r3, r4, r5, hne, hne2]) rfl ⟨by rw [← HV.out]; rfl, ?_⟩
  have hb5 := HB4.out
  go_grown
set_option maxHeartbeats 2000000 in
set_option maxRecDepth 100000 in
theorem tree_3 (w : World) : Calls Try.prog 33 #[.int .i64 3] w (RetB (sixf (treO 3)) w) := by
  have HS := Lib.hid (fun w => same_i w)
  have hx : bits BinOp.xor IntKind.i64 3 1 = 2 := by decide
  have HV := Lib.hid (show six 3 2 0 1 4 5 = sixf (treO 3) from rfl)
  unfold six at HS HV
  have hz := z6_size w
  go_enter Try.func33, Try.ntmps33
  go_wp2_with fail
  refine (HS.out _).mono ?_
  rintro e w1 ⟨rfl, b1⟩
  have b1' : Below (w.heap.size + 1) (w.alloc (.cells z6 45)) w1 := b1.mono (Nat.le_of_eq hz.symm)
  have s1 : w.heap.size + 1 ≤ w1.heap.size := by
    have h : (w.alloc (.cells z6 45)).heap.size ≤ w1.heap.size := b1'.size
    omega
  have hG : Hid (((w1.alloc (.cells #[.int .i64 0, .int .i64 1, .int .i64 2, .int .i64 3, .int .i64 4, .int .i64 5] 45)).alloc (.cells #[.int .i64 3, .int .i64 2, .int .i64 0, .int .i64 1] 2)).heap[w1.heap.size]? = some (.cells #[.int .i64 0, .int .i64 1, .int .i64 2, .int .i64 3, .int .i64 4, .int .i64 5] 45 (0, 0))) :=
    (Below.heap_alloc _ _ _ (by simp)).trans (heap_alloc_new w1 _)
  have hB2 : Below (w.heap.size + 1) (w.alloc (.cells z6 45)) ((w1.alloc (.cells #[.int .i64 0, .int .i64 1, .int .i64 2, .int .i64 3, .int .i64 4, .int .i64 5] 45)).alloc (.cells #[.int .i64 3, .int .i64 2, .int .i64 0, .int .i64 1] 2)) := (b1'.alloc s1 _).alloc (by simp; omega) _
  have hsrc : ∀ j v, [Value.int .i64 3, .int .i64 2, .int .i64 0, .int .i64 1][j]? = some v → ((w1.alloc (.cells #[.int .i64 0, .int .i64 1, .int .i64 2, .int .i64 3, .int .i64 4, .int .i64 5] 45)).alloc (.cells #[.int .i64 3, .int .i64 2, .int .i64 0, .int .i64 1] 2)).cell? ((⟨w1.heap.size + 1, 0, none⟩ : Addr).add j) = some v := fun j v hv => by
    have e : (⟨w1.heap.size + 1, 0, none⟩ : Addr).add j = ⟨w1.heap.size + 1, j, none⟩ := by unfold Addr.add; split <;> simp_all
    rw [e, World.cell?_alloc_at _ _ _ _ (by simp)]
    simpa using hv
  go_wp2_with (with_reducible refine wpList_copy_splice rfl (.tmp 8) (.tmp 18) 23 23 rfl 2 Try.underlying23 isz _ _ _ _ _ _ rfl rfl w1.heap.size 0 [Value.int .i64 0, .int .i64 1, .int .i64 2, .int .i64 3, .int .i64 4, .int .i64 5] 45 hG.out [Value.int .i64 3, .int .i64 2, .int .i64 0, .int .i64 1] ?_ ?_ ?_ ?_ (w.heap.size + 1) _ hB2 s1 ?_)
  · rfl
  · show 0 + 4 ≤ 6; omega
  · intro v hv; simp at hv; rcases hv with rfl | rfl | rfl | rfl <;> rfl
  intro w4 hG4 hB4
  have hc : ∀ i, w4.cell? ⟨w1.heap.size, i, none⟩ = (Go.splice [Value.int .i64 0, .int .i64 1, .int .i64 2, .int .i64 3, .int .i64 4, .int .i64 5] 0 [Value.int .i64 3, .int .i64 2, .int .i64 0, .int .i64 1]).toArray[i]? := fun i => by
    rw [cell_of_row w4 w1.heap.size i _ _ (0, 0) hG4.out]
  have c0 : w4.cell? ⟨w1.heap.size, 0, none⟩ = some (.int .i64 3) := hc 0
  have c1 : w4.cell? ⟨w1.heap.size, 1, none⟩ = some (.int .i64 2) := hc 1
  have c2 : w4.cell? ⟨w1.heap.size, 2, none⟩ = some (.int .i64 0) := hc 2
  have c3 : w4.cell? ⟨w1.heap.size, 3, none⟩ = some (.int .i64 1) := hc 3
  have c4 : w4.cell? ⟨w1.heap.size, 4, none⟩ = some (.int .i64 4) := hc 4
  have c5 : w4.cell? ⟨w1.heap.size, 5, none⟩ = some (.int .i64 5) := hc 5
  obtain ⟨r0, q0⟩ := res6 w w4 hB4 0 (by omega)
  obtain ⟨r1, q1⟩ := res6 w w4 hB4 1 (by omega)
  obtain ⟨r2, q2⟩ := res6 w w4 hB4 2 (by omega)
  obtain ⟨r3, q3⟩ := res6 w w4 hB4 3 (by omega)
  obtain ⟨r4, q4⟩ := res6 w w4 hB4 4 (by omega)
  obtain ⟨r5, q5⟩ := res6 w w4 hB4 5 (by omega)
  have hne : ¬ w1.heap.size = w.heap.size := by omega
  have hne2 : ¬ w.heap.size = w1.heap.size := by omega
  have HB4 := Lib.hid (((Below.refl w.heap.size w).alloc (Nat.le_refl _) (.cells z6 45)).trans (hB4.mono (by omega)))
  clear hc hG hG4 hB4 hB2 hsrc b1 b1' hz
  go_wp2
  refine bodyPost_ret (v := six 3 2 0 1 4 5) (by simp [six, results, Try.results33, go_sem, c0, c1, c2, c3, c4, c5, r0, r1, r2, r3, r4, r5, hne, hne2]) rfl ⟨by rw [← HV.out]; rfl, ?_⟩
  have hb5 := HB4.out
  go_grown
end Go.Proofs.Ythfgaoojgdikpaa
