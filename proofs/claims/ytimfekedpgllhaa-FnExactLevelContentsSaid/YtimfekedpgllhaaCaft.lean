/- The program's contents in the order of their ages. -/
import Derived.Test.YtimfekedpgllhaaCemp
namespace Go.Proofs.Ytimfekedpgllhaa.Pv
open Go.RowKit
def six6 (k : Nat → Int) : List Value := [.int .i64 (k 0), .int .i64 (k 1), .int .i64 (k 2), .int .i64 (k 3), .int .i64 (k 4), .int .i64 (k 5)]
theorem six6_get (k : Nat → Int) (j : Nat) (h : j < 6) : (six6 k)[j]? = some (.int .i64 (k j)) := by
  rcases below6 h with rfl | rfl | rfl | rfl | rfl | rfl <;> rfl
/-- the contents in the order, the first j of them -/
def outC (k : Nat → Int) (p : Nat → Nat) (j : Nat) : List Value := [if 0 < j then .int .i64 (k (p 0)) else .int .i64 0, if 1 < j then .int .i64 (k (p 1)) else .int .i64 0, if 2 < j then .int .i64 (k (p 2)) else .int .i64 0, if 3 < j then .int .i64 (k (p 3)) else .int .i64 0, if 4 < j then .int .i64 (k (p 4)) else .int .i64 0, if 5 < j then .int .i64 (k (p 5)) else .int .i64 0]
theorem outC_set (k : Nat → Int) (p : Nat → Nat) (j : Nat) (h : j < 6) : Go.splice (outC k p j) j [.int .i64 (k (p j))] = outC k p (j + 1) := by
  rcases below6 h with rfl | rfl | rfl | rfl | rfl | rfl <;> rfl
theorem outC_old (k : Nat → Int) (p : Nat → Nat) (j : Nat) (h : j < 6) : (outC k p j)[j]? = some (.int .i64 0) := by
  rcases below6 h with rfl | rfl | rfl | rfl | rfl | rfl <;> rfl
set_option maxHeartbeats 4000000 in
set_option maxRecDepth 100000 in
theorem after_i (p : Nat → Nat) (hp : ∀ i, i < 6 → p i < 6) (k : Nat → Int) (w : World) :
    Calls Try.prog 65 #[six (p 0 : Nat) (p 1 : Nat) (p 2 : Nat) (p 3 : Nat) (p 4 : Nat) (p 5 : Nat), six (k 0) (k 1) (k 2) (k 3) (k 4) (k 5)] w (RetB (six (k (p 0)) (k (p 1)) (k (p 2)) (k (p 3)) (k (p 4)) (k (p 5))) w) := by
  have HIX := Lib.hid (fun (j : Nat) (hj : j < 6) (w' : World) => (show (Instr.index 54 (.agg #[.int .i64 ((p 0 : Nat) : Int), .int .i64 ((p 1 : Nat) : Int), .int .i64 ((p 2 : Nat) : Int), .int .i64 ((p 3 : Nat) : Int), .int .i64 ((p 4 : Nat) : Int), .int .i64 ((p 5 : Nat) : Int)]) (.int .i64 (j : Nat))).run Try.prog w' = .ok (.int .i64 ((p j : Nat) : Int)) w' by
    rcases below6 hj with rfl | rfl | rfl | rfl | rfl | rfl <;> kernel_rfl))
  unfold six
  go_enter Try.func65, Try.ntmps65
  go_wp2
  have hb0 : Below w.heap.size w ((((w.alloc (.cells (six6 fun i => ((p i : Nat) : Int)).toArray 54)).alloc (.cells (six6 k).toArray 58)).alloc (.cells z6l.toArray 58)).alloc (.cells z6l.toArray 58)) := ((((Below.refl _ w).alloc (Nat.le_refl _) _).alloc (by simp) _).alloc (by simp; omega) _).alloc (by simp; omega) _
  have k1 : Blk ((((w.alloc (.cells (six6 fun i => ((p i : Nat) : Int)).toArray 54)).alloc (.cells (six6 k).toArray 58)).alloc (.cells z6l.toArray 58)).alloc (.cells z6l.toArray 58)) (w.heap.size + 1) (six6 k) 58 := Blk.alloc (Blk.alloc (Blk.newAt _ _ _ _ (by simp)) _) _
  have k2 : Blk ((((w.alloc (.cells (six6 fun i => ((p i : Nat) : Int)).toArray 54)).alloc (.cells (six6 k).toArray 58)).alloc (.cells z6l.toArray 58)).alloc (.cells z6l.toArray 58)) (w.heap.size + 1 + 1) z6l 58 := Blk.alloc (Blk.newAt _ _ _ _ (by simp)) _
  have k3 : Blk ((((w.alloc (.cells (six6 fun i => ((p i : Nat) : Int)).toArray 54)).alloc (.cells (six6 k).toArray 58)).alloc (.cells z6l.toArray 58)).alloc (.cells z6l.toArray 58)) (w.heap.size + 1 + 1 + 1) (outC k p 0) 58 := Blk.newAt _ _ z6l _ (by simp)
  have eL : ((((w.alloc (.cells #[.int .i64 ((p 0 : Nat) : Int), .int .i64 ((p 1 : Nat) : Int), .int .i64 ((p 2 : Nat) : Int), .int .i64 ((p 3 : Nat) : Int), .int .i64 ((p 4 : Nat) : Int), .int .i64 ((p 5 : Nat) : Int)] 54)).alloc (.cells #[.int .i64 (k 0), .int .i64 (k 1), .int .i64 (k 2), .int .i64 (k 3), .int .i64 (k 4), .int .i64 (k 5)] 58)).alloc (.cells #[.int .i64 0, .int .i64 0, .int .i64 0, .int .i64 0, .int .i64 0, .int .i64 0] 58)).alloc (.cells #[.int .i64 0, .int .i64 0, .int .i64 0, .int .i64 0, .int .i64 0, .int .i64 0] 58)) = ((((w.alloc (.cells (six6 fun i => ((p i : Nat) : Int)).toArray 54)).alloc (.cells (six6 k).toArray 58)).alloc (.cells z6l.toArray 58)).alloc (.cells z6l.toArray 58)) := rfl
  rw [eL]
  clear eL
  generalize ((((w.alloc (.cells (six6 fun i => ((p i : Nat) : Int)).toArray 54)).alloc (.cells (six6 k).toArray 58)).alloc (.cells z6l.toArray 58)).alloc (.cells z6l.toArray 58)) = W0 at *
  have K1 := Lib.hid k1
  have K2 := Lib.hid k2
  have K3 := Lib.hid k3
  have HB := Lib.hid hb0
  clear k1 k2 k3 hb0
  go_loopw [6, 7, 9] (fun _ _ i wr => ∃ j : Nat, j ≤ 6 ∧ i = .int .i64 (j : Nat) ∧ Hid (Blk wr (w.heap.size + 1) (six6 k) 58) ∧ Hid (Blk wr (w.heap.size + 1 + 1) z6l 58) ∧ Hid (Blk wr (w.heap.size + 1 + 1 + 1) (outC k p j) 58) ∧ Hid (Below w.heap.size w wr)) (fun _ _ i _ => 6 - (intOf i).toNat)
  case atStart => exact ⟨0, Nat.zero_le _, rfl, K1, K2, K3, HB⟩
  case round =>
    obtain ⟨j, hj, rfl, hk1, hk2, hk3, hb⟩ := hrel
    by_cases hlt : j < 6
    · have ix := HIX.out j hlt
      have hpj := hp j hlt
      have hpi : ((p j : Nat) : Int) < 6 := by omega
      have hji : (j : Int) < 6 := by omega
      have c0 := (hk1.out.cell (p j)).trans (six6_get k (p j) hpj)
      have o0 := (hk3.out.cell j).trans (outC_old k p j hlt)
      have f0 := hk3.out.froz j
      have hB2 : Blk (wr.setCell ⟨w.heap.size + 1 + 1 + 1, j, none⟩ (.int .i64 (k (p j)))) (w.heap.size + 1 + 1 + 1) (Go.splice (outC k p j) j [.int .i64 (k (p j))]) 58 := blk_set _ _ [.int .i64 (k (p j))] j _ wr hk3.out (by show j + 1 ≤ 6; omega)
      have hK2 : Keep (w.heap.size + 1 + 1 + 1) wr (wr.setCell ⟨w.heap.size + 1 + 1 + 1, j, none⟩ (.int .i64 (k (p j)))) := keep_set _ [.int .i64 (k (p j))] j wr
      rw [outC_set k p j hlt] at hB2
      have R1 := Lib.hid (hK2.blk hk1.out (by omega))
      have R2 := Lib.hid (hK2.blk hk2.out (by omega))
      have R3 := Lib.hid hB2
      have R4 := Lib.hid (hb.out.trans (hK2.below (by omega)))
      clear hB2 hK2 HIX
      generalize k (p j) = v at *
      generalize p j = pj at *
      go_wp2
      go_roundw
      case rel => exact ⟨j + 1, by omega, by go_num, R1, R2, R3, R4⟩
      case measure => simp [intOf]; omega
    · have e : j = 6 := by omega
      subst e
      have e0 : wr.cell? ⟨w.heap.size + 1 + 1 + 1, 0, none⟩ = some (.int .i64 (k (p 0))) := hk3.out.cell 0
      have e1 : wr.cell? ⟨w.heap.size + 1 + 1 + 1, 1, none⟩ = some (.int .i64 (k (p 1))) := hk3.out.cell 1
      have e2 : wr.cell? ⟨w.heap.size + 1 + 1 + 1, 2, none⟩ = some (.int .i64 (k (p 2))) := hk3.out.cell 2
      have e3 : wr.cell? ⟨w.heap.size + 1 + 1 + 1, 3, none⟩ = some (.int .i64 (k (p 3))) := hk3.out.cell 3
      have e4 : wr.cell? ⟨w.heap.size + 1 + 1 + 1, 4, none⟩ = some (.int .i64 (k (p 4))) := hk3.out.cell 4
      have e5 : wr.cell? ⟨w.heap.size + 1 + 1 + 1, 5, none⟩ = some (.int .i64 (k (p 5))) := hk3.out.cell 5
      have r0 : wr.cell? ⟨w.heap.size + 1 + 1, 0, none⟩ = some (.int .i64 0) := hk2.out.cell 0
      have r1 : wr.cell? ⟨w.heap.size + 1 + 1, 1, none⟩ = some (.int .i64 0) := hk2.out.cell 1
      have r2 : wr.cell? ⟨w.heap.size + 1 + 1, 2, none⟩ = some (.int .i64 0) := hk2.out.cell 2
      have r3 : wr.cell? ⟨w.heap.size + 1 + 1, 3, none⟩ = some (.int .i64 0) := hk2.out.cell 3
      have r4 : wr.cell? ⟨w.heap.size + 1 + 1, 4, none⟩ = some (.int .i64 0) := hk2.out.cell 4
      have r5 : wr.cell? ⟨w.heap.size + 1 + 1, 5, none⟩ = some (.int .i64 0) := hk2.out.cell 5
      have q0 := hk2.out.froz 0
      have q1 := hk2.out.froz 1
      have q2 := hk2.out.froz 2
      have q3 := hk2.out.froz 3
      have q4 := hk2.out.froz 4
      have q5 := hk2.out.froz 5
      clear HIX hk1 hk2 hk3
      go_wp2
      refine bodyPost_ret (v := six (k (p 0)) (k (p 1)) (k (p 2)) (k (p 3)) (k (p 4)) (k (p 5))) (by simp [six, results, Try.results65, go_sem, r0, r1, r2, r3, r4, r5, q0, q1, q2, q3, q4, q5]) rfl ⟨rfl, ?_⟩
      have hb5 := hb.out
      go_grown
end Go.Proofs.Ytimfekedpgllhaa.Pv
