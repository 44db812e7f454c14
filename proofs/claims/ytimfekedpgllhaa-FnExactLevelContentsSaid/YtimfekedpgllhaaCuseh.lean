/- The program's contents after a use that hits. -/
import Derived.Test.YtimfekedpgllhaaCuse
import Derived.Deep.RegionLaw
namespace Go.Proofs.Ytimfekedpgllhaa.Pv
open Go.RowKit
set_option maxHeartbeats 4000000 in
set_option maxRecDepth 100000 in
theorem use_hit (j M : Nat) (hj : j < M) (hM6 : M ≤ 6) (rc : List Value) (rt : List Value) (hrc : rc = .int .i64 (M : Nat) :: rt) (q : Nat → Nat) (hq : ∀ i, i < 6 → q i < 6) (hm : (rc.drop (1 + j * 6)).take 6 = six6 fun i => ((q i : Nat) : Int)) (k : Nat → Int) (x : Int) (hx : k j = x) (hn : ∀ i, i < j → k i ≠ x) (w : World) :
    Calls Try.prog 59 #[.agg rc.toArray, six (k 0) (k 1) (k 2) (k 3) (k 4) (k 5), .int .i64 x] w (RetB (.tuple #[six (k (q 0)) (k (q 1)) (k (q 2)) (k (q 3)) (k (q 4)) (k (q 5)), .bool true]) w) := by
  have HM := Lib.hid (fun (i : Nat) (hi : i < 6) => (show rc[1 + j * 6 + i]? = some (.int .i64 ((q i : Nat) : Int)) by
    have h := six6_get (fun i => ((q i : Nat) : Int)) i hi
    rw [← hm, List.getElem?_take_of_lt hi, List.getElem?_drop] at h
    exact h))
  have HA := Lib.hid (fun w' => after_i q hq k w')
  have HX := Lib.hid (fun (w' : World) (b c : Nat) (hb : Blk w' b (six6 k) 58) => (show Calls Try.prog 63 #[.slice (some ⟨b, 0, none⟩) M c, .int .i64 x] w' fun e w2 => e = .returned (.int .i64 (j : Nat)) ∧ w2 = w' from by
    have h := idx_i b M c k x w' (by omega) hb
    rw [Lib.idxOf_hit (sixN k) M j x hj (by show M ≤ 6; omega) (by rw [sixN_get k j (by omega)]; exact hx) (fun i hi => by rw [sixN_get k i (by omega)]; exact hn i hi)] at h
    exact h))
  have hji : (j : Int) < 6 := by omega
  have hj6 : j < 6 := by omega
  have hM6i : (M : Int) ≤ 6 := by omega
  clear hm hx hn
  subst hrc
  unfold six at HA ⊢
  go_enter Try.func59, Try.ntmps59
  go_wp2_with fail
  have k0 : Blk (((w.alloc (.cells (.int .i64 (M : Nat) :: rt).toArray 57)).alloc (.cells (six6 k).toArray 58)).alloc (.cells z6l.toArray 58)) w.heap.size (.int .i64 (M : Nat) :: rt) 57 := Blk.alloc (Blk.alloc (Blk.newAt _ _ _ _ rfl) _) _
  have k1 : Blk (((w.alloc (.cells (.int .i64 (M : Nat) :: rt).toArray 57)).alloc (.cells (six6 k).toArray 58)).alloc (.cells z6l.toArray 58)) (w.heap.size + 1) (six6 k) 58 := Blk.alloc (Blk.newAt _ _ _ _ (by simp)) _
  have k2 : Blk (((w.alloc (.cells (.int .i64 (M : Nat) :: rt).toArray 57)).alloc (.cells (six6 k).toArray 58)).alloc (.cells z6l.toArray 58)) (w.heap.size + 1 + 1) z6l 58 := Blk.newAt _ _ _ _ (by simp)
  have hb0 : Below w.heap.size w (((w.alloc (.cells (.int .i64 (M : Nat) :: rt).toArray 57)).alloc (.cells (six6 k).toArray 58)).alloc (.cells z6l.toArray 58)) := (((Below.refl _ w).alloc (Nat.le_refl _) _).alloc (by simp) _).alloc (by simp; omega) _
  refine (HX.out _ _ 6 k1).mono ?_; rintro e w1 ⟨rfl, rfl⟩
  have K0 := Lib.hid k0
  have K1 := Lib.hid k1
  have K2 := Lib.hid k2
  have HB := Lib.hid hb0
  have eL : (((w.alloc (.cells (.int .i64 (M : Nat) :: rt).toArray 57)).alloc (.cells #[.int .i64 (k 0), .int .i64 (k 1), .int .i64 (k 2), .int .i64 (k 3), .int .i64 (k 4), .int .i64 (k 5)] 58)).alloc (.cells #[.int .i64 0, .int .i64 0, .int .i64 0, .int .i64 0, .int .i64 0, .int .i64 0] 58)) = (((w.alloc (.cells (.int .i64 (M : Nat) :: rt).toArray 57)).alloc (.cells (six6 k).toArray 58)).alloc (.cells z6l.toArray 58)) := rfl
  clear k0 k1 k2 hb0 HX
  generalize (((w.alloc (.cells (.int .i64 (M : Nat) :: rt).toArray 57)).alloc (.cells (six6 k).toArray 58)).alloc (.cells z6l.toArray 58)) = W0 at *
  clear eL
  have e0 := (K0.out.cell (1 + j * 6 + 0)).trans (HM.out 0 (by omega))
  rw [Nat.add_zero] at e0
  have e1 := (K0.out.cell (1 + j * 6 + 1)).trans (HM.out 1 (by omega))
  have e2 := (K0.out.cell (1 + j * 6 + 2)).trans (HM.out 2 (by omega))
  have e3 := (K0.out.cell (1 + j * 6 + 3)).trans (HM.out 3 (by omega))
  have e4 := (K0.out.cell (1 + j * 6 + 4)).trans (HM.out 4 (by omega))
  have e5 := (K0.out.cell (1 + j * 6 + 5)).trans (HM.out 5 (by omega))
  have a0 : W0.cell? ⟨w.heap.size + 1, 0, none⟩ = some (.int .i64 (k 0)) := K1.out.cell 0
  have a1 : W0.cell? ⟨w.heap.size + 1, 1, none⟩ = some (.int .i64 (k 1)) := K1.out.cell 1
  have a2 : W0.cell? ⟨w.heap.size + 1, 2, none⟩ = some (.int .i64 (k 2)) := K1.out.cell 2
  have a3 : W0.cell? ⟨w.heap.size + 1, 3, none⟩ = some (.int .i64 (k 3)) := K1.out.cell 3
  have a4 : W0.cell? ⟨w.heap.size + 1, 4, none⟩ = some (.int .i64 (k 4)) := K1.out.cell 4
  have a5 : W0.cell? ⟨w.heap.size + 1, 5, none⟩ = some (.int .i64 (k 5)) := K1.out.cell 5
  have HZ := Lib.hid (fun (w3 : World) (b3 : Below W0.drew.heap.size W0.drew w3) => (show (∀ i, i < 6 → w3.cell? ⟨w.heap.size + 1 + 1, i, none⟩ = some (.int .i64 0) ∧ w3.frozen? ⟨w.heap.size + 1 + 1, i, none⟩ = false) ∧ Below w.heap.size w w3 from by
    have bk := K2.out.below (drewB b3) K2.out.lt
    refine ⟨fun i hi => ⟨?_, bk.froz i⟩, bt HB.out (drewB b3)⟩
    rw [bk.cell]
    rcases below6 hi with rfl | rfl | rfl | rfl | rfl | rfl <;> rfl))
  clear K0 K1 K2 HM
  go_wp2
  go_region_law (go_simp; go_at_call 65; (with_reducible refine (HA.out _).mono ?_); rintro e w3 ⟨rfl, b3⟩; obtain ⟨hz, hb3⟩ := HZ.out w3 b3; have HB3 := Lib.hid hb3; clear b3 hb3; obtain ⟨r0, q0⟩ := hz 0 (by decide); obtain ⟨r1, q1⟩ := hz 1 (by decide); obtain ⟨r2, q2⟩ := hz 2 (by decide); obtain ⟨r3, q3⟩ := hz 3 (by decide); obtain ⟨r4, q4⟩ := hz 4 (by decide); obtain ⟨r5, q5⟩ := hz 5 (by decide); clear hz)
  all_goals
    go_wp2
    refine bodyPost_ret (v := .tuple #[.agg #[.int .i64 (k (q 0)), .int .i64 (k (q 1)), .int .i64 (k (q 2)), .int .i64 (k (q 3)), .int .i64 (k (q 4)), .int .i64 (k (q 5))], .bool true]) (by simp [results, Try.results59, go_sem, r0, r1, r2, r3, r4, r5, q0, q1, q2, q3, q4, q5]) rfl ⟨rfl, ?_⟩
    have hb5 := HB3.out
    go_grown
end Go.Proofs.Ytimfekedpgllhaa.Pv
