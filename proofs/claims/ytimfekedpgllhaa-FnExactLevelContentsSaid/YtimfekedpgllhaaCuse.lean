/- The program's contents after a use that misses. -/
import Derived.Test.YtimfekedpgllhaaCmiss
import Derived.Test.YtimfekedpgllhaaCshelf
namespace Go.Proofs.Ytimfekedpgllhaa.Pv
open Go.RowKit
def sixN (k : Nat → Int) : List Int := [k 0, k 1, k 2, k 3, k 4, k 5]
theorem sixN_get (k : Nat → Int) (j : Nat) (h : j < 6) : (sixN k).getD j 0 = k j := by
  rcases below6 h with rfl | rfl | rfl | rfl | rfl | rfl <;> rfl
theorem idx_i (b n c : Nat) (k : Nat → Int) (x : Int) (w : World) (hn : n ≤ 6) (hb : Blk w b (six6 k) 58) :
    Calls Try.prog 63 #[.slice (some ⟨b, 0, none⟩) n c, .int .i64 x] w fun e w' => e = .returned (.int .i64 (Lib.idxOf ((sixN k).take n) x)) ∧ w' = w :=
  Try.slices_idi b 0 n c (sixN k) x w (by show n ≤ 6; exact hn) (by omega) (fun j hj => by
    have hj6 : j < 6 := hj
    rw [Nat.zero_add, hb.cell, sixN_get k j hj6]
    exact six6_get k j hj6)
set_option maxHeartbeats 4000000 in
set_option maxRecDepth 100000 in
theorem use_miss (m M : Nat) (hM : M = m + 1) (h6 : m < 6) (rc : List Value) (rt : List Value) (hrc : rc = .int .i64 (M : Nat) :: rt) (hl : rc.length = 43) (p : Nat → Nat) (hp : ∀ i, i < 6 → p i < 6) (hm : (rc.drop 37).take 6 = six6 fun i => ((p i : Nat) : Int)) (k : Nat → Int) (x : Int) (hx : ∀ j, j < M → k j ≠ x) (w : World) :
    Calls Try.prog 59 #[.agg rc.toArray, six (k 0) (k 1) (k 2) (k 3) (k 4) (k 5), .int .i64 x] w (RetB (.tuple #[six (putA k m x (p 0)) (putA k m x (p 1)) (putA k m x (p 2)) (putA k m x (p 3)) (putA k m x (p 4)) (putA k m x (p 5)), .bool false]) w) := by
  obtain ⟨d6, hu6, hd6⟩ := und6
  have HU := Lib.hid (And.intro hu6 hd6)
  clear hu6 hd6
  obtain ⟨d43, hu43, hd43⟩ := und43
  have HU4 := Lib.hid (And.intro hu43 hd43)
  clear hu43 hd43
  have HA := Lib.hid (fun w' => (show Calls Try.prog 64 #[.agg rc.toArray, .agg (six6 k).toArray, .int .i64 x] w' (RetB (six (putA k m x (p 0)) (putA k m x (p 1)) (putA k m x (p 2)) (putA k m x (p 3)) (putA k m x (p 4)) (putA k m x (p 5))) w') from miss_i m h6 rc rt (by rw [hrc, hM]; rfl) p hp hm k x w'))
  have HX := Lib.hid (fun (w' : World) (b c : Nat) (hb : Blk w' b (six6 k) 58) => (show Calls Try.prog 63 #[.slice (some ⟨b, 0, none⟩) M c, .int .i64 x] w' fun e w2 => e = .returned (.int .i64 (-1)) ∧ w2 = w' from by
    have h := idx_i b M c k x w' (by omega) hb
    rw [Lib.idxOf_miss (sixN k) M x (fun j hj => by rw [sixN_get k j (by omega)]; exact hx j hj)] at h
    exact h))
  have HL := Lib.hid hl
  clear hm hx
  have hM6 : (M : Int) ≤ 6 := by omega
  clear hM
  subst hrc
  unfold six at HA ⊢
  go_enter Try.func59, Try.ntmps59
  go_wp2_with fail
  have k0 : Blk (((w.alloc (.cells (.int .i64 (M : Nat) :: rt).toArray 57)).alloc (.cells (six6 k).toArray 58)).alloc (.cells z6l.toArray 58)) w.heap.size (.int .i64 (M : Nat) :: rt) 57 := Blk.alloc (Blk.alloc (Blk.newAt _ _ _ _ rfl) _) _
  have k1 : Blk (((w.alloc (.cells (.int .i64 (M : Nat) :: rt).toArray 57)).alloc (.cells (six6 k).toArray 58)).alloc (.cells z6l.toArray 58)) (w.heap.size + 1) (six6 k) 58 := Blk.alloc (Blk.newAt _ _ _ _ (by simp)) _
  have k2 : Blk (((w.alloc (.cells (.int .i64 (M : Nat) :: rt).toArray 57)).alloc (.cells (six6 k).toArray 58)).alloc (.cells z6l.toArray 58)) (w.heap.size + 1 + 1) z6l 58 := Blk.newAt _ _ _ _ (by simp)
  have hb0 : Below w.heap.size w (((w.alloc (.cells (.int .i64 (M : Nat) :: rt).toArray 57)).alloc (.cells (six6 k).toArray 58)).alloc (.cells z6l.toArray 58)) := (((Below.refl _ w).alloc (Nat.le_refl _) _).alloc (by simp) _).alloc (by simp; omega) _
  refine (HX.out _ _ 6 k1).mono ?_; rintro e w1 ⟨rfl, rfl⟩
  have K0 := Lib.hid k0
  have K1 := Lib.hid k1
  have K2 := Lib.hid k2
  have HB := Lib.hid hb0
  have eL : (((w.alloc (.cells (.int .i64 (M : Nat) :: rt).toArray 57)).alloc (.cells #[.int .i64 (k 0), .int .i64 (k 1), .int .i64 (k 2), .int .i64 (k 3), .int .i64 (k 4), .int .i64 (k 5)] 58)).alloc (.cells #[.int .i64 0, .int .i64 0, .int .i64 0, .int .i64 0, .int .i64 0, .int .i64 0] 58)) = (((w.alloc (.cells (.int .i64 (M : Nat) :: rt).toArray 57)).alloc (.cells (six6 k).toArray 58)).alloc (.cells z6l.toArray 58)) := rfl
  clear k0 k1 k2 hb0 HX
  generalize (((w.alloc (.cells (.int .i64 (M : Nat) :: rt).toArray 57)).alloc (.cells (six6 k).toArray 58)).alloc (.cells z6l.toArray 58)) = W0 at *
  clear eL
  go_wp2_with (first | (with_reducible refine wpList_loadB rfl 57 (.tmp 3) rfl w.heap.size ?_ (.int .i64 (M : Nat) :: rt) 57 K0.out d43 HU4.out.1 HU4.out.2 ?_ ?_) | (with_reducible refine wpList_loadB rfl 58 (.tmp 4) rfl (w.heap.size + 1) ?_ (six6 k) 58 K1.out d6 HU.out.1 HU.out.2 ?_ ?_))
  · rfl
  · rw [HL.out]; exact isz43
  · exact isz6c
  refine (HA.out W0).mono ?_; rintro e w3 ⟨rfl, b3⟩
  have bk := K2.out.below b3 K2.out.lt
  have HB3 := Lib.hid (bt HB.out b3)
  have r0 : w3.cell? ⟨w.heap.size + 1 + 1, 0, none⟩ = some (.int .i64 0) := bk.cell 0
  have r1 : w3.cell? ⟨w.heap.size + 1 + 1, 1, none⟩ = some (.int .i64 0) := bk.cell 1
  have r2 : w3.cell? ⟨w.heap.size + 1 + 1, 2, none⟩ = some (.int .i64 0) := bk.cell 2
  have r3 : w3.cell? ⟨w.heap.size + 1 + 1, 3, none⟩ = some (.int .i64 0) := bk.cell 3
  have r4 : w3.cell? ⟨w.heap.size + 1 + 1, 4, none⟩ = some (.int .i64 0) := bk.cell 4
  have r5 : w3.cell? ⟨w.heap.size + 1 + 1, 5, none⟩ = some (.int .i64 0) := bk.cell 5
  have q0 := bk.froz 0
  have q1 := bk.froz 1
  have q2 := bk.froz 2
  have q3 := bk.froz 3
  have q4 := bk.froz 4
  have q5 := bk.froz 5
  clear bk b3 HA
  generalize putA k m x (p 0) = v0 at *
  generalize putA k m x (p 1) = v1 at *
  generalize putA k m x (p 2) = v2 at *
  generalize putA k m x (p 3) = v3 at *
  generalize putA k m x (p 4) = v4 at *
  generalize putA k m x (p 5) = v5 at *
  go_wp2
  refine bodyPost_ret (v := .tuple #[.agg #[.int .i64 v0, .int .i64 v1, .int .i64 v2, .int .i64 v3, .int .i64 v4, .int .i64 v5], .bool false]) (by simp [results, Try.results59, go_sem, r0, r1, r2, r3, r4, r5, q0, q1, q2, q3, q4, q5]) rfl ⟨rfl, ?_⟩
  have hb5 := HB3.out
  go_grown
end Go.Proofs.Ytimfekedpgllhaa.Pv
