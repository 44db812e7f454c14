/- The makers of protocols: the program. -/
import Derived.Test.YtmmjdmgnmlhjeaaCmsk
namespace Go.Proofs.Ytmmjdmgnmlhjeaa.Pt
open Go.RowKit
theorem ne_some {a b : Nat} (h : a ≠ b) : (some a : Option Nat) ≠ some b := fun e => h (Option.some.inj e)
theorem kne {g r n c : Nat} (h : g ≠ r) : ∀ k, (Value.slice (some ⟨g, 0, none⟩) n c).ownBlock = some k → some k ≠ some r := fun k hk e => h ((Option.some.inj hk).trans (Option.some.inj e))
set_option maxHeartbeats 4000000 in
set_option maxRecDepth 100000 in
theorem msi_iF (w : World) : Calls Try.prog 10 #[.bool false] w (CopX (tb 1 1 2 3 false false false false) (tb 3 3 3 3 false false false false) (tb 0 0 0 0 false false false true) (tb 0 1 1 1 false false false true) (tb 0 0 0 0 false false false true) w) := by
  have H0 := Lib.hid (fun (w : World) (n : Nat) (hn : w.heap.size = n) => (show Calls Try.prog 34 #[.slice (some ⟨n, 0, none⟩) 4 4] (w.alloc (.cells #[.int .i64 1, .int .i64 1, .int .i64 2, .int .i64 3] 2)) (RowC (tb 1 1 2 3 false false false false) w) from by subst hn; exact call_i w 1 1 2 3))
  have H1 := Lib.hid (fun (w : World) (n : Nat) (hn : w.heap.size = n) => (show Calls Try.prog 34 #[.slice (some ⟨n, 0, none⟩) 4 4] (w.alloc (.cells #[.int .i64 3, .int .i64 3, .int .i64 3, .int .i64 3] 2)) (RowC (tb 3 3 3 3 false false false false) w) from by subst hn; exact call_i w 3 3 3 3))
  have H2 := Lib.hid (fun (w : World) (n : Nat) (hn : w.heap.size = n) => (show Calls Try.prog 34 #[.slice (some ⟨n, 0, none⟩) 4 4] (w.alloc (.cells #[.int .i64 0, .int .i64 0, .int .i64 0, .int .i64 0] 2)) (RowC (tb 0 0 0 0 false false false false) w) from by subst hn; exact call_i w 0 0 0 0))
  have H3 := Lib.hid (fun (w : World) (n : Nat) (hn : w.heap.size = n) => (show Calls Try.prog 34 #[.slice (some ⟨n, 0, none⟩) 4 4] (w.alloc (.cells #[.int .i64 0, .int .i64 1, .int .i64 1, .int .i64 1] 2)) (RowC (tb 0 1 1 1 false false false false) w) from by subst hn; exact call_i w 0 1 1 1))
  have H4 := Lib.hid (fun (w : World) (n : Nat) (hn : w.heap.size = n) => (show Calls Try.prog 34 #[.slice (some ⟨n, 0, none⟩) 4 4] (w.alloc (.cells #[.int .i64 0, .int .i64 0, .int .i64 0, .int .i64 0] 2)) (RowC (tb 0 0 0 0 false false false false) w) from by subst hn; exact call_i w 0 0 0 0))
  go_enter Try.func10, Try.ntmps10
  go_wp2_with fail
  have bz : Blk (w.alloc (.cells #[.slice none 0 0, .slice none 0 0, .slice none 0 0, .slice none 0 0, .slice none 0 0] 24)) w.heap.size [.slice none 0 0, .slice none 0 0, .slice none 0 0, .slice none 0 0, .slice none 0 0] 24 := Blk.newAt w _ _ _ rfl
  have hz0 : (w.alloc (.cells #[.slice none 0 0, .slice none 0 0, .slice none 0 0, .slice none 0 0, .slice none 0 0] 24)).heap.size = w.heap.size + 1 := Array.size_push _
  have b0 : Below w.heap.size w (w.alloc (.cells #[.slice none 0 0, .slice none 0 0, .slice none 0 0, .slice none 0 0, .slice none 0 0] 24)) := (Below.refl _ _).alloc (Nat.le_refl _) _
  generalize hW : w.alloc (.cells #[.slice none 0 0, .slice none 0 0, .slice none 0 0, .slice none 0 0, .slice none 0 0] 24) = w0 at *
  clear hW
  have BB0 := Lib.hid b0
  have s0 := bz.lt
  clear b0
  refine (H0.out w0 _ hz0).mono ?_; rintro e w1 ⟨g0, c0, rfl, o, ⟨l0, r0⟩, b⟩
  have bz := bz.below b bz.lt
  have BB1 := Lib.hid (bt BB0.out b)
  have O0 := Lib.hid o
  have s1 := b.size
  clear o b
  go_wp2_with fail
  refine (H1.out w1 _ rfl).mono ?_; rintro e w2 ⟨g1, c1, rfl, o, ⟨l1, r1⟩, b⟩
  have bz := bz.below b bz.lt
  have BB2 := Lib.hid (bt BB1.out b)
  have O0 := Lib.hid (Ru.OwnR.below O0.out b (Nat.le_refl _))
  have O1 := Lib.hid o
  have s2 := b.size
  clear o b
  go_wp2_with fail
  refine (H2.out w2 _ rfl).mono ?_; rintro e w3 ⟨g2, c2, rfl, o, ⟨l2, r2⟩, b⟩
  have bz := bz.below b bz.lt
  have BB3 := Lib.hid (bt BB2.out b)
  have O0 := Lib.hid (Ru.OwnR.below O0.out b (Nat.le_refl _))
  have O1 := Lib.hid (Ru.OwnR.below O1.out b (Nat.le_refl _))
  have O2 := Lib.hid o
  have s3 := b.size
  clear o b
  go_wp2_with fail
  refine (H3.out w3 _ rfl).mono ?_; rintro e w4 ⟨g3, c3, rfl, o, ⟨l3, r3⟩, b⟩
  have bz := bz.below b bz.lt
  have BB4 := Lib.hid (bt BB3.out b)
  have O0 := Lib.hid (Ru.OwnR.below O0.out b (Nat.le_refl _))
  have O1 := Lib.hid (Ru.OwnR.below O1.out b (Nat.le_refl _))
  have O2 := Lib.hid (Ru.OwnR.below O2.out b (Nat.le_refl _))
  have O3 := Lib.hid o
  have s4 := b.size
  clear o b
  go_wp2_with fail
  refine (H4.out w4 _ rfl).mono ?_; rintro e w5 ⟨g4, c4, rfl, o, ⟨l4, r4⟩, b⟩
  have bz := bz.below b bz.lt
  have BB5 := Lib.hid (bt BB4.out b)
  have O0 := Lib.hid (Ru.OwnR.below O0.out b (Nat.le_refl _))
  have O1 := Lib.hid (Ru.OwnR.below O1.out b (Nat.le_refl _))
  have O2 := Lib.hid (Ru.OwnR.below O2.out b (Nat.le_refl _))
  have O3 := Lib.hid (Ru.OwnR.below O3.out b (Nat.le_refl _))
  have O4 := Lib.hid o
  have s5 := b.size
  clear o b
  have sw : w.heap.size < w5.heap.size := by omega
  obtain ⟨V0, hV0⟩ : ∃ V0, V0 = w5.alloc (.cells #[.slice (some ⟨g0, 0, none⟩) 4 c0, .slice (some ⟨g1, 0, none⟩) 4 c1, .slice (some ⟨g2, 0, none⟩) 4 c2, .slice (some ⟨g3, 0, none⟩) 4 c3, .slice (some ⟨g4, 0, none⟩) 4 c4] 24) := ⟨_, rfl⟩
  have d0 : Below w5.heap.size w5 V0 := by rw [hV0]; exact (Below.refl _ _).alloc (Nat.le_refl _) _
  have bs : Blk V0 w5.heap.size [.slice (some ⟨g0, 0, none⟩) 4 c0, .slice (some ⟨g1, 0, none⟩) 4 c1, .slice (some ⟨g2, 0, none⟩) 4 c2, .slice (some ⟨g3, 0, none⟩) 4 c3, .slice (some ⟨g4, 0, none⟩) 4 c4] 24 := by rw [hV0]; exact Blk.newAt w5 _ _ _ rfl
  have zz : V0.heap.size = w5.heap.size + 1 := by rw [hV0]; exact Array.size_push _
  have bz := bz.below d0 bz.lt
  have O0 := Lib.hid (Ru.OwnR.below O0.out d0 (Nat.le_refl _))
  have O1 := Lib.hid (Ru.OwnR.below O1.out d0 (Nat.le_refl _))
  have O2 := Lib.hid (Ru.OwnR.below O2.out d0 (Nat.le_refl _))
  have O3 := Lib.hid (Ru.OwnR.below O3.out d0 (Nat.le_refl _))
  have O4 := Lib.hid (Ru.OwnR.below O4.out d0 (Nat.le_refl _))
  have CC := Lib.hid (bt BB5.out d0)
  clear d0
  obtain ⟨VL, hVL⟩ : ∃ X, X = V0.alloc (.cells #[.slice (some ⟨g2, 0, none⟩) 4 c2, .slice (some ⟨g3, 0, none⟩) 4 c3, .slice (some ⟨g4, 0, none⟩) 4 c4] 22) := ⟨_, rfl⟩
  have rb2 : V0.cell? ⟨w5.heap.size, 2, none⟩ = some (.slice (some ⟨g2, 0, none⟩) 4 c2) := bs.cell 2
  have rb3 : V0.cell? ⟨w5.heap.size, 3, none⟩ = some (.slice (some ⟨g3, 0, none⟩) 4 c3) := bs.cell 3
  have rb4 : V0.cell? ⟨w5.heap.size, 4, none⟩ = some (.slice (some ⟨g4, 0, none⟩) 4 c4) := bs.cell 4
  have d0 : Below V0.heap.size V0 VL := by rw [hVL]; exact (Below.refl _ _).alloc (Nat.le_refl _) _
  have bl : Blk VL (w5.heap.size + 1) [.slice (some ⟨g2, 0, none⟩) 4 c2, .slice (some ⟨g3, 0, none⟩) 4 c3, .slice (some ⟨g4, 0, none⟩) 4 c4] 22 := by rw [hVL]; exact Blk.newAt V0 _ _ _ (by omega)
  have zl : VL.heap.size = V0.heap.size + 1 := by rw [hVL]; exact Array.size_push _
  have zv : V0.heap.size = w5.heap.size + 1 := by omega
  have bz := bz.below d0 bz.lt
  have bs := bs.below d0 bs.lt
  have O0 := Lib.hid (Ru.OwnR.below O0.out d0 (Nat.le_refl _))
  have O1 := Lib.hid (Ru.OwnR.below O1.out d0 (Nat.le_refl _))
  have O2 := Lib.hid (Ru.OwnR.below O2.out d0 (Nat.le_refl _))
  have O3 := Lib.hid (Ru.OwnR.below O3.out d0 (Nat.le_refl _))
  have O4 := Lib.hid (Ru.OwnR.below O4.out d0 (Nat.le_refl _))
  have CC := Lib.hid (bt CC.out d0)
  clear d0
  clear H0 H1 H2 H3 H4 BB0 BB1 BB2 BB3 BB4 BB5
  have ne1 : ¬ w5.heap.size = w.heap.size := by omega
  have ne2 : ¬ w.heap.size = w5.heap.size := by omega
  go_wp2
  simp only [← hV0]; simp only [← hVL]
  clear hV0
  clear hVL
  refine wp_loop_rounds 4 ?_
  have ex : VL.cell? ⟨g2, 11, none⟩ = some (.bool false) := World.ownsRow.cellAt O2.out 11 (by decide)
  have fx : VL.frozen? ⟨g2, 11, none⟩ = false := World.ownsRow.frozenAt O2.out 11
  have rl : VL.cell? ⟨w5.heap.size + 1, 0, none⟩ = some (.slice (some ⟨g2, 0, none⟩) 4 c2) := bl.cell 0
  have q := Ru.OwnR.put (w := VL) (rs := (tb 0 0 0 0 false false false false)) (ys := (tb 0 0 0 0 false false false true)) O2.out 11 (.bool true) (by rfl) rfl
  obtain ⟨V1, hV1⟩ : ∃ X, X = VL.setCell ⟨g2, 11, none⟩ (.bool true) := ⟨_, rfl⟩
  rw [← hV1] at q
  have szV1 : V1.heap.size = VL.heap.size := by rw [hV1]; simp
  have bz : Blk V1 w.heap.size [.slice none 0 0, .slice none 0 0, .slice none 0 0, .slice none 0 0, .slice none 0 0] 24 := (q.2.block w.heap.size (by omega) (ne_some (by omega))).trans bz
  have bs : Blk V1 w5.heap.size [.slice (some ⟨g0, 0, none⟩) 4 c0, .slice (some ⟨g1, 0, none⟩) 4 c1, .slice (some ⟨g2, 0, none⟩) 4 c2, .slice (some ⟨g3, 0, none⟩) 4 c3, .slice (some ⟨g4, 0, none⟩) 4 c4] 24 := (q.2.block w5.heap.size (by omega) (ne_some (by omega))).trans bs
  have bl : Blk V1 (w5.heap.size + 1) [.slice (some ⟨g2, 0, none⟩) 4 c2, .slice (some ⟨g3, 0, none⟩) 4 c3, .slice (some ⟨g4, 0, none⟩) 4 c4] 22 := (q.2.block (w5.heap.size + 1) (by omega) (ne_some (by omega))).trans bl
  have O0 := Lib.hid (Ru.OwnR.kept O0.out q.2 (kne (by omega)))
  have O1 := Lib.hid (Ru.OwnR.kept O1.out q.2 (kne (by omega)))
  have O2 := Lib.hid q.1
  have O3 := Lib.hid (Ru.OwnR.kept O3.out q.2 (kne (by omega)))
  have O4 := Lib.hid (Ru.OwnR.kept O4.out q.2 (kne (by omega)))
  have CC := Lib.hid (CC.out.grown q.2 (by omega) (fun k hk => by have h9 : g2 = k := Option.some.inj hk; omega))
  clear q
  rw [rounds_succ]
  go_wp2
  simp only [← hV1]
  clear hV1 ex fx rl
  have ex : V1.cell? ⟨g3, 11, none⟩ = some (.bool false) := World.ownsRow.cellAt O3.out 11 (by decide)
  have fx : V1.frozen? ⟨g3, 11, none⟩ = false := World.ownsRow.frozenAt O3.out 11
  have rl : V1.cell? ⟨w5.heap.size + 1, 1, none⟩ = some (.slice (some ⟨g3, 0, none⟩) 4 c3) := bl.cell 1
  have q := Ru.OwnR.put (w := V1) (rs := (tb 0 1 1 1 false false false false)) (ys := (tb 0 1 1 1 false false false true)) O3.out 11 (.bool true) (by rfl) rfl
  obtain ⟨V2, hV2⟩ : ∃ X, X = V1.setCell ⟨g3, 11, none⟩ (.bool true) := ⟨_, rfl⟩
  rw [← hV2] at q
  have szV2 : V2.heap.size = V1.heap.size := by rw [hV2]; simp
  have bz : Blk V2 w.heap.size [.slice none 0 0, .slice none 0 0, .slice none 0 0, .slice none 0 0, .slice none 0 0] 24 := (q.2.block w.heap.size (by omega) (ne_some (by omega))).trans bz
  have bs : Blk V2 w5.heap.size [.slice (some ⟨g0, 0, none⟩) 4 c0, .slice (some ⟨g1, 0, none⟩) 4 c1, .slice (some ⟨g2, 0, none⟩) 4 c2, .slice (some ⟨g3, 0, none⟩) 4 c3, .slice (some ⟨g4, 0, none⟩) 4 c4] 24 := (q.2.block w5.heap.size (by omega) (ne_some (by omega))).trans bs
  have bl : Blk V2 (w5.heap.size + 1) [.slice (some ⟨g2, 0, none⟩) 4 c2, .slice (some ⟨g3, 0, none⟩) 4 c3, .slice (some ⟨g4, 0, none⟩) 4 c4] 22 := (q.2.block (w5.heap.size + 1) (by omega) (ne_some (by omega))).trans bl
  have O0 := Lib.hid (Ru.OwnR.kept O0.out q.2 (kne (by omega)))
  have O1 := Lib.hid (Ru.OwnR.kept O1.out q.2 (kne (by omega)))
  have O2 := Lib.hid (Ru.OwnR.kept O2.out q.2 (kne (by omega)))
  have O3 := Lib.hid q.1
  have O4 := Lib.hid (Ru.OwnR.kept O4.out q.2 (kne (by omega)))
  have CC := Lib.hid (CC.out.grown q.2 (by omega) (fun k hk => by have h9 : g3 = k := Option.some.inj hk; omega))
  clear q
  rw [rounds_succ]
  go_wp2
  simp only [← hV2]
  clear hV2 ex fx rl
  have ex : V2.cell? ⟨g4, 11, none⟩ = some (.bool false) := World.ownsRow.cellAt O4.out 11 (by decide)
  have fx : V2.frozen? ⟨g4, 11, none⟩ = false := World.ownsRow.frozenAt O4.out 11
  have rl : V2.cell? ⟨w5.heap.size + 1, 2, none⟩ = some (.slice (some ⟨g4, 0, none⟩) 4 c4) := bl.cell 2
  have q := Ru.OwnR.put (w := V2) (rs := (tb 0 0 0 0 false false false false)) (ys := (tb 0 0 0 0 false false false true)) O4.out 11 (.bool true) (by rfl) rfl
  obtain ⟨V3, hV3⟩ : ∃ X, X = V2.setCell ⟨g4, 11, none⟩ (.bool true) := ⟨_, rfl⟩
  rw [← hV3] at q
  have szV3 : V3.heap.size = V2.heap.size := by rw [hV3]; simp
  have bz : Blk V3 w.heap.size [.slice none 0 0, .slice none 0 0, .slice none 0 0, .slice none 0 0, .slice none 0 0] 24 := (q.2.block w.heap.size (by omega) (ne_some (by omega))).trans bz
  have bs : Blk V3 w5.heap.size [.slice (some ⟨g0, 0, none⟩) 4 c0, .slice (some ⟨g1, 0, none⟩) 4 c1, .slice (some ⟨g2, 0, none⟩) 4 c2, .slice (some ⟨g3, 0, none⟩) 4 c3, .slice (some ⟨g4, 0, none⟩) 4 c4] 24 := (q.2.block w5.heap.size (by omega) (ne_some (by omega))).trans bs
  have bl : Blk V3 (w5.heap.size + 1) [.slice (some ⟨g2, 0, none⟩) 4 c2, .slice (some ⟨g3, 0, none⟩) 4 c3, .slice (some ⟨g4, 0, none⟩) 4 c4] 22 := (q.2.block (w5.heap.size + 1) (by omega) (ne_some (by omega))).trans bl
  have O0 := Lib.hid (Ru.OwnR.kept O0.out q.2 (kne (by omega)))
  have O1 := Lib.hid (Ru.OwnR.kept O1.out q.2 (kne (by omega)))
  have O2 := Lib.hid (Ru.OwnR.kept O2.out q.2 (kne (by omega)))
  have O3 := Lib.hid (Ru.OwnR.kept O3.out q.2 (kne (by omega)))
  have O4 := Lib.hid q.1
  have CC := Lib.hid (CC.out.grown q.2 (by omega) (fun k hk => by have h9 : g4 = k := Option.some.inj hk; omega))
  clear q
  rw [rounds_succ]
  go_wp2
  simp only [← hV3]
  clear hV3 ex fx rl
  have x0 : V3.cell? ⟨w.heap.size, 0, none⟩ = some (.slice none 0 0) := bz.cell 0
  have y0 := bz.froz 0
  have z0 : V3.cell? ⟨w5.heap.size, 0, none⟩ = some (.slice (some ⟨g0, 0, none⟩) 4 c0) := bs.cell 0
  have x1 : V3.cell? ⟨w.heap.size, 1, none⟩ = some (.slice none 0 0) := bz.cell 1
  have y1 := bz.froz 1
  have z1 : V3.cell? ⟨w5.heap.size, 1, none⟩ = some (.slice (some ⟨g1, 0, none⟩) 4 c1) := bs.cell 1
  have x2 : V3.cell? ⟨w.heap.size, 2, none⟩ = some (.slice none 0 0) := bz.cell 2
  have y2 := bz.froz 2
  have z2 : V3.cell? ⟨w5.heap.size, 2, none⟩ = some (.slice (some ⟨g2, 0, none⟩) 4 c2) := bs.cell 2
  have x3 : V3.cell? ⟨w.heap.size, 3, none⟩ = some (.slice none 0 0) := bz.cell 3
  have y3 := bz.froz 3
  have z3 : V3.cell? ⟨w5.heap.size, 3, none⟩ = some (.slice (some ⟨g3, 0, none⟩) 4 c3) := bs.cell 3
  have x4 : V3.cell? ⟨w.heap.size, 4, none⟩ = some (.slice none 0 0) := bz.cell 4
  have y4 := bz.froz 4
  have z4 : V3.cell? ⟨w5.heap.size, 4, none⟩ = some (.slice (some ⟨g4, 0, none⟩) 4 c4) := bs.cell 4
  have HP := Lib.hid (fun (wz : World) (X0 X1 X2 X3 X4 : Value) (e : wz = (((((V3.setCell ⟨w.heap.size, 0, none⟩ X0).setCell ⟨w.heap.size, 1, none⟩ X1).setCell ⟨w.heap.size, 2, none⟩ X2).setCell ⟨w.heap.size, 3, none⟩ X3).setCell ⟨w.heap.size, 4, none⟩ X4)) => (show OwnX wz w.heap.size wz.heap.size (.agg #[.slice (some ⟨g0, 0, none⟩) 4 c0, .slice (some ⟨g1, 0, none⟩) 4 c1, .slice (some ⟨g2, 0, none⟩) 4 c2, .slice (some ⟨g3, 0, none⟩) 4 c3, .slice (some ⟨g4, 0, none⟩) 4 c4]) (tb 1 1 2 3 false false false false) (tb 3 3 3 3 false false false false) (tb 0 0 0 0 false false false true) (tb 0 1 1 1 false false false true) (tb 0 0 0 0 false false false true) ∧ Below w.heap.size w wz from by
    have hh : ∀ i, w.heap.size < i → wz.heap[i]? = V3.heap[i]? := fun i hi => by
      rw [e, heap_set _ _ _ _ i (by omega), heap_set _ _ _ _ i (by omega), heap_set _ _ _ _ i (by omega), heap_set _ _ _ _ i (by omega), heap_set _ _ _ _ i (by omega)]
    have hz : wz.heap.size = V3.heap.size := by rw [e]; simp
    refine ⟨⟨some ⟨g0, 0, none⟩, c0, some ⟨g1, 0, none⟩, c1, some ⟨g2, 0, none⟩, c2, some ⟨g3, 0, none⟩, c3, some ⟨g4, 0, none⟩, c4, w1.heap.size, w2.heap.size, w3.heap.size, w4.heap.size, rfl, by omega, by omega, by omega, by omega, by omega, by omega, ?_, fun k hk => by have h9 : g0 = k := Option.some.inj hk; omega, ?_, fun k hk => by have h9 : g1 = k := Option.some.inj hk; omega, ?_, fun k hk => by have h9 : g2 = k := Option.some.inj hk; omega, ?_, fun k hk => by have h9 : g3 = k := Option.some.inj hk; omega, ?_, fun k hk => by have h9 : g4 = k := Option.some.inj hk; omega⟩, ?_⟩
    · exact Ru.OwnR.mono (Ru.OwnR.same O0.out (w' := wz) fun b hb _ => hh b (by have h9 : g0 = b := Option.some.inj hb; omega)) (by omega)
    · exact Ru.OwnR.mono (Ru.OwnR.same O1.out (w' := wz) fun b hb _ => hh b (by have h9 : g1 = b := Option.some.inj hb; omega)) (by omega)
    · exact Ru.OwnR.mono (Ru.OwnR.same O2.out (w' := wz) fun b hb _ => hh b (by have h9 : g2 = b := Option.some.inj hb; omega)) (by omega)
    · exact Ru.OwnR.mono (Ru.OwnR.same O3.out (w' := wz) fun b hb _ => hh b (by have h9 : g3 = b := Option.some.inj hb; omega)) (by omega)
    · exact Ru.OwnR.mono (Ru.OwnR.same O4.out (w' := wz) fun b hb _ => hh b (by have h9 : g4 = b := Option.some.inj hb; omega)) (by omega)
    · rw [e]
      exact (((((CC.out.setCell (p := ⟨_, 0, none⟩) (by simp) _).setCell (p := ⟨_, 1, none⟩) (by simp) _).setCell (p := ⟨_, 2, none⟩) (by simp) _).setCell (p := ⟨_, 3, none⟩) (by simp) _).setCell (p := ⟨_, 4, none⟩) (by simp) _)))
  clear O0 O1 O2 O3 O4 CC
  rw [rounds_succ]
  go_wp2
  refine bodyPost_ret (v := .agg #[.slice (some ⟨g0, 0, none⟩) 4 c0, .slice (some ⟨g1, 0, none⟩) 4 c1, .slice (some ⟨g2, 0, none⟩) 4 c2, .slice (some ⟨g3, 0, none⟩) 4 c3, .slice (some ⟨g4, 0, none⟩) 4 c4]) (by simp [results, Try.results10, go_sem, x0, y0, z0, x1, y1, z1, x2, y2, z2, x3, y3, z3, x4, y4, z4]) rfl ?_
  obtain ⟨h1, h2⟩ := HP.out _ _ _ _ _ _ rfl
  exact ⟨_, rfl, h1, h2⟩
set_option maxHeartbeats 4000000 in
set_option maxRecDepth 100000 in
theorem thr_iF (w : World) : Calls Try.prog 15 #[.bool false] w (CopX (tb 1 1 1 1 false false false false) (tb 0 1 1 1 true true true true) (tb 0 0 0 0 false false false false) (tb 0 1 1 1 false false false false) (tb 0 0 0 0 false false false false) w) := by
  have H0 := Lib.hid (fun (w : World) (n : Nat) (hn : w.heap.size = n) => (show Calls Try.prog 34 #[.slice (some ⟨n, 0, none⟩) 4 4] (w.alloc (.cells #[.int .i64 1, .int .i64 1, .int .i64 1, .int .i64 1] 2)) (RowC (tb 1 1 1 1 false false false false) w) from by subst hn; exact call_i w 1 1 1 1))
  have H1 := Lib.hid (fun (w : World) (n : Nat) (hn : w.heap.size = n) => (show Calls Try.prog 34 #[.slice (some ⟨n, 0, none⟩) 4 4] (w.alloc (.cells #[.int .i64 0, .int .i64 1, .int .i64 1, .int .i64 1] 2)) (RowC (tb 0 1 1 1 false false false false) w) from by subst hn; exact call_i w 0 1 1 1))
  have H2 := Lib.hid (fun (w : World) (n : Nat) (hn : w.heap.size = n) => (show Calls Try.prog 34 #[.slice (some ⟨n, 0, none⟩) 4 4] (w.alloc (.cells #[.int .i64 0, .int .i64 0, .int .i64 0, .int .i64 0] 2)) (RowC (tb 0 0 0 0 false false false false) w) from by subst hn; exact call_i w 0 0 0 0))
  have H3 := Lib.hid (fun (w : World) (n : Nat) (hn : w.heap.size = n) => (show Calls Try.prog 34 #[.slice (some ⟨n, 0, none⟩) 4 4] (w.alloc (.cells #[.int .i64 0, .int .i64 1, .int .i64 1, .int .i64 1] 2)) (RowC (tb 0 1 1 1 false false false false) w) from by subst hn; exact call_i w 0 1 1 1))
  have H4 := Lib.hid (fun (w : World) (n : Nat) (hn : w.heap.size = n) => (show Calls Try.prog 34 #[.slice (some ⟨n, 0, none⟩) 4 4] (w.alloc (.cells #[.int .i64 0, .int .i64 0, .int .i64 0, .int .i64 0] 2)) (RowC (tb 0 0 0 0 false false false false) w) from by subst hn; exact call_i w 0 0 0 0))
  go_enter Try.func15, Try.ntmps15
  go_wp2_with fail
  have bz : Blk (w.alloc (.cells #[.slice none 0 0, .slice none 0 0, .slice none 0 0, .slice none 0 0, .slice none 0 0] 24)) w.heap.size [.slice none 0 0, .slice none 0 0, .slice none 0 0, .slice none 0 0, .slice none 0 0] 24 := Blk.newAt w _ _ _ rfl
  have hz0 : (w.alloc (.cells #[.slice none 0 0, .slice none 0 0, .slice none 0 0, .slice none 0 0, .slice none 0 0] 24)).heap.size = w.heap.size + 1 := Array.size_push _
  have b0 : Below w.heap.size w (w.alloc (.cells #[.slice none 0 0, .slice none 0 0, .slice none 0 0, .slice none 0 0, .slice none 0 0] 24)) := (Below.refl _ _).alloc (Nat.le_refl _) _
  generalize hW : w.alloc (.cells #[.slice none 0 0, .slice none 0 0, .slice none 0 0, .slice none 0 0, .slice none 0 0] 24) = w0 at *
  clear hW
  have BB0 := Lib.hid b0
  have s0 := bz.lt
  clear b0
  refine (H0.out w0 _ hz0).mono ?_; rintro e w1 ⟨g0, c0, rfl, o, ⟨l0, r0⟩, b⟩
  have bz := bz.below b bz.lt
  have BB1 := Lib.hid (bt BB0.out b)
  have O0 := Lib.hid o
  have s1 := b.size
  clear o b
  go_wp2_with fail
  refine (H1.out w1 _ rfl).mono ?_; rintro e w2 ⟨g1, c1, rfl, o, ⟨l1, r1⟩, b⟩
  have bz := bz.below b bz.lt
  have BB2 := Lib.hid (bt BB1.out b)
  have O0 := Lib.hid (Ru.OwnR.below O0.out b (Nat.le_refl _))
  have O1 := Lib.hid o
  have s2 := b.size
  clear o b
  go_wp2_with fail
  refine (H2.out w2 _ rfl).mono ?_; rintro e w3 ⟨g2, c2, rfl, o, ⟨l2, r2⟩, b⟩
  have bz := bz.below b bz.lt
  have BB3 := Lib.hid (bt BB2.out b)
  have O0 := Lib.hid (Ru.OwnR.below O0.out b (Nat.le_refl _))
  have O1 := Lib.hid (Ru.OwnR.below O1.out b (Nat.le_refl _))
  have O2 := Lib.hid o
  have s3 := b.size
  clear o b
  go_wp2_with fail
  refine (H3.out w3 _ rfl).mono ?_; rintro e w4 ⟨g3, c3, rfl, o, ⟨l3, r3⟩, b⟩
  have bz := bz.below b bz.lt
  have BB4 := Lib.hid (bt BB3.out b)
  have O0 := Lib.hid (Ru.OwnR.below O0.out b (Nat.le_refl _))
  have O1 := Lib.hid (Ru.OwnR.below O1.out b (Nat.le_refl _))
  have O2 := Lib.hid (Ru.OwnR.below O2.out b (Nat.le_refl _))
  have O3 := Lib.hid o
  have s4 := b.size
  clear o b
  go_wp2_with fail
  refine (H4.out w4 _ rfl).mono ?_; rintro e w5 ⟨g4, c4, rfl, o, ⟨l4, r4⟩, b⟩
  have bz := bz.below b bz.lt
  have BB5 := Lib.hid (bt BB4.out b)
  have O0 := Lib.hid (Ru.OwnR.below O0.out b (Nat.le_refl _))
  have O1 := Lib.hid (Ru.OwnR.below O1.out b (Nat.le_refl _))
  have O2 := Lib.hid (Ru.OwnR.below O2.out b (Nat.le_refl _))
  have O3 := Lib.hid (Ru.OwnR.below O3.out b (Nat.le_refl _))
  have O4 := Lib.hid o
  have s5 := b.size
  clear o b
  have sw : w.heap.size < w5.heap.size := by omega
  obtain ⟨V0, hV0⟩ : ∃ V0, V0 = w5.alloc (.cells #[.slice (some ⟨g0, 0, none⟩) 4 c0, .slice (some ⟨g1, 0, none⟩) 4 c1, .slice (some ⟨g2, 0, none⟩) 4 c2, .slice (some ⟨g3, 0, none⟩) 4 c3, .slice (some ⟨g4, 0, none⟩) 4 c4] 24) := ⟨_, rfl⟩
  have d0 : Below w5.heap.size w5 V0 := by rw [hV0]; exact (Below.refl _ _).alloc (Nat.le_refl _) _
  have bs : Blk V0 w5.heap.size [.slice (some ⟨g0, 0, none⟩) 4 c0, .slice (some ⟨g1, 0, none⟩) 4 c1, .slice (some ⟨g2, 0, none⟩) 4 c2, .slice (some ⟨g3, 0, none⟩) 4 c3, .slice (some ⟨g4, 0, none⟩) 4 c4] 24 := by rw [hV0]; exact Blk.newAt w5 _ _ _ rfl
  have zz : V0.heap.size = w5.heap.size + 1 := by rw [hV0]; exact Array.size_push _
  have bz := bz.below d0 bz.lt
  have O0 := Lib.hid (Ru.OwnR.below O0.out d0 (Nat.le_refl _))
  have O1 := Lib.hid (Ru.OwnR.below O1.out d0 (Nat.le_refl _))
  have O2 := Lib.hid (Ru.OwnR.below O2.out d0 (Nat.le_refl _))
  have O3 := Lib.hid (Ru.OwnR.below O3.out d0 (Nat.le_refl _))
  have O4 := Lib.hid (Ru.OwnR.below O4.out d0 (Nat.le_refl _))
  have CC := Lib.hid (bt BB5.out d0)
  clear d0
  have rd1 : V0.cell? ⟨w5.heap.size, 1, none⟩ = some (.slice (some ⟨g1, 0, none⟩) 4 c1) := bs.cell 1
  clear H0 H1 H2 H3 H4 BB0 BB1 BB2 BB3 BB4 BB5
  have ne1 : ¬ w5.heap.size = w.heap.size := by omega
  have ne2 : ¬ w.heap.size = w5.heap.size := by omega
  go_wp2
  simp only [← hV0]
  clear hV0
  refine wp_loop_rounds 5 ?_
  have ex : V0.cell? ⟨g1, 2, none⟩ = some (.bool false) := World.ownsRow.cellAt O1.out 2 (by decide)
  have fx : V0.frozen? ⟨g1, 2, none⟩ = false := World.ownsRow.frozenAt O1.out 2
  have rl : V0.cell? ⟨w5.heap.size, 1, none⟩ = some (.slice (some ⟨g1, 0, none⟩) 4 c1) := bs.cell 1
  have q := Ru.OwnR.put (w := V0) (rs := (tb 0 1 1 1 false false false false)) (ys := (tb 0 1 1 1 true false false false)) O1.out 2 (.bool true) (by rfl) rfl
  obtain ⟨V1, hV1⟩ : ∃ X, X = V0.setCell ⟨g1, 2, none⟩ (.bool true) := ⟨_, rfl⟩
  rw [← hV1] at q
  have szV1 : V1.heap.size = V0.heap.size := by rw [hV1]; simp
  have bz : Blk V1 w.heap.size [.slice none 0 0, .slice none 0 0, .slice none 0 0, .slice none 0 0, .slice none 0 0] 24 := (q.2.block w.heap.size (by omega) (ne_some (by omega))).trans bz
  have bs : Blk V1 w5.heap.size [.slice (some ⟨g0, 0, none⟩) 4 c0, .slice (some ⟨g1, 0, none⟩) 4 c1, .slice (some ⟨g2, 0, none⟩) 4 c2, .slice (some ⟨g3, 0, none⟩) 4 c3, .slice (some ⟨g4, 0, none⟩) 4 c4] 24 := (q.2.block w5.heap.size (by omega) (ne_some (by omega))).trans bs
  have O0 := Lib.hid (Ru.OwnR.kept O0.out q.2 (kne (by omega)))
  have O1 := Lib.hid q.1
  have O2 := Lib.hid (Ru.OwnR.kept O2.out q.2 (kne (by omega)))
  have O3 := Lib.hid (Ru.OwnR.kept O3.out q.2 (kne (by omega)))
  have O4 := Lib.hid (Ru.OwnR.kept O4.out q.2 (kne (by omega)))
  have CC := Lib.hid (CC.out.grown q.2 (by omega) (fun k hk => by have h9 : g1 = k := Option.some.inj hk; omega))
  clear q
  rw [rounds_succ]
  go_wp2
  simp only [← hV1]
  clear hV1 ex fx rl
  have ex : V1.cell? ⟨g1, 5, none⟩ = some (.bool false) := World.ownsRow.cellAt O1.out 5 (by decide)
  have fx : V1.frozen? ⟨g1, 5, none⟩ = false := World.ownsRow.frozenAt O1.out 5
  have rl : V1.cell? ⟨w5.heap.size, 1, none⟩ = some (.slice (some ⟨g1, 0, none⟩) 4 c1) := bs.cell 1
  have q := Ru.OwnR.put (w := V1) (rs := (tb 0 1 1 1 true false false false)) (ys := (tb 0 1 1 1 true true false false)) O1.out 5 (.bool true) (by rfl) rfl
  obtain ⟨V2, hV2⟩ : ∃ X, X = V1.setCell ⟨g1, 5, none⟩ (.bool true) := ⟨_, rfl⟩
  rw [← hV2] at q
  have szV2 : V2.heap.size = V1.heap.size := by rw [hV2]; simp
  have bz : Blk V2 w.heap.size [.slice none 0 0, .slice none 0 0, .slice none 0 0, .slice none 0 0, .slice none 0 0] 24 := (q.2.block w.heap.size (by omega) (ne_some (by omega))).trans bz
  have bs : Blk V2 w5.heap.size [.slice (some ⟨g0, 0, none⟩) 4 c0, .slice (some ⟨g1, 0, none⟩) 4 c1, .slice (some ⟨g2, 0, none⟩) 4 c2, .slice (some ⟨g3, 0, none⟩) 4 c3, .slice (some ⟨g4, 0, none⟩) 4 c4] 24 := (q.2.block w5.heap.size (by omega) (ne_some (by omega))).trans bs
  have O0 := Lib.hid (Ru.OwnR.kept O0.out q.2 (kne (by omega)))
  have O1 := Lib.hid q.1
  have O2 := Lib.hid (Ru.OwnR.kept O2.out q.2 (kne (by omega)))
  have O3 := Lib.hid (Ru.OwnR.kept O3.out q.2 (kne (by omega)))
  have O4 := Lib.hid (Ru.OwnR.kept O4.out q.2 (kne (by omega)))
  have CC := Lib.hid (CC.out.grown q.2 (by omega) (fun k hk => by have h9 : g1 = k := Option.some.inj hk; omega))
  clear q
  rw [rounds_succ]
  go_wp2
  simp only [← hV2]
  clear hV2 ex fx rl
  have ex : V2.cell? ⟨g1, 8, none⟩ = some (.bool false) := World.ownsRow.cellAt O1.out 8 (by decide)
  have fx : V2.frozen? ⟨g1, 8, none⟩ = false := World.ownsRow.frozenAt O1.out 8
  have rl : V2.cell? ⟨w5.heap.size, 1, none⟩ = some (.slice (some ⟨g1, 0, none⟩) 4 c1) := bs.cell 1
  have q := Ru.OwnR.put (w := V2) (rs := (tb 0 1 1 1 true true false false)) (ys := (tb 0 1 1 1 true true true false)) O1.out 8 (.bool true) (by rfl) rfl
  obtain ⟨V3, hV3⟩ : ∃ X, X = V2.setCell ⟨g1, 8, none⟩ (.bool true) := ⟨_, rfl⟩
  rw [← hV3] at q
  have szV3 : V3.heap.size = V2.heap.size := by rw [hV3]; simp
  have bz : Blk V3 w.heap.size [.slice none 0 0, .slice none 0 0, .slice none 0 0, .slice none 0 0, .slice none 0 0] 24 := (q.2.block w.heap.size (by omega) (ne_some (by omega))).trans bz
  have bs : Blk V3 w5.heap.size [.slice (some ⟨g0, 0, none⟩) 4 c0, .slice (some ⟨g1, 0, none⟩) 4 c1, .slice (some ⟨g2, 0, none⟩) 4 c2, .slice (some ⟨g3, 0, none⟩) 4 c3, .slice (some ⟨g4, 0, none⟩) 4 c4] 24 := (q.2.block w5.heap.size (by omega) (ne_some (by omega))).trans bs
  have O0 := Lib.hid (Ru.OwnR.kept O0.out q.2 (kne (by omega)))
  have O1 := Lib.hid q.1
  have O2 := Lib.hid (Ru.OwnR.kept O2.out q.2 (kne (by omega)))
  have O3 := Lib.hid (Ru.OwnR.kept O3.out q.2 (kne (by omega)))
  have O4 := Lib.hid (Ru.OwnR.kept O4.out q.2 (kne (by omega)))
  have CC := Lib.hid (CC.out.grown q.2 (by omega) (fun k hk => by have h9 : g1 = k := Option.some.inj hk; omega))
  clear q
  rw [rounds_succ]
  go_wp2
  simp only [← hV3]
  clear hV3 ex fx rl
  have ex : V3.cell? ⟨g1, 11, none⟩ = some (.bool false) := World.ownsRow.cellAt O1.out 11 (by decide)
  have fx : V3.frozen? ⟨g1, 11, none⟩ = false := World.ownsRow.frozenAt O1.out 11
  have rl : V3.cell? ⟨w5.heap.size, 1, none⟩ = some (.slice (some ⟨g1, 0, none⟩) 4 c1) := bs.cell 1
  have q := Ru.OwnR.put (w := V3) (rs := (tb 0 1 1 1 true true true false)) (ys := (tb 0 1 1 1 true true true true)) O1.out 11 (.bool true) (by rfl) rfl
  obtain ⟨V4, hV4⟩ : ∃ X, X = V3.setCell ⟨g1, 11, none⟩ (.bool true) := ⟨_, rfl⟩
  rw [← hV4] at q
  have szV4 : V4.heap.size = V3.heap.size := by rw [hV4]; simp
  have bz : Blk V4 w.heap.size [.slice none 0 0, .slice none 0 0, .slice none 0 0, .slice none 0 0, .slice none 0 0] 24 := (q.2.block w.heap.size (by omega) (ne_some (by omega))).trans bz
  have bs : Blk V4 w5.heap.size [.slice (some ⟨g0, 0, none⟩) 4 c0, .slice (some ⟨g1, 0, none⟩) 4 c1, .slice (some ⟨g2, 0, none⟩) 4 c2, .slice (some ⟨g3, 0, none⟩) 4 c3, .slice (some ⟨g4, 0, none⟩) 4 c4] 24 := (q.2.block w5.heap.size (by omega) (ne_some (by omega))).trans bs
  have O0 := Lib.hid (Ru.OwnR.kept O0.out q.2 (kne (by omega)))
  have O1 := Lib.hid q.1
  have O2 := Lib.hid (Ru.OwnR.kept O2.out q.2 (kne (by omega)))
  have O3 := Lib.hid (Ru.OwnR.kept O3.out q.2 (kne (by omega)))
  have O4 := Lib.hid (Ru.OwnR.kept O4.out q.2 (kne (by omega)))
  have CC := Lib.hid (CC.out.grown q.2 (by omega) (fun k hk => by have h9 : g1 = k := Option.some.inj hk; omega))
  clear q
  rw [rounds_succ]
  go_wp2
  simp only [← hV4]
  clear hV4 ex fx rl
  have x0 : V4.cell? ⟨w.heap.size, 0, none⟩ = some (.slice none 0 0) := bz.cell 0
  have y0 := bz.froz 0
  have z0 : V4.cell? ⟨w5.heap.size, 0, none⟩ = some (.slice (some ⟨g0, 0, none⟩) 4 c0) := bs.cell 0
  have x1 : V4.cell? ⟨w.heap.size, 1, none⟩ = some (.slice none 0 0) := bz.cell 1
  have y1 := bz.froz 1
  have z1 : V4.cell? ⟨w5.heap.size, 1, none⟩ = some (.slice (some ⟨g1, 0, none⟩) 4 c1) := bs.cell 1
  have x2 : V4.cell? ⟨w.heap.size, 2, none⟩ = some (.slice none 0 0) := bz.cell 2
  have y2 := bz.froz 2
  have z2 : V4.cell? ⟨w5.heap.size, 2, none⟩ = some (.slice (some ⟨g2, 0, none⟩) 4 c2) := bs.cell 2
  have x3 : V4.cell? ⟨w.heap.size, 3, none⟩ = some (.slice none 0 0) := bz.cell 3
  have y3 := bz.froz 3
  have z3 : V4.cell? ⟨w5.heap.size, 3, none⟩ = some (.slice (some ⟨g3, 0, none⟩) 4 c3) := bs.cell 3
  have x4 : V4.cell? ⟨w.heap.size, 4, none⟩ = some (.slice none 0 0) := bz.cell 4
  have y4 := bz.froz 4
  have z4 : V4.cell? ⟨w5.heap.size, 4, none⟩ = some (.slice (some ⟨g4, 0, none⟩) 4 c4) := bs.cell 4
  have HP := Lib.hid (fun (wz : World) (X0 X1 X2 X3 X4 : Value) (e : wz = (((((V4.setCell ⟨w.heap.size, 0, none⟩ X0).setCell ⟨w.heap.size, 1, none⟩ X1).setCell ⟨w.heap.size, 2, none⟩ X2).setCell ⟨w.heap.size, 3, none⟩ X3).setCell ⟨w.heap.size, 4, none⟩ X4)) => (show OwnX wz w.heap.size wz.heap.size (.agg #[.slice (some ⟨g0, 0, none⟩) 4 c0, .slice (some ⟨g1, 0, none⟩) 4 c1, .slice (some ⟨g2, 0, none⟩) 4 c2, .slice (some ⟨g3, 0, none⟩) 4 c3, .slice (some ⟨g4, 0, none⟩) 4 c4]) (tb 1 1 1 1 false false false false) (tb 0 1 1 1 true true true true) (tb 0 0 0 0 false false false false) (tb 0 1 1 1 false false false false) (tb 0 0 0 0 false false false false) ∧ Below w.heap.size w wz from by
    have hh : ∀ i, w.heap.size < i → wz.heap[i]? = V4.heap[i]? := fun i hi => by
      rw [e, heap_set _ _ _ _ i (by omega), heap_set _ _ _ _ i (by omega), heap_set _ _ _ _ i (by omega), heap_set _ _ _ _ i (by omega), heap_set _ _ _ _ i (by omega)]
    have hz : wz.heap.size = V4.heap.size := by rw [e]; simp
    refine ⟨⟨some ⟨g0, 0, none⟩, c0, some ⟨g1, 0, none⟩, c1, some ⟨g2, 0, none⟩, c2, some ⟨g3, 0, none⟩, c3, some ⟨g4, 0, none⟩, c4, w1.heap.size, w2.heap.size, w3.heap.size, w4.heap.size, rfl, by omega, by omega, by omega, by omega, by omega, by omega, ?_, fun k hk => by have h9 : g0 = k := Option.some.inj hk; omega, ?_, fun k hk => by have h9 : g1 = k := Option.some.inj hk; omega, ?_, fun k hk => by have h9 : g2 = k := Option.some.inj hk; omega, ?_, fun k hk => by have h9 : g3 = k := Option.some.inj hk; omega, ?_, fun k hk => by have h9 : g4 = k := Option.some.inj hk; omega⟩, ?_⟩
    · exact Ru.OwnR.mono (Ru.OwnR.same O0.out (w' := wz) fun b hb _ => hh b (by have h9 : g0 = b := Option.some.inj hb; omega)) (by omega)
    · exact Ru.OwnR.mono (Ru.OwnR.same O1.out (w' := wz) fun b hb _ => hh b (by have h9 : g1 = b := Option.some.inj hb; omega)) (by omega)
    · exact Ru.OwnR.mono (Ru.OwnR.same O2.out (w' := wz) fun b hb _ => hh b (by have h9 : g2 = b := Option.some.inj hb; omega)) (by omega)
    · exact Ru.OwnR.mono (Ru.OwnR.same O3.out (w' := wz) fun b hb _ => hh b (by have h9 : g3 = b := Option.some.inj hb; omega)) (by omega)
    · exact Ru.OwnR.mono (Ru.OwnR.same O4.out (w' := wz) fun b hb _ => hh b (by have h9 : g4 = b := Option.some.inj hb; omega)) (by omega)
    · rw [e]
      exact (((((CC.out.setCell (p := ⟨_, 0, none⟩) (by simp) _).setCell (p := ⟨_, 1, none⟩) (by simp) _).setCell (p := ⟨_, 2, none⟩) (by simp) _).setCell (p := ⟨_, 3, none⟩) (by simp) _).setCell (p := ⟨_, 4, none⟩) (by simp) _)))
  clear O0 O1 O2 O3 O4 CC
  rw [rounds_succ]
  go_wp2
  refine bodyPost_ret (v := .agg #[.slice (some ⟨g0, 0, none⟩) 4 c0, .slice (some ⟨g1, 0, none⟩) 4 c1, .slice (some ⟨g2, 0, none⟩) 4 c2, .slice (some ⟨g3, 0, none⟩) 4 c3, .slice (some ⟨g4, 0, none⟩) 4 c4]) (by simp [results, Try.results15, go_sem, x0, y0, z0, x1, y1, z1, x2, y2, z2, x3, y3, z3, x4, y4, z4]) rfl ?_
  obtain ⟨h1, h2⟩ := HP.out _ _ _ _ _ _ rfl
  exact ⟨_, rfl, h1, h2⟩
set_option maxHeartbeats 4000000 in
set_option maxRecDepth 100000 in
theorem thr_iT (w : World) : Calls Try.prog 15 #[.bool true] w (CopX (tb 1 1 1 1 false false false false) (tb 1 1 1 1 true true true true) (tb 0 0 0 0 false false false false) (tb 0 1 1 1 false false false false) (tb 0 0 0 0 false false false false) w) := by
  have H0 := Lib.hid (fun (w : World) (n : Nat) (hn : w.heap.size = n) => (show Calls Try.prog 34 #[.slice (some ⟨n, 0, none⟩) 4 4] (w.alloc (.cells #[.int .i64 1, .int .i64 1, .int .i64 1, .int .i64 1] 2)) (RowC (tb 1 1 1 1 false false false false) w) from by subst hn; exact call_i w 1 1 1 1))
  have H1 := Lib.hid (fun (w : World) (n : Nat) (hn : w.heap.size = n) => (show Calls Try.prog 34 #[.slice (some ⟨n, 0, none⟩) 4 4] (w.alloc (.cells #[.int .i64 0, .int .i64 1, .int .i64 1, .int .i64 1] 2)) (RowC (tb 0 1 1 1 false false false false) w) from by subst hn; exact call_i w 0 1 1 1))
  have H2 := Lib.hid (fun (w : World) (n : Nat) (hn : w.heap.size = n) => (show Calls Try.prog 34 #[.slice (some ⟨n, 0, none⟩) 4 4] (w.alloc (.cells #[.int .i64 0, .int .i64 0, .int .i64 0, .int .i64 0] 2)) (RowC (tb 0 0 0 0 false false false false) w) from by subst hn; exact call_i w 0 0 0 0))
  have H3 := Lib.hid (fun (w : World) (n : Nat) (hn : w.heap.size = n) => (show Calls Try.prog 34 #[.slice (some ⟨n, 0, none⟩) 4 4] (w.alloc (.cells #[.int .i64 0, .int .i64 1, .int .i64 1, .int .i64 1] 2)) (RowC (tb 0 1 1 1 false false false false) w) from by subst hn; exact call_i w 0 1 1 1))
  have H4 := Lib.hid (fun (w : World) (n : Nat) (hn : w.heap.size = n) => (show Calls Try.prog 34 #[.slice (some ⟨n, 0, none⟩) 4 4] (w.alloc (.cells #[.int .i64 0, .int .i64 0, .int .i64 0, .int .i64 0] 2)) (RowC (tb 0 0 0 0 false false false false) w) from by subst hn; exact call_i w 0 0 0 0))
  go_enter Try.func15, Try.ntmps15
  go_wp2_with fail
  have bz : Blk (w.alloc (.cells #[.slice none 0 0, .slice none 0 0, .slice none 0 0, .slice none 0 0, .slice none 0 0] 24)) w.heap.size [.slice none 0 0, .slice none 0 0, .slice none 0 0, .slice none 0 0, .slice none 0 0] 24 := Blk.newAt w _ _ _ rfl
  have hz0 : (w.alloc (.cells #[.slice none 0 0, .slice none 0 0, .slice none 0 0, .slice none 0 0, .slice none 0 0] 24)).heap.size = w.heap.size + 1 := Array.size_push _
  have b0 : Below w.heap.size w (w.alloc (.cells #[.slice none 0 0, .slice none 0 0, .slice none 0 0, .slice none 0 0, .slice none 0 0] 24)) := (Below.refl _ _).alloc (Nat.le_refl _) _
  generalize hW : w.alloc (.cells #[.slice none 0 0, .slice none 0 0, .slice none 0 0, .slice none 0 0, .slice none 0 0] 24) = w0 at *
  clear hW
  have BB0 := Lib.hid b0
  have s0 := bz.lt
  clear b0
  refine (H0.out w0 _ hz0).mono ?_; rintro e w1 ⟨g0, c0, rfl, o, ⟨l0, r0⟩, b⟩
  have bz := bz.below b bz.lt
  have BB1 := Lib.hid (bt BB0.out b)
  have O0 := Lib.hid o
  have s1 := b.size
  clear o b
  go_wp2_with fail
  refine (H1.out w1 _ rfl).mono ?_; rintro e w2 ⟨g1, c1, rfl, o, ⟨l1, r1⟩, b⟩
  have bz := bz.below b bz.lt
  have BB2 := Lib.hid (bt BB1.out b)
  have O0 := Lib.hid (Ru.OwnR.below O0.out b (Nat.le_refl _))
  have O1 := Lib.hid o
  have s2 := b.size
  clear o b
  go_wp2_with fail
  refine (H2.out w2 _ rfl).mono ?_; rintro e w3 ⟨g2, c2, rfl, o, ⟨l2, r2⟩, b⟩
  have bz := bz.below b bz.lt
  have BB3 := Lib.hid (bt BB2.out b)
  have O0 := Lib.hid (Ru.OwnR.below O0.out b (Nat.le_refl _))
  have O1 := Lib.hid (Ru.OwnR.below O1.out b (Nat.le_refl _))
  have O2 := Lib.hid o
  have s3 := b.size
  clear o b
  go_wp2_with fail
  refine (H3.out w3 _ rfl).mono ?_; rintro e w4 ⟨g3, c3, rfl, o, ⟨l3, r3⟩, b⟩
  have bz := bz.below b bz.lt
  have BB4 := Lib.hid (bt BB3.out b)
  have O0 := Lib.hid (Ru.OwnR.below O0.out b (Nat.le_refl _))
  have O1 := Lib.hid (Ru.OwnR.below O1.out b (Nat.le_refl _))
  have O2 := Lib.hid (Ru.OwnR.below O2.out b (Nat.le_refl _))
  have O3 := Lib.hid o
  have s4 := b.size
  clear o b
  go_wp2_with fail
  refine (H4.out w4 _ rfl).mono ?_; rintro e w5 ⟨g4, c4, rfl, o, ⟨l4, r4⟩, b⟩
  have bz := bz.below b bz.lt
  have BB5 := Lib.hid (bt BB4.out b)
  have O0 := Lib.hid (Ru.OwnR.below O0.out b (Nat.le_refl _))
  have O1 := Lib.hid (Ru.OwnR.below O1.out b (Nat.le_refl _))
  have O2 := Lib.hid (Ru.OwnR.below O2.out b (Nat.le_refl _))
  have O3 := Lib.hid (Ru.OwnR.below O3.out b (Nat.le_refl _))
  have O4 := Lib.hid o
  have s5 := b.size
  clear o b
  have sw : w.heap.size < w5.heap.size := by omega
  obtain ⟨V0, hV0⟩ : ∃ V0, V0 = w5.alloc (.cells #[.slice (some ⟨g0, 0, none⟩) 4 c0, .slice (some ⟨g1, 0, none⟩) 4 c1, .slice (some ⟨g2, 0, none⟩) 4 c2, .slice (some ⟨g3, 0, none⟩) 4 c3, .slice (some ⟨g4, 0, none⟩) 4 c4] 24) := ⟨_, rfl⟩
  have d0 : Below w5.heap.size w5 V0 := by rw [hV0]; exact (Below.refl _ _).alloc (Nat.le_refl _) _
  have bs : Blk V0 w5.heap.size [.slice (some ⟨g0, 0, none⟩) 4 c0, .slice (some ⟨g1, 0, none⟩) 4 c1, .slice (some ⟨g2, 0, none⟩) 4 c2, .slice (some ⟨g3, 0, none⟩) 4 c3, .slice (some ⟨g4, 0, none⟩) 4 c4] 24 := by rw [hV0]; exact Blk.newAt w5 _ _ _ rfl
  have zz : V0.heap.size = w5.heap.size + 1 := by rw [hV0]; exact Array.size_push _
  have bz := bz.below d0 bz.lt
  have O0 := Lib.hid (Ru.OwnR.below O0.out d0 (Nat.le_refl _))
  have O1 := Lib.hid (Ru.OwnR.below O1.out d0 (Nat.le_refl _))
  have O2 := Lib.hid (Ru.OwnR.below O2.out d0 (Nat.le_refl _))
  have O3 := Lib.hid (Ru.OwnR.below O3.out d0 (Nat.le_refl _))
  have O4 := Lib.hid (Ru.OwnR.below O4.out d0 (Nat.le_refl _))
  have CC := Lib.hid (bt BB5.out d0)
  clear d0
  have ex : V0.cell? ⟨g1, 0, none⟩ = some (.int .i64 0) := World.ownsRow.cellAt O1.out 0 (by decide)
  have fx : V0.frozen? ⟨g1, 0, none⟩ = false := World.ownsRow.frozenAt O1.out 0
  have rd0 : V0.cell? ⟨w5.heap.size, 1, none⟩ = some (.slice (some ⟨g1, 0, none⟩) 4 c1) := bs.cell 1
  have q := Ru.OwnR.put (w := V0) (rs := (tb 0 1 1 1 false false false false)) (ys := (tb 1 1 1 1 false false false false)) O1.out 0 (.int .i64 1) (by rfl) rfl
  obtain ⟨V1, hV1⟩ : ∃ X, X = V0.setCell ⟨g1, 0, none⟩ (.int .i64 1) := ⟨_, rfl⟩
  rw [← hV1] at q
  have szV1 : V1.heap.size = V0.heap.size := by rw [hV1]; simp
  have bz : Blk V1 w.heap.size [.slice none 0 0, .slice none 0 0, .slice none 0 0, .slice none 0 0, .slice none 0 0] 24 := (q.2.block w.heap.size (by omega) (ne_some (by omega))).trans bz
  have bs : Blk V1 w5.heap.size [.slice (some ⟨g0, 0, none⟩) 4 c0, .slice (some ⟨g1, 0, none⟩) 4 c1, .slice (some ⟨g2, 0, none⟩) 4 c2, .slice (some ⟨g3, 0, none⟩) 4 c3, .slice (some ⟨g4, 0, none⟩) 4 c4] 24 := (q.2.block w5.heap.size (by omega) (ne_some (by omega))).trans bs
  have O0 := Lib.hid (Ru.OwnR.kept O0.out q.2 (kne (by omega)))
  have O1 := Lib.hid q.1
  have O2 := Lib.hid (Ru.OwnR.kept O2.out q.2 (kne (by omega)))
  have O3 := Lib.hid (Ru.OwnR.kept O3.out q.2 (kne (by omega)))
  have O4 := Lib.hid (Ru.OwnR.kept O4.out q.2 (kne (by omega)))
  have CC := Lib.hid (CC.out.grown q.2 (by omega) (fun k hk => by have h9 : g1 = k := Option.some.inj hk; omega))
  clear q
  have rd1 : V1.cell? ⟨w5.heap.size, 1, none⟩ = some (.slice (some ⟨g1, 0, none⟩) 4 c1) := bs.cell 1
  clear H0 H1 H2 H3 H4 BB0 BB1 BB2 BB3 BB4 BB5
  have ne1 : ¬ w5.heap.size = w.heap.size := by omega
  have ne2 : ¬ w.heap.size = w5.heap.size := by omega
  rw [hV0] at ex fx rd0
  go_wp2
  simp only [← hV0]; simp only [← hV1]
  clear hV0
  clear hV1
  refine wp_loop_rounds 5 ?_
  have ex : V1.cell? ⟨g1, 2, none⟩ = some (.bool false) := World.ownsRow.cellAt O1.out 2 (by decide)
  have fx : V1.frozen? ⟨g1, 2, none⟩ = false := World.ownsRow.frozenAt O1.out 2
  have rl : V1.cell? ⟨w5.heap.size, 1, none⟩ = some (.slice (some ⟨g1, 0, none⟩) 4 c1) := bs.cell 1
  have q := Ru.OwnR.put (w := V1) (rs := (tb 1 1 1 1 false false false false)) (ys := (tb 1 1 1 1 true false false false)) O1.out 2 (.bool true) (by rfl) rfl
  obtain ⟨V2, hV2⟩ : ∃ X, X = V1.setCell ⟨g1, 2, none⟩ (.bool true) := ⟨_, rfl⟩
  rw [← hV2] at q
  have szV2 : V2.heap.size = V1.heap.size := by rw [hV2]; simp
  have bz : Blk V2 w.heap.size [.slice none 0 0, .slice none 0 0, .slice none 0 0, .slice none 0 0, .slice none 0 0] 24 := (q.2.block w.heap.size (by omega) (ne_some (by omega))).trans bz
  have bs : Blk V2 w5.heap.size [.slice (some ⟨g0, 0, none⟩) 4 c0, .slice (some ⟨g1, 0, none⟩) 4 c1, .slice (some ⟨g2, 0, none⟩) 4 c2, .slice (some ⟨g3, 0, none⟩) 4 c3, .slice (some ⟨g4, 0, none⟩) 4 c4] 24 := (q.2.block w5.heap.size (by omega) (ne_some (by omega))).trans bs
  have O0 := Lib.hid (Ru.OwnR.kept O0.out q.2 (kne (by omega)))
  have O1 := Lib.hid q.1
  have O2 := Lib.hid (Ru.OwnR.kept O2.out q.2 (kne (by omega)))
  have O3 := Lib.hid (Ru.OwnR.kept O3.out q.2 (kne (by omega)))
  have O4 := Lib.hid (Ru.OwnR.kept O4.out q.2 (kne (by omega)))
  have CC := Lib.hid (CC.out.grown q.2 (by omega) (fun k hk => by have h9 : g1 = k := Option.some.inj hk; omega))
  clear q
  rw [rounds_succ]
  go_wp2
  simp only [← hV2]
  clear hV2 ex fx rl
  have ex : V2.cell? ⟨g1, 5, none⟩ = some (.bool false) := World.ownsRow.cellAt O1.out 5 (by decide)
  have fx : V2.frozen? ⟨g1, 5, none⟩ = false := World.ownsRow.frozenAt O1.out 5
  have rl : V2.cell? ⟨w5.heap.size, 1, none⟩ = some (.slice (some ⟨g1, 0, none⟩) 4 c1) := bs.cell 1
  have q := Ru.OwnR.put (w := V2) (rs := (tb 1 1 1 1 true false false false)) (ys := (tb 1 1 1 1 true true false false)) O1.out 5 (.bool true) (by rfl) rfl
  obtain ⟨V3, hV3⟩ : ∃ X, X = V2.setCell ⟨g1, 5, none⟩ (.bool true) := ⟨_, rfl⟩
  rw [← hV3] at q
  have szV3 : V3.heap.size = V2.heap.size := by rw [hV3]; simp
  have bz : Blk V3 w.heap.size [.slice none 0 0, .slice none 0 0, .slice none 0 0, .slice none 0 0, .slice none 0 0] 24 := (q.2.block w.heap.size (by omega) (ne_some (by omega))).trans bz
  have bs : Blk V3 w5.heap.size [.slice (some ⟨g0, 0, none⟩) 4 c0, .slice (some ⟨g1, 0, none⟩) 4 c1, .slice (some ⟨g2, 0, none⟩) 4 c2, .slice (some ⟨g3, 0, none⟩) 4 c3, .slice (some ⟨g4, 0, none⟩) 4 c4] 24 := (q.2.block w5.heap.size (by omega) (ne_some (by omega))).trans bs
  have O0 := Lib.hid (Ru.OwnR.kept O0.out q.2 (kne (by omega)))
  have O1 := Lib.hid q.1
  have O2 := Lib.hid (Ru.OwnR.kept O2.out q.2 (kne (by omega)))
  have O3 := Lib.hid (Ru.OwnR.kept O3.out q.2 (kne (by omega)))
  have O4 := Lib.hid (Ru.OwnR.kept O4.out q.2 (kne (by omega)))
  have CC := Lib.hid (CC.out.grown q.2 (by omega) (fun k hk => by have h9 : g1 = k := Option.some.inj hk; omega))
  clear q
  rw [rounds_succ]
  go_wp2
  simp only [← hV3]
  clear hV3 ex fx rl
  have ex : V3.cell? ⟨g1, 8, none⟩ = some (.bool false) := World.ownsRow.cellAt O1.out 8 (by decide)
  have fx : V3.frozen? ⟨g1, 8, none⟩ = false := World.ownsRow.frozenAt O1.out 8
  have rl : V3.cell? ⟨w5.heap.size, 1, none⟩ = some (.slice (some ⟨g1, 0, none⟩) 4 c1) := bs.cell 1
  have q := Ru.OwnR.put (w := V3) (rs := (tb 1 1 1 1 true true false false)) (ys := (tb 1 1 1 1 true true true false)) O1.out 8 (.bool true) (by rfl) rfl
  obtain ⟨V4, hV4⟩ : ∃ X, X = V3.setCell ⟨g1, 8, none⟩ (.bool true) := ⟨_, rfl⟩
  rw [← hV4] at q
  have szV4 : V4.heap.size = V3.heap.size := by rw [hV4]; simp
  have bz : Blk V4 w.heap.size [.slice none 0 0, .slice none 0 0, .slice none 0 0, .slice none 0 0, .slice none 0 0] 24 := (q.2.block w.heap.size (by omega) (ne_some (by omega))).trans bz
  have bs : Blk V4 w5.heap.size [.slice (some ⟨g0, 0, none⟩) 4 c0, .slice (some ⟨g1, 0, none⟩) 4 c1, .slice (some ⟨g2, 0, none⟩) 4 c2, .slice (some ⟨g3, 0, none⟩) 4 c3, .slice (some ⟨g4, 0, none⟩) 4 c4] 24 := (q.2.block w5.heap.size (by omega) (ne_some (by omega))).trans bs
  have O0 := Lib.hid (Ru.OwnR.kept O0.out q.2 (kne (by omega)))
  have O1 := Lib.hid q.1
  have O2 := Lib.hid (Ru.OwnR.kept O2.out q.2 (kne (by omega)))
  have O3 := Lib.hid (Ru.OwnR.kept O3.out q.2 (kne (by omega)))
  have O4 := Lib.hid (Ru.OwnR.kept O4.out q.2 (kne (by omega)))
  have CC := Lib.hid (CC.out.grown q.2 (by omega) (fun k hk => by have h9 : g1 = k := Option.some.inj hk; omega))
  clear q
  rw [rounds_succ]
  go_wp2
  simp only [← hV4]
  clear hV4 ex fx rl
  have ex : V4.cell? ⟨g1, 11, none⟩ = some (.bool false) := World.ownsRow.cellAt O1.out 11 (by decide)
  have fx : V4.frozen? ⟨g1, 11, none⟩ = false := World.ownsRow.frozenAt O1.out 11
  have rl : V4.cell? ⟨w5.heap.size, 1, none⟩ = some (.slice (some ⟨g1, 0, none⟩) 4 c1) := bs.cell 1
  have q := Ru.OwnR.put (w := V4) (rs := (tb 1 1 1 1 true true true false)) (ys := (tb 1 1 1 1 true true true true)) O1.out 11 (.bool true) (by rfl) rfl
  obtain ⟨V5, hV5⟩ : ∃ X, X = V4.setCell ⟨g1, 11, none⟩ (.bool true) := ⟨_, rfl⟩
  rw [← hV5] at q
  have szV5 : V5.heap.size = V4.heap.size := by rw [hV5]; simp
  have bz : Blk V5 w.heap.size [.slice none 0 0, .slice none 0 0, .slice none 0 0, .slice none 0 0, .slice none 0 0] 24 := (q.2.block w.heap.size (by omega) (ne_some (by omega))).trans bz
  have bs : Blk V5 w5.heap.size [.slice (some ⟨g0, 0, none⟩) 4 c0, .slice (some ⟨g1, 0, none⟩) 4 c1, .slice (some ⟨g2, 0, none⟩) 4 c2, .slice (some ⟨g3, 0, none⟩) 4 c3, .slice (some ⟨g4, 0, none⟩) 4 c4] 24 := (q.2.block w5.heap.size (by omega) (ne_some (by omega))).trans bs
  have O0 := Lib.hid (Ru.OwnR.kept O0.out q.2 (kne (by omega)))
  have O1 := Lib.hid q.1
  have O2 := Lib.hid (Ru.OwnR.kept O2.out q.2 (kne (by omega)))
  have O3 := Lib.hid (Ru.OwnR.kept O3.out q.2 (kne (by omega)))
  have O4 := Lib.hid (Ru.OwnR.kept O4.out q.2 (kne (by omega)))
  have CC := Lib.hid (CC.out.grown q.2 (by omega) (fun k hk => by have h9 : g1 = k := Option.some.inj hk; omega))
  clear q
  rw [rounds_succ]
  go_wp2
  simp only [← hV5]
  clear hV5 ex fx rl
  have x0 : V5.cell? ⟨w.heap.size, 0, none⟩ = some (.slice none 0 0) := bz.cell 0
  have y0 := bz.froz 0
  have z0 : V5.cell? ⟨w5.heap.size, 0, none⟩ = some (.slice (some ⟨g0, 0, none⟩) 4 c0) := bs.cell 0
  have x1 : V5.cell? ⟨w.heap.size, 1, none⟩ = some (.slice none 0 0) := bz.cell 1
  have y1 := bz.froz 1
  have z1 : V5.cell? ⟨w5.heap.size, 1, none⟩ = some (.slice (some ⟨g1, 0, none⟩) 4 c1) := bs.cell 1
  have x2 : V5.cell? ⟨w.heap.size, 2, none⟩ = some (.slice none 0 0) := bz.cell 2
  have y2 := bz.froz 2
  have z2 : V5.cell? ⟨w5.heap.size, 2, none⟩ = some (.slice (some ⟨g2, 0, none⟩) 4 c2) := bs.cell 2
  have x3 : V5.cell? ⟨w.heap.size, 3, none⟩ = some (.slice none 0 0) := bz.cell 3
  have y3 := bz.froz 3
  have z3 : V5.cell? ⟨w5.heap.size, 3, none⟩ = some (.slice (some ⟨g3, 0, none⟩) 4 c3) := bs.cell 3
  have x4 : V5.cell? ⟨w.heap.size, 4, none⟩ = some (.slice none 0 0) := bz.cell 4
  have y4 := bz.froz 4
  have z4 : V5.cell? ⟨w5.heap.size, 4, none⟩ = some (.slice (some ⟨g4, 0, none⟩) 4 c4) := bs.cell 4
  have HP := Lib.hid (fun (wz : World) (X0 X1 X2 X3 X4 : Value) (e : wz = (((((V5.setCell ⟨w.heap.size, 0, none⟩ X0).setCell ⟨w.heap.size, 1, none⟩ X1).setCell ⟨w.heap.size, 2, none⟩ X2).setCell ⟨w.heap.size, 3, none⟩ X3).setCell ⟨w.heap.size, 4, none⟩ X4)) => (show OwnX wz w.heap.size wz.heap.size (.agg #[.slice (some ⟨g0, 0, none⟩) 4 c0, .slice (some ⟨g1, 0, none⟩) 4 c1, .slice (some ⟨g2, 0, none⟩) 4 c2, .slice (some ⟨g3, 0, none⟩) 4 c3, .slice (some ⟨g4, 0, none⟩) 4 c4]) (tb 1 1 1 1 false false false false) (tb 1 1 1 1 true true true true) (tb 0 0 0 0 false false false false) (tb 0 1 1 1 false false false false) (tb 0 0 0 0 false false false false) ∧ Below w.heap.size w wz from by
    have hh : ∀ i, w.heap.size < i → wz.heap[i]? = V5.heap[i]? := fun i hi => by
      rw [e, heap_set _ _ _ _ i (by omega), heap_set _ _ _ _ i (by omega), heap_set _ _ _ _ i (by omega), heap_set _ _ _ _ i (by omega), heap_set _ _ _ _ i (by omega)]
    have hz : wz.heap.size = V5.heap.size := by rw [e]; simp
    refine ⟨⟨some ⟨g0, 0, none⟩, c0, some ⟨g1, 0, none⟩, c1, some ⟨g2, 0, none⟩, c2, some ⟨g3, 0, none⟩, c3, some ⟨g4, 0, none⟩, c4, w1.heap.size, w2.heap.size, w3.heap.size, w4.heap.size, rfl, by omega, by omega, by omega, by omega, by omega, by omega, ?_, fun k hk => by have h9 : g0 = k := Option.some.inj hk; omega, ?_, fun k hk => by have h9 : g1 = k := Option.some.inj hk; omega, ?_, fun k hk => by have h9 : g2 = k := Option.some.inj hk; omega, ?_, fun k hk => by have h9 : g3 = k := Option.some.inj hk; omega, ?_, fun k hk => by have h9 : g4 = k := Option.some.inj hk; omega⟩, ?_⟩
    · exact Ru.OwnR.mono (Ru.OwnR.same O0.out (w' := wz) fun b hb _ => hh b (by have h9 : g0 = b := Option.some.inj hb; omega)) (by omega)
    · exact Ru.OwnR.mono (Ru.OwnR.same O1.out (w' := wz) fun b hb _ => hh b (by have h9 : g1 = b := Option.some.inj hb; omega)) (by omega)
    · exact Ru.OwnR.mono (Ru.OwnR.same O2.out (w' := wz) fun b hb _ => hh b (by have h9 : g2 = b := Option.some.inj hb; omega)) (by omega)
    · exact Ru.OwnR.mono (Ru.OwnR.same O3.out (w' := wz) fun b hb _ => hh b (by have h9 : g3 = b := Option.some.inj hb; omega)) (by omega)
    · exact Ru.OwnR.mono (Ru.OwnR.same O4.out (w' := wz) fun b hb _ => hh b (by have h9 : g4 = b := Option.some.inj hb; omega)) (by omega)
    · rw [e]
      exact (((((CC.out.setCell (p := ⟨_, 0, none⟩) (by simp) _).setCell (p := ⟨_, 1, none⟩) (by simp) _).setCell (p := ⟨_, 2, none⟩) (by simp) _).setCell (p := ⟨_, 3, none⟩) (by simp) _).setCell (p := ⟨_, 4, none⟩) (by simp) _)))
  clear O0 O1 O2 O3 O4 CC
  rw [rounds_succ]
  go_wp2
  refine bodyPost_ret (v := .agg #[.slice (some ⟨g0, 0, none⟩) 4 c0, .slice (some ⟨g1, 0, none⟩) 4 c1, .slice (some ⟨g2, 0, none⟩) 4 c2, .slice (some ⟨g3, 0, none⟩) 4 c3, .slice (some ⟨g4, 0, none⟩) 4 c4]) (by simp [results, Try.results15, go_sem, x0, y0, z0, x1, y1, z1, x2, y2, z2, x3, y3, z3, x4, y4, z4]) rfl ?_
  obtain ⟨h1, h2⟩ := HP.out _ _ _ _ _ _ rfl
  exact ⟨_, rfl, h1, h2⟩
set_option maxHeartbeats 4000000 in
set_option maxRecDepth 100000 in
theorem msi_iT (w : World) : Calls Try.prog 10 #[.bool true] w (CopX (tb 2 1 2 3 false false false false) (tb 3 3 3 3 false false false false) (tb 0 0 0 0 false false false true) (tb 0 1 1 1 false false false true) (tb 0 0 0 0 false false false true) w) := by
  have H0 := Lib.hid (fun (w : World) (n : Nat) (hn : w.heap.size = n) => (show Calls Try.prog 34 #[.slice (some ⟨n, 0, none⟩) 4 4] (w.alloc (.cells #[.int .i64 1, .int .i64 1, .int .i64 2, .int .i64 3] 2)) (RowC (tb 1 1 2 3 false false false false) w) from by subst hn; exact call_i w 1 1 2 3))
  have H1 := Lib.hid (fun (w : World) (n : Nat) (hn : w.heap.size = n) => (show Calls Try.prog 34 #[.slice (some ⟨n, 0, none⟩) 4 4] (w.alloc (.cells #[.int .i64 3, .int .i64 3, .int .i64 3, .int .i64 3] 2)) (RowC (tb 3 3 3 3 false false false false) w) from by subst hn; exact call_i w 3 3 3 3))
  have H2 := Lib.hid (fun (w : World) (n : Nat) (hn : w.heap.size = n) => (show Calls Try.prog 34 #[.slice (some ⟨n, 0, none⟩) 4 4] (w.alloc (.cells #[.int .i64 0, .int .i64 0, .int .i64 0, .int .i64 0] 2)) (RowC (tb 0 0 0 0 false false false false) w) from by subst hn; exact call_i w 0 0 0 0))
  have H3 := Lib.hid (fun (w : World) (n : Nat) (hn : w.heap.size = n) => (show Calls Try.prog 34 #[.slice (some ⟨n, 0, none⟩) 4 4] (w.alloc (.cells #[.int .i64 0, .int .i64 1, .int .i64 1, .int .i64 1] 2)) (RowC (tb 0 1 1 1 false false false false) w) from by subst hn; exact call_i w 0 1 1 1))
  have H4 := Lib.hid (fun (w : World) (n : Nat) (hn : w.heap.size = n) => (show Calls Try.prog 34 #[.slice (some ⟨n, 0, none⟩) 4 4] (w.alloc (.cells #[.int .i64 0, .int .i64 0, .int .i64 0, .int .i64 0] 2)) (RowC (tb 0 0 0 0 false false false false) w) from by subst hn; exact call_i w 0 0 0 0))
  go_enter Try.func10, Try.ntmps10
  go_wp2_with fail
  have bz : Blk (w.alloc (.cells #[.slice none 0 0, .slice none 0 0, .slice none 0 0, .slice none 0 0, .slice none 0 0] 24)) w.heap.size [.slice none 0 0, .slice none 0 0, .slice none 0 0, .slice none 0 0, .slice none 0 0] 24 := Blk.newAt w _ _ _ rfl
  have hz0 : (w.alloc (.cells #[.slice none 0 0, .slice none 0 0, .slice none 0 0, .slice none 0 0, .slice none 0 0] 24)).heap.size = w.heap.size + 1 := Array.size_push _
  have b0 : Below w.heap.size w (w.alloc (.cells #[.slice none 0 0, .slice none 0 0, .slice none 0 0, .slice none 0 0, .slice none 0 0] 24)) := (Below.refl _ _).alloc (Nat.le_refl _) _
  generalize hW : w.alloc (.cells #[.slice none 0 0, .slice none 0 0, .slice none 0 0, .slice none 0 0, .slice none 0 0] 24) = w0 at *
  clear hW
  have BB0 := Lib.hid b0
  have s0 := bz.lt
  clear b0
  refine (H0.out w0 _ hz0).mono ?_; rintro e w1 ⟨g0, c0, rfl, o, ⟨l0, r0⟩, b⟩
  have bz := bz.below b bz.lt
  have BB1 := Lib.hid (bt BB0.out b)
  have O0 := Lib.hid o
  have s1 := b.size
  clear o b
  go_wp2_with fail
  refine (H1.out w1 _ rfl).mono ?_; rintro e w2 ⟨g1, c1, rfl, o, ⟨l1, r1⟩, b⟩
  have bz := bz.below b bz.lt
  have BB2 := Lib.hid (bt BB1.out b)
  have O0 := Lib.hid (Ru.OwnR.below O0.out b (Nat.le_refl _))
  have O1 := Lib.hid o
  have s2 := b.size
  clear o b
  go_wp2_with fail
  refine (H2.out w2 _ rfl).mono ?_; rintro e w3 ⟨g2, c2, rfl, o, ⟨l2, r2⟩, b⟩
  have bz := bz.below b bz.lt
  have BB3 := Lib.hid (bt BB2.out b)
  have O0 := Lib.hid (Ru.OwnR.below O0.out b (Nat.le_refl _))
  have O1 := Lib.hid (Ru.OwnR.below O1.out b (Nat.le_refl _))
  have O2 := Lib.hid o
  have s3 := b.size
  clear o b
  go_wp2_with fail
  refine (H3.out w3 _ rfl).mono ?_; rintro e w4 ⟨g3, c3, rfl, o, ⟨l3, r3⟩, b⟩
  have bz := bz.below b bz.lt
  have BB4 := Lib.hid (bt BB3.out b)
  have O0 := Lib.hid (Ru.OwnR.below O0.out b (Nat.le_refl _))
  have O1 := Lib.hid (Ru.OwnR.below O1.out b (Nat.le_refl _))
  have O2 := Lib.hid (Ru.OwnR.below O2.out b (Nat.le_refl _))
  have O3 := Lib.hid o
  have s4 := b.size
  clear o b
  go_wp2_with fail
  refine (H4.out w4 _ rfl).mono ?_; rintro e w5 ⟨g4, c4, rfl, o, ⟨l4, r4⟩, b⟩
  have bz := bz.below b bz.lt
  have BB5 := Lib.hid (bt BB4.out b)
  have O0 := Lib.hid (Ru.OwnR.below O0.out b (Nat.le_refl _))
  have O1 := Lib.hid (Ru.OwnR.below O1.out b (Nat.le_refl _))
  have O2 := Lib.hid (Ru.OwnR.below O2.out b (Nat.le_refl _))
  have O3 := Lib.hid (Ru.OwnR.below O3.out b (Nat.le_refl _))
  have O4 := Lib.hid o
  have s5 := b.size
  clear o b
  have sw : w.heap.size < w5.heap.size := by omega
  obtain ⟨V0, hV0⟩ : ∃ V0, V0 = w5.alloc (.cells #[.slice (some ⟨g0, 0, none⟩) 4 c0, .slice (some ⟨g1, 0, none⟩) 4 c1, .slice (some ⟨g2, 0, none⟩) 4 c2, .slice (some ⟨g3, 0, none⟩) 4 c3, .slice (some ⟨g4, 0, none⟩) 4 c4] 24) := ⟨_, rfl⟩
  have d0 : Below w5.heap.size w5 V0 := by rw [hV0]; exact (Below.refl _ _).alloc (Nat.le_refl _) _
  have bs : Blk V0 w5.heap.size [.slice (some ⟨g0, 0, none⟩) 4 c0, .slice (some ⟨g1, 0, none⟩) 4 c1, .slice (some ⟨g2, 0, none⟩) 4 c2, .slice (some ⟨g3, 0, none⟩) 4 c3, .slice (some ⟨g4, 0, none⟩) 4 c4] 24 := by rw [hV0]; exact Blk.newAt w5 _ _ _ rfl
  have zz : V0.heap.size = w5.heap.size + 1 := by rw [hV0]; exact Array.size_push _
  have bz := bz.below d0 bz.lt
  have O0 := Lib.hid (Ru.OwnR.below O0.out d0 (Nat.le_refl _))
  have O1 := Lib.hid (Ru.OwnR.below O1.out d0 (Nat.le_refl _))
  have O2 := Lib.hid (Ru.OwnR.below O2.out d0 (Nat.le_refl _))
  have O3 := Lib.hid (Ru.OwnR.below O3.out d0 (Nat.le_refl _))
  have O4 := Lib.hid (Ru.OwnR.below O4.out d0 (Nat.le_refl _))
  have CC := Lib.hid (bt BB5.out d0)
  clear d0
  have ex : V0.cell? ⟨g0, 0, none⟩ = some (.int .i64 1) := World.ownsRow.cellAt O0.out 0 (by decide)
  have fx : V0.frozen? ⟨g0, 0, none⟩ = false := World.ownsRow.frozenAt O0.out 0
  have rd0 : V0.cell? ⟨w5.heap.size, 0, none⟩ = some (.slice (some ⟨g0, 0, none⟩) 4 c0) := bs.cell 0
  have q := Ru.OwnR.put (w := V0) (rs := (tb 1 1 2 3 false false false false)) (ys := (tb 2 1 2 3 false false false false)) O0.out 0 (.int .i64 2) (by rfl) rfl
  obtain ⟨V1, hV1⟩ : ∃ X, X = V0.setCell ⟨g0, 0, none⟩ (.int .i64 2) := ⟨_, rfl⟩
  rw [← hV1] at q
  have szV1 : V1.heap.size = V0.heap.size := by rw [hV1]; simp
  have bz : Blk V1 w.heap.size [.slice none 0 0, .slice none 0 0, .slice none 0 0, .slice none 0 0, .slice none 0 0] 24 := (q.2.block w.heap.size (by omega) (ne_some (by omega))).trans bz
  have bs : Blk V1 w5.heap.size [.slice (some ⟨g0, 0, none⟩) 4 c0, .slice (some ⟨g1, 0, none⟩) 4 c1, .slice (some ⟨g2, 0, none⟩) 4 c2, .slice (some ⟨g3, 0, none⟩) 4 c3, .slice (some ⟨g4, 0, none⟩) 4 c4] 24 := (q.2.block w5.heap.size (by omega) (ne_some (by omega))).trans bs
  have O0 := Lib.hid q.1
  have O1 := Lib.hid (Ru.OwnR.kept O1.out q.2 (kne (by omega)))
  have O2 := Lib.hid (Ru.OwnR.kept O2.out q.2 (kne (by omega)))
  have O3 := Lib.hid (Ru.OwnR.kept O3.out q.2 (kne (by omega)))
  have O4 := Lib.hid (Ru.OwnR.kept O4.out q.2 (kne (by omega)))
  have CC := Lib.hid (CC.out.grown q.2 (by omega) (fun k hk => by have h9 : g0 = k := Option.some.inj hk; omega))
  clear q
  obtain ⟨VL, hVL⟩ : ∃ X, X = V1.alloc (.cells #[.slice (some ⟨g2, 0, none⟩) 4 c2, .slice (some ⟨g3, 0, none⟩) 4 c3, .slice (some ⟨g4, 0, none⟩) 4 c4] 22) := ⟨_, rfl⟩
  have rb2 : V1.cell? ⟨w5.heap.size, 2, none⟩ = some (.slice (some ⟨g2, 0, none⟩) 4 c2) := bs.cell 2
  have rb3 : V1.cell? ⟨w5.heap.size, 3, none⟩ = some (.slice (some ⟨g3, 0, none⟩) 4 c3) := bs.cell 3
  have rb4 : V1.cell? ⟨w5.heap.size, 4, none⟩ = some (.slice (some ⟨g4, 0, none⟩) 4 c4) := bs.cell 4
  have d0 : Below V1.heap.size V1 VL := by rw [hVL]; exact (Below.refl _ _).alloc (Nat.le_refl _) _
  have bl : Blk VL (w5.heap.size + 1) [.slice (some ⟨g2, 0, none⟩) 4 c2, .slice (some ⟨g3, 0, none⟩) 4 c3, .slice (some ⟨g4, 0, none⟩) 4 c4] 22 := by rw [hVL]; exact Blk.newAt V1 _ _ _ (by omega)
  have zl : VL.heap.size = V1.heap.size + 1 := by rw [hVL]; exact Array.size_push _
  have zv : V1.heap.size = w5.heap.size + 1 := by omega
  have bz := bz.below d0 bz.lt
  have bs := bs.below d0 bs.lt
  have O0 := Lib.hid (Ru.OwnR.below O0.out d0 (Nat.le_refl _))
  have O1 := Lib.hid (Ru.OwnR.below O1.out d0 (Nat.le_refl _))
  have O2 := Lib.hid (Ru.OwnR.below O2.out d0 (Nat.le_refl _))
  have O3 := Lib.hid (Ru.OwnR.below O3.out d0 (Nat.le_refl _))
  have O4 := Lib.hid (Ru.OwnR.below O4.out d0 (Nat.le_refl _))
  have CC := Lib.hid (bt CC.out d0)
  clear d0
  clear H0 H1 H2 H3 H4 BB0 BB1 BB2 BB3 BB4 BB5
  have ne1 : ¬ w5.heap.size = w.heap.size := by omega
  have ne2 : ¬ w.heap.size = w5.heap.size := by omega
  rw [hV0] at ex fx rd0
  go_wp2
  simp only [← hV0]; simp only [← hV1]; simp only [← hVL]
  clear hV0
  clear hV1
  clear hVL
  refine wp_loop_rounds 4 ?_
  have ex : VL.cell? ⟨g2, 11, none⟩ = some (.bool false) := World.ownsRow.cellAt O2.out 11 (by decide)
  have fx : VL.frozen? ⟨g2, 11, none⟩ = false := World.ownsRow.frozenAt O2.out 11
  have rl : VL.cell? ⟨w5.heap.size + 1, 0, none⟩ = some (.slice (some ⟨g2, 0, none⟩) 4 c2) := bl.cell 0
  have q := Ru.OwnR.put (w := VL) (rs := (tb 0 0 0 0 false false false false)) (ys := (tb 0 0 0 0 false false false true)) O2.out 11 (.bool true) (by rfl) rfl
  obtain ⟨V2, hV2⟩ : ∃ X, X = VL.setCell ⟨g2, 11, none⟩ (.bool true) := ⟨_, rfl⟩
  rw [← hV2] at q
  have szV2 : V2.heap.size = VL.heap.size := by rw [hV2]; simp
  have bz : Blk V2 w.heap.size [.slice none 0 0, .slice none 0 0, .slice none 0 0, .slice none 0 0, .slice none 0 0] 24 := (q.2.block w.heap.size (by omega) (ne_some (by omega))).trans bz
  have bs : Blk V2 w5.heap.size [.slice (some ⟨g0, 0, none⟩) 4 c0, .slice (some ⟨g1, 0, none⟩) 4 c1, .slice (some ⟨g2, 0, none⟩) 4 c2, .slice (some ⟨g3, 0, none⟩) 4 c3, .slice (some ⟨g4, 0, none⟩) 4 c4] 24 := (q.2.block w5.heap.size (by omega) (ne_some (by omega))).trans bs
  have bl : Blk V2 (w5.heap.size + 1) [.slice (some ⟨g2, 0, none⟩) 4 c2, .slice (some ⟨g3, 0, none⟩) 4 c3, .slice (some ⟨g4, 0, none⟩) 4 c4] 22 := (q.2.block (w5.heap.size + 1) (by omega) (ne_some (by omega))).trans bl
  have O0 := Lib.hid (Ru.OwnR.kept O0.out q.2 (kne (by omega)))
  have O1 := Lib.hid (Ru.OwnR.kept O1.out q.2 (kne (by omega)))
  have O2 := Lib.hid q.1
  have O3 := Lib.hid (Ru.OwnR.kept O3.out q.2 (kne (by omega)))
  have O4 := Lib.hid (Ru.OwnR.kept O4.out q.2 (kne (by omega)))
  have CC := Lib.hid (CC.out.grown q.2 (by omega) (fun k hk => by have h9 : g2 = k := Option.some.inj hk; omega))
  clear q
  rw [rounds_succ]
  go_wp2
  simp only [← hV2]
  clear hV2 ex fx rl
  have ex : V2.cell? ⟨g3, 11, none⟩ = some (.bool false) := World.ownsRow.cellAt O3.out 11 (by decide)
  have fx : V2.frozen? ⟨g3, 11, none⟩ = false := World.ownsRow.frozenAt O3.out 11
  have rl : V2.cell? ⟨w5.heap.size + 1, 1, none⟩ = some (.slice (some ⟨g3, 0, none⟩) 4 c3) := bl.cell 1
  have q := Ru.OwnR.put (w := V2) (rs := (tb 0 1 1 1 false false false false)) (ys := (tb 0 1 1 1 false false false true)) O3.out 11 (.bool true) (by rfl) rfl
  obtain ⟨V3, hV3⟩ : ∃ X, X = V2.setCell ⟨g3, 11, none⟩ (.bool true) := ⟨_, rfl⟩
  rw [← hV3] at q
  have szV3 : V3.heap.size = V2.heap.size := by rw [hV3]; simp
  have bz : Blk V3 w.heap.size [.slice none 0 0, .slice none 0 0, .slice none 0 0, .slice none 0 0, .slice none 0 0] 24 := (q.2.block w.heap.size (by omega) (ne_some (by omega))).trans bz
  have bs : Blk V3 w5.heap.size [.slice (some ⟨g0, 0, none⟩) 4 c0, .slice (some ⟨g1, 0, none⟩) 4 c1, .slice (some ⟨g2, 0, none⟩) 4 c2, .slice (some ⟨g3, 0, none⟩) 4 c3, .slice (some ⟨g4, 0, none⟩) 4 c4] 24 := (q.2.block w5.heap.size (by omega) (ne_some (by omega))).trans bs
  have bl : Blk V3 (w5.heap.size + 1) [.slice (some ⟨g2, 0, none⟩) 4 c2, .slice (some ⟨g3, 0, none⟩) 4 c3, .slice (some ⟨g4, 0, none⟩) 4 c4] 22 := (q.2.block (w5.heap.size + 1) (by omega) (ne_some (by omega))).trans bl
  have O0 := Lib.hid (Ru.OwnR.kept O0.out q.2 (kne (by omega)))
  have O1 := Lib.hid (Ru.OwnR.kept O1.out q.2 (kne (by omega)))
  have O2 := Lib.hid (Ru.OwnR.kept O2.out q.2 (kne (by omega)))
  have O3 := Lib.hid q.1
  have O4 := Lib.hid (Ru.OwnR.kept O4.out q.2 (kne (by omega)))
  have CC := Lib.hid (CC.out.grown q.2 (by omega) (fun k hk => by have h9 : g3 = k := Option.some.inj hk; omega))
  clear q
  rw [rounds_succ]
  go_wp2
  simp only [← hV3]
  clear hV3 ex fx rl
  have ex : V3.cell? ⟨g4, 11, none⟩ = some (.bool false) := World.ownsRow.cellAt O4.out 11 (by decide)
  have fx : V3.frozen? ⟨g4, 11, none⟩ = false := World.ownsRow.frozenAt O4.out 11
  have rl : V3.cell? ⟨w5.heap.size + 1, 2, none⟩ = some (.slice (some ⟨g4, 0, none⟩) 4 c4) := bl.cell 2
  have q := Ru.OwnR.put (w := V3) (rs := (tb 0 0 0 0 false false false false)) (ys := (tb 0 0 0 0 false false false true)) O4.out 11 (.bool true) (by rfl) rfl
  obtain ⟨V4, hV4⟩ : ∃ X, X = V3.setCell ⟨g4, 11, none⟩ (.bool true) := ⟨_, rfl⟩
  rw [← hV4] at q
  have szV4 : V4.heap.size = V3.heap.size := by rw [hV4]; simp
  have bz : Blk V4 w.heap.size [.slice none 0 0, .slice none 0 0, .slice none 0 0, .slice none 0 0, .slice none 0 0] 24 := (q.2.block w.heap.size (by omega) (ne_some (by omega))).trans bz
  have bs : Blk V4 w5.heap.size [.slice (some ⟨g0, 0, none⟩) 4 c0, .slice (some ⟨g1, 0, none⟩) 4 c1, .slice (some ⟨g2, 0, none⟩) 4 c2, .slice (some ⟨g3, 0, none⟩) 4 c3, .slice (some ⟨g4, 0, none⟩) 4 c4] 24 := (q.2.block w5.heap.size (by omega) (ne_some (by omega))).trans bs
  have bl : Blk V4 (w5.heap.size + 1) [.slice (some ⟨g2, 0, none⟩) 4 c2, .slice (some ⟨g3, 0, none⟩) 4 c3, .slice (some ⟨g4, 0, none⟩) 4 c4] 22 := (q.2.block (w5.heap.size + 1) (by omega) (ne_some (by omega))).trans bl
  have O0 := Lib.hid (Ru.OwnR.kept O0.out q.2 (kne (by omega)))
  have O1 := Lib.hid (Ru.OwnR.kept O1.out q.2 (kne (by omega)))
  have O2 := Lib.hid (Ru.OwnR.kept O2.out q.2 (kne (by omega)))
  have O3 := Lib.hid (Ru.OwnR.kept O3.out q.2 (kne (by omega)))
  have O4 := Lib.hid q.1
  have CC := Lib.hid (CC.out.grown q.2 (by omega) (fun k hk => by have h9 : g4 = k := Option.some.inj hk; omega))
  clear q
  rw [rounds_succ]
  go_wp2
  simp only [← hV4]
  clear hV4 ex fx rl
  have x0 : V4.cell? ⟨w.heap.size, 0, none⟩ = some (.slice none 0 0) := bz.cell 0
  have y0 := bz.froz 0
  have z0 : V4.cell? ⟨w5.heap.size, 0, none⟩ = some (.slice (some ⟨g0, 0, none⟩) 4 c0) := bs.cell 0
  have x1 : V4.cell? ⟨w.heap.size, 1, none⟩ = some (.slice none 0 0) := bz.cell 1
  have y1 := bz.froz 1
  have z1 : V4.cell? ⟨w5.heap.size, 1, none⟩ = some (.slice (some ⟨g1, 0, none⟩) 4 c1) := bs.cell 1
  have x2 : V4.cell? ⟨w.heap.size, 2, none⟩ = some (.slice none 0 0) := bz.cell 2
  have y2 := bz.froz 2
  have z2 : V4.cell? ⟨w5.heap.size, 2, none⟩ = some (.slice (some ⟨g2, 0, none⟩) 4 c2) := bs.cell 2
  have x3 : V4.cell? ⟨w.heap.size, 3, none⟩ = some (.slice none 0 0) := bz.cell 3
  have y3 := bz.froz 3
  have z3 : V4.cell? ⟨w5.heap.size, 3, none⟩ = some (.slice (some ⟨g3, 0, none⟩) 4 c3) := bs.cell 3
  have x4 : V4.cell? ⟨w.heap.size, 4, none⟩ = some (.slice none 0 0) := bz.cell 4
  have y4 := bz.froz 4
  have z4 : V4.cell? ⟨w5.heap.size, 4, none⟩ = some (.slice (some ⟨g4, 0, none⟩) 4 c4) := bs.cell 4
  have HP := Lib.hid (fun (wz : World) (X0 X1 X2 X3 X4 : Value) (e : wz = (((((V4.setCell ⟨w.heap.size, 0, none⟩ X0).setCell ⟨w.heap.size, 1, none⟩ X1).setCell ⟨w.heap.size, 2, none⟩ X2).setCell ⟨w.heap.size, 3, none⟩ X3).setCell ⟨w.heap.size, 4, none⟩ X4)) => (show OwnX wz w.heap.size wz.heap.size (.agg #[.slice (some ⟨g0, 0, none⟩) 4 c0, .slice (some ⟨g1, 0, none⟩) 4 c1, .slice (some ⟨g2, 0, none⟩) 4 c2, .slice (some ⟨g3, 0, none⟩) 4 c3, .slice (some ⟨g4, 0, none⟩) 4 c4]) (tb 2 1 2 3 false false false false) (tb 3 3 3 3 false false false false) (tb 0 0 0 0 false false false true) (tb 0 1 1 1 false false false true) (tb 0 0 0 0 false false false true) ∧ Below w.heap.size w wz from by
    have hh : ∀ i, w.heap.size < i → wz.heap[i]? = V4.heap[i]? := fun i hi => by
      rw [e, heap_set _ _ _ _ i (by omega), heap_set _ _ _ _ i (by omega), heap_set _ _ _ _ i (by omega), heap_set _ _ _ _ i (by omega), heap_set _ _ _ _ i (by omega)]
    have hz : wz.heap.size = V4.heap.size := by rw [e]; simp
    refine ⟨⟨some ⟨g0, 0, none⟩, c0, some ⟨g1, 0, none⟩, c1, some ⟨g2, 0, none⟩, c2, some ⟨g3, 0, none⟩, c3, some ⟨g4, 0, none⟩, c4, w1.heap.size, w2.heap.size, w3.heap.size, w4.heap.size, rfl, by omega, by omega, by omega, by omega, by omega, by omega, ?_, fun k hk => by have h9 : g0 = k := Option.some.inj hk; omega, ?_, fun k hk => by have h9 : g1 = k := Option.some.inj hk; omega, ?_, fun k hk => by have h9 : g2 = k := Option.some.inj hk; omega, ?_, fun k hk => by have h9 : g3 = k := Option.some.inj hk; omega, ?_, fun k hk => by have h9 : g4 = k := Option.some.inj hk; omega⟩, ?_⟩
    · exact Ru.OwnR.mono (Ru.OwnR.same O0.out (w' := wz) fun b hb _ => hh b (by have h9 : g0 = b := Option.some.inj hb; omega)) (by omega)
    · exact Ru.OwnR.mono (Ru.OwnR.same O1.out (w' := wz) fun b hb _ => hh b (by have h9 : g1 = b := Option.some.inj hb; omega)) (by omega)
    · exact Ru.OwnR.mono (Ru.OwnR.same O2.out (w' := wz) fun b hb _ => hh b (by have h9 : g2 = b := Option.some.inj hb; omega)) (by omega)
    · exact Ru.OwnR.mono (Ru.OwnR.same O3.out (w' := wz) fun b hb _ => hh b (by have h9 : g3 = b := Option.some.inj hb; omega)) (by omega)
    · exact Ru.OwnR.mono (Ru.OwnR.same O4.out (w' := wz) fun b hb _ => hh b (by have h9 : g4 = b := Option.some.inj hb; omega)) (by omega)
    · rw [e]
      exact (((((CC.out.setCell (p := ⟨_, 0, none⟩) (by simp) _).setCell (p := ⟨_, 1, none⟩) (by simp) _).setCell (p := ⟨_, 2, none⟩) (by simp) _).setCell (p := ⟨_, 3, none⟩) (by simp) _).setCell (p := ⟨_, 4, none⟩) (by simp) _)))
  clear O0 O1 O2 O3 O4 CC
  rw [rounds_succ]
  go_wp2
  refine bodyPost_ret (v := .agg #[.slice (some ⟨g0, 0, none⟩) 4 c0, .slice (some ⟨g1, 0, none⟩) 4 c1, .slice (some ⟨g2, 0, none⟩) 4 c2, .slice (some ⟨g3, 0, none⟩) 4 c3, .slice (some ⟨g4, 0, none⟩) 4 c4]) (by simp [results, Try.results10, go_sem, x0, y0, z0, x1, y1, z1, x2, y2, z2, x3, y3, z3, x4, y4, z4]) rfl ?_
  obtain ⟨h1, h2⟩ := HP.out _ _ _ _ _ _ rfl
  exact ⟨_, rfl, h1, h2⟩
end Go.Proofs.Ytmmjdmgnmlhjeaa.Pt
