/- The program's entryOf; both WalkPage. -/
import Derived.Test.YtifjkjcgpghmhaaDoorCspw
namespace Go.Proofs.YtifjkjcgpghmhaaDoor.Sp
open Go.RowKit
abbrev gNo : Nat := 0
/-- The listed error is not nil. -/
def Er (w : World) : Prop := ∃ ae, w.cell? ⟨gNo, 0, none⟩ = some (.iface 105 (.pointer (some ae)))
theorem Er.below {w w' : World} (h : Er w) (hb : Below w.heap.size w w') : Er w' := by
  obtain ⟨ae, h⟩ := h
  exact ⟨ae, (hb.cell (p := ⟨gNo, 0, none⟩) (World.block_lt_of_cell? w _ h)).trans h⟩
def EoP (e : TE) (w : World) (x : Ending) (w' : World) : Prop :=
  ((e = emp ∧ ∃ ae, x = .returned (.tuple #[.agg #[.int .i64 0, .bool false, .bool false, .bool false], .iface 105 (.pointer (some ae))])) ∨ (e ≠ emp ∧ x = .returned (.tuple #[.agg #[.int .i64 e.1, .bool e.2.1, .bool e.2.2.1, .bool e.2.2.2], Value.nilIface]))) ∧ Below w.heap.size w w'
set_option maxRecDepth 100000 in
set_option maxHeartbeats 8000000 in
theorem entryOf_i (X N : Nat) (a1 a2 : Option Addr) (c1 c2 : Nat) (root : List Int) (tss : List (List TE)) (w : World) (hN : tss.length = N) (h0 : w.cell? ⟨X, 1, none⟩ = some (.slice a1 8 c1)) (h1 : w.cell? ⟨X, 2, none⟩ = some (.slice a2 N c2)) (P : Nat) (hP : P < 64) (hc : EntC w a1 a2 root tss P) (hN8 : N ≤ 8) (her : Er w) (hlo : -1 ≤ root.getD (P / 8) 0) :
    Calls Tryd.prog 41 #[.pointer (some ⟨X, 0, none⟩), .int .i64 (P : Nat)] w (EoP (entAt root tss P) w) := by
  obtain ⟨b1, o1, rfl, cr, hT⟩ := hc
  obtain ⟨ae, hae⟩ := her
  have hg := World.block_lt_of_cell? w _ hae
  have hX : X < w.heap.size := World.block_lt_of_cell? w _ h0
  have l1 : b1 < w.heap.size := World.block_lt_of_cell? w _ cr
  have hq : (P : Int) / 8 = ((P / 8 : Nat) : Int) := by omega
  have hm : (P : Int) % 8 = ((P % 8 : Nat) : Int) := by omega
  have hk8 : P / 8 < 8 := by omega
  have hr8 : P % 8 < 8 := by omega
  by_cases hu : root.getD (P / 8) 0 < 0
  · have he : entAt root tss P = emp := by unfold entAt; rw [if_pos hu]
    rw [he]
    have hu1 : root.getD (P / 8) 0 = -1 := by omega
    rw [hu1] at cr
    clear he hT hu hu1 hlo
    generalize hkk : P / 8 = k at *
    have hae2 : ((w.alloc (.cells #[.int .i64 0, .bool false, .bool false, .bool false] 37)).drew).cell? ⟨gNo, 0, none⟩ = some (.iface 105 (.pointer (some ae))) := (World.cell?_alloc_lt _ _ _ hg).trans hae
    go_enter Tryd.func41, Tryd.ntmps41
    go_wp2
    go_region
    all_goals
      go_wp2
      refine bodyPost_ret (v := .tuple #[.agg #[.int .i64 0, .bool false, .bool false, .bool false], .iface 105 (.pointer (some ae))]) (by simp [results, Tryd.results41, go_sem]) rfl ?_
      exact ⟨.inl ⟨rfl, ae, rfl⟩, ((Below.refl _ _).alloc (Nat.le_refl _) _).drew⟩
  · obtain ⟨b2, o2, A, C, rfl, hlt, c2', b3, o3, rfl, d0, d1, d2, d3⟩ := hT (by omega)
    obtain ⟨T, hT⟩ : ∃ T : Nat, root.getD (P / 8) 0 = (T : Int) := ⟨(root.getD (P / 8) 0).toNat, by omega⟩
    rw [hT] at hu hlt c2' cr
    have hTN : T < N := by omega
    rw [Int.toNat_natCast] at c2'
    have l2 : b2 < w.heap.size := World.block_lt_of_cell? w _ c2'
    have l3 : b3 < w.heap.size := World.block_lt_of_cell? w _ d0
    have hT8 : (T : Int) < 8 := by omega
    have hTm : ((T : Int) == -1) = false := by simp
    have HQ := Lib.hid (fun w => eqE (entAt root tss P).1 (-1) (entAt root tss P).2.1 (entAt root tss P).2.2.1 (entAt root tss P).2.2.2 false false false w)
    have hu' := Lib.hid (fun w => unm_i w)
    have HES := Lib.hid (show entAt root tss P = emp ↔ decide ((((entAt root tss P).1, (entAt root tss P).2.1, (entAt root tss P).2.2.1, (entAt root tss P).2.2.2) : TE) = ((-1, false, false, false) : TE)) = true from by
      rw [decide_eq_true_eq]; exact Iff.rfl)
    generalize entAt root tss P = e at *
    obtain ⟨f, wt, us, di⟩ := e
    simp only at d0 d1 d2 d3 HQ
    generalize hkk : P / 8 = k at *
    generalize hrr : P % 8 = r at *
    obtain ⟨W1, hW1⟩ : ∃ W1, W1 = (w.alloc (.cells #[.int .i64 0, .bool false, .bool false, .bool false] 37)).alloc (.cells #[.int .i64 f, .bool wt, .bool us, .bool di] 37) := ⟨_, rfl⟩
    have bw : Below w.heap.size w W1 := by rw [hW1]; exact ((Below.refl _ _).alloc (Nat.le_refl _) _).alloc (by simp) _
    have y0 : Blk W1 w.heap.size [.int .i64 0, .bool false, .bool false, .bool false] 37 := by rw [hW1]; exact Blk.alloc (Blk.newAt w _ _ _ rfl) _
    have y1 : Blk W1 (w.heap.size + 1) [.int .i64 f, .bool wt, .bool us, .bool di] 37 := by rw [hW1]; exact Blk.newAt _ _ _ _ (by simp)
    have k0 : W1.cell? ⟨w.heap.size + 1, 0, none⟩ = some (.int .i64 f) := y1.cell 0
    have k1 : W1.cell? ⟨w.heap.size + 1, 1, none⟩ = some (.bool wt) := y1.cell 1
    have k2 : W1.cell? ⟨w.heap.size + 1, 2, none⟩ = some (.bool us) := y1.cell 2
    have k3 : W1.cell? ⟨w.heap.size + 1, 3, none⟩ = some (.bool di) := y1.cell 3
    have HK := Lib.hid (fun (w' : World) (bb : Below W1.heap.size W1 w') => (show w'.cell? ⟨w.heap.size + 1, 0, none⟩ = some (.int .i64 f) ∧ w'.cell? ⟨w.heap.size + 1, 1, none⟩ = some (.bool wt) ∧ w'.cell? ⟨w.heap.size + 1, 2, none⟩ = some (.bool us) ∧ w'.cell? ⟨w.heap.size + 1, 3, none⟩ = some (.bool di) from
      ⟨(y1.below bb y1.lt).cell 0, (y1.below bb y1.lt).cell 1, (y1.below bb y1.lt).cell 2, (y1.below bb y1.lt).cell 3⟩))
    have HZ := Lib.hid (fun (w' : World) (bb : Below W1.heap.size W1 w') => (⟨y0.below bb y0.lt, bt bw bb, (bb.cell (p := ⟨gNo, 0, none⟩) (Nat.lt_of_lt_of_le hg bw.size)).trans ((bw.cell (p := ⟨gNo, 0, none⟩) hg).trans hae)⟩ : _ ∧ Below w.heap.size w w' ∧ w'.cell? ⟨gNo, 0, none⟩ = some (.iface 105 (.pointer (some ae)))))
    have hgt := guardE
    clear y0 y1 bw hT hlt hN hlo
    cases hd : decide (((f, wt, us, di) : TE) = ((-1, false, false, false) : TE))
    · have hne : ((f, wt, us, di) : TE) ≠ emp := fun h => by have := HES.out.1 h; rw [hd] at this; cases this
      have hq' : ∀ w, (Op.equalIn 10000 37 (.agg #[.int .i64 f, .bool wt, .bool us, .bool di]) (.agg #[.int .i64 (-1), .bool false, .bool false, .bool false])).run Tryd.prog w = .ok false w := fun w => by rw [HQ.out w, hd]
      clear HQ hd HES
      go_enter Tryd.func41, Tryd.ntmps41
      go_wp2
      rw [← hW1]
      clear hW1
      go_region_held3 (fun w' => w'.cell? ⟨w.heap.size + 1, 0, none⟩ = some (.int .i64 f) ∧ w'.cell? ⟨w.heap.size + 1, 1, none⟩ = some (.bool wt) ∧ w'.cell? ⟨w.heap.size + 1, 2, none⟩ = some (.bool us) ∧ w'.cell? ⟨w.heap.size + 1, 3, none⟩ = some (.bool di)) (first | exact ⟨k0, k1, k2, k3⟩ | exact HK.out _ (drew_below bb)) (first | (go_at_call 69; (with_reducible refine (hu'.out _).mono ?_); rintro e w1 ⟨rfl, bb⟩))
      all_goals
        obtain ⟨q0, q1, q2, q3⟩ := HK.out _ (drew_below bb)
        obtain ⟨y, hB, _⟩ := HZ.out _ (drew_below bb)
        have z0 : w1.cell? ⟨w.heap.size, 0, none⟩ = some (.int .i64 0) := y.cell 0
        have z1 : w1.cell? ⟨w.heap.size, 1, none⟩ = some (.bool false) := y.cell 1
        have z2 : w1.cell? ⟨w.heap.size, 2, none⟩ = some (.bool false) := y.cell 2
        have z3 : w1.cell? ⟨w.heap.size, 3, none⟩ = some (.bool false) := y.cell 3
        have g0 := y.froz 0
        have g1 := y.froz 1
        have g2 := y.froz 2
        have g3 := y.froz 3
        have HB := Lib.hid (fun (v0 v1 v2 v3 : Value) => (((hB.setCell (p := ⟨w.heap.size, 0, none⟩) (Nat.le_refl _) v0).setCell (p := ⟨w.heap.size, 1, none⟩) (Nat.le_refl _) v1).setCell (p := ⟨w.heap.size, 2, none⟩) (Nat.le_refl _) v2).setCell (p := ⟨w.heap.size, 3, none⟩) (Nat.le_refl _) v3)
        clear y hB bb HK HZ
        go_wp2
        refine bodyPost_ret (v := .tuple #[.agg #[.int .i64 f, .bool wt, .bool us, .bool di], Value.nilIface]) (by simp [results, Tryd.results41, go_sem, z0, z1, z2, z3, g0, g1, g2, g3]) rfl ?_
        exact ⟨.inr ⟨hne, rfl⟩, HB.out _ _ _ _⟩
    · have he := HES.out.2 hd
      have hq' : ∀ w, (Op.equalIn 10000 37 (.agg #[.int .i64 f, .bool wt, .bool us, .bool di]) (.agg #[.int .i64 (-1), .bool false, .bool false, .bool false])).run Tryd.prog w = .ok true w := fun w => by rw [HQ.out w, hd]
      clear HQ hd HES
      go_enter Tryd.func41, Tryd.ntmps41
      go_wp2
      rw [← hW1]
      clear hW1
      go_region_held3 (fun w' => w'.cell? ⟨w.heap.size + 1, 0, none⟩ = some (.int .i64 f) ∧ w'.cell? ⟨w.heap.size + 1, 1, none⟩ = some (.bool wt) ∧ w'.cell? ⟨w.heap.size + 1, 2, none⟩ = some (.bool us) ∧ w'.cell? ⟨w.heap.size + 1, 3, none⟩ = some (.bool di)) (first | exact ⟨k0, k1, k2, k3⟩ | exact HK.out _ (drew_below bb)) (first | (go_at_call 69; (with_reducible refine (hu'.out _).mono ?_); rintro e w1 ⟨rfl, bb⟩))
      all_goals
        obtain ⟨y, hB, hae1⟩ := HZ.out _ (drew_below bb)
        have z0 : w1.drew.cell? ⟨w.heap.size, 0, none⟩ = some (.int .i64 0) := y.cell 0
        have z1 : w1.drew.cell? ⟨w.heap.size, 1, none⟩ = some (.bool false) := y.cell 1
        have z2 : w1.drew.cell? ⟨w.heap.size, 2, none⟩ = some (.bool false) := y.cell 2
        have z3 : w1.drew.cell? ⟨w.heap.size, 3, none⟩ = some (.bool false) := y.cell 3
        have z0' : w1.cell? ⟨w.heap.size, 0, none⟩ = some (.int .i64 0) := y.cell 0
        have z1' : w1.cell? ⟨w.heap.size, 1, none⟩ = some (.bool false) := y.cell 1
        have z2' : w1.cell? ⟨w.heap.size, 2, none⟩ = some (.bool false) := y.cell 2
        have z3' : w1.cell? ⟨w.heap.size, 3, none⟩ = some (.bool false) := y.cell 3
        have g0 := y.froz 0
        have g1 := y.froz 1
        have g2 := y.froz 2
        have g3 := y.froz 3
        have f0 : w1.drew.frozen? ⟨w.heap.size, 0, none⟩ = false := g0
        have f1 : w1.drew.frozen? ⟨w.heap.size, 1, none⟩ = false := g1
        have f2 : w1.drew.frozen? ⟨w.heap.size, 2, none⟩ = false := g2
        have f3 : w1.drew.frozen? ⟨w.heap.size, 3, none⟩ = false := g3
        have hae2 : w1.drew.cell? ⟨gNo, 0, none⟩ = some (.iface 105 (.pointer (some ae))) := hae1
        have HB := Lib.hid (fun (v0 v1 v2 v3 : Value) => (((hB.drew.setCell (p := ⟨w.heap.size, 0, none⟩) (Nat.le_refl _) v0).setCell (p := ⟨w.heap.size, 1, none⟩) (Nat.le_refl _) v1).setCell (p := ⟨w.heap.size, 2, none⟩) (Nat.le_refl _) v2).setCell (p := ⟨w.heap.size, 3, none⟩) (Nat.le_refl _) v3)
        clear y hB bb HK HZ
        go_wp2
        go_region
      all_goals
        go_wp2
        refine bodyPost_ret (v := .tuple #[.agg #[.int .i64 0, .bool false, .bool false, .bool false], .iface 105 (.pointer (some ae))]) (by simp [results, Tryd.results41, go_sem, z0, z1, z2, z3, f0, f1, f2, f3, z0', z1', z2', z3', g0, g1, g2, g3]) rfl ?_
        exact ⟨.inl ⟨he, ae, rfl⟩, HB.out _ _ _ _⟩
end Go.Proofs.YtifjkjcgpghmhaaDoor.Sp
