/- Both WalkPage; both BufferAgrees. -/
import Derived.Test.YtifjkjcgpghmhaaDoorCspx
import Derived.Deep.QuietTactic
namespace Go.Proofs.YtifjkjcgpghmhaaDoor.Sp
open Go.RowKit
theorem okSpace_parts {root : List Int} {tss : List (List TE)} {buf : List TC} (h : okSpace root tss buf = true) : OkT root tss ∧ okEnts tss = true ∧ okBuf buf = true := by
  unfold okSpace at h
  rw [Bool.and_eq_true, Bool.and_eq_true] at h
  exact ⟨okTab_ok h.1.1, h.1.2, h.2⟩
/-- What WalkPage answers. -/
def wpE (root : List Int) (tss : List (List TE)) (buf : List TC) (pg : Int) : Bool × TE :=
  if okSpace root tss buf && isPg pg then (if entAt root tss pg.toNat = emp then (false, dE) else (true, entAt root tss pg.toNat)) else (false, dE)
def WkP (r : Bool × TE) (w : World) (x : Ending) (w' : World) : Prop := x = .returned (.tuple #[.agg #[.int .i64 r.2.1, .bool r.2.2.1, .bool r.2.2.2.1, .bool r.2.2.2.2], .bool r.1]) ∧ Below w.heap.size w w'
theorem isPg_nat {pg : Int} (h : isPg pg = true) : ∃ P : Nat, pg = (P : Int) ∧ P < 64 := by
  have : 0 ≤ pg ∧ pg ≤ 63 := by simpa [isPg] using h
  exact ⟨pg.toNat, by omega, by omega⟩
set_option maxRecDepth 100000 in
set_option maxHeartbeats 4000000 in
theorem wp_s {w : World} {v : Value} {root : List Int} {tss : List (List TE)} {buf : List TC} (h : RdS w v root tss buf) (hl : tot root.length tss buf.length ≤ 1048576) (pg : Int) :
    Calls Tryd.prog 13 #[v, .int .i64 pg] w (WkP (wpE root tss buf pg) w) := by
  obtain ⟨a1, c1, a2, c2, a3, c3, rfl, r1, r2, r3, hcap⟩ := h
  unfold tot at hl
  obtain ⟨W1, hW1⟩ : ∃ W1, W1 = (w.alloc (.cells #[.slice a1 root.length c1, .slice a2 tss.length c2, .slice a3 buf.length c3] 32)).alloc (.cells #[.int .i64 0, .bool false, .bool false, .bool false] 37) := ⟨_, rfl⟩
  have b0 : Below w.heap.size w W1 := by rw [hW1]; exact ((Below.refl _ w).alloc (Nat.le_refl _) _).alloc (by simp) _
  have bk : Blk W1 w.heap.size [.slice a1 root.length c1, .slice a2 tss.length c2, .slice a3 buf.length c3] 32 := by rw [hW1]; exact Blk.alloc (Blk.newAt w _ _ _ rfl) _
  have bz : Blk W1 (w.heap.size + 1) [.int .i64 0, .bool false, .bool false, .bool false] 37 := by rw [hW1]; exact Blk.newAt _ _ _ _ (by simp)
  have HS := Lib.hid (is_s w.heap.size a1 a2 a3 c1 c2 c3 root tss buf W1 bk.lt (by omega) (by omega) (by omega) (bk.cell 0) (bk.cell 1) (bk.cell 2) ((Rd.row' r1).below b0) (r2.below b0) (r3.below b0) hcap)
  have hA := Lib.hid (fun w => page_s pg w)
  have HW := Lib.hid (fun (hok : okSpace root tss buf = true) (w' : World) (bb : Below W1.heap.size W1 w') (P : Nat) (hP : P < 64) => (show Calls Tryd.prog 30 #[.pointer (some ⟨w.heap.size, 0, none⟩), .int .i64 (P : Nat)] w' (EnP (entAt root tss P) w') from by
    obtain ⟨k1, k2, k3⟩ := okSpace_parts hok
    have y := bk.below bb bk.lt
    have bw := bt b0 bb
    exact walk_s w.heap.size tss.length a1 a2 c1 c2 root tss w' rfl (by have h := y.cell 0; rw [k1.1] at h; exact h) (y.cell 1) P hP (entC ((Rd.row' r1).below bw) (r2.below bw) k1 P hP) k1.2.2.2))
  have HZ := Lib.hid (fun (w' : World) (bb : Below W1.heap.size W1 w') => (⟨bz.below bb bz.lt, bt b0 bb⟩ : _ ∧ _))
  have HE := Lib.hid (fun (hok : okSpace root tss buf = true) (P : Nat) (hP : P < 64) => entAt_ok (okSpace_parts hok).1 (okSpace_parts hok).2.1 P hP)
  clear r1 r2 r3 hcap hl b0 bk bz
  cases hok : okSpace root tss buf
  case false =>
    rw [hok] at HS
    have e : wpE root tss buf pg = (false, dE) := by unfold wpE; rw [hok]; rfl
    rw [e]
    clear e HE HW hok
    generalize root.length = n1 at *
    generalize tss.length = n2 at *
    generalize buf.length = n3 at *
    go_enter Tryd.func13, Tryd.ntmps13
    go_wp2_with fail
    rw [← hW1]
    clear hW1
    refine HS.out.mono ?_; rintro e w1 ⟨rfl, b1⟩
    obtain ⟨y, hB⟩ := HZ.out w1 b1
    have z0 : w1.cell? ⟨w.heap.size + 1, 0, none⟩ = some (.int .i64 0) := y.cell 0
    have z1 : w1.cell? ⟨w.heap.size + 1, 1, none⟩ = some (.bool false) := y.cell 1
    have z2 : w1.cell? ⟨w.heap.size + 1, 2, none⟩ = some (.bool false) := y.cell 2
    have z3 : w1.cell? ⟨w.heap.size + 1, 3, none⟩ = some (.bool false) := y.cell 3
    have g0 := y.froz 0
    have g1 := y.froz 1
    have g2 := y.froz 2
    have g3 := y.froz 3
    have HB := Lib.hid (fun (v0 v1 v2 v3 : Value) => (((hB.setCell (p := ⟨w.heap.size + 1, 0, none⟩) (by simp) v0).setCell (p := ⟨w.heap.size + 1, 1, none⟩) (by simp) v1).setCell (p := ⟨w.heap.size + 1, 2, none⟩) (by simp) v2).setCell (p := ⟨w.heap.size + 1, 3, none⟩) (by simp) v3)
    clear y hB b1 HZ
    go_wp2
    refine bodyPost_ret (v := .tuple #[.agg #[.int .i64 0, .bool false, .bool false, .bool false], .bool false]) (by simp [results, Tryd.results13, go_sem, z0, z1, z2, z3, g0, g1, g2, g3]) rfl ?_
    exact ⟨rfl, HB.out _ _ _ _⟩
  rw [hok] at HS
  cases hpg : isPg pg
  case false =>
    have e : wpE root tss buf pg = (false, dE) := by unfold wpE; rw [hok, hpg]; rfl
    rw [e]
    rw [hpg] at hA
    clear e HE HW hok
    generalize root.length = n1 at *
    generalize tss.length = n2 at *
    generalize buf.length = n3 at *
    go_enter Tryd.func13, Tryd.ntmps13
    go_wp2_with fail
    rw [← hW1]
    clear hW1
    refine HS.out.mono ?_; rintro e w1 ⟨rfl, b1⟩
    obtain ⟨y, hB⟩ := HZ.out w1 b1
    have z0 : w1.cell? ⟨w.heap.size + 1, 0, none⟩ = some (.int .i64 0) := y.cell 0
    have z1 : w1.cell? ⟨w.heap.size + 1, 1, none⟩ = some (.bool false) := y.cell 1
    have z2 : w1.cell? ⟨w.heap.size + 1, 2, none⟩ = some (.bool false) := y.cell 2
    have z3 : w1.cell? ⟨w.heap.size + 1, 3, none⟩ = some (.bool false) := y.cell 3
    have g0 := y.froz 0
    have g1 := y.froz 1
    have g2 := y.froz 2
    have g3 := y.froz 3
    have HB := Lib.hid (fun (v0 v1 v2 v3 : Value) => (((hB.setCell (p := ⟨w.heap.size + 1, 0, none⟩) (by simp) v0).setCell (p := ⟨w.heap.size + 1, 1, none⟩) (by simp) v1).setCell (p := ⟨w.heap.size + 1, 2, none⟩) (by simp) v2).setCell (p := ⟨w.heap.size + 1, 3, none⟩) (by simp) v3)
    clear y hB b1 HZ
    go_wp2_with (go_at_call 39; refine (hA.out _).mono ?_; rintro e w' ⟨rfl, rfl⟩)
    refine bodyPost_ret (v := .tuple #[.agg #[.int .i64 0, .bool false, .bool false, .bool false], .bool false]) (by simp [results, Tryd.results13, go_sem, z0, z1, z2, z3, g0, g1, g2, g3]) rfl ?_
    exact ⟨rfl, HB.out _ _ _ _⟩
  obtain ⟨P, rfl, hP⟩ := isPg_nat hpg
  rw [hpg] at hA
  have e : wpE root tss buf P = if entAt root tss P = emp then (false, dE) else (true, entAt root tss P) := by unfold wpE; rw [hok, hpg]; rfl
  rw [e]
  have HW' := Lib.hid (fun w' bb => HW.out hok w' bb P hP)
  have HE' := HE.out hok P hP
  clear e HE HW hok hpg
  generalize entAt root tss P = u at *
  obtain ⟨f, wt, us, di⟩ := u
  generalize root.length = n1 at *
  generalize tss.length = n2 at *
  generalize buf.length = n3 at *
  by_cases hemp : ((f, wt, us, di) : TE) = emp
  · rw [if_pos hemp]
    simp [emp] at hemp
    obtain ⟨rfl, rfl, rfl, rfl⟩ := hemp
    clear HE'
    go_enter Tryd.func13, Tryd.ntmps13
    go_wp2_with fail
    rw [← hW1]
    clear hW1
    refine HS.out.mono ?_; rintro e w1 ⟨rfl, b1⟩
    go_wp2_with fail
    refine (hA.out _).mono ?_; rintro e w1' ⟨rfl, rfl⟩
    go_wp2_with fail
    refine (HW'.out w1 b1).mono ?_; rintro e w2 ⟨rfl, b2⟩
    obtain ⟨y, hB⟩ := HZ.out w2 (bt b1 b2)
    clear HW' HS b1 b2
    have z0 : w2.cell? ⟨w.heap.size + 1, 0, none⟩ = some (.int .i64 0) := y.cell 0
    have z1 : w2.cell? ⟨w.heap.size + 1, 1, none⟩ = some (.bool false) := y.cell 1
    have z2 : w2.cell? ⟨w.heap.size + 1, 2, none⟩ = some (.bool false) := y.cell 2
    have z3 : w2.cell? ⟨w.heap.size + 1, 3, none⟩ = some (.bool false) := y.cell 3
    have g0 := y.froz 0
    have g1 := y.froz 1
    have g2 := y.froz 2
    have g3 := y.froz 3
    have hz : w.heap.size + 1 < w2.heap.size := y.lt
    have HB := Lib.hid (fun (v0 v1 v2 v3 : Value) => Below.alloc ((((hB.setCell (p := ⟨w.heap.size + 1, 0, none⟩) (by simp) v0).setCell (p := ⟨w.heap.size + 1, 1, none⟩) (by simp) v1).setCell (p := ⟨w.heap.size + 1, 2, none⟩) (by simp) v2).setCell (p := ⟨w.heap.size + 1, 3, none⟩) (by simp) v3) (by simp; omega) (.cells #[.int .i64 (-1), .bool false, .bool false, .bool false] 37))
    clear y hB HZ
    go_wp2
    refine bodyPost_ret (v := .tuple #[.agg #[.int .i64 0, .bool false, .bool false, .bool false], .bool false]) (by simp [results, Tryd.results13, go_sem, z0, z1, z2, z3, g0, g1, g2, g3, hz]) rfl ?_
    exact ⟨rfl, HB.out _ _ _ _⟩
  · rw [if_neg hemp]
    have hf : ¬ f < 0 := by
      rcases HE' with h | h
      · exact absurd h hemp
      · have := h.1; simp only at this; omega
    clear HE' hemp
    go_enter Tryd.func13, Tryd.ntmps13
    go_wp2_with fail
    rw [← hW1]
    clear hW1
    refine HS.out.mono ?_; rintro e w1 ⟨rfl, b1⟩
    go_wp2_with fail
    refine (hA.out _).mono ?_; rintro e w1' ⟨rfl, rfl⟩
    go_wp2_with fail
    refine (HW'.out w1 b1).mono ?_; rintro e w2 ⟨rfl, b2⟩
    obtain ⟨y, hB⟩ := HZ.out w2 (bt b1 b2)
    clear HW' HS b1 b2
    have z0 : w2.cell? ⟨w.heap.size + 1, 0, none⟩ = some (.int .i64 0) := y.cell 0
    have z1 : w2.cell? ⟨w.heap.size + 1, 1, none⟩ = some (.bool false) := y.cell 1
    have z2 : w2.cell? ⟨w.heap.size + 1, 2, none⟩ = some (.bool false) := y.cell 2
    have z3 : w2.cell? ⟨w.heap.size + 1, 3, none⟩ = some (.bool false) := y.cell 3
    have g0 := y.froz 0
    have g1 := y.froz 1
    have g2 := y.froz 2
    have g3 := y.froz 3
    have hz : w.heap.size + 1 < w2.heap.size := y.lt
    have HB := Lib.hid (fun (v0 v1 v2 v3 : Value) => Below.alloc ((((hB.setCell (p := ⟨w.heap.size + 1, 0, none⟩) (by simp) v0).setCell (p := ⟨w.heap.size + 1, 1, none⟩) (by simp) v1).setCell (p := ⟨w.heap.size + 1, 2, none⟩) (by simp) v2).setCell (p := ⟨w.heap.size + 1, 3, none⟩) (by simp) v3) (by simp; omega) (.cells #[.int .i64 f, .bool wt, .bool us, .bool di] 37))
    clear y hB HZ
    go_wp2
    refine bodyPost_ret (v := .tuple #[.agg #[.int .i64 f, .bool wt, .bool us, .bool di], .bool true]) (by simp [results, Tryd.results13, go_sem, z0, z1, z2, z3, g0, g1, g2, g3, hz]) rfl ?_
    exact ⟨rfl, HB.out _ _ _ _⟩

def PsB (w : World) (B X : Nat) (root : List Int) (tss : List (List TE)) (buf : List TC) : Prop :=
  ∃ a1 c1 a2 c2 a3 c3, w.cell? ⟨X, 0, none⟩ = some (.slice a3 buf.length c3) ∧ w.cell? ⟨X, 1, none⟩ = some (.slice a1 root.length c1) ∧ w.cell? ⟨X, 2, none⟩ = some (.slice a2 tss.length c2) ∧ X < w.heap.size ∧ Row w a1 root ∧ En.RdT w a2 tss ∧ Ch.RdR w a3 buf
theorem PsV.parts {w : World} {B : Nat} {v : Value} {root : List Int} {tss : List (List TE)} {buf : List TC} (h : PsV w B v root tss buf) :
    ∃ a1 c1 a2 c2 a3 c3, v = .agg #[.slice a3 buf.length c3, .slice a1 root.length c1, .slice a2 tss.length c2] ∧ Row w a1 root ∧ En.RdT w a2 tss ∧ Ch.RdR w a3 buf := by
  obtain ⟨a1, c1, a2, c2, a3, c3, vs, h1, h2, e, l1, l2, l3, o3, _, o1, _, o2, hs⟩ := h
  exact ⟨a1, c1, a2, c2, a3, c3, e, Rd.row' o1.rd, slT_rdT o2 hs, OwnR.rdAt o3⟩
set_option maxRecDepth 100000 in
set_option maxHeartbeats 4000000 in
theorem wp_i {w : World} {v : Value} {root : List Int} {tss : List (List TE)} {buf : List TC} (h : RdS w v root tss buf) (hl : tot root.length tss buf.length ≤ 1048576) (her : Er w) (pg : Int) :
    Calls Tryd.prog 14 #[v, .int .i64 pg] w (WkP (wpE root tss buf pg) w) := by
  obtain ⟨a1, c1, a2, c2, a3, c3, rfl, r1, r2, r3, hcap⟩ := h
  obtain ⟨W1, hW1⟩ : ∃ W1, W1 = (w.alloc (.cells #[.slice a1 root.length c1, .slice a2 tss.length c2, .slice a3 buf.length c3] 32)).alloc (.cells #[.int .i64 0, .bool false, .bool false, .bool false] 37) := ⟨_, rfl⟩
  have b0 : Below w.heap.size w W1 := by rw [hW1]; exact ((Below.refl _ w).alloc (Nat.le_refl _) _).alloc (by simp) _
  have bz : Blk W1 (w.heap.size + 1) [.int .i64 0, .bool false, .bool false, .bool false] 37 := by rw [hW1]; exact Blk.newAt _ _ _ _ (by simp)
  have hRd : RdS w (agg3 a1 root.length c1 a2 tss.length c2 a3 buf.length c3) root tss buf := ⟨a1, c1, a2, c2, a3, c3, rfl, r1, r2, r3, hcap⟩
  have HP := Lib.hid (pso_i (hRd.below b0) hl)
  have hA := Lib.hid (fun w => page_i pg w)
  have HZ := Lib.hid (fun (w' : World) (bb : Below W1.heap.size W1 w') => (⟨bz.below bb bz.lt, bt b0 bb⟩ : _ ∧ _))
  have HER := Lib.hid (fun (w' : World) (bb : Below W1.heap.size W1 w') => her.below (bt b0 bb))
  have HOK := Lib.hid (fun (h : okSpace root tss buf = true) => okSpace_parts h)
  clear r1 r2 r3 hcap hl b0 bz hRd her
  cases hok : okSpace root tss buf
  case false =>
    rw [hok] at HP
    have e : wpE root tss buf pg = (false, dE) := by unfold wpE; rw [hok]; rfl
    rw [e]
    clear e hok HOK
    generalize root.length = n1 at *
    generalize tss.length = n2 at *
    generalize buf.length = n3 at *
    go_enter Tryd.func14, Tryd.ntmps14
    go_wp2_with fail
    rw [← hW1]
    clear hW1
    refine HP.out.mono ?_; rintro e w1 ⟨v, rfl, b1, h1, _⟩
    have hv := h1 rfl
    subst hv
    obtain ⟨y, hB⟩ := HZ.out w1 b1
    have z0 : w1.cell? ⟨w.heap.size + 1, 0, none⟩ = some (.int .i64 0) := y.cell 0
    have z1 : w1.cell? ⟨w.heap.size + 1, 1, none⟩ = some (.bool false) := y.cell 1
    have z2 : w1.cell? ⟨w.heap.size + 1, 2, none⟩ = some (.bool false) := y.cell 2
    have z3 : w1.cell? ⟨w.heap.size + 1, 3, none⟩ = some (.bool false) := y.cell 3
    have g0 := y.froz 0
    have g1 := y.froz 1
    have g2 := y.froz 2
    have g3 := y.froz 3
    have hz : w.heap.size + 1 < w1.heap.size := y.lt
    have HBA := Lib.hid (fun (v0 v1 v2 v3 : Value) (o : Obj) => Below.alloc ((((hB.setCell (p := ⟨w.heap.size + 1, 0, none⟩) (by simp) v0).setCell (p := ⟨w.heap.size + 1, 1, none⟩) (by simp) v1).setCell (p := ⟨w.heap.size + 1, 2, none⟩) (by simp) v2).setCell (p := ⟨w.heap.size + 1, 3, none⟩) (by simp) v3) (by simp; omega) o)
    have HBB := Lib.hid (fun (v0 v1 v2 v3 : Value) (o : Obj) => ((((hB.alloc hB.size o).setCell (p := ⟨w.heap.size + 1, 0, none⟩) (by simp) v0).setCell (p := ⟨w.heap.size + 1, 1, none⟩) (by simp) v1).setCell (p := ⟨w.heap.size + 1, 2, none⟩) (by simp) v2).setCell (p := ⟨w.heap.size + 1, 3, none⟩) (by simp) v3)
    clear y hB b1 HZ h1 HER
    go_wp2
    refine bodyPost_ret (v := .tuple #[.agg #[.int .i64 0, .bool false, .bool false, .bool false], .bool false]) (by simp [results, Tryd.results14, go_sem, z0, z1, z2, z3, g0, g1, g2, g3, hz]) rfl ?_
    exact ⟨rfl, by first | exact HBA.out _ _ _ _ _ | exact HBB.out _ _ _ _ _⟩
  rw [hok] at HP
  obtain ⟨kT, kE, kB⟩ := HOK.out hok
  clear HOK
  cases hpg : isPg pg
  case false =>
    have e : wpE root tss buf pg = (false, dE) := by unfold wpE; rw [hok, hpg]; rfl
    rw [e]
    rw [hpg] at hA
    clear e hok
    have HPX := Lib.hid (fun (w' : World) (v : Value) (B : Nat) (h2 : PsV w' B v root tss buf) => (show ∃ x y z n m l c d e, v = .agg #[.slice x n c, .slice y m d, .slice z l e] from by
      obtain ⟨a1, c1, a2, c2, a3, c3, e, _⟩ := h2.parts
      exact ⟨_, _, _, _, _, _, _, _, _, e⟩))
    generalize root.length = n1 at *
    generalize tss.length = n2 at *
    generalize buf.length = n3 at *
    go_enter Tryd.func14, Tryd.ntmps14
    go_wp2_with fail
    rw [← hW1]
    clear hW1
    refine HP.out.mono ?_; rintro e w1 ⟨v, rfl, b1, _, h2⟩
    obtain ⟨_, _, _, _, _, _, _, _, _, rfl⟩ := HPX.out _ _ _ (h2 rfl)
    obtain ⟨y, hB⟩ := HZ.out w1 b1
    have z0 : w1.cell? ⟨w.heap.size + 1, 0, none⟩ = some (.int .i64 0) := y.cell 0
    have z1 : w1.cell? ⟨w.heap.size + 1, 1, none⟩ = some (.bool false) := y.cell 1
    have z2 : w1.cell? ⟨w.heap.size + 1, 2, none⟩ = some (.bool false) := y.cell 2
    have z3 : w1.cell? ⟨w.heap.size + 1, 3, none⟩ = some (.bool false) := y.cell 3
    have g0 := y.froz 0
    have g1 := y.froz 1
    have g2 := y.froz 2
    have g3 := y.froz 3
    have hz : w.heap.size + 1 < w1.heap.size := y.lt
    have HBA := Lib.hid (fun (v0 v1 v2 v3 : Value) (o : Obj) => Below.alloc ((((hB.setCell (p := ⟨w.heap.size + 1, 0, none⟩) (by simp) v0).setCell (p := ⟨w.heap.size + 1, 1, none⟩) (by simp) v1).setCell (p := ⟨w.heap.size + 1, 2, none⟩) (by simp) v2).setCell (p := ⟨w.heap.size + 1, 3, none⟩) (by simp) v3) (by simp; omega) o)
    have HBB := Lib.hid (fun (v0 v1 v2 v3 : Value) (o : Obj) => ((((hB.alloc hB.size o).setCell (p := ⟨w.heap.size + 1, 0, none⟩) (by simp) v0).setCell (p := ⟨w.heap.size + 1, 1, none⟩) (by simp) v1).setCell (p := ⟨w.heap.size + 1, 2, none⟩) (by simp) v2).setCell (p := ⟨w.heap.size + 1, 3, none⟩) (by simp) v3)
    clear y hB b1 HZ h2 HER HPX kT kE kB
    go_wp2_with (go_at_call 40; refine (hA.out _).mono ?_; rintro e w' ⟨rfl, rfl⟩)
    refine bodyPost_ret (v := .tuple #[.agg #[.int .i64 0, .bool false, .bool false, .bool false], .bool false]) (by simp [results, Tryd.results14, go_sem, z0, z1, z2, z3, g0, g1, g2, g3, hz]) rfl ?_
    exact ⟨rfl, by first | exact HBA.out _ _ _ _ _ | exact HBB.out _ _ _ _ _⟩
  obtain ⟨P, rfl, hP⟩ := isPg_nat hpg
  rw [hpg] at hA
  have e : wpE root tss buf P = if entAt root tss P = emp then (false, dE) else (true, entAt root tss P) := by unfold wpE; rw [hok, hpg]; rfl
  rw [e]
  clear e hok hpg
  have HEO := Lib.hid (fun (w' : World) (X : Nat) (a1 a2 : Option Addr) (c1 c2 : Nat) (h0 : w'.cell? ⟨X, 1, none⟩ = some (.slice a1 root.length c1)) (h1 : w'.cell? ⟨X, 2, none⟩ = some (.slice a2 tss.length c2)) (g1 : Row w' a1 root) (g2 : En.RdT w' a2 tss) (ge : Er w') =>
    entryOf_i X tss.length a1 a2 c1 c2 root tss w' rfl (by rw [kT.1] at h0; exact h0) h1 P hP (entC g1 g2 kT P hP) kT.2.2.2 ge ((kT.2.1 (P / 8) (by omega)).1))
  have HPX := Lib.hid (fun (w' : World) (v : Value) (B : Nat) (h2 : PsV w' B v root tss buf) => h2.parts)
  clear kT kE kB
  generalize entAt root tss P = u at *
  obtain ⟨f, wt, us, di⟩ := u
  generalize root.length = n1 at *
  generalize tss.length = n2 at *
  generalize buf.length = n3 at *
  obtain ⟨R, hR⟩ : ∃ R : Bool × TE, (if ((f, wt, us, di) : TE) = emp then (false, dE) else (true, (f, wt, us, di))) = R := ⟨_, rfl⟩
  have HRR := Lib.hid hR
  rw [hR]
  clear hR
  go_enter Tryd.func14, Tryd.ntmps14
  go_wp2_with fail
  rw [← hW1]
  clear hW1
  refine HP.out.mono ?_; rintro e w1 ⟨v, rfl, b1, _, h2⟩
  obtain ⟨A1, C1, A2, C2, A3, C3, rfl, q1, q2, _⟩ := HPX.out _ _ _ (h2 rfl)
  go_wp2_with (go_at_call 40; refine (hA.out _).mono ?_; rintro e w' ⟨rfl, rfl⟩)
  have ba := (Below.refl w1.heap.size w1).alloc (Nat.le_refl _) (.cells #[.slice A3 n3 C3, .slice A1 n1 C1, .slice A2 n2 C2] 59)
  have ka := Blk.newAt w1 w1.heap.size [.slice A3 n3 C3, .slice A1 n1 C1, .slice A2 n2 C2] 59 rfl
  refine (HEO.out _ w1.heap.size A1 A2 C1 C2 (ka.cell 1) (ka.cell 2) (q1.below ba) (q2.below ba) ((HER.out w1 b1).below ba)).mono ?_
  rintro e w2 ⟨hcase, b2⟩
  obtain ⟨y, hB⟩ := HZ.out w2 (bt (bt b1 ba) b2)
  clear HEO HER HPX HP ka h2 q1 q2
  have z0 : w2.cell? ⟨w.heap.size + 1, 0, none⟩ = some (.int .i64 0) := y.cell 0
  have z1 : w2.cell? ⟨w.heap.size + 1, 1, none⟩ = some (.bool false) := y.cell 1
  have z2 : w2.cell? ⟨w.heap.size + 1, 2, none⟩ = some (.bool false) := y.cell 2
  have z3 : w2.cell? ⟨w.heap.size + 1, 3, none⟩ = some (.bool false) := y.cell 3
  have g0 := y.froz 0
  have g1 := y.froz 1
  have g2 := y.froz 2
  have g3 := y.froz 3
  have hz : w.heap.size + 1 < w2.heap.size := y.lt
  have HBA := Lib.hid (fun (v0 v1 v2 v3 : Value) (o : Obj) => Below.alloc ((((hB.setCell (p := ⟨w.heap.size + 1, 0, none⟩) (by simp) v0).setCell (p := ⟨w.heap.size + 1, 1, none⟩) (by simp) v1).setCell (p := ⟨w.heap.size + 1, 2, none⟩) (by simp) v2).setCell (p := ⟨w.heap.size + 1, 3, none⟩) (by simp) v3) (by simp; omega) o)
  have HBB := Lib.hid (fun (v0 v1 v2 v3 : Value) (o : Obj) => ((((hB.alloc hB.size o).setCell (p := ⟨w.heap.size + 1, 0, none⟩) (by simp) v0).setCell (p := ⟨w.heap.size + 1, 1, none⟩) (by simp) v1).setCell (p := ⟨w.heap.size + 1, 2, none⟩) (by simp) v2).setCell (p := ⟨w.heap.size + 1, 3, none⟩) (by simp) v3)
  clear y hB b1 b2 ba HZ
  rcases hcase with ⟨hemp, ae, rfl⟩ | ⟨hemp, rfl⟩
  · have hR2 := HRR.out
    rw [if_pos hemp] at hR2
    subst hR2
    have hn1 : ∀ w : World, (binOp .eql 68 (.iface 105 (.pointer (some ae))) Value.nilIface).run Tryd.prog w = .ok (.bool false) w := fun _ => rfl
    clear HRR hemp
    go_wp2
    go_region
    all_goals
      go_wp2
      refine bodyPost_ret (v := .tuple #[.agg #[.int .i64 0, .bool false, .bool false, .bool false], .bool false]) (by simp [results, Tryd.results14, go_sem, z0, z1, z2, z3, g0, g1, g2, g3, hz]) rfl ?_
      exact ⟨rfl, by first | exact HBA.out _ _ _ _ _ | exact HBB.out _ _ _ _ _ | exact (HBA.out _ _ _ _ _).drew | exact (HBB.out _ _ _ _ _).drew⟩
  · have hR2 := HRR.out
    rw [if_neg hemp] at hR2
    subst hR2
    have hn1 : ∀ w : World, (binOp .eql 68 Value.nilIface Value.nilIface).run Tryd.prog w = .ok (.bool true) w := fun _ => rfl
    clear HRR hemp
    go_wp2
    go_region
    all_goals
      go_wp2
      refine bodyPost_ret (v := .tuple #[.agg #[.int .i64 f, .bool wt, .bool us, .bool di], .bool true]) (by simp [results, Tryd.results14, go_sem, z0, z1, z2, z3, g0, g1, g2, g3, hz]) rfl ?_
      exact ⟨rfl, by first | exact HBA.out _ _ _ _ _ | exact HBB.out _ _ _ _ _ | exact (HBA.out _ _ _ _ _).drew | exact (HBB.out _ _ _ _ _).drew⟩
end Go.Proofs.YtifjkjcgpghmhaaDoor.Sp
