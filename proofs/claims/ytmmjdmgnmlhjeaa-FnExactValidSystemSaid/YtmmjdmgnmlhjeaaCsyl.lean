/- The program's state of a line out of a system. -/
import Derived.Test.YtmmjdmgnmlhjeaaCsyv
namespace Go.Proofs.Ytmmjdmgnmlhjeaa.Sy
open Go.RowKit
theorem blk1 {w : World} {b : Nat} {cs : List Value} {t : TypeId} (h : Blk w b cs t) (j : Nat) (v : Value) (hj : j < cs.length) : Blk (w.setCell ⟨b, j, none⟩ v) b (cs.set j v) t := by
  have k := blk_set b t [v] j cs w h (by simp; omega)
  have e : Go.splice cs j [v] = cs.set j v := by
    rw [← splice_cons cs j v [] hj]
    simp [Go.splice]
  rw [e] at k
  exact k
/-- A state's cells, the first j of its caches known. -/
def LSj (n : Int) (cs : List Int) (fs : List Bool) (m : Bool) (j : Nat) : List Value :=
  [.int .i64 n, .int .i64 ((cs.take j).getD 0 0), .int .i64 ((cs.take j).getD 1 0), .int .i64 ((cs.take j).getD 2 0), .bool ((fs.take j).getD 0 false), .bool ((fs.take j).getD 1 false), .bool ((fs.take j).getD 2 false), .bool m]
def LS (cs : List Int) (fs : List Bool) (m : Bool) : List Value :=
  [.int .i64 (cs.length : Int), .int .i64 (cs.getD 0 0), .int .i64 (cs.getD 1 0), .int .i64 (cs.getD 2 0), .bool (fs.getD 0 false), .bool (fs.getD 1 false), .bool (fs.getD 2 false), .bool m]
def LZ : List Value := [.int .i64 0, .int .i64 0, .int .i64 0, .int .i64 0, .bool false, .bool false, .bool false, .bool false]
theorem LSj_end (cs : List Int) (fs : List Bool) (m : Bool) (h : fs.length = cs.length) : LSj (cs.length : Int) cs fs m cs.length = LS cs fs m := by
  unfold LSj LS
  rw [← h, List.take_length, h, List.take_length]
theorem LSj_zero (n : Int) (cs : List Int) (fs : List Bool) (m : Bool) : LSj n cs fs m 0 = [.int .i64 n, .int .i64 0, .int .i64 0, .int .i64 0, .bool false, .bool false, .bool false, .bool m] := rfl
theorem LSj_step (n : Int) (cs : List Int) (fs : List Bool) (m : Bool) (j : Nat) (hj : j < cs.length) (h3 : cs.length ≤ 3) (h : fs.length = cs.length) :
    ((LSj n cs fs m j).set (1 + j) (.int .i64 (cs.getD j 0))).set (4 + j) (.bool (fs.getD j false)) = LSj n cs fs m (j + 1) := by
  match cs, fs, h with
  | [x], [y], _ => match j, hj with | 0, _ => rfl
  | [x, x'], [y, y'], _ => match j, hj with | 0, _ => rfl | 1, _ => rfl
  | [x, x', x''], [y, y', y''], _ => match j, hj with | 0, _ => rfl | 1, _ => rfl | 2, _ => rfl
  | _ :: _ :: _ :: _ :: _, _, _ => simp at h3
theorem LSj_step' (n : Int) (cs : List Int) (fs : List Bool) (m : Bool) (j : Nat) (hj : j < cs.length) (h3 : cs.length ≤ 3) (h : fs.length = cs.length) :
    ((LSj n cs fs m j).set (4 + j) (.bool (fs.getD j false))).set (1 + j) (.int .i64 (cs.getD j 0)) = LSj n cs fs m (j + 1) := by
  rw [List.set_comm _ _ (by omega)]
  exact LSj_step n cs fs m j hj h3 h
theorem LSj_len (n : Int) (cs : List Int) (fs : List Bool) (m : Bool) (j : Nat) : (LSj n cs fs m j).length = 8 := rfl
theorem LSj_at (n : Int) (cs : List Int) (fs : List Bool) (m : Bool) (j : Nat) (hj : j < 3) : (∃ u, (LSj n cs fs m j)[1 + j]? = some (.int .i64 u)) ∧ (∃ u, (LSj n cs fs m j)[4 + j]? = some (.bool u)) := by
  match j, hj with
  | 0, _ => exact ⟨⟨_, rfl⟩, ⟨_, rfl⟩⟩
  | 1, _ => exact ⟨⟨_, rfl⟩, ⟨_, rfl⟩⟩
  | 2, _ => exact ⟨⟨_, rfl⟩, ⟨_, rfl⟩⟩
def LineR (b : Bool) (cs : List Int) (fs : List Bool) (m : Bool) (w : World) (e : Ending) (w' : World) : Prop :=
  e = .returned (.tuple #[.agg (if b then LS cs fs m else LZ).toArray, .bool b]) ∧ Below w.heap.size w w'
abbrev Z8 : Obj := .cells #[.int .i64 0, .int .i64 0, .int .i64 0, .int .i64 0, .bool false, .bool false, .bool false, .bool false] 86
set_option maxHeartbeats 4000000 in
set_option maxRecDepth 100000 in
theorem lineOf_i (a0 a1 : Option Addr) (c0 c1 : Nat) (cs : List Int) (fs : List Bool) (mm : Bool) (b : Bool) (hb : b = true ↔ okS cs fs) (w : World)
    (h0 : Row w a0 cs) (h1 : Bo.RdR w a1 fs) (hm : cs.length ≤ 1048576 ∧ fs.length ≤ 1048576) :
    Calls Try.prog 55 #[.agg #[.slice a0 cs.length c0, .slice a1 fs.length c1, .bool mm]] w (LineR b cs fs mm w) := by
  have H0 := Lib.hid h0
  have H1 := Lib.hid h1
  have HC := Lib.hid (fun (n : Int) (w : World) => copy_i n w)
  unfold Bo.RdR at H1
  unfold Row at H0
  obtain ⟨hm1, hm2⟩ := hm
  have hG : Hid (∀ o1 o2, Below w.heap.size w ((w.alloc o1).alloc o2)) := fun o1 o2 => ((Below.refl _ w).alloc (Nat.le_refl _) _).alloc (by simp) _
  clear h0 h1
  by_cases hN1 : cs.length < 1
  · have e := false_of hb (fun h => by have := h.1.1; omega)
    have hi : ((cs.length : Int) < 1) := by omega
    clear hb
    subst e
    generalize cs.length = N at *
    generalize fs.length = M at *
    go_enter Try.func55, Try.ntmps55
    go_wp2
    refine bodyPost_ret (v := .tuple #[.agg LZ.toArray, .bool false]) (by simp [results, Try.results55, go_sem, LZ]) rfl ⟨rfl, ?_⟩
    go_grown
  · by_cases hN3 : 3 < cs.length
    · have e := false_of hb (fun h => by have := h.1.2; omega)
      have hi : ¬ ((cs.length : Int) < 1) := by omega
      have hi3 : (3 < (cs.length : Int)) := by omega
      clear hb
      subst e
      generalize cs.length = N at *
      generalize fs.length = M at *
      go_enter Try.func55, Try.ntmps55
      go_wp2
      refine bodyPost_ret (v := .tuple #[.agg LZ.toArray, .bool false]) (by simp [results, Try.results55, go_sem, LZ]) rfl ⟨rfl, ?_⟩
      go_grown
    · by_cases hM : fs.length = cs.length
      · have HF := Lib.hid (fun (j : Nat) (hj : j < cs.length) (hx : ¬ okC (cs.getD j 0) (fs.getD j false)) => (show b = false from false_of hb (fun h => hx (h.2.2 j hj))))
        have HT := Lib.hid (fun (hx : ∀ i, i < cs.length → okC (cs.getD i 0) (fs.getD i false)) => (show b = true from hb.2 ⟨⟨by omega, by omega⟩, hM, hx⟩))
        have HST := Lib.hid (fun (j : Nat) (hj : j < cs.length) => LSj_step (cs.length : Int) cs fs mm j hj (by omega) hM)
        have HST' := Lib.hid (fun (j : Nat) (hj : j < cs.length) => LSj_step' (cs.length : Int) cs fs mm j hj (by omega) hM)
        have HEN := Lib.hid (LSj_end cs fs mm hM)
        have hi : ¬ ((cs.length : Int) < 1) := by omega
        have hi3 : ¬ (3 < (cs.length : Int)) := by omega
        have hne : ((cs.length : Int) != (cs.length : Int)) = false := by simp
        rw [hM] at H1 ⊢
        clear hb hM
        obtain ⟨v0, v1, v2, v3, v4, v5, v6, v7, hv⟩ : ∃ v0 v1 v2 v3 v4 v5 v6 v7, LS cs fs mm = [.int .i64 v0, .int .i64 v1, .int .i64 v2, .int .i64 v3, .bool v4, .bool v5, .bool v6, .bool v7] := ⟨_, _, _, _, _, _, _, _, rfl⟩
        unfold LineR
        rw [hv] at HEN ⊢
        clear hv
        generalize hQ : LSj (cs.length : Int) cs fs mm = Q at *
        have HQ := Lib.hid hQ
        clear hQ
        have HQA := Lib.hid (fun (j : Nat) (hj : j < 3) => (show (∃ u, (Q j)[1 + j]? = some (.int .i64 u)) ∧ (∃ u, (Q j)[4 + j]? = some (.bool u)) from by rw [← HQ.out]; exact LSj_at (cs.length : Int) cs fs mm j hj))
        have HQL := Lib.hid (fun (j : Nat) => (show (Q j).length = 8 from by rw [← HQ.out]; rfl))
        have HQ0 := Lib.hid (show Q 0 = [.int .i64 (cs.length : Int), .int .i64 0, .int .i64 0, .int .i64 0, .bool false, .bool false, .bool false, .bool mm] from by rw [← HQ.out]; rfl)
        clear HQ
        generalize cs.length = N at *
        go_enter Try.func55, Try.ntmps55
        go_wp2
        obtain ⟨W0, hW0⟩ : ∃ W0, W0 = ((w.alloc (.cells #[.slice a0 N c0, .slice a1 N c1, .bool mm] 49)).alloc Z8).alloc (.cells #[.int .i64 (N : Int), .int .i64 0, .int .i64 0, .int .i64 0, .bool false, .bool false, .bool false, .bool mm] 86) := ⟨_, rfl⟩
        have BP : Blk W0 w.heap.size [.slice a0 N c0, .slice a1 N c1, .bool mm] 49 := by rw [hW0]; exact Blk.alloc (Blk.alloc (Blk.newAt w _ _ _ rfl) _) _
        have BR : Blk W0 (w.heap.size + 1) LZ 86 := by rw [hW0]; exact Blk.alloc (Blk.newAt _ _ _ _ (by simp)) _
        have BL : Blk W0 (w.heap.size + 1 + 1) (Q 0) 86 := by rw [hW0, HQ0.out]; exact Blk.newAt _ _ _ _ (by simp)
        have b0 : Below w.heap.size w W0 := by rw [hW0]; exact (((Below.refl _ w).alloc (Nat.le_refl _) _).alloc (by simp) _).alloc (by simp; omega) _
        rw [← hW0]
        clear hW0 hG
        go_loopw [36] (fun i wr => ∃ j : Nat, j ≤ N ∧ i = .int .i64 j ∧ Hid (∀ i, i < j → okC (cs.getD i 0) (fs.getD i false)) ∧ Hid (Blk wr w.heap.size [.slice a0 N c0, .slice a1 N c1, .bool mm] 49) ∧ Hid (Blk wr (w.heap.size + 1) LZ 86) ∧ Hid (Blk wr (w.heap.size + 1 + 1) (Q j) 86) ∧ Hid (Below w.heap.size w wr)) (fun i _ => N - (intOf i).toNat)
        case atStart => exact ⟨0, Nat.zero_le _, rfl, Lib.hid (fun i h => by omega), BP, BR, BL, b0⟩
        case round =>
          obtain ⟨j, hj, rfl, hk, hP, hR, hL, hb⟩ := hrel
          clear BP BR BL b0
          have sz := hb.out.size
          by_cases hlt2 : j < N
          · obtain ⟨p, o, rfl, y0, q0⟩ := H0.out j hlt2
            obtain ⟨p', o', rfl, y1, q1⟩ := H1.out j hlt2
            have y0 := (hb.out.cell (p := ⟨p, o + j, none⟩) q0).trans y0
            have y1 := (hb.out.cell (p := ⟨p', o' + j, none⟩) q1).trans y1
            have hj3 : j < 3 := by omega
            have hj3' : (j : Int) < 3 := by omega
            have p1 : wr.cell? ⟨w.heap.size, 1, none⟩ = some (.slice (some ⟨p', o', none⟩) N c1) := hP.out.cell 1
            obtain ⟨⟨z1, e1⟩, ⟨z2, e2⟩⟩ := HQA.out j hj3
            have r1 : wr.cell? ⟨w.heap.size + 1 + 1, 1 + j, none⟩ = some (.int .i64 z1) := (hL.out.cell (1 + j)).trans e1
            have r2 : wr.cell? ⟨w.heap.size + 1 + 1, 4 + j, none⟩ = some (.bool z2) := (hL.out.cell (4 + j)).trans e2
            have g1 := hL.out.froz (1 + j)
            have g2 := hL.out.froz (4 + j)
            have n1 : ¬ 1 + j = 4 + j := by omega
            have n2 : ¬ 4 + j = 1 + j := by omega
            have n3 : ¬ p' = w.heap.size + 1 + 1 := by omega
            have n4 : ¬ w.heap.size + 1 + 1 = p' := by omega
            have n5 : ¬ w.heap.size = w.heap.size + 1 + 1 := by omega
            have n6 : ¬ w.heap.size + 1 + 1 = w.heap.size := by omega
            clear e1 e2
            have HJ := Lib.hid (HF.out j hlt2)
            have HS := Lib.hid (fun (h : okC (cs.getD j 0) (fs.getD j false)) => (show ∀ i, i < j + 1 → okC (cs.getD i 0) (fs.getD i false) from fun i hi => by
              by_cases e : i = j
              · subst e; exact h
              · exact hk.out i (by omega)))
            have HA := Lib.hid (HST.out j hlt2)
            have HB := Lib.hid (HST'.out j hlt2)
            have HX : Hid (∀ (u : Value) (f : Value), (((Q j).set (1 + j) u).set (4 + j) f = Q (j + 1) ∧ ((Q j).set (4 + j) f).set (1 + j) u = Q (j + 1)) → 
                (Blk ((wr.drew.setCell ⟨w.heap.size + 1 + 1, 1 + j, none⟩ u).setCell ⟨w.heap.size + 1 + 1, 4 + j, none⟩ f) (w.heap.size + 1 + 1) (Q (j + 1)) 86 ∧ Blk ((wr.drew.setCell ⟨w.heap.size + 1 + 1, 4 + j, none⟩ f).setCell ⟨w.heap.size + 1 + 1, 1 + j, none⟩ u) (w.heap.size + 1 + 1) (Q (j + 1)) 86)) := fun u f h => by
              have l := HQL.out j
              have k0 : Blk wr.drew (w.heap.size + 1 + 1) (Q j) 86 := hL.out
              have k1 := blk1 (blk1 k0 (1 + j) u (by omega)) (4 + j) f (by rw [List.length_set]; omega)
              have k2 := blk1 (blk1 k0 (4 + j) f (by omega)) (1 + j) u (by rw [List.length_set]; omega)
              rw [h.1] at k1
              rw [h.2] at k2
              exact ⟨k1, k2⟩
            have HO : Hid (∀ (a b : Nat) (u f : Value), Below w.heap.size w ((wr.drew.setCell ⟨w.heap.size + 1 + 1, a, none⟩ u).setCell ⟨w.heap.size + 1 + 1, b, none⟩ f) ∧ Blk ((wr.drew.setCell ⟨w.heap.size + 1 + 1, a, none⟩ u).setCell ⟨w.heap.size + 1 + 1, b, none⟩ f) w.heap.size [.slice (some ⟨p, o, none⟩) N c0, .slice (some ⟨p', o', none⟩) N c1, .bool mm] 49 ∧ Blk ((wr.drew.setCell ⟨w.heap.size + 1 + 1, a, none⟩ u).setCell ⟨w.heap.size + 1 + 1, b, none⟩ f) (w.heap.size + 1) LZ 86) := fun a b u f =>
              ⟨((hb.out.drew).setCell (p := ⟨_, a, none⟩) (by simp; omega) u).setCell (p := ⟨_, b, none⟩) (by simp; omega) f,
                (heap_set _ _ _ _ _ (by omega)).trans ((heap_set _ _ _ _ _ (by omega)).trans hP.out), (heap_set _ _ _ _ _ (by omega)).trans ((heap_set _ _ _ _ _ (by omega)).trans hR.out)⟩
            have HE := Lib.hid (HX.out (.int .i64 (cs.getD j 0)) (.bool (fs.getD j false)) ⟨HA.out, HB.out⟩)
            clear HX HA HB q0 q1 hL hP
            generalize cs.getD j 0 = u at *
            generalize fs.getD j false = f at *
            have HCu := Lib.hid (HC.out u)
            cases hc : isC u
            · have e := HJ.out (fun h => by have := h.1; rw [hc] at this; cases this)
              rw [hc] at HCu
              clear HJ HS hc HE HO
              subst e
              have t0 : wr.cell? ⟨w.heap.size + 1, 0, none⟩ = some (.int .i64 0) := hR.out.cell 0
              have s0 := hR.out.froz 0
              have t1 : wr.cell? ⟨w.heap.size + 1, 1, none⟩ = some (.int .i64 0) := hR.out.cell 1
              have s1 := hR.out.froz 1
              have t2 : wr.cell? ⟨w.heap.size + 1, 2, none⟩ = some (.int .i64 0) := hR.out.cell 2
              have s2 := hR.out.froz 2
              have t3 : wr.cell? ⟨w.heap.size + 1, 3, none⟩ = some (.int .i64 0) := hR.out.cell 3
              have s3 := hR.out.froz 3
              have t4 : wr.cell? ⟨w.heap.size + 1, 4, none⟩ = some (.bool false) := hR.out.cell 4
              have s4 := hR.out.froz 4
              have t5 : wr.cell? ⟨w.heap.size + 1, 5, none⟩ = some (.bool false) := hR.out.cell 5
              have s5 := hR.out.froz 5
              have t6 : wr.cell? ⟨w.heap.size + 1, 6, none⟩ = some (.bool false) := hR.out.cell 6
              have s6 := hR.out.froz 6
              have t7 : wr.cell? ⟨w.heap.size + 1, 7, none⟩ = some (.bool false) := hR.out.cell 7
              have s7 := hR.out.froz 7
              have HB := Lib.hid (fun (x0 x1 x2 x3 x4 x5 x6 x7 : Value) => (((((((((hb.out.setCell (p := ⟨w.heap.size + 1, 0, none⟩) (by simp) x0)).setCell (p := ⟨w.heap.size + 1, 1, none⟩) (by simp) x1)).setCell (p := ⟨w.heap.size + 1, 2, none⟩) (by simp) x2).setCell (p := ⟨w.heap.size + 1, 3, none⟩) (by simp) x3).setCell (p := ⟨w.heap.size + 1, 4, none⟩) (by simp) x4).setCell (p := ⟨w.heap.size + 1, 5, none⟩) (by simp) x5).setCell (p := ⟨w.heap.size + 1, 6, none⟩) (by simp) x6).setCell (p := ⟨w.heap.size + 1, 7, none⟩) (by simp) x7)
              go_wp2_with (go_at_call 48; refine (HCu.out _).mono ?_; rintro e w' ⟨rfl, rfl⟩)
              refine bodyPost_ret (v := .tuple #[.agg LZ.toArray, .bool false]) (by simp [results, Try.results55, go_sem, LZ, t0, t1, t2, t3, t4, t5, t6, t7, s0, s1, s2, s3, s4, s5, s6, s7]) rfl ⟨rfl, HB.out _ _ _ _ _ _ _ _⟩
            · rw [hc] at HCu
              by_cases hz : f = true ∧ u = 0
              · have e := HJ.out (fun h => h.2 hz)
                obtain ⟨rfl, rfl⟩ := hz
                clear HJ HS hc HE HO
                subst e
                have t0 : wr.cell? ⟨w.heap.size + 1, 0, none⟩ = some (.int .i64 0) := hR.out.cell 0
                have s0 := hR.out.froz 0
                have t1 : wr.cell? ⟨w.heap.size + 1, 1, none⟩ = some (.int .i64 0) := hR.out.cell 1
                have s1 := hR.out.froz 1
                have t2 : wr.cell? ⟨w.heap.size + 1, 2, none⟩ = some (.int .i64 0) := hR.out.cell 2
                have s2 := hR.out.froz 2
                have t3 : wr.cell? ⟨w.heap.size + 1, 3, none⟩ = some (.int .i64 0) := hR.out.cell 3
                have s3 := hR.out.froz 3
                have t4 : wr.cell? ⟨w.heap.size + 1, 4, none⟩ = some (.bool false) := hR.out.cell 4
                have s4 := hR.out.froz 4
                have t5 : wr.cell? ⟨w.heap.size + 1, 5, none⟩ = some (.bool false) := hR.out.cell 5
                have s5 := hR.out.froz 5
                have t6 : wr.cell? ⟨w.heap.size + 1, 6, none⟩ = some (.bool false) := hR.out.cell 6
                have s6 := hR.out.froz 6
                have t7 : wr.cell? ⟨w.heap.size + 1, 7, none⟩ = some (.bool false) := hR.out.cell 7
                have s7 := hR.out.froz 7
                have HB := Lib.hid (fun (x0 x1 x2 x3 x4 x5 x6 x7 : Value) => (((((((((hb.out.setCell (p := ⟨w.heap.size + 1, 0, none⟩) (by simp) x0)).setCell (p := ⟨w.heap.size + 1, 1, none⟩) (by simp) x1)).setCell (p := ⟨w.heap.size + 1, 2, none⟩) (by simp) x2).setCell (p := ⟨w.heap.size + 1, 3, none⟩) (by simp) x3).setCell (p := ⟨w.heap.size + 1, 4, none⟩) (by simp) x4).setCell (p := ⟨w.heap.size + 1, 5, none⟩) (by simp) x5).setCell (p := ⟨w.heap.size + 1, 6, none⟩) (by simp) x6).setCell (p := ⟨w.heap.size + 1, 7, none⟩) (by simp) x7)
                go_wp2_with (go_at_call 48; refine (HCu.out _).mono ?_; rintro e w' ⟨rfl, rfl⟩)
                refine bodyPost_ret (v := .tuple #[.agg LZ.toArray, .bool false]) (by simp [results, Try.results55, go_sem, LZ, t0, t1, t2, t3, t4, t5, t6, t7, s0, s1, s2, s3, s4, s5, s6, s7]) rfl ⟨rfl, HB.out _ _ _ _ _ _ _ _⟩
              · have HS2 := Lib.hid (HS.out ⟨hc, hz⟩)
                clear HJ HS hc
                by_cases hu : u = 0
                · have hf : f = false := by cases f; rfl; exact absurd ⟨rfl, hu⟩ hz
                  subst hu hf
                  clear hz
                  go_wp2_with (go_at_call 48; refine (HCu.out _).mono ?_; rintro e w' ⟨rfl, rfl⟩)
                  go_region
                  all_goals
                    go_wp2
                    go_roundw
                    case rel => exact ⟨j + 1, by omega, by go_num, HS2, by first | exact (HO.out _ _ _ _).2.1, by first | exact (HO.out _ _ _ _).2.2, by first | exact HE.out.1 | exact HE.out.2, by exact (HO.out _ _ _ _).1⟩
                    case measure => simp [intOf]; omega
                · clear hz
                  go_wp2_with (go_at_call 48; refine (HCu.out _).mono ?_; rintro e w' ⟨rfl, rfl⟩)
                  go_region
                  all_goals
                    go_wp2
                    go_roundw
                    case rel => exact ⟨j + 1, by omega, by go_num, HS2, by first | exact (HO.out _ _ _ _).2.1, by first | exact (HO.out _ _ _ _).2.2, by first | exact HE.out.1 | exact HE.out.2, by exact (HO.out _ _ _ _).1⟩
                    case measure => simp [intOf]; omega
          · have e : j = N := by omega
            subst e
            have e := HT.out hk.out
            clear HT HF
            subst e
            have hq : Q j = [.int .i64 v0, .int .i64 v1, .int .i64 v2, .int .i64 v3, .bool v4, .bool v5, .bool v6, .bool v7] := HEN.out
            have hl := hL.out
            rw [hq] at hl
            have u0 : wr.cell? ⟨w.heap.size + 1 + 1, 0, none⟩ = some (.int .i64 v0) := hl.cell 0
            have u1 : wr.cell? ⟨w.heap.size + 1 + 1, 1, none⟩ = some (.int .i64 v1) := hl.cell 1
            have u2 : wr.cell? ⟨w.heap.size + 1 + 1, 2, none⟩ = some (.int .i64 v2) := hl.cell 2
            have u3 : wr.cell? ⟨w.heap.size + 1 + 1, 3, none⟩ = some (.int .i64 v3) := hl.cell 3
            have u4 : wr.cell? ⟨w.heap.size + 1 + 1, 4, none⟩ = some (.bool v4) := hl.cell 4
            have u5 : wr.cell? ⟨w.heap.size + 1 + 1, 5, none⟩ = some (.bool v5) := hl.cell 5
            have u6 : wr.cell? ⟨w.heap.size + 1 + 1, 6, none⟩ = some (.bool v6) := hl.cell 6
            have u7 : wr.cell? ⟨w.heap.size + 1 + 1, 7, none⟩ = some (.bool v7) := hl.cell 7
            have t0 : wr.cell? ⟨w.heap.size + 1, 0, none⟩ = some (.int .i64 0) := hR.out.cell 0
            have s0 := hR.out.froz 0
            have t1 : wr.cell? ⟨w.heap.size + 1, 1, none⟩ = some (.int .i64 0) := hR.out.cell 1
            have s1 := hR.out.froz 1
            have t2 : wr.cell? ⟨w.heap.size + 1, 2, none⟩ = some (.int .i64 0) := hR.out.cell 2
            have s2 := hR.out.froz 2
            have t3 : wr.cell? ⟨w.heap.size + 1, 3, none⟩ = some (.int .i64 0) := hR.out.cell 3
            have s3 := hR.out.froz 3
            have t4 : wr.cell? ⟨w.heap.size + 1, 4, none⟩ = some (.bool false) := hR.out.cell 4
            have s4 := hR.out.froz 4
            have t5 : wr.cell? ⟨w.heap.size + 1, 5, none⟩ = some (.bool false) := hR.out.cell 5
            have s5 := hR.out.froz 5
            have t6 : wr.cell? ⟨w.heap.size + 1, 6, none⟩ = some (.bool false) := hR.out.cell 6
            have s6 := hR.out.froz 6
            have t7 : wr.cell? ⟨w.heap.size + 1, 7, none⟩ = some (.bool false) := hR.out.cell 7
            have s7 := hR.out.froz 7
            have HB := Lib.hid (fun (x0 x1 x2 x3 x4 x5 x6 x7 : Value) => (((((((((hb.out.setCell (p := ⟨w.heap.size + 1, 0, none⟩) (by simp) x0)).setCell (p := ⟨w.heap.size + 1, 1, none⟩) (by simp) x1)).setCell (p := ⟨w.heap.size + 1, 2, none⟩) (by simp) x2).setCell (p := ⟨w.heap.size + 1, 3, none⟩) (by simp) x3).setCell (p := ⟨w.heap.size + 1, 4, none⟩) (by simp) x4).setCell (p := ⟨w.heap.size + 1, 5, none⟩) (by simp) x5).setCell (p := ⟨w.heap.size + 1, 6, none⟩) (by simp) x6).setCell (p := ⟨w.heap.size + 1, 7, none⟩) (by simp) x7)
            clear hl hq
            go_wp2
            refine bodyPost_ret (v := .tuple #[.agg #[.int .i64 v0, .int .i64 v1, .int .i64 v2, .int .i64 v3, .bool v4, .bool v5, .bool v6, .bool v7], .bool true]) (by simp [results, Try.results55, go_sem, t0, t1, t2, t3, t4, t5, t6, t7, s0, s1, s2, s3, s4, s5, s6, s7]) rfl ⟨rfl, HB.out _ _ _ _ _ _ _ _⟩
      · have e := false_of hb (fun h => hM h.2.1)
        have hi : ¬ ((cs.length : Int) < 1) := by omega
        have hi3 : ¬ (3 < (cs.length : Int)) := by omega
        have hne : ((fs.length : Int) != (cs.length : Int)) = true := by simp; omega
        clear hb
        subst e
        generalize cs.length = N at *
        generalize fs.length = M at *
        go_enter Try.func55, Try.ntmps55
        go_wp2
        refine bodyPost_ret (v := .tuple #[.agg LZ.toArray, .bool false]) (by simp [results, Try.results55, go_sem, LZ]) rfl ⟨rfl, ?_⟩
        go_grown
end Go.Proofs.Ytmmjdmgnmlhjeaa.Sy
