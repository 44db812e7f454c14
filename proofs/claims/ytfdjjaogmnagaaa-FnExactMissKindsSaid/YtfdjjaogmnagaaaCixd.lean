/- rowArray.reduced: the rows come out in the reduced form with the same span. -/
import Derived.Test.YtfdjjaogmnagaaaCixw
import Derived.WalkMore
namespace Go.Proofs.Ytfdjjaogmnagaaa.Ix
open Go.RowKit Tr Bt
def bitv : Nat → Nat
  | 0 => 0
  | s + 1 => 2 ^ s
theorem bitv_half (s : Nat) : 2 ^ s / 2 = bitv s := by
  cases s with
  | zero => rfl
  | succ s => rw [Nat.pow_succ, bitv]; omega
theorem rowVals_at (q : Nat → Nat) (i : Nat) (hi : i < 3) : (rowVals q)[i]? = some (.int .i64 ((q i : Nat) : Int)) := by
  obtain rfl | rfl | rfl : i = 0 ∨ i = 1 ∨ i = 2 := by omega
  all_goals rfl
def WobP (q : Nat → Nat) (w : World) (e : Ending) (w' : World) : Prop := e = .returned (.agg #[.int .i64 ((q 0 : Nat) : Int), .int .i64 ((q 1 : Nat) : Int), .int .i64 ((q 2 : Nat) : Int)]) ∧ Below w.heap.size w w'
/-- What comes out: reduced rows with the same span. -/
def RedP (r : Nat → Nat) (w : World) (e : Ending) (w' : World) : Prop := ∃ (q p : Nat → Nat) (k : Nat), e = .returned (aggR q) ∧ Inv 0 k q p ∧ (∀ x, SpF q x ↔ SpF r x) ∧ Below w.heap.size w w'
theorem Inv.start {r : Nat → Nat} (h : ∀ i, i < 3 → r i < 64) : Inv 6 0 r (fun _ => 0) :=
  ⟨by omega, h, fun j hj => by omega, fun j hj => by omega, fun j hj => by omega, fun i _ hi => h i hi⟩
structure RedR (r : Nat → Nat) (w : World) (t k : Nat) (q p : Nat → Nat) (wr : World) : Prop where
  inv : Inv t k q p
  sp : ∀ x, SpF q x ↔ SpF r x
  x0 : Kb wr w.heap.size (rowVals q) 44
  x1 : Kb wr (w.heap.size + 1) [.int .i64 0, .int .i64 0, .int .i64 0] 44
  bel : Below w.heap.size w wr
theorem RedR.found {r : Nat → Nat} {w : World} {s k i : Nat} {q p : Nat → Nat} {wr : World} (h : RedR r w (s + 1) k q p wr) (hs : s < 6) (hk : k ≤ i) (hi : i < 3) (hb : (q i).testBit s = true) :
    Inv s (k + 1) (clearF (swapF q k i) s k) (fun j => if j = k then s else p j) ∧ (∀ x, SpF (clearF (swapF q k i) s k) x ↔ SpF r x) ∧ ∀ m, m < 3 → swapF q k i m < 64 := by
  have h1 := h.inv.swap hk hi
  have e : (swapF q k i k).testBit s = true := by unfold swapF; rw [if_pos rfl]; exact hb
  exact ⟨h1.take hs (by omega) e, fun x => (sp_clear _ s k (by omega) x).trans ((sp_swap q k i (by omega) hi x).trans (h.sp x)), h1.lt⟩
set_option maxHeartbeats 4000000 in
set_option maxRecDepth 100000 in
theorem reduced_i (r : Nat → Nat) (w : World) (hr : ∀ i, i < 3 → r i < 64) :
    Calls Try.prog 38 #[aggR r] w (RedP r w) := by
  have hz2 : ((w.alloc (.cells (rowVals r).toArray 44))).heap.size = w.heap.size + 1 := Array.size_push _
  have HX : Hid (RedR r w 6 0 r (fun _ => 0) ((w.alloc (.cells (rowVals r).toArray 44)).alloc (.cells #[.int .i64 0, .int .i64 0, .int .i64 0] 44))) := Lib.hid
    { inv := Inv.start hr, sp := fun x => Iff.rfl
      x0 := (Kb.new w w.heap.size (rowVals r) 44 rfl).alloc (.cells #[.int .i64 0, .int .i64 0, .int .i64 0] 44)
      x1 := Kb.new (w.alloc (.cells (rowVals r).toArray 44)) (w.heap.size + 1) [.int .i64 0, .int .i64 0, .int .i64 0] 44 hz2.symm
      bel := ((Below.refl _ w).alloc (Nat.le_refl _) _).alloc (by omega) _ }
  clear hz2 hr
  have HR := Lib.hid (show aggR r = .agg #[.int .i64 ((r 0 : Nat) : Int), .int .i64 ((r 1 : Nat) : Int), .int .i64 ((r 2 : Nat) : Int)] from rfl)
  rw [HR.out]
  clear HR
  go_enter Try.func38, Try.ntmps38
  go_wp2
  go_step3
  go_wp2
  go_step3
  go_wp2
  go_loopw [3, 4] (fun kv bv wr => ∃ (t k : Nat) (q p : Nat → Nat), t ≤ 6 ∧ bv = .int .i64 ((bitv t : Nat) : Int) ∧ kv = .int .i64 k ∧ k ≤ 3 ∧ Hid (RedR r w t k q p wr)) (fun _ bv _ => (intOf bv).toNat)
  case atStart => exact ⟨6, 0, r, fun _ => 0, by omega, rfl, rfl, by omega, HX⟩
  case round =>
    obtain ⟨t, k, q, p, ht, rfl, rfl, hk3, HRR⟩ := hrel
    cases t with
    | zero =>
      have e0 : ((bitv 0 : Nat) : Int) = 0 := rfl
      rw [e0]
      have g0 : wr.cell? ⟨w.heap.size, 0, none⟩ = some (.int .i64 ((q 0 : Nat) : Int)) := HRR.out.x0.cell 0
      have g1 : wr.cell? ⟨w.heap.size, 1, none⟩ = some (.int .i64 ((q 1 : Nat) : Int)) := HRR.out.x0.cell 1
      have g2 : wr.cell? ⟨w.heap.size, 2, none⟩ = some (.int .i64 ((q 2 : Nat) : Int)) := HRR.out.x0.cell 2
      have t0 : wr.cell? ⟨w.heap.size + 1, 0, none⟩ = some (.int .i64 0) := HRR.out.x1.cell 0
      have t1 : wr.cell? ⟨w.heap.size + 1, 1, none⟩ = some (.int .i64 0) := HRR.out.x1.cell 1
      have t2 : wr.cell? ⟨w.heap.size + 1, 2, none⟩ = some (.int .i64 0) := HRR.out.x1.cell 2
      have f0 := HRR.out.x1.froz 0
      have f1 := HRR.out.x1.froz 1
      have f2 := HRR.out.x1.froz 2
      clear e0
      go_wp2
      refine bodyPost_ret (v := .agg #[.int .i64 ((q 0 : Nat) : Int), .int .i64 ((q 1 : Nat) : Int), .int .i64 ((q 2 : Nat) : Int)]) (by simp [results, Try.results38, go_sem, t0, t1, t2, f0, f1, f2]) rfl ⟨q, p, k, rfl, HRR.out.inv, HRR.out.sp, ?_⟩
      repeat (first | exact HRR.out.bel | refine Below.setCell ?_ (by simp) _)
    | succ s =>
      have e0 : ((bitv (s + 1) : Nat) : Int) = ((2 ^ s : Nat) : Int) := rfl
      rw [e0]
      clear e0
      have hB1 : 1 ≤ 2 ^ s := Nat.two_pow_pos s
      have hB32 : 2 ^ s ≤ 32 := by have : 2 ^ s ≤ 2 ^ 5 := Nat.pow_le_pow_right (by omega) (by omega); simpa using this
      have HBV := Lib.hid (bitv_half s)
      have HAND := Lib.hid (fun j (hj : j < 3) => (show bits .and .i64 ((q j : Nat) : Int) ((2 ^ s : Nat) : Int) = ((bif (q j).testBit s then 2 ^ s else 0 : Nat) : Int) from by
        rw [← and_bit]; exact i64_and _ _ (by have := HRR.out.inv.lt j hj; omega) (by omega)))
      have HWOB := Lib.hid (fun i (hki : k ≤ i) (hi : i < 3) (hb : (q i).testBit s = true) => (show ∃ q' p', Inv s (k + 1) q' p' ∧ (∀ x, SpF q' x ↔ SpF r x) ∧ ∀ w9, Calls Try.prog 45 #[aggR (swapF q k i), .int .i64 ((2 ^ s : Nat) : Int), .int .i64 (k : Int)] w9 (WobP q' w9) from
        ⟨_, _, (HRR.out.found (by omega) hki hi hb).1, (HRR.out.found (by omega) hki hi hb).2.1, fun w9 => wob_i _ s k w9 (by omega) (by omega) (HRR.out.found (by omega) hki hi hb).2.2⟩))
      have HSKIP := Lib.hid (fun (h : ∀ m, k ≤ m → m < 3 → (q m).testBit s = false) => HRR.out.inv.skip h)
      generalize hBB : 2 ^ s = B at *
      clear hBB
      obtain ⟨wo, hwo⟩ : ∃ wo, wo = wr := ⟨_, rfl⟩
      subst hwo
      have hd : decide ((0 : Int) < (B : Int)) = true := decide_eq_true (by omega)
      go_wp2
      go_loopw [3, 5] (fun kv iv wr => ∃ i : Nat, k ≤ i ∧ i ≤ 3 ∧ kv = .int .i64 k ∧ iv = .int .i64 i ∧ wr = wo ∧ Hid (∀ m, k ≤ m → m < i → (q m).testBit s = false)) (fun _ iv _ => 3 - (intOf iv).toNat)
      case atStart => exact ⟨k, Nat.le_refl _, hk3, rfl, rfl, (by first | rfl | trivial), Lib.hid fun m h1 h2 => by omega⟩
      case round =>
        obtain ⟨i, hki, hi3, rfl, rfl, rfl, HNO⟩ := hrel
        by_cases hlt : i < 3
        · have hdi : decide ((i : Int) < 3) = true := decide_eq_true (by omega)
          have ha := HAND.out i hlt
          have c1 : wr.cell? ⟨w.heap.size, i, none⟩ = some (.int .i64 ((q i : Nat) : Int)) := (HRR.out.x0.cell i).trans (rowVals_at q i hlt)
          cases hbit : (q i).testBit s
          · rw [hbit] at ha
            have ha' : bits .and .i64 ((q i : Nat) : Int) (B : Int) = 0 := ha
            have hno : Hid (∀ m, k ≤ m → m < i + 1 → (q m).testBit s = false) := Lib.hid fun m h1 h2 => by
              by_cases e : m = i
              · rw [e]; exact hbit
              · exact HNO.out m h1 (by omega)
            clear ha hbit HNO
            generalize q i = u at *
            go_wp2
            go_roundw
            case rel => exact ⟨i + 1, by omega, by omega, rfl, by go_num, (by first | rfl | trivial), hno⟩
            case measure => simp [intOf]; omega
          · rw [hbit] at ha
            obtain ⟨q', p', hinv', hsp', hw⟩ := HWOB.out i hki hlt hbit
            have ha' : bits .and .i64 ((q i : Nat) : Int) (B : Int) = (B : Int) := ha
            have hBn : ((B : Int) == 0) = false := by simp; omega
            have hBne : ¬ (B : Int) = 0 := by omega
            have c0 : wr.cell? ⟨w.heap.size, 0, none⟩ = some (.int .i64 ((q 0 : Nat) : Int)) := HRR.out.x0.cell 0
            have c2 : wr.cell? ⟨w.heap.size, 1, none⟩ = some (.int .i64 ((q 1 : Nat) : Int)) := HRR.out.x0.cell 1
            have c3 : wr.cell? ⟨w.heap.size, 2, none⟩ = some (.int .i64 ((q 2 : Nat) : Int)) := HRR.out.x0.cell 2
            have f0 := HRR.out.x0.froz 0
            have f1 := HRR.out.x0.froz 1
            have f2 := HRR.out.x0.froz 2
            have HP := Lib.hid (And.intro hinv' hsp')
            have X0 := Lib.hid HRR.out.x0
            have X1 := Lib.hid HRR.out.x1
            have BB := Lib.hid HRR.out.bel
            unfold rowVals at X0
            clear ha hbit HNO hinv' hsp' c1 HAND HWOB HSKIP HRR HX
            have hcase : (k = 0 ∧ i = 0) ∨ (k = 0 ∧ i = 1) ∨ (k = 0 ∧ i = 2) ∨ (k = 1 ∧ i = 1) ∨ (k = 1 ∧ i = 2) ∨ (k = 2 ∧ i = 2) := by omega
            rcases hcase with ⟨rfl, rfl⟩ | ⟨rfl, rfl⟩ | ⟨rfl, rfl⟩ | ⟨rfl, rfl⟩ | ⟨rfl, rfl⟩ | ⟨rfl, rfl⟩
            · simp [aggR, swapF] at hw
              have HW := Lib.hid hw
              clear hw
              simp only [show ((0 : Nat) : Int) = 0 from rfl]
              go_wp2
              go_region
              all_goals
                go_wp2_with fail
                refine (HW.out _).mono ?_; rintro e w9 ⟨rfl, b9⟩
                have x9 : Kb w9 w.heap.size [.int .i64 ((q 0 : Nat) : Int), .int .i64 ((q 1 : Nat) : Int), .int .i64 ((q 2 : Nat) : Int)] 44 := by
                  first
                  | exact (b9.block w.heap.size (Kb.lt ((X0.out.set 0 _).set 0 _))).trans ((X0.out.set 0 _).set 0 _)
                  | exact (b9.block w.heap.size (Kb.lt ((X0.out.set 0 _).set 0 _))).trans ((X0.out.set 0 _).set 0 _)
                have y9 : Kb w9 (w.heap.size + 1) [.int .i64 0, .int .i64 0, .int .i64 0] 44 := by
                  first
                  | exact (b9.block (w.heap.size + 1) (Kb.lt ((X1.out.off 0 _ (by omega)).off 0 _ (by omega)))).trans ((X1.out.off 0 _ (by omega)).off 0 _ (by omega))
                  | exact (b9.block (w.heap.size + 1) (Kb.lt ((X1.out.off 0 _ (by omega)).off 0 _ (by omega)))).trans ((X1.out.off 0 _ (by omega)).off 0 _ (by omega))
                have hb9 : Below w.heap.size w w9 := by
                  refine Below.trans ?_ (b9.mono ?_)
                  · first
                    | exact ((BB.out.setCell (p := ⟨w.heap.size, 0, none⟩) (Nat.le_refl _) _).setCell (p := ⟨w.heap.size, 0, none⟩) (Nat.le_refl _) _).drew
                    | exact ((BB.out.setCell (p := ⟨w.heap.size, 0, none⟩) (Nat.le_refl _) _).setCell (p := ⟨w.heap.size, 0, none⟩) (Nat.le_refl _) _).drew
                  · exact Nat.le_of_lt (Kb.lt ((X0.out.set 0 _).set 0 _))
                have g0 := x9.cell 0
                have g1 := x9.cell 1
                have g2 := x9.cell 2
                simp only [List.getElem?_cons_zero, List.getElem?_cons_succ] at g0 g1 g2
                have h0 := x9.froz 0
                have h1 := x9.froz 1
                have h2 := x9.froz 2
                have HF : Hid (RedR r w s (0 + 1) q' p' (((w9.setCell ⟨w.heap.size, 0, none⟩ (.int .i64 ((q' 0 : Nat) : Int))).setCell ⟨w.heap.size, 1, none⟩ (.int .i64 ((q' 1 : Nat) : Int))).setCell ⟨w.heap.size, 2, none⟩ (.int .i64 ((q' 2 : Nat) : Int)))) := Lib.hid
                  { inv := HP.out.1, sp := HP.out.2, x0 := ((x9.set 0 _).set 1 _).set 2 _, x1 := ((y9.off 0 _ (by omega)).off 1 _ (by omega)).off 2 _ (by omega)
                    bel := ((hb9.setCell (p := ⟨w.heap.size, 0, none⟩) (Nat.le_refl _) _).setCell (p := ⟨w.heap.size, 1, none⟩) (Nat.le_refl _) _).setCell (p := ⟨w.heap.size, 2, none⟩) (Nat.le_refl _) _ }
                clear x9 y9 hb9 b9 c0 c2 c3 f0 f1 f2 X0 X1 BB HW
                go_wp2
                go_roundw
                case rel => exact ⟨s, 0 + 1, q', p', by omega, by rw [← HBV.out]; go_num, by first | rfl | go_num, by omega, HF⟩
                case measure => simp [intOf]; omega
            · simp [aggR, swapF] at hw
              have HW := Lib.hid hw
              clear hw
              simp only [show ((0 : Nat) : Int) = 0 from rfl, show ((1 : Nat) : Int) = 1 from rfl]
              go_wp2
              go_region
              all_goals
                go_wp2_with fail
                refine (HW.out _).mono ?_; rintro e w9 ⟨rfl, b9⟩
                have x9 : Kb w9 w.heap.size [.int .i64 ((q 1 : Nat) : Int), .int .i64 ((q 0 : Nat) : Int), .int .i64 ((q 2 : Nat) : Int)] 44 := by
                  first
                  | exact (b9.block w.heap.size (Kb.lt ((X0.out.set 0 _).set 1 _))).trans ((X0.out.set 0 _).set 1 _)
                  | exact (b9.block w.heap.size (Kb.lt ((X0.out.set 1 _).set 0 _))).trans ((X0.out.set 1 _).set 0 _)
                have y9 : Kb w9 (w.heap.size + 1) [.int .i64 0, .int .i64 0, .int .i64 0] 44 := by
                  first
                  | exact (b9.block (w.heap.size + 1) (Kb.lt ((X1.out.off 0 _ (by omega)).off 1 _ (by omega)))).trans ((X1.out.off 0 _ (by omega)).off 1 _ (by omega))
                  | exact (b9.block (w.heap.size + 1) (Kb.lt ((X1.out.off 1 _ (by omega)).off 0 _ (by omega)))).trans ((X1.out.off 1 _ (by omega)).off 0 _ (by omega))
                have hb9 : Below w.heap.size w w9 := by
                  refine Below.trans ?_ (b9.mono ?_)
                  · first
                    | exact ((BB.out.setCell (p := ⟨w.heap.size, 0, none⟩) (Nat.le_refl _) _).setCell (p := ⟨w.heap.size, 1, none⟩) (Nat.le_refl _) _).drew
                    | exact ((BB.out.setCell (p := ⟨w.heap.size, 1, none⟩) (Nat.le_refl _) _).setCell (p := ⟨w.heap.size, 0, none⟩) (Nat.le_refl _) _).drew
                  · exact Nat.le_of_lt (Kb.lt ((X0.out.set 0 _).set 1 _))
                have g0 := x9.cell 0
                have g1 := x9.cell 1
                have g2 := x9.cell 2
                simp only [List.getElem?_cons_zero, List.getElem?_cons_succ] at g0 g1 g2
                have h0 := x9.froz 0
                have h1 := x9.froz 1
                have h2 := x9.froz 2
                have HF : Hid (RedR r w s (0 + 1) q' p' (((w9.setCell ⟨w.heap.size, 0, none⟩ (.int .i64 ((q' 0 : Nat) : Int))).setCell ⟨w.heap.size, 1, none⟩ (.int .i64 ((q' 1 : Nat) : Int))).setCell ⟨w.heap.size, 2, none⟩ (.int .i64 ((q' 2 : Nat) : Int)))) := Lib.hid
                  { inv := HP.out.1, sp := HP.out.2, x0 := ((x9.set 0 _).set 1 _).set 2 _, x1 := ((y9.off 0 _ (by omega)).off 1 _ (by omega)).off 2 _ (by omega)
                    bel := ((hb9.setCell (p := ⟨w.heap.size, 0, none⟩) (Nat.le_refl _) _).setCell (p := ⟨w.heap.size, 1, none⟩) (Nat.le_refl _) _).setCell (p := ⟨w.heap.size, 2, none⟩) (Nat.le_refl _) _ }
                clear x9 y9 hb9 b9 c0 c2 c3 f0 f1 f2 X0 X1 BB HW
                go_wp2
                go_roundw
                case rel => exact ⟨s, 0 + 1, q', p', by omega, by rw [← HBV.out]; go_num, by first | rfl | go_num, by omega, HF⟩
                case measure => simp [intOf]; omega
            · simp [aggR, swapF] at hw
              have HW := Lib.hid hw
              clear hw
              simp only [show ((0 : Nat) : Int) = 0 from rfl, show ((2 : Nat) : Int) = 2 from rfl]
              go_wp2
              go_region
              all_goals
                go_wp2_with fail
                refine (HW.out _).mono ?_; rintro e w9 ⟨rfl, b9⟩
                have x9 : Kb w9 w.heap.size [.int .i64 ((q 2 : Nat) : Int), .int .i64 ((q 1 : Nat) : Int), .int .i64 ((q 0 : Nat) : Int)] 44 := by
                  first
                  | exact (b9.block w.heap.size (Kb.lt ((X0.out.set 0 _).set 2 _))).trans ((X0.out.set 0 _).set 2 _)
                  | exact (b9.block w.heap.size (Kb.lt ((X0.out.set 2 _).set 0 _))).trans ((X0.out.set 2 _).set 0 _)
                have y9 : Kb w9 (w.heap.size + 1) [.int .i64 0, .int .i64 0, .int .i64 0] 44 := by
                  first
                  | exact (b9.block (w.heap.size + 1) (Kb.lt ((X1.out.off 0 _ (by omega)).off 2 _ (by omega)))).trans ((X1.out.off 0 _ (by omega)).off 2 _ (by omega))
                  | exact (b9.block (w.heap.size + 1) (Kb.lt ((X1.out.off 2 _ (by omega)).off 0 _ (by omega)))).trans ((X1.out.off 2 _ (by omega)).off 0 _ (by omega))
                have hb9 : Below w.heap.size w w9 := by
                  refine Below.trans ?_ (b9.mono ?_)
                  · first
                    | exact ((BB.out.setCell (p := ⟨w.heap.size, 0, none⟩) (Nat.le_refl _) _).setCell (p := ⟨w.heap.size, 2, none⟩) (Nat.le_refl _) _).drew
                    | exact ((BB.out.setCell (p := ⟨w.heap.size, 2, none⟩) (Nat.le_refl _) _).setCell (p := ⟨w.heap.size, 0, none⟩) (Nat.le_refl _) _).drew
                  · exact Nat.le_of_lt (Kb.lt ((X0.out.set 0 _).set 2 _))
                have g0 := x9.cell 0
                have g1 := x9.cell 1
                have g2 := x9.cell 2
                simp only [List.getElem?_cons_zero, List.getElem?_cons_succ] at g0 g1 g2
                have h0 := x9.froz 0
                have h1 := x9.froz 1
                have h2 := x9.froz 2
                have HF : Hid (RedR r w s (0 + 1) q' p' (((w9.setCell ⟨w.heap.size, 0, none⟩ (.int .i64 ((q' 0 : Nat) : Int))).setCell ⟨w.heap.size, 1, none⟩ (.int .i64 ((q' 1 : Nat) : Int))).setCell ⟨w.heap.size, 2, none⟩ (.int .i64 ((q' 2 : Nat) : Int)))) := Lib.hid
                  { inv := HP.out.1, sp := HP.out.2, x0 := ((x9.set 0 _).set 1 _).set 2 _, x1 := ((y9.off 0 _ (by omega)).off 1 _ (by omega)).off 2 _ (by omega)
                    bel := ((hb9.setCell (p := ⟨w.heap.size, 0, none⟩) (Nat.le_refl _) _).setCell (p := ⟨w.heap.size, 1, none⟩) (Nat.le_refl _) _).setCell (p := ⟨w.heap.size, 2, none⟩) (Nat.le_refl _) _ }
                clear x9 y9 hb9 b9 c0 c2 c3 f0 f1 f2 X0 X1 BB HW
                go_wp2
                go_roundw
                case rel => exact ⟨s, 0 + 1, q', p', by omega, by rw [← HBV.out]; go_num, by first | rfl | go_num, by omega, HF⟩
                case measure => simp [intOf]; omega
            · simp [aggR, swapF] at hw
              have HW := Lib.hid hw
              clear hw
              simp only [show ((1 : Nat) : Int) = 1 from rfl]
              go_wp2
              go_region
              all_goals
                go_wp2_with fail
                refine (HW.out _).mono ?_; rintro e w9 ⟨rfl, b9⟩
                have x9 : Kb w9 w.heap.size [.int .i64 ((q 0 : Nat) : Int), .int .i64 ((q 1 : Nat) : Int), .int .i64 ((q 2 : Nat) : Int)] 44 := by
                  first
                  | exact (b9.block w.heap.size (Kb.lt ((X0.out.set 1 _).set 1 _))).trans ((X0.out.set 1 _).set 1 _)
                  | exact (b9.block w.heap.size (Kb.lt ((X0.out.set 1 _).set 1 _))).trans ((X0.out.set 1 _).set 1 _)
                have y9 : Kb w9 (w.heap.size + 1) [.int .i64 0, .int .i64 0, .int .i64 0] 44 := by
                  first
                  | exact (b9.block (w.heap.size + 1) (Kb.lt ((X1.out.off 1 _ (by omega)).off 1 _ (by omega)))).trans ((X1.out.off 1 _ (by omega)).off 1 _ (by omega))
                  | exact (b9.block (w.heap.size + 1) (Kb.lt ((X1.out.off 1 _ (by omega)).off 1 _ (by omega)))).trans ((X1.out.off 1 _ (by omega)).off 1 _ (by omega))
                have hb9 : Below w.heap.size w w9 := by
                  refine Below.trans ?_ (b9.mono ?_)
                  · first
                    | exact ((BB.out.setCell (p := ⟨w.heap.size, 1, none⟩) (Nat.le_refl _) _).setCell (p := ⟨w.heap.size, 1, none⟩) (Nat.le_refl _) _).drew
                    | exact ((BB.out.setCell (p := ⟨w.heap.size, 1, none⟩) (Nat.le_refl _) _).setCell (p := ⟨w.heap.size, 1, none⟩) (Nat.le_refl _) _).drew
                  · exact Nat.le_of_lt (Kb.lt ((X0.out.set 1 _).set 1 _))
                have g0 := x9.cell 0
                have g1 := x9.cell 1
                have g2 := x9.cell 2
                simp only [List.getElem?_cons_zero, List.getElem?_cons_succ] at g0 g1 g2
                have h0 := x9.froz 0
                have h1 := x9.froz 1
                have h2 := x9.froz 2
                have HF : Hid (RedR r w s (1 + 1) q' p' (((w9.setCell ⟨w.heap.size, 0, none⟩ (.int .i64 ((q' 0 : Nat) : Int))).setCell ⟨w.heap.size, 1, none⟩ (.int .i64 ((q' 1 : Nat) : Int))).setCell ⟨w.heap.size, 2, none⟩ (.int .i64 ((q' 2 : Nat) : Int)))) := Lib.hid
                  { inv := HP.out.1, sp := HP.out.2, x0 := ((x9.set 0 _).set 1 _).set 2 _, x1 := ((y9.off 0 _ (by omega)).off 1 _ (by omega)).off 2 _ (by omega)
                    bel := ((hb9.setCell (p := ⟨w.heap.size, 0, none⟩) (Nat.le_refl _) _).setCell (p := ⟨w.heap.size, 1, none⟩) (Nat.le_refl _) _).setCell (p := ⟨w.heap.size, 2, none⟩) (Nat.le_refl _) _ }
                clear x9 y9 hb9 b9 c0 c2 c3 f0 f1 f2 X0 X1 BB HW
                go_wp2
                go_roundw
                case rel => exact ⟨s, 1 + 1, q', p', by omega, by rw [← HBV.out]; go_num, by first | rfl | go_num, by omega, HF⟩
                case measure => simp [intOf]; omega
            · simp [aggR, swapF] at hw
              have HW := Lib.hid hw
              clear hw
              simp only [show ((1 : Nat) : Int) = 1 from rfl, show ((2 : Nat) : Int) = 2 from rfl]
              go_wp2
              go_region
              all_goals
                go_wp2_with fail
                refine (HW.out _).mono ?_; rintro e w9 ⟨rfl, b9⟩
                have x9 : Kb w9 w.heap.size [.int .i64 ((q 0 : Nat) : Int), .int .i64 ((q 2 : Nat) : Int), .int .i64 ((q 1 : Nat) : Int)] 44 := by
                  first
                  | exact (b9.block w.heap.size (Kb.lt ((X0.out.set 1 _).set 2 _))).trans ((X0.out.set 1 _).set 2 _)
                  | exact (b9.block w.heap.size (Kb.lt ((X0.out.set 2 _).set 1 _))).trans ((X0.out.set 2 _).set 1 _)
                have y9 : Kb w9 (w.heap.size + 1) [.int .i64 0, .int .i64 0, .int .i64 0] 44 := by
                  first
                  | exact (b9.block (w.heap.size + 1) (Kb.lt ((X1.out.off 1 _ (by omega)).off 2 _ (by omega)))).trans ((X1.out.off 1 _ (by omega)).off 2 _ (by omega))
                  | exact (b9.block (w.heap.size + 1) (Kb.lt ((X1.out.off 2 _ (by omega)).off 1 _ (by omega)))).trans ((X1.out.off 2 _ (by omega)).off 1 _ (by omega))
                have hb9 : Below w.heap.size w w9 := by
                  refine Below.trans ?_ (b9.mono ?_)
                  · first
                    | exact ((BB.out.setCell (p := ⟨w.heap.size, 1, none⟩) (Nat.le_refl _) _).setCell (p := ⟨w.heap.size, 2, none⟩) (Nat.le_refl _) _).drew
                    | exact ((BB.out.setCell (p := ⟨w.heap.size, 2, none⟩) (Nat.le_refl _) _).setCell (p := ⟨w.heap.size, 1, none⟩) (Nat.le_refl _) _).drew
                  · exact Nat.le_of_lt (Kb.lt ((X0.out.set 1 _).set 2 _))
                have g0 := x9.cell 0
                have g1 := x9.cell 1
                have g2 := x9.cell 2
                simp only [List.getElem?_cons_zero, List.getElem?_cons_succ] at g0 g1 g2
                have h0 := x9.froz 0
                have h1 := x9.froz 1
                have h2 := x9.froz 2
                have HF : Hid (RedR r w s (1 + 1) q' p' (((w9.setCell ⟨w.heap.size, 0, none⟩ (.int .i64 ((q' 0 : Nat) : Int))).setCell ⟨w.heap.size, 1, none⟩ (.int .i64 ((q' 1 : Nat) : Int))).setCell ⟨w.heap.size, 2, none⟩ (.int .i64 ((q' 2 : Nat) : Int)))) := Lib.hid
                  { inv := HP.out.1, sp := HP.out.2, x0 := ((x9.set 0 _).set 1 _).set 2 _, x1 := ((y9.off 0 _ (by omega)).off 1 _ (by omega)).off 2 _ (by omega)
                    bel := ((hb9.setCell (p := ⟨w.heap.size, 0, none⟩) (Nat.le_refl _) _).setCell (p := ⟨w.heap.size, 1, none⟩) (Nat.le_refl _) _).setCell (p := ⟨w.heap.size, 2, none⟩) (Nat.le_refl _) _ }
                clear x9 y9 hb9 b9 c0 c2 c3 f0 f1 f2 X0 X1 BB HW
                go_wp2
                go_roundw
                case rel => exact ⟨s, 1 + 1, q', p', by omega, by rw [← HBV.out]; go_num, by first | rfl | go_num, by omega, HF⟩
                case measure => simp [intOf]; omega
            · simp [aggR, swapF] at hw
              have HW := Lib.hid hw
              clear hw
              simp only [show ((2 : Nat) : Int) = 2 from rfl]
              go_wp2
              go_region
              all_goals
                go_wp2_with fail
                refine (HW.out _).mono ?_; rintro e w9 ⟨rfl, b9⟩
                have x9 : Kb w9 w.heap.size [.int .i64 ((q 0 : Nat) : Int), .int .i64 ((q 1 : Nat) : Int), .int .i64 ((q 2 : Nat) : Int)] 44 := by
                  first
                  | exact (b9.block w.heap.size (Kb.lt ((X0.out.set 2 _).set 2 _))).trans ((X0.out.set 2 _).set 2 _)
                  | exact (b9.block w.heap.size (Kb.lt ((X0.out.set 2 _).set 2 _))).trans ((X0.out.set 2 _).set 2 _)
                have y9 : Kb w9 (w.heap.size + 1) [.int .i64 0, .int .i64 0, .int .i64 0] 44 := by
                  first
                  | exact (b9.block (w.heap.size + 1) (Kb.lt ((X1.out.off 2 _ (by omega)).off 2 _ (by omega)))).trans ((X1.out.off 2 _ (by omega)).off 2 _ (by omega))
                  | exact (b9.block (w.heap.size + 1) (Kb.lt ((X1.out.off 2 _ (by omega)).off 2 _ (by omega)))).trans ((X1.out.off 2 _ (by omega)).off 2 _ (by omega))
                have hb9 : Below w.heap.size w w9 := by
                  refine Below.trans ?_ (b9.mono ?_)
                  · first
                    | exact ((BB.out.setCell (p := ⟨w.heap.size, 2, none⟩) (Nat.le_refl _) _).setCell (p := ⟨w.heap.size, 2, none⟩) (Nat.le_refl _) _).drew
                    | exact ((BB.out.setCell (p := ⟨w.heap.size, 2, none⟩) (Nat.le_refl _) _).setCell (p := ⟨w.heap.size, 2, none⟩) (Nat.le_refl _) _).drew
                  · exact Nat.le_of_lt (Kb.lt ((X0.out.set 2 _).set 2 _))
                have g0 := x9.cell 0
                have g1 := x9.cell 1
                have g2 := x9.cell 2
                simp only [List.getElem?_cons_zero, List.getElem?_cons_succ] at g0 g1 g2
                have h0 := x9.froz 0
                have h1 := x9.froz 1
                have h2 := x9.froz 2
                have HF : Hid (RedR r w s (2 + 1) q' p' (((w9.setCell ⟨w.heap.size, 0, none⟩ (.int .i64 ((q' 0 : Nat) : Int))).setCell ⟨w.heap.size, 1, none⟩ (.int .i64 ((q' 1 : Nat) : Int))).setCell ⟨w.heap.size, 2, none⟩ (.int .i64 ((q' 2 : Nat) : Int)))) := Lib.hid
                  { inv := HP.out.1, sp := HP.out.2, x0 := ((x9.set 0 _).set 1 _).set 2 _, x1 := ((y9.off 0 _ (by omega)).off 1 _ (by omega)).off 2 _ (by omega)
                    bel := ((hb9.setCell (p := ⟨w.heap.size, 0, none⟩) (Nat.le_refl _) _).setCell (p := ⟨w.heap.size, 1, none⟩) (Nat.le_refl _) _).setCell (p := ⟨w.heap.size, 2, none⟩) (Nat.le_refl _) _ }
                clear x9 y9 hb9 b9 c0 c2 c3 f0 f1 f2 X0 X1 BB HW
                go_wp2
                go_roundw
                case rel => exact ⟨s, 2 + 1, q', p', by omega, by rw [← HBV.out]; go_num, by first | rfl | go_num, by omega, HF⟩
                case measure => simp [intOf]; omega
        · obtain rfl : i = 3 := by omega
          have hinv := Lib.hid (HSKIP.out HNO.out)
          have HF : Hid (RedR r w s k q p wr) := Lib.hid { inv := hinv.out, sp := HRR.out.sp, x0 := HRR.out.x0, x1 := HRR.out.x1, bel := HRR.out.bel }
          go_wp2
          go_roundw
          case rel => exact ⟨s, k, q, p, by omega, by rw [← HBV.out]; go_num, rfl, hk3, HF⟩
          case measure => simp [intOf]; omega
end Go.Proofs.Ytfdjjaogmnagaaa.Ix
