/- rowArray.withoutBit and rowArray.list; the model's greatest bit and rank. -/
import Derived.Test.YtfdjjaogmnagaaaCixps
import Derived.RegionTactic
import Derived.BigRegion
namespace Go.Proofs.Ytfdjjaogmnagaaa.Ix
open Go.RowKit Tr Bt
def rowVals (q : Nat → Nat) : List Value := [.int .i64 ((q 0 : Nat) : Int), .int .i64 ((q 1 : Nat) : Int), .int .i64 ((q 2 : Nat) : Int)]
def mixF (r : Nat → Nat) (t k j : Nat) : Nat → Nat := fun m => if m < j then clearF r t k m else r m
theorem mix_zero (r : Nat → Nat) (t k : Nat) : rowVals (mixF r t k 0) = rowVals r := by simp [rowVals, mixF]
theorem mix_three (r : Nat → Nat) (t k : Nat) : rowVals (mixF r t k 3) = rowVals (clearF r t k) := by simp [rowVals, mixF]
theorem mix_stay (r : Nat → Nat) (t k j : Nat) (h : ¬ (j ≠ k ∧ (r j).testBit t = true)) : rowVals (mixF r t k (j + 1)) = rowVals (mixF r t k j) := by
  have e : mixF r t k (j + 1) = mixF r t k j := funext fun m => by
    unfold mixF
    by_cases h1 : m < j
    · rw [if_pos h1, if_pos (by omega)]
    · by_cases h2 : m = j
      · subst h2
        rw [if_pos (by omega), if_neg h1]
        unfold clearF
        rw [if_neg h]
      · rw [if_neg h1, if_neg (by omega)]
  rw [e]
theorem mix_set (r : Nat → Nat) (t k j : Nat) (hj : j < 3) (h : j ≠ k ∧ (r j).testBit t = true) : (rowVals (mixF r t k j)).set j (.int .i64 ((r j ^^^ r k : Nat) : Int)) = rowVals (mixF r t k (j + 1)) := by
  have ec : clearF r t k j = r j ^^^ r k := by unfold clearF; rw [if_pos h]
  obtain rfl | rfl | rfl : j = 0 ∨ j = 1 ∨ j = 2 := by omega
  all_goals simp [rowVals, mixF, ec]
theorem mix_at (r : Nat → Nat) (t k j m : Nat) (hm : m < 3) (h : j ≤ m ∨ m = k) : (rowVals (mixF r t k j))[m]? = some (.int .i64 ((r m : Nat) : Int)) := by
  have e : mixF r t k j m = r m := by
    unfold mixF
    split
    · rcases h with h | h
      · omega
      · subst h; unfold clearF; rw [if_neg (by simp)]
    · rfl
  rw [← e]
  obtain rfl | rfl | rfl : m = 0 ∨ m = 1 ∨ m = 2 := by omega
  all_goals rfl
theorem clear_lt {r : Nat → Nat} (t k : Nat) (hk : k < 3) (h : ∀ i, i < 3 → r i < 64) : ∀ i, i < 3 → clearF r t k i < 64 := fun i hi => by
  unfold clearF; split
  · exact xor_lt64 (h i hi) (h k hk)
  · exact h i hi
set_option maxHeartbeats 2000000 in
theorem wob_i (r : Nat → Nat) (t k : Nat) (w : World) (ht : t < 6) (hk : k < 3) (hr : ∀ i, i < 3 → r i < 64) :
    Calls Try.prog 45 #[aggR r, .int .i64 ((2 ^ t : Nat) : Int), .int .i64 (k : Int)] w (fun e w' => e = .returned (aggR (clearF r t k)) ∧ Below w.heap.size w w') := by
  have hb64 : 2 ^ t ≤ 32 := by have : 2 ^ t ≤ 2 ^ 5 := Nat.pow_le_pow_right (by omega) (by omega); simpa using this
  have hb1 : 1 ≤ 2 ^ t := Nat.two_pow_pos t
  have HI := Lib.hid (fun j hj w9 => index3 r j hj w9)
  have HAT := Lib.hid (fun j m hm h => mix_at r t k j m hm h)
  have HSET := Lib.hid (fun j hj h => mix_set r t k j hj h)
  have HSTAY := Lib.hid (fun j h => mix_stay r t k j h)
  have HAND := Lib.hid (fun j (hj : j < 3) => (show bits .and .i64 ((r j : Nat) : Int) ((2 ^ t : Nat) : Int) = ((bif (r j).testBit t then 2 ^ t else 0 : Nat) : Int) from by
    rw [← and_bit]; exact i64_and _ _ (by have := hr j hj; omega) (by omega)))
  have HXOR := Lib.hid (fun j (hj : j < 3) => (show bits .xor .i64 ((r j : Nat) : Int) ((r k : Nat) : Int) = ((r j ^^^ r k : Nat) : Int) from i64_xor _ _ (by have := hr j hj; omega) (by have := hr k hk; omega)))
  have H3 := Lib.hid (mix_three r t k)
  have hz2 : ((w.alloc (.cells (rowVals r).toArray 44))).heap.size = w.heap.size + 1 := Array.size_push _
  have x0 := (Kb.new w w.heap.size (rowVals r) 44 rfl).alloc (.cells #[.int .i64 0, .int .i64 0, .int .i64 0] 44)
  have x1 := Kb.new (w.alloc (.cells (rowVals r).toArray 44)) (w.heap.size + 1) [.int .i64 0, .int .i64 0, .int .i64 0] 44 hz2.symm
  have b0 : Below w.heap.size w ((w.alloc (.cells (rowVals r).toArray 44)).alloc (.cells #[.int .i64 0, .int .i64 0, .int .i64 0] 44)) := ((Below.refl _ w).alloc (Nat.le_refl _) _).alloc (by omega) _
  rw [← mix_zero r t k] at x0
  have HX := Lib.hid (And.intro x0 (And.intro x1 b0))
  clear x0 x1 b0 hz2 hr
  generalize hR : clearF r t k = q at *
  unfold aggR at *
  generalize hB : 2 ^ t = B at *
  clear hB
  go_enter Try.func45, Try.ntmps45
  go_wp2
  go_loopw [10] (fun i wr => ∃ j : Nat, j ≤ 3 ∧ i = .int .i64 j ∧ Kb wr w.heap.size (rowVals (mixF r t k j)) 44 ∧ Kb wr (w.heap.size + 1) [.int .i64 0, .int .i64 0, .int .i64 0] 44 ∧ Below w.heap.size w wr) (fun i _ => 3 - (intOf i).toNat)
  case atStart => exact ⟨0, by omega, rfl, HX.out.1, HX.out.2.1, HX.out.2.2⟩
  case round =>
    obtain ⟨j, hj, rfl, hx0, hx1, hb⟩ := hrel
    by_cases hlt : j < 3
    · have hi := HI.out j hlt
      have hd : decide ((j : Int) < 3) = true := decide_eq_true (by omega)
      by_cases hjk : j = k
      · have hne : ((j : Int) != (k : Int)) = false := by simp; omega
        have hst := HSTAY.out j (fun h => h.1 hjk)
        rw [← hst] at hx0
        have HX0 := Lib.hid hx0
        have HX1 := Lib.hid hx1
        have HB := Lib.hid hb
        clear hx0 hx1 hb hst hjk
        generalize r j = u at *
        go_wp2
        go_roundw
        case rel => exact ⟨j + 1, by omega, by go_num, HX0.out, HX1.out, HB.out⟩
        case measure => simp [intOf]; omega
      · have hne : ((j : Int) != (k : Int)) = true := by simp; omega
        have ha := HAND.out j hlt
        cases hbit : (r j).testBit t
        · rw [hbit] at ha
          have ha' : bits .and .i64 ((r j : Nat) : Int) (B : Int) = 0 := ha
          have hst := HSTAY.out j (fun h => by rw [hbit] at h; exact absurd h.2 (by simp))
          rw [← hst] at hx0
          have HX0 := Lib.hid hx0
          have HX1 := Lib.hid hx1
          have HB := Lib.hid hb
          clear hx0 hx1 hb hst hjk ha hbit
          generalize r j = u at *
          go_wp2
          go_roundw
          case rel => exact ⟨j + 1, by omega, by go_num, HX0.out, HX1.out, HB.out⟩
          case measure => simp [intOf]; omega
        · rw [hbit] at ha
          have ha' : bits .and .i64 ((r j : Nat) : Int) (B : Int) = (B : Int) := ha
          have hbn : ((B : Int) != 0) = true := by simp; omega
          have hset := HSET.out j hlt ⟨hjk, hbit⟩
          have hxo := HXOR.out j hlt
          have c1 : wr.cell? ⟨w.heap.size, j, none⟩ = some (.int .i64 ((r j : Nat) : Int)) := (hx0.cell j).trans (HAT.out j j hlt (.inl (Nat.le_refl _)))
          have c2 : wr.cell? ⟨w.heap.size, k, none⟩ = some (.int .i64 ((r k : Nat) : Int)) := (hx0.cell k).trans (HAT.out j k hk (.inr rfl))
          have f1 := hx0.froz j
          generalize r j ^^^ r k = x at *
          have s0 := hx0.set j (.int .i64 (x : Int))
          rw [hset] at s0
          have HX0 := Lib.hid s0
          have HX1 := Lib.hid (hx1.off (c := w.heap.size) j (.int .i64 (x : Int)) (by omega))
          have HB := Lib.hid (hb.setCell (p := ⟨w.heap.size, j, none⟩) (Nat.le_refl _) (.int .i64 (x : Int)))
          clear hx0 hx1 hb hset hjk ha hbit s0
          generalize r j = u at *
          generalize r k = uk at *
          go_wp2
          go_region
          all_goals
            go_wp2
            refine ⟨⟨j + 1, by omega, by go_num, HX0.out, HX1.out, HB.out.drew⟩, by simp [intOf]; omega⟩
    · obtain rfl : j = 3 := by omega
      rw [H3.out] at hx0
      have g0 : wr.cell? ⟨w.heap.size, 0, none⟩ = some (.int .i64 ((q 0 : Nat) : Int)) := hx0.cell 0
      have g1 : wr.cell? ⟨w.heap.size, 1, none⟩ = some (.int .i64 ((q 1 : Nat) : Int)) := hx0.cell 1
      have g2 : wr.cell? ⟨w.heap.size, 2, none⟩ = some (.int .i64 ((q 2 : Nat) : Int)) := hx0.cell 2
      have t0 : wr.cell? ⟨w.heap.size + 1, 0, none⟩ = some (.int .i64 0) := hx1.cell 0
      have t1 : wr.cell? ⟨w.heap.size + 1, 1, none⟩ = some (.int .i64 0) := hx1.cell 1
      have t2 : wr.cell? ⟨w.heap.size + 1, 2, none⟩ = some (.int .i64 0) := hx1.cell 2
      have f0 := hx1.froz 0
      have f1 := hx1.froz 1
      have f2 := hx1.froz 2
      have HB := Lib.hid hb
      clear hx0 hx1 hb hR
      go_wp2
      refine bodyPost_ret (v := .agg #[.int .i64 ((q 0 : Nat) : Int), .int .i64 ((q 1 : Nat) : Int), .int .i64 ((q 2 : Nat) : Int)]) (by simp [results, Try.results45, go_sem, t0, t1, t2, f0, f1, f2]) rfl ⟨rfl, ?_⟩
      repeat (first | exact HB.out | refine Below.setCell ?_ (by simp) _)
/-- rowArray.list: the rows that are not 0. -/
def nzK (q : Nat → Nat) (j : Nat) : List Nat := ((List.range j).map q).filter (fun x => Nat.ble 1 x)
theorem nzK_three (q : Nat → Nat) : nzK q 3 = nz (q 0) (q 1) (q 2) := rfl
theorem nzK_succ (q : Nat → Nat) (j : Nat) : castL (nzK q (j + 1)) = castL (nzK q j) ++ (if q j = 0 then [] else [((q j : Nat) : Int)]) := by
  unfold nzK
  rw [List.range_succ, List.map_append, List.filter_append]
  unfold castL
  rw [List.map_append]
  congr 1
  by_cases h : q j = 0
  · rw [if_pos h]; simp [h]
  · rw [if_neg h]
    have : Nat.ble 1 (q j) = true := Nat.ble_eq_true_of_le (by omega)
    simp [this]
theorem nzK_len (q : Nat → Nat) (j : Nat) : (nzK q j).length ≤ j := by
  have := List.length_filter_le (fun x => Nat.ble 1 x) ((List.range j).map q)
  simpa [nzK] using this
set_option maxHeartbeats 1000000 in
theorem rlist_i (q : Nat → Nat) (w : World) (hq : ∀ i, i < 3 → q i < 64) :
    Calls Try.prog 39 #[aggR q] w (Lb (castL (nz (q 0) (q 1) (q 2))) w) := by
  have HI := Lib.hid (fun j hj w9 => index3 q j hj w9)
  have HSU := Lib.hid (fun j => nzK_succ q j)
  have HL := Lib.hid (fun j => (show (castL (nzK q j)).length ≤ j from by rw [castL_len]; exact nzK_len q j))
  have H3 := Lib.hid (show castL (nzK q 3) = castL (nz (q 0) (q 1) (q 2)) from rfl)
  have H0 := Lib.hid (show castL (nzK q 0) = [] from rfl)
  generalize castL (nz (q 0) (q 1) (q 2)) = ys at *
  unfold aggR at *
  have b0 : Below w.heap.size w (w.alloc (.cells #[.int .i64 ((q 0 : Nat) : Int), .int .i64 ((q 1 : Nat) : Int), .int .i64 ((q 2 : Nat) : Int)] 44)) := (Below.refl _ w).alloc (Nat.le_refl _) _
  have B0 := Lib.hid b0
  clear b0
  go_enter Try.func39, Try.ntmps39
  go_wp2
  go_loopw [3, 7] (fun v i wr => ∃ j : Nat, j ≤ 3 ∧ i = .int .i64 j ∧ Own wr w.heap.size v (castL (nzK q j)) ∧ Below w.heap.size w wr) (fun _ i _ => 3 - (intOf i).toNat)
  case atStart => exact ⟨0, by omega, rfl, by rw [H0.out]; exact Own.nil _ _, B0.out⟩
  case round =>
    obtain ⟨j, hj, rfl, hown, hb⟩ := hrel
    by_cases hlt : j < 3
    · have hi := HI.out j hlt
      have hsu := HSU.out j
      have hq64 := hq j hlt
      have hsz := hb.size
      have HB := Lib.hid hb
      by_cases hz : q j = 0
      · rw [if_pos hz, List.append_nil] at hsu
        rw [← hsu] at hown
        rw [hz] at hi
        have HOWN := Lib.hid hown
        clear hown hb hsu hz hq64
        go_wp2
        go_roundw
        case rel => exact ⟨j + 1, by omega, by go_num, HOWN.out, HB.out⟩
        case measure => simp [intOf]; omega
      · rw [if_neg hz] at hsu
        have hl := HL.out j
        have hq1 : (castL (nzK q j)).length + 1 ≤ 1000000000 := by omega
        have HS := Lib.hid hsu
        have hne : (((q j : Nat) : Int) != 0) = true := by simp; omega
        clear hb hsu hl
        generalize q j = u at *
        go_wp2_with (at_builtin; refine wpList_app _ rfl _ _ rfl w.heap.size _ (castL (nzK q j)) _ ?_ ?_ hown hq1 hsz ?_; rfl; rfl)
        intro v' w' ho' hb'
        go_wp2
        go_roundw
        case rel => exact ⟨j + 1, by omega, by go_num, by rw [HS.out]; exact ho', HB.out.trans hb'⟩
        case measure => simp [intOf]; omega
    · obtain rfl : j = 3 := by omega
      rw [H3.out] at hown
      go_wp2
      go_ret
      exact ⟨_, rfl, hown, hb⟩
end Go.Proofs.Ytfdjjaogmnagaaa.Ix
