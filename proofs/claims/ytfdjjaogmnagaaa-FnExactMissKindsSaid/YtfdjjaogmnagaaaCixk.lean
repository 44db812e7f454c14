/- The program's sets as bits: rowArray.sets, kernel. -/
import Derived.Test.YtfdjjaogmnagaaaCixr
import Derived.Test.YtfdjjaogmnagaaaPlainIx4
import Derived.Test.YtfdjjaogmnagaaaCappg
import Derived.Deep.RegionLaw
namespace Go.Proofs.Ytfdjjaogmnagaaa.Ix
open Go.RowKit Tr Bt
theorem u64_wrap (n : Int) : IntKind.u64.wrap n = n % 18446744073709551616 := IntKind.wrap_u64 n
/-! ### The sets -/
def setVals (r : Nat → Nat) (j : Nat) : List Value := (List.range 8).map (fun k => Value.int .u64 ((setK r j k : Nat) : Int))
theorem setVals_at (r : Nat → Nat) (j k : Nat) (hk : k < 8) : (setVals r j)[k]? = some (.int .u64 ((setK r j k : Nat) : Int)) := by
  unfold setVals
  rw [List.getElem?_map, List.getElem?_range hk]; rfl
theorem setVals_zero (r : Nat → Nat) : setVals r 0 = [.int .u64 0, .int .u64 0, .int .u64 0, .int .u64 0, .int .u64 0, .int .u64 0, .int .u64 0, .int .u64 0] := rfl
theorem setVals_set (r : Nat → Nat) (j : Nat) : (setVals r j).set (setF r j 3) (.int .u64 ((setK r j (setF r j 3) ||| 2 ^ j : Nat) : Int)) = setVals r (j + 1) := by
  refine List.ext_getElem (by simp [setVals]) fun k h1 h2 => ?_
  rw [List.getElem_set]
  have e : ∀ i (h : k < (setVals r i).length), (setVals r i)[k] = .int .u64 ((setK r i k : Nat) : Int) := fun i h => by simp only [setVals, List.getElem_map, List.getElem_range]
  by_cases h : setF r j 3 = k
  · rw [if_pos h, e]
    subst h
    rw [setK_hit]
  · rw [if_neg h, e, e, setK_miss r j k (fun e => h e.symm)]
def aggS (r : Nat → Nat) : Value := .agg (setVals r 64).toArray
theorem i64_orU (a b : Nat) (ha : a < 18446744073709551616) (hb : b < 18446744073709551616) : bits .or .u64 (a : Int) (b : Int) = ((a ||| b : Nat) : Int) := by
  have hx : a ||| b < 2 ^ 64 := Nat.or_lt_two_pow (by omega) (by omega)
  show IntKind.u64.wrap ((BitVec.ofInt 64 (a : Int) ||| BitVec.ofInt 64 (b : Int)).toNat : Int) = _
  rw [BitVec.toNat_or, ofInt_u64 a ha, ofInt_u64 b hb, u64_wrap]
  omega
theorem shlU (j : Nat) (hj : j < 64) : IntKind.u64.wrap ((2 : Int) ^ j) = ((2 ^ j : Nat) : Int) ∧ 2 ^ j < 18446744073709551616 := by
  have h : 2 ^ j < 18446744073709551616 := by have : 2 ^ j < 2 ^ 64 := Nat.pow_lt_pow_right (by omega) hj; simpa using this
  refine ⟨?_, h⟩
  rw [show ((2 : Int) ^ j) = ((2 ^ j : Nat) : Int) by simp, u64_wrap]
  generalize 2 ^ j = p at *
  omega
set_option maxHeartbeats 2000000 in
theorem sets_i (r : Nat → Nat) (w : World) (hr : ∀ i, i < 3 → r i < 64) :
    Calls Try.prog 35 #[aggR r] w (fun e w' => e = .returned (aggS r) ∧ Below w.heap.size w w') := by
  have hz2 : (w.alloc (.cells [.int .i64 ((r 0 : Nat) : Int), .int .i64 ((r 1 : Nat) : Int), .int .i64 ((r 2 : Nat) : Int)].toArray 44)).heap.size = w.heap.size + 1 := Array.size_push _
  have hz3 : ((w.alloc (.cells [.int .i64 ((r 0 : Nat) : Int), .int .i64 ((r 1 : Nat) : Int), .int .i64 ((r 2 : Nat) : Int)].toArray 44)).alloc (.cells (setVals r 0).toArray 63)).heap.size = w.heap.size + 1 + 1 := (Array.size_push _).trans (by rw [hz2])
  have x0 := ((Kb.new w w.heap.size [.int .i64 ((r 0 : Nat) : Int), .int .i64 ((r 1 : Nat) : Int), .int .i64 ((r 2 : Nat) : Int)] 44 rfl).alloc (.cells (setVals r 0).toArray 63)).alloc (.cells (setVals r 0).toArray 63)
  have x1 := (Kb.new (w.alloc (.cells [.int .i64 ((r 0 : Nat) : Int), .int .i64 ((r 1 : Nat) : Int), .int .i64 ((r 2 : Nat) : Int)].toArray 44)) (w.heap.size + 1) (setVals r 0) 63 hz2.symm).alloc (.cells (setVals r 0).toArray 63)
  have x2 := Kb.new ((w.alloc (.cells [.int .i64 ((r 0 : Nat) : Int), .int .i64 ((r 1 : Nat) : Int), .int .i64 ((r 2 : Nat) : Int)].toArray 44)).alloc (.cells (setVals r 0).toArray 63)) (w.heap.size + 1 + 1) (setVals r 0) 63 hz3.symm
  have b0 : Below w.heap.size w (((w.alloc (.cells [.int .i64 ((r 0 : Nat) : Int), .int .i64 ((r 1 : Nat) : Int), .int .i64 ((r 2 : Nat) : Int)].toArray 44)).alloc (.cells (setVals r 0).toArray 63)).alloc (.cells (setVals r 0).toArray 63)) := (((Below.refl _ w).alloc (Nat.le_refl _) _).alloc (by omega) _).alloc (by omega) _
  have HX := Lib.hid (And.intro x0 (And.intro x1 (And.intro x2 b0)))
  clear x0 x1 x2 b0 hz2 hz3
  have HSO := Lib.hid (fun j (hj : j < 64) w9 => setof_i r j w9 hr hj)
  have HAT := Lib.hid (fun j k hk => setVals_at r j k hk)
  have HSET := Lib.hid (fun j => setVals_set r j)
  have HK8 := Lib.hid (fun j => setF_lt8 r j)
  have HKL := Lib.hid (fun j k hj => setK_lt r j k hj)
  clear hr
  have HAG := Lib.hid (show aggS r = .agg (setVals r 64).toArray from rfl)
  rw [HAG.out]
  unfold aggR at *
  go_enter Try.func35, Try.ntmps35
  go_wp2
  go_loopw [5] (fun i wr => ∃ j : Nat, j ≤ 64 ∧ i = .int .i64 j ∧ Hid (Kb wr w.heap.size [.int .i64 ((r 0 : Nat) : Int), .int .i64 ((r 1 : Nat) : Int), .int .i64 ((r 2 : Nat) : Int)] 44 ∧ Kb wr (w.heap.size + 1) (setVals r 0) 63 ∧ Kb wr (w.heap.size + 1 + 1) (setVals r j) 63 ∧ Below w.heap.size w wr)) (fun i _ => 64 - (intOf i).toNat)
  case atStart => exact ⟨0, by omega, rfl, Lib.hid HX.out⟩
  case round =>
    obtain ⟨j, hj, rfl, hX⟩ := hrel
    by_cases hlt : j < 64
    · have HS := Lib.hid (HSO.out j hlt)
      have hk8 := HK8.out j
      have hset := HSET.out j
      have hat := HAT.out j (setF r j 3) hk8
      have hkl := HKL.out j (setF r j 3) hj
      obtain ⟨hsh, hsl⟩ := shlU j hlt
      have hor := i64_orU (setK r j (setF r j 3)) (2 ^ j) hkl hsl
      generalize setF r j 3 = k at *
      generalize setK r j k ||| 2 ^ j = s' at *
      generalize setK r j k = s at *
      generalize 2 ^ j = p at *
      have g0 : wr.cell? ⟨w.heap.size, 0, none⟩ = some (.int .i64 ((r 0 : Nat) : Int)) := hX.out.1.cell 0
      have g1 : wr.cell? ⟨w.heap.size, 1, none⟩ = some (.int .i64 ((r 1 : Nat) : Int)) := hX.out.1.cell 1
      have g2 : wr.cell? ⟨w.heap.size, 2, none⟩ = some (.int .i64 ((r 2 : Nat) : Int)) := hX.out.1.cell 2
      have hk8' : (k : Int) < 8 := by omega
      have HC9 := Lib.hid (fun (w9 : World) (bb : Below wr.heap.size wr w9) => (show w9.cell? ⟨w.heap.size + 1 + 1, k, none⟩ = some (.int .u64 (s : Int)) ∧ w9.frozen? ⟨w.heap.size + 1 + 1, k, none⟩ = false ∧
          Hid (Kb (w9.setCell ⟨w.heap.size + 1 + 1, k, none⟩ (.int .u64 (s' : Int))) w.heap.size [.int .i64 ((r 0 : Nat) : Int), .int .i64 ((r 1 : Nat) : Int), .int .i64 ((r 2 : Nat) : Int)] 44 ∧ Kb (w9.setCell ⟨w.heap.size + 1 + 1, k, none⟩ (.int .u64 (s' : Int))) (w.heap.size + 1) (setVals r 0) 63 ∧ Kb (w9.setCell ⟨w.heap.size + 1 + 1, k, none⟩ (.int .u64 (s' : Int))) (w.heap.size + 1 + 1) (setVals r (j + 1)) 63 ∧ Below w.heap.size w (w9.setCell ⟨w.heap.size + 1 + 1, k, none⟩ (.int .u64 (s' : Int)))) from by
        have h2 := hX.out.2.2.1.below bb hX.out.2.2.1.lt
        have h3 := h2.set k (.int .u64 (s' : Int))
        rw [hset] at h3
        exact ⟨(h2.cell k).trans hat, h2.froz k, Lib.hid ⟨(hX.out.1.below bb hX.out.1.lt).off k _ (by omega), (hX.out.2.1.below bb hX.out.2.1.lt).off k _ (by omega), h3, (bt hX.out.2.2.2 bb).setCell (p := ⟨w.heap.size + 1 + 1, k, none⟩) (by show w.heap.size ≤ w.heap.size + 1 + 1; omega) _⟩⟩))
      clear hat hset hkl hX
      go_wp2
      go_region_law (go_simp; go_at_call 36; (with_reducible refine (HS.out _).mono ?_); rintro e w9 ⟨rfl, bb⟩; obtain ⟨c9, f9, K9⟩ := HC9.out w9 ((Below.refl _ wr).drew.trans bb); clear bb)
      all_goals
        go_wp2
        refine ⟨⟨j + 1, by omega, by go_num, K9⟩, by simp [intOf]; omega⟩
    · obtain rfl : j = 64 := by omega
      obtain ⟨_, h1, h2, h3⟩ := hX.out
      have c0 : wr.cell? ⟨w.heap.size + 1 + 1, 0, none⟩ = some (.int .u64 ((setK r 64 0 : Nat) : Int)) := h2.cell 0
      have c1 : wr.cell? ⟨w.heap.size + 1 + 1, 1, none⟩ = some (.int .u64 ((setK r 64 1 : Nat) : Int)) := h2.cell 1
      have c2 : wr.cell? ⟨w.heap.size + 1 + 1, 2, none⟩ = some (.int .u64 ((setK r 64 2 : Nat) : Int)) := h2.cell 2
      have c3 : wr.cell? ⟨w.heap.size + 1 + 1, 3, none⟩ = some (.int .u64 ((setK r 64 3 : Nat) : Int)) := h2.cell 3
      have c4 : wr.cell? ⟨w.heap.size + 1 + 1, 4, none⟩ = some (.int .u64 ((setK r 64 4 : Nat) : Int)) := h2.cell 4
      have c5 : wr.cell? ⟨w.heap.size + 1 + 1, 5, none⟩ = some (.int .u64 ((setK r 64 5 : Nat) : Int)) := h2.cell 5
      have c6 : wr.cell? ⟨w.heap.size + 1 + 1, 6, none⟩ = some (.int .u64 ((setK r 64 6 : Nat) : Int)) := h2.cell 6
      have c7 : wr.cell? ⟨w.heap.size + 1 + 1, 7, none⟩ = some (.int .u64 ((setK r 64 7 : Nat) : Int)) := h2.cell 7
      have t0 : wr.cell? ⟨w.heap.size + 1, 0, none⟩ = some (.int .u64 0) := h1.cell 0
      have t1 : wr.cell? ⟨w.heap.size + 1, 1, none⟩ = some (.int .u64 0) := h1.cell 1
      have t2 : wr.cell? ⟨w.heap.size + 1, 2, none⟩ = some (.int .u64 0) := h1.cell 2
      have t3 : wr.cell? ⟨w.heap.size + 1, 3, none⟩ = some (.int .u64 0) := h1.cell 3
      have t4 : wr.cell? ⟨w.heap.size + 1, 4, none⟩ = some (.int .u64 0) := h1.cell 4
      have t5 : wr.cell? ⟨w.heap.size + 1, 5, none⟩ = some (.int .u64 0) := h1.cell 5
      have t6 : wr.cell? ⟨w.heap.size + 1, 6, none⟩ = some (.int .u64 0) := h1.cell 6
      have t7 : wr.cell? ⟨w.heap.size + 1, 7, none⟩ = some (.int .u64 0) := h1.cell 7
      have f0 := h1.froz 0
      have f1 := h1.froz 1
      have f2 := h1.froz 2
      have f3 := h1.froz 3
      have f4 := h1.froz 4
      have f5 := h1.froz 5
      have f6 := h1.froz 6
      have f7 := h1.froz 7
      have HB := Lib.hid h3
      have hv : (Value.agg (setVals r 64).toArray) = .agg #[.int .u64 ((setK r 64 0 : Nat) : Int), .int .u64 ((setK r 64 1 : Nat) : Int), .int .u64 ((setK r 64 2 : Nat) : Int), .int .u64 ((setK r 64 3 : Nat) : Int), .int .u64 ((setK r 64 4 : Nat) : Int), .int .u64 ((setK r 64 5 : Nat) : Int), .int .u64 ((setK r 64 6 : Nat) : Int), .int .u64 ((setK r 64 7 : Nat) : Int)] := rfl
      have HV := Lib.hid hv
      clear h1 h2 h3 hX HX HAT HSET HKL HAG hv
      generalize setK r 64 0 = s0 at *
      generalize setK r 64 1 = s1 at *
      generalize setK r 64 2 = s2 at *
      generalize setK r 64 3 = s3 at *
      generalize setK r 64 4 = s4 at *
      generalize setK r 64 5 = s5 at *
      generalize setK r 64 6 = s6 at *
      generalize setK r 64 7 = s7 at *
      go_wp2
      refine bodyPost_ret (v := .agg #[.int .u64 (s0 : Int), .int .u64 (s1 : Int), .int .u64 (s2 : Int), .int .u64 (s3 : Int), .int .u64 (s4 : Int), .int .u64 (s5 : Int), .int .u64 (s6 : Int), .int .u64 (s7 : Int)]) (by simp [results, Try.results35, go_sem, t0, f0, t1, f1, t2, f2, t3, f3, t4, f4, t5, f5, t6, f6, t7, f7]) rfl ⟨by rw [HV.out], ?_⟩
      repeat (first | with_reducible exact HB.out | with_reducible refine Below.setCell ?_ (Nat.le_succ _) _)
theorem index8 (r : Nat → Nat) (j : Nat) (hj : j < 8) (w : World) : (Instr.index 63 (aggS r) (.int .i64 (j : Int))).run Try.prog w = .ok (.int .u64 ((setK r 64 j : Nat) : Int)) w := by
  unfold aggS setVals
  simp only [List.range, List.range.loop, List.map_cons, List.map_nil]
  generalize setK r 64 = s
  obtain rfl | rfl | rfl | rfl | rfl | rfl | rfl | rfl : j = 0 ∨ j = 1 ∨ j = 2 ∨ j = 3 ∨ j = 4 ∨ j = 5 ∨ j = 6 ∨ j = 7 := by omega
  all_goals kernel_rfl
end Go.Proofs.Ytfdjjaogmnagaaa.Ix
