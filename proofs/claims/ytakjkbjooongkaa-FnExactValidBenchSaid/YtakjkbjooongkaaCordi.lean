/- The program's test of an order of ages: a copy that is sorted. -/
import Derived.Test.YtakjkbjooongkaaCage2
import Derived.Test.YtakjkbjooongkaaCshelf
import Derived.Test.YtakjkbjooongkaaCeq6
import Derived.Test.YtakjkbjooongkaaCpv
import Derived.Lib.SlKeysI
namespace Go.Proofs.Ytakjkbjooongkaa.Pv
open Go.RowKit Go.Sort
/-- the ages of a list, and behind them those that stay -/
def ordF (xs : List Int) (i : Nat) : Int := if i < xs.length then xs.getD i 0 else i
theorem cur6_len : cur6.length = 6 := rfl
theorem ord_cells (xs : List Int) (h : xs.length ≤ 6) (i : Nat) (hi : i < 6) : (Go.splice cur6 0 (xs.map (Value.int .i64))).toArray[i]? = some (.int .i64 (ordF xs i)) := by
  have e : Go.splice cur6 0 (xs.map (Value.int .i64)) = xs.map (Value.int .i64) ++ cur6.drop xs.length := by simp [Go.splice]
  rw [e]
  unfold ordF
  by_cases hlt : i < xs.length
  · rw [if_pos hlt, List.getElem?_toArray, List.getElem?_append_left (by simpa using hlt), List.getElem?_map, List.getElem?_eq_getElem hlt, getDg xs i hlt]
    rfl
  · rw [if_neg hlt, List.getElem?_toArray, List.getElem?_append_right (by simp; omega), List.getElem?_drop, List.length_map]
    rw [show xs.length + (i - xs.length) = i by omega]
    rcases below6 hi with rfl | rfl | rfl | rfl | rfl | rfl <;> rfl
theorem ord_take (xs : List Int) : (Go.splice cur6 0 (xs.map (Value.int .i64))).take xs.length = xs.map (Value.int .i64) := by
  have e : Go.splice cur6 0 (xs.map (Value.int .i64)) = xs.map (Value.int .i64) ++ cur6.drop xs.length := by simp [Go.splice]
  rw [e, List.take_append_of_le_length (by simp)]
  exact List.take_of_length_le (by simp)
theorem ordF_upTo (n : Nat) (hn : n ≤ 6) (xs : List Int) (hl : xs.length = n) : xs = upTo n ↔ ∀ i, i < 6 → ordF xs i = i := by
  constructor
  · rintro rfl i hi
    unfold ordF
    split
    · rename_i h; rw [getDg _ i h]; simp [upTo]
    · rfl
  · intro h
    refine List.ext_getElem (by rw [hl, upTo_length]) fun i h1 h2 => ?_
    have := h i (by omega)
    unfold ordF at this
    rw [if_pos h1, getDg xs i h1] at this
    rw [this]; simp [upTo]
theorem put_cells (cur : List Value) (s : List Int) (i : Nat) (hc : cur.length = 6) (hi : i < 6) (hs : s.length ≤ 6) (hcur : s.length ≤ i → cur.toArray[i]? = some (.int .i64 (i : Nat))) :
    (putCells encZ 0 s.toArray cur.toArray)[i]? = some (.int .i64 (ordF s i)) := by
  unfold ordF
  by_cases h : i < s.length
  · rw [if_pos h, getDg s i h]
    simp [putCells, h, hc, hi, encZ]
  · rw [if_neg h]
    have h2 := hcur (by omega)
    simp [putCells, h, hc, hi] at h2 ⊢
    exact h2
theorem six_list (xs : List Int) (h : xs.length ≤ 6) : [Value.int .i64 (ordF xs 0), .int .i64 (ordF xs 1), .int .i64 (ordF xs 2), .int .i64 (ordF xs 3), .int .i64 (ordF xs 4), .int .i64 (ordF xs 5)] = Go.splice cur6 0 (xs.map (Value.int .i64)) := by
  have hlen : (Go.splice cur6 0 (xs.map (Value.int .i64))).length = 6 := by simp [Go.splice, cur6]; omega
  refine List.ext_getElem? fun i => ?_
  by_cases hi : i < 6
  · have := ord_cells xs h i hi
    rw [List.getElem?_toArray] at this
    rw [this]
    rcases below6 hi with rfl | rfl | rfl | rfl | rfl | rfl <;> rfl
  · rw [List.getElem?_eq_none (by show 6 ≤ i; omega), List.getElem?_eq_none (by omega)]
theorem drewB {w w' : World} (h : Below w.drew.heap.size w.drew w') : Below w.heap.size w w' := (Below.refl _ w).drew.trans h
set_option maxHeartbeats 4000000 in
set_option maxRecDepth 100000 in
theorem order_i (a : Option Addr) (c n : Nat) (xs : List Int) (w : World) (hl : xs.length = n) (h1 : 1 ≤ n) (h6 : n ≤ 6) (hcap : n ≤ c ∧ c ≤ 9223372036854775807) (hr : Row w a xs) :
    Calls Try.prog 36 #[.slice a n c, .int .i64 (n : Nat)] w (RetB (.tuple #[sixf (ordF xs), .bool (ordB n xs)]) w) := by
  obtain ⟨ba, oa, rfl, _⟩ := hr 0 (by omega)
  have HS := Lib.hid (fun w => same_i w)
  unfold six at HS
  have hz := z6_size w
  have HSRC := Lib.hid (fun (w' : World) (hb : Below w.heap.size w w') (j : Nat) (x : Int) (hx : xs[j]? = some x) => (show w'.cell? ⟨ba, oa + j, none⟩ = some (.int .i64 x) from by
    obtain ⟨hj, rfl⟩ := List.getElem?_eq_some_iff.1 hx
    obtain ⟨b', o', e, hc, hlt⟩ := hr j hj
    injection e with e
    injection e with e1 e2
    subst e1 e2
    rw [hb.cell (p := ⟨ba, oa + j, none⟩) hlt, hc, getDg xs j hj]))
  have hlm : (xs.map (Value.int .i64)).length = n := by rw [List.length_map, hl]
  have HM1 : ∀ v ∈ xs.map (Value.int .i64), v.oneCell' = true := fun v hv => by
    obtain ⟨x, _, rfl⟩ := List.mem_map.1 hv
    rfl
  have HX := Lib.hid (fun i hi => ord_cells xs (by omega) i hi)
  have HLM := Lib.hid hlm
  have HM1 := Lib.hid HM1
  clear hlm
  go_enter Try.func36, Try.ntmps36
  go_wp2_with fail
  refine (HS.out _).mono ?_
  rintro e w1 ⟨rfl, b1⟩
  have b1' : Below (w.heap.size + 1) (w.alloc (.cells z6 60)) w1 := b1.mono (Nat.le_of_eq hz.symm)
  have s1 : w.heap.size + 1 ≤ w1.heap.size := by
    have h : (w.alloc (.cells z6 60)).heap.size ≤ w1.heap.size := b1'.size
    omega
  have hG : Hid ((w1.alloc (.cells #[.int .i64 0, .int .i64 1, .int .i64 2, .int .i64 3, .int .i64 4, .int .i64 5] 60)).heap[w1.heap.size]? = some (.cells #[.int .i64 0, .int .i64 1, .int .i64 2, .int .i64 3, .int .i64 4, .int .i64 5] 60 (0, 0))) := heap_alloc_new w1 _
  have hB2 : Below (w.heap.size + 1) (w.alloc (.cells z6 60)) (w1.alloc (.cells #[.int .i64 0, .int .i64 1, .int .i64 2, .int .i64 3, .int .i64 4, .int .i64 5] 60)) := b1'.alloc s1 _
  have hB0 : Below w.heap.size w (w1.alloc (.cells #[.int .i64 0, .int .i64 1, .int .i64 2, .int .i64 3, .int .i64 4, .int .i64 5] 60)) := ((Below.refl _ _).alloc (Nat.le_refl _) _).trans (hB2.mono (by omega))
  have hsrc := Lib.hid (HSRC.out _ hB0)
  go_wp2_with (with_reducible refine wpList_copy_splice rfl (.tmp 14) (.tmp 15) 24 24 rfl 2 Try.underlying24 isz _ _ _ _ _ _ rfl rfl w1.heap.size 0 [Value.int .i64 0, .int .i64 1, .int .i64 2, .int .i64 3, .int .i64 4, .int .i64 5] 60 hG.out (xs.map (Value.int .i64)) ?_ ?_ ?_ HM1.out (w.heap.size + 1) _ hB2 s1 ?_)
  · rw [HLM.out]; exact (Nat.min_eq_left h6).symm
  · exact fun _ => hsrc.out
  · rw [HLM.out]; show 0 + n ≤ 6; omega
  intro w4 hG4 hB4
  have s4 : w1.heap.size + 1 ≤ w4.heap.size := by have h := (Array.getElem?_eq_some_iff.1 hG4.out).1; omega
  have hc : ∀ i, i < 6 → w4.cell? ⟨w1.heap.size, i, none⟩ = some (.int .i64 (ordF xs i)) := fun i hi => by
    rw [cell_of_row w4 w1.heap.size i _ _ (0, 0) hG4.out]
    exact HX.out i hi
  have c0 := hc 0 (by omega)
  have c1 := hc 1 (by omega)
  have c2 := hc 2 (by omega)
  have c3 := hc 3 (by omega)
  have c4 := hc 4 (by omega)
  have c5 := hc 5 (by omega)
  have HSL := Lib.hid (six_list xs (by omega))
  have HV := Lib.hid (show six (ordF xs 0) (ordF xs 1) (ordF xs 2) (ordF xs 3) (ordF xs 4) (ordF xs 5) = sixf (ordF xs) from rfl)
  clear hc hG hB2 hB0 hsrc HSRC HM1 b1 b1' HX
  have HLX := Lib.hid hl
  clear hl
  generalize ordF xs 0 = f0 at *
  generalize ordF xs 1 = f1 at *
  generalize ordF xs 2 = f2 at *
  generalize ordF xs 3 = f3 at *
  generalize ordF xs 4 = f4 at *
  generalize ordF xs 5 = f5 at *
  have n6 : (n : Int) ≤ 6 := by omega
  go_wp2_with fail
  have hW7 : Below (w.heap.size + 1) (w.alloc (.cells z6 60)) (w4.alloc (.cells #[.int .i64 f0, .int .i64 f1, .int .i64 f2, .int .i64 f3, .int .i64 f4, .int .i64 f5] 60)) := hB4.alloc (by omega) _
  have hG7 := heap_alloc_new w4 (.cells #[.int .i64 f0, .int .i64 f1, .int .i64 f2, .int .i64 f3, .int .i64 f4, .int .i64 f5] 60)
  have hz7 : (w4.alloc (.cells #[.int .i64 f0, .int .i64 f1, .int .i64 f2, .int .i64 f3, .int .i64 f4, .int .i64 f5] 60)).heap.size = w4.heap.size + 1 := Array.size_push _
  have k7 : (w4.alloc (.cells #[.int .i64 f0, .int .i64 f1, .int .i64 f2, .int .i64 f3, .int .i64 f4, .int .i64 f5] 60)).heap[w1.heap.size]? = w4.heap[w1.heap.size]? := Below.heap_alloc w4 _ _ (by omega)
  have hsrt := Try.slices_sort w4.heap.size 0 6 xs (w4.alloc (.cells #[.int .i64 f0, .int .i64 f1, .int .i64 f2, .int .i64 f3, .int .i64 f4, .int .i64 f5] 60)) (holds_of_block_i hG7 (by rw [show (#[Value.int .i64 f0, .int .i64 f1, .int .i64 f2, .int .i64 f3, .int .i64 f4, .int .i64 f5] : Array Value).toList = _ from HSL.out, ord_take])) (by omega) (by rw [HLX.out]; omega)
  rw [HLX.out] at hsrt
  have hsl : (xs.mergeSort fun x y => decide (x ≤ y)).length = n := by rw [List.length_mergeSort, HLX.out]
  have HQ := Lib.hid (ordB_sort n xs HLX.out)
  have HQ2 := Lib.hid (ordF_upTo n h6 _ hsl)
  generalize (xs.mergeSort fun x y => decide (x ≤ y)) = ss at *
  refine hsrt.mono ?_
  rintro e w8 ⟨rfl, nn, os, hw8⟩
  have gr8 : (w4.alloc (.cells #[.int .i64 f0, .int .i64 f1, .int .i64 f2, .int .i64 f3, .int .i64 f4, .int .i64 f5] 60)).grownBy w8 (some w4.heap.size) := by rw [hw8]; exact grownBy_sorted_i _
  have hG8 : w8.heap[w4.heap.size]? = some (.cells (putCells encZ 0 ss.toArray #[.int .i64 f0, .int .i64 f1, .int .i64 f2, .int .i64 f3, .int .i64 f4, .int .i64 f5]) 60 (0, 0)) := by rw [hw8]; exact heap_sorted_i _ hG7
  have hB8 : Below (w.heap.size + 1) (w.alloc (.cells z6 60)) w8 := hW7.grown gr8 (Nat.le_trans (Nat.le_of_eq hz.symm) hW7.size) (fun k hk => by injection hk with hk; omega)
  have hd : ∀ i, i < 6 → w8.cell? ⟨w4.heap.size, i, none⟩ = some (.int .i64 (ordF ss i)) := fun i hi => by
    rw [cell_of_row w8 w4.heap.size i _ _ (0, 0) hG8]
    refine put_cells [.int .i64 f0, .int .i64 f1, .int .i64 f2, .int .i64 f3, .int .i64 f4, .int .i64 f5] ss i rfl hi (by omega) fun h => ?_
    rw [List.getElem?_toArray, HSL.out]
    have := ord_cells xs (by rw [HLX.out]; omega) i hi
    rw [List.getElem?_toArray] at this
    rw [this]
    unfold ordF
    rw [if_neg (by rw [HLX.out]; omega)]
  have hc8 : ∀ i, w8.cell? ⟨w1.heap.size, i, none⟩ = w4.cell? ⟨w1.heap.size, i, none⟩ := fun i => by
    have h2 := gr8.block w1.heap.size (by omega) (fun e => by injection e with e; omega)
    exact World.cell?_of_block (a := ⟨w1.heap.size, i, none⟩) (h2.trans k7)
  have hr8 : ∀ i, i < 6 → w8.cell? ⟨w.heap.size, i, none⟩ = some (.int .i64 0) ∧ w8.frozen? ⟨w.heap.size, i, none⟩ = false := fun i hi => by
    have e1 := hB8.block w.heap.size (by omega)
    rw [World.cell?_of_block (w := w.alloc (.cells z6 60)) (a := ⟨w.heap.size, i, none⟩) e1, World.frozen?_of_block (w := w.alloc (.cells z6 60)) (a := ⟨w.heap.size, i, none⟩) e1]
    rcases below6 hi with rfl | rfl | rfl | rfl | rfl | rfl <;> exact ⟨by simp [go_sem, z6], by simp⟩
  have hz8 : w4.heap.size < w8.heap.size := (Array.getElem?_eq_some_iff.1 hG8).1
  have HB8 := Lib.hid (((Below.refl w.heap.size w).alloc (Nat.le_refl _) (.cells z6 60)).trans (hB8.mono (Nat.le_succ _)))
  have a0 := (hc8 0).trans c0
  have a1 := (hc8 1).trans c1
  have a2 := (hc8 2).trans c2
  have a3 := (hc8 3).trans c3
  have a4 := (hc8 4).trans c4
  have a5 := (hc8 5).trans c5
  have d0 := hd 0 (by omega)
  have d1 := hd 1 (by omega)
  have d2 := hd 2 (by omega)
  have d3 := hd 3 (by omega)
  have d4 := hd 4 (by omega)
  have d5 := hd 5 (by omega)
  have HF9 := Lib.hid (fun (w9 : World) (bb : Below w8.heap.size w8 w9) => (show
      (w9.cell? ⟨w1.heap.size, 0, none⟩ = some (.int .i64 f0) ∧ w9.cell? ⟨w1.heap.size, 1, none⟩ = some (.int .i64 f1) ∧ w9.cell? ⟨w1.heap.size, 2, none⟩ = some (.int .i64 f2) ∧ w9.cell? ⟨w1.heap.size, 3, none⟩ = some (.int .i64 f3) ∧ w9.cell? ⟨w1.heap.size, 4, none⟩ = some (.int .i64 f4) ∧ w9.cell? ⟨w1.heap.size, 5, none⟩ = some (.int .i64 f5)) ∧
      (w9.cell? ⟨w4.heap.size, 0, none⟩ = some (.int .i64 (ordF ss 0)) ∧ w9.cell? ⟨w4.heap.size, 1, none⟩ = some (.int .i64 (ordF ss 1)) ∧ w9.cell? ⟨w4.heap.size, 2, none⟩ = some (.int .i64 (ordF ss 2)) ∧ w9.cell? ⟨w4.heap.size, 3, none⟩ = some (.int .i64 (ordF ss 3)) ∧ w9.cell? ⟨w4.heap.size, 4, none⟩ = some (.int .i64 (ordF ss 4)) ∧ w9.cell? ⟨w4.heap.size, 5, none⟩ = some (.int .i64 (ordF ss 5))) ∧
      (∀ i, i < 6 → w9.cell? ⟨w.heap.size, i, none⟩ = some (.int .i64 0) ∧ w9.frozen? ⟨w.heap.size, i, none⟩ = false) from by
    have t : ∀ g i, g < w8.heap.size → w9.cell? ⟨g, i, none⟩ = w8.cell? ⟨g, i, none⟩ ∧ w9.frozen? ⟨g, i, none⟩ = w8.frozen? ⟨g, i, none⟩ := fun g i hg =>
      ⟨World.cell?_of_block (a := ⟨g, i, none⟩) (bb.block g hg), World.frozen?_of_block (a := ⟨g, i, none⟩) (bb.block g hg)⟩
    refine ⟨⟨?_, ?_, ?_, ?_, ?_, ?_⟩, ⟨(t _ 0 hz8).1.trans d0, (t _ 1 hz8).1.trans d1, (t _ 2 hz8).1.trans d2, (t _ 3 hz8).1.trans d3, (t _ 4 hz8).1.trans d4, (t _ 5 hz8).1.trans d5⟩, fun i hi => ⟨(t _ i (by omega)).1.trans (hr8 i hi).1, (t _ i (by omega)).2.trans (hr8 i hi).2⟩⟩
    · exact (t _ 0 (by omega)).1.trans a0
    · exact (t _ 1 (by omega)).1.trans a1
    · exact (t _ 2 (by omega)).1.trans a2
    · exact (t _ 3 (by omega)).1.trans a3
    · exact (t _ 4 (by omega)).1.trans a4
    · exact (t _ 5 (by omega)).1.trans a5))
  have hne1 : ¬ w1.heap.size = w.heap.size := by omega
  have hne2 : ¬ w.heap.size = w1.heap.size := by omega
  have hne3 : ¬ w4.heap.size = w.heap.size := by omega
  have hne4 : ¬ w.heap.size = w4.heap.size := by omega
  have l1 : w1.heap.size < w8.heap.size := by omega
  have l0 : w.heap.size < w8.heap.size := by omega
  clear hd hc8 hG8 gr8 hw8 hsrt k7 hG7 hW7 hB8 hG4 hB4 c0 c1 c2 c3 c4 c5 HSL hsl hz7 s4 s1 hz
  clear hr8
  generalize w1.heap.size = g1 at *
  generalize w4.heap.size = g4 at *
  have he6 : ∀ w' : World, (Op.equalIn 10000 60 (.agg #[.int .i64 (ordF ss 0), .int .i64 (ordF ss 1), .int .i64 (ordF ss 2), .int .i64 (ordF ss 3), .int .i64 (ordF ss 4), .int .i64 (ordF ss 5)]) (.agg #[.int .i64 0, .int .i64 1, .int .i64 2, .int .i64 3, .int .i64 4, .int .i64 5])).run Try.prog w' = .ok (decide (ss = upTo n)) w' := fun w' => by
    rw [eq6]
    congr 1
    rw [decide_eq_decide, HQ2.out]
    constructor
    · rintro ⟨h0, h1, h2, h3, h4, h5⟩ i hi
      rcases below6 hi with rfl | rfl | rfl | rfl | rfl | rfl <;> assumption
    · intro h
      exact ⟨h 0 (by omega), h 1 (by omega), h 2 (by omega), h 3 (by omega), h 4 (by omega), h 5 (by omega)⟩
  have hg6 := guard6
  clear HQ2
  generalize decide (ss = upTo n) = bb6 at *
  generalize ordF ss 0 = t0 at *
  generalize ordF ss 1 = t1 at *
  generalize ordF ss 2 = t2 at *
  generalize ordF ss 3 = t3 at *
  generalize ordF ss 4 = t4 at *
  generalize ordF ss 5 = t5 at *
  go_wp2
  go_region_law (go_simp; go_at_call 39; (with_reducible refine (HS.out _).mono ?_); rintro e w9 ⟨rfl, bb⟩; obtain ⟨⟨e0, e1, e2, e3, e4, e5⟩, ⟨k0, k1, k2, k3, k4, k5⟩, hr9⟩ := HF9.out w9 (drewB bb); have HB9 := Lib.hid (drewB bb); clear bb; obtain ⟨r0, q0⟩ := hr9 0 (by decide); obtain ⟨r1, q1⟩ := hr9 1 (by decide); obtain ⟨r2, q2⟩ := hr9 2 (by decide); obtain ⟨r3, q3⟩ := hr9 3 (by decide); obtain ⟨r4, q4⟩ := hr9 4 (by decide); obtain ⟨r5, q5⟩ := hr9 5 (by decide); clear hr9)
  all_goals
    go_wp2
    refine bodyPost_ret (v := .tuple #[six f0 f1 f2 f3 f4 f5, .bool bb6]) (by simp [six, results, Try.results36, go_sem, e0, e1, e2, e3, e4, e5, r0, r1, r2, r3, r4, r5]) rfl ⟨by rw [← HV.out, HQ.out], ?_⟩
    have hb5 := HB8.out.trans (HB9.out.mono (Nat.le_of_lt l0))
    go_grown
end Go.Proofs.Ytakjkbjooongkaa.Pv
