/- The program's sets as bits: math/bits.TrailingZeros64, addressBits.list, rowArray.sets, kernel. -/
import Derived.Test.YtgfablkdfablfaaDoorCixr
import Derived.Test.YtgfablkdfablfaaDoorPlainIx4
import Derived.Test.YtgfablkdfablfaaDoorCappg
import Derived.Deep.RegionLaw
import Derived.Lib.LaidTab
namespace Go.Proofs.YtgfablkdfablfaaDoor.Ix
open Go.RowKit Tr Bt
theorem gDb : Tryd.prog.globalNamed "math/bits.deBruijn64tab" = some 0 := by kernel_rfl
/-- The table of the library stands. -/
def Tz (w : World) : Prop := Lib.TabIs Tryd.prog w "math/bits.deBruijn64tab" .u8 (Lib.deBruijn64tab.map (fun n : Nat => (n : Int)))
theorem Tz.cell {w : World} (h : Tz w) (i : Nat) (hi : i < 64) : w.cell? ⟨0, i, none⟩ = some (.int .u8 ((Lib.deBruijn64tab.getD i 0 : Nat) : Int)) := by
  have hc := Lib.TabIs.cell h gDb i (by simpa [Lib.deBruijn64tab] using hi)
  rw [hc]
  congr 2
  rw [List.getD_eq_getElem?_getD, List.getD_eq_getElem?_getD, List.getElem?_map]
  cases Lib.deBruijn64tab[i]? <;> rfl
theorem Tz.lt {w : World} (h : Tz w) : 0 < w.heap.size := World.block_lt_of_cell? w _ (h.cell 0 (by omega))
theorem Tz.below {w w' : World} (h : Tz w) (hb : Below w.heap.size w w') : Tz w' := by
  have e : w'.var? Tryd.prog "math/bits.deBruijn64tab" = w.var? Tryd.prog "math/bits.deBruijn64tab" := by
    simp only [World.var?, gDb, Option.bind_some, hb.block _ h.lt]
  unfold Tz Lib.TabIs at h ⊢
  rw [e, h]
theorem u64_wrap (n : Int) : IntKind.u64.wrap n = n % 18446744073709551616 := IntKind.wrap_u64 n
theorem tz_key (x a : Nat) (hx : x < 18446744073709551616) (h0 : x ≠ 0) (hlow : x &&& (18446744073709551616 - x) = a) :
    IntKind.u64.wrap (bits BinOp.and IntKind.u64 (x : Int) (IntKind.u64.wrap (-(x : Int))) * 285870213051353865) / 288230376151711744 = ((a * 285870213051353865 % 18446744073709551616 / 288230376151711744 : Nat) : Int) := by
  have e1 : IntKind.u64.wrap (-(x : Int)) = ((18446744073709551616 - x : Nat) : Int) := by rw [u64_wrap]; omega
  rw [e1, u64_and_nat x _ hx (by omega), hlow, u64_wrap]
  omega
theorem tz_core (x k idx : Nat) (w : World) (hx0 : ((x : Int) == 0) = false)
    (key : IntKind.u64.wrap (bits BinOp.and IntKind.u64 (x : Int) (IntKind.u64.wrap (-(x : Int))) * 285870213051353865) / 288230376151711744 = (idx : Int))
    (hi : idx < 64) (hk : k < 64) (hcell : w.cell? ⟨0, idx, none⟩ = some (.int .u8 (k : Int))) :
    Calls Tryd.prog 29 #[.int .u64 x] w fun e w' => e = .returned (.int .i64 (k : Int)) ∧ w = w' := by
  go_enter Tryd.func29, Tryd.ntmps29
  go_wp2_with (simp only [key])
  go_ret
  exact ⟨rfl, rfl⟩
theorem tz_i (x : Nat) (h0 : x ≠ 0) (hx : x < 18446744073709551616) (w : World) (hT : Tz w) :
    Calls Tryd.prog 29 #[.int .u64 x] w fun e w' => e = .returned (.int .i64 ((Lib.ctz 64 x : Nat) : Int)) ∧ w = w' := by
  obtain ⟨hlow, hk⟩ := Lib.lowest_bit 64 x h0 hx
  obtain ⟨hi, htab⟩ := Lib.deBruijn64_at _ hk
  have hcell := hT.cell _ hi
  rw [htab] at hcell
  exact tz_core x _ _ w (by simp; omega) (tz_key x _ hx h0 hlow) hi hk hcell
set_option maxHeartbeats 1000000 in
/-- addressBits.list: the bits of a number, in order. -/
theorem bits_list (s : Nat) (hs : s < 18446744073709551616) (w : World) (hT : Tz w) :
    Calls Tryd.prog 22 #[.int .u64 s] w (Lb (castL (bitsOf s)) w) := by
  have HT := Lib.hid (fun (x : Nat) (h0 : x ≠ 0) (hx : x < 18446744073709551616) (w9 : World) (hb : Below w.heap.size w w9) => tz_i x h0 hx w9 (hT.below hb))
  have HST := Lib.hid (fun (x : Nat) (h0 : x ≠ 0) (hx : x < 18446744073709551616) => bitsOf_step x h0 hx)
  have HL := Lib.hid (fun x => (show (castL (bitsOf x)).length ≤ 64 from by rw [castL_len]; exact bitsOf_len x))
  have H0 := Lib.hid (show castL (bitsOf 0) = [] from by rw [bitsOf_zero]; rfl)
  have HAND := Lib.hid (fun (x : Nat) (h0 : x ≠ 0) (hx : x < 18446744073709551616) => (show bits .and .u64 (x : Int) ((x : Int) - 1) = ((x &&& (x - 1) : Nat) : Int) ∧ x &&& (x - 1) < x from by
    refine ⟨?_, ?_⟩
    · rw [show ((x : Int) - 1) = ((x - 1 : Nat) : Int) by omega]
      exact u64_and_nat _ _ hx (by omega)
    · have := Nat.and_le_right (n := x) (m := x - 1); omega))
  clear hT
  have HLY := Lib.hid (HL.out s)
  have HS := Lib.hid (show ([] : List Int) ++ castL (bitsOf s) = castL (bitsOf s) from rfl)
  generalize hY : castL (bitsOf s) = ys at HLY ⊢
  have HY := Lib.hid hY
  clear hY
  go_enter Tryd.func22, Tryd.ntmps22
  go_wp2
  go_loopw [0, 3] (fun sv v wr => ∃ (x : Nat) (out : List Int), x < 18446744073709551616 ∧ sv = .int .u64 x ∧ Own wr w.heap.size v out ∧ Hid (out ++ castL (bitsOf x) = ys) ∧ Below w.heap.size w wr) (fun sv _ _ => (intOf sv).toNat)
  case atStart => exact ⟨s, [], hs, rfl, Own.nil _ _, Lib.hid (by rw [List.nil_append, HY.out]), Below.refl _ _⟩
  case round =>
    obtain ⟨x, out, hx, rfl, hown, hout, hb⟩ := hrel
    have hlen : out.length ≤ 64 := by
      have h1 := HLY.out
      rw [← hout.out, List.length_append] at h1
      omega
    by_cases hx0 : x = 0
    · subst hx0
      have hfin : out = ys := by have h := hout.out; rw [H0.out, List.append_nil] at h; exact h
      subst hfin
      have e0 : ((0 : Nat) : Int) = 0 := rfl
      rw [e0]
      clear e0
      go_wp2
      go_ret
      exact ⟨_, rfl, hown, hb⟩
    · have htz := Lib.hid (HT.out x hx0 hx wr hb)
      have hst := HST.out x hx0 hx
      obtain ⟨hand, hdec⟩ := HAND.out x hx0 hx
      have hne : ((x : Int) != 0) = true := by simp; omega
      have hw1 : IntKind.u64.wrap ((x : Int) - 1) = (x : Int) - 1 := by rw [u64_wrap]; omega
      rw [hst] at hout
      have hq1 : out.length + 1 ≤ 1000000000 := by omega
      have hsz := hb.size
      have HB := Lib.hid hb
      have HOUT := Lib.hid hout.out
      clear hst hout hb hx0
      generalize x &&& (x - 1) = y at *
      generalize Lib.ctz 64 x = c at *
      go_wp2_with (first | (go_at_call 29; refine htz.out.mono ?_; rintro e w' ⟨rfl, rfl⟩) | (at_builtin; refine wpList_app _ rfl _ _ rfl w.heap.size _ out _ ?_ ?_ hown hq1 hsz ?_; rfl; rfl))
      intro v' w' ho' hb'
      go_wp2
      go_roundw
      case rel => exact ⟨y, out ++ [(c : Int)], by omega, rfl, ho', Lib.hid (by rw [List.append_assoc]; exact HOUT.out), HB.out.trans hb'⟩
      case measure => simp [intOf]; omega
/-! ### The sets -/
def setVals (r : Nat → Nat) (j : Nat) : List Value := (List.range 8).map (fun k => Value.int .u64 ((setK r j k : Nat) : Int))
theorem setVals_at (r : Nat → Nat) (j k : Nat) (hk : k < 8) : (setVals r j)[k]? = some (.int .u64 ((setK r j k : Nat) : Int)) := by
  unfold setVals
  rw [List.getElem?_map, List.getElem?_range hk]; rfl
theorem setVals_zero (r : Nat → Nat) : setVals r 0 = [.int .u64 0, .int .u64 0, .int .u64 0, .int .u64 0, .int .u64 0, .int .u64 0, .int .u64 0, .int .u64 0] := rfl
theorem setVals_set (r : Nat → Nat) (j : Nat) : (setVals r j).set (setF r j 3) (.int .u64 ((setK r j (setF r j 3) ||| 2 ^ j : Nat) : Int)) = setVals r (j + 1) := by
  refine List.ext_getElem (by simp [setVals]) fun k h1 h2 => ?_
  rw [List.getElem_set]
  have e : ∀ i (h : k < (setVals r i).length), (setVals r i)[k] = .int .u64 ((setK r i k : Nat) : Int) := fun i h => by simp only [setVals, List.getElem_map, List.getElem_range]
  by_cases h : setF r j 3 = k
  · rw [if_pos h, e]
    subst h
    rw [setK_hit]
  · rw [if_neg h, e, e, setK_miss r j k (fun e => h e.symm)]
def aggS (r : Nat → Nat) : Value := .agg (setVals r 64).toArray
theorem i64_orU (a b : Nat) (ha : a < 18446744073709551616) (hb : b < 18446744073709551616) : bits .or .u64 (a : Int) (b : Int) = ((a ||| b : Nat) : Int) := by
  have hx : a ||| b < 2 ^ 64 := Nat.or_lt_two_pow (by omega) (by omega)
  show IntKind.u64.wrap ((BitVec.ofInt 64 (a : Int) ||| BitVec.ofInt 64 (b : Int)).toNat : Int) = _
  rw [BitVec.toNat_or, ofInt_u64 a ha, ofInt_u64 b hb, u64_wrap]
  omega
theorem shlU (j : Nat) (hj : j < 64) : IntKind.u64.wrap ((2 : Int) ^ j) = ((2 ^ j : Nat) : Int) ∧ 2 ^ j < 18446744073709551616 := by
  have h : 2 ^ j < 18446744073709551616 := by have : 2 ^ j < 2 ^ 64 := Nat.pow_lt_pow_right (by omega) hj; simpa using this
  refine ⟨?_, h⟩
  rw [show ((2 : Int) ^ j) = ((2 ^ j : Nat) : Int) by simp, u64_wrap]
  generalize 2 ^ j = p at *
  omega
set_option maxHeartbeats 2000000 in
theorem sets_i (r : Nat → Nat) (w : World) (hr : ∀ i, i < 3 → r i < 64) :
    Calls Tryd.prog 25 #[aggR r] w (fun e w' => e = .returned (aggS r) ∧ Below w.heap.size w w') := by
  have hz2 : (w.alloc (.cells [.int .i64 ((r 0 : Nat) : Int), .int .i64 ((r 1 : Nat) : Int), .int .i64 ((r 2 : Nat) : Int)].toArray 42)).heap.size = w.heap.size + 1 := Array.size_push _
  have hz3 : ((w.alloc (.cells [.int .i64 ((r 0 : Nat) : Int), .int .i64 ((r 1 : Nat) : Int), .int .i64 ((r 2 : Nat) : Int)].toArray 42)).alloc (.cells (setVals r 0).toArray 50)).heap.size = w.heap.size + 1 + 1 := (Array.size_push _).trans (by rw [hz2])
  have x0 := ((Kb.new w w.heap.size [.int .i64 ((r 0 : Nat) : Int), .int .i64 ((r 1 : Nat) : Int), .int .i64 ((r 2 : Nat) : Int)] 42 rfl).alloc (.cells (setVals r 0).toArray 50)).alloc (.cells (setVals r 0).toArray 50)
  have x1 := (Kb.new (w.alloc (.cells [.int .i64 ((r 0 : Nat) : Int), .int .i64 ((r 1 : Nat) : Int), .int .i64 ((r 2 : Nat) : Int)].toArray 42)) (w.heap.size + 1) (setVals r 0) 50 hz2.symm).alloc (.cells (setVals r 0).toArray 50)
  have x2 := Kb.new ((w.alloc (.cells [.int .i64 ((r 0 : Nat) : Int), .int .i64 ((r 1 : Nat) : Int), .int .i64 ((r 2 : Nat) : Int)].toArray 42)).alloc (.cells (setVals r 0).toArray 50)) (w.heap.size + 1 + 1) (setVals r 0) 50 hz3.symm
  have b0 : Below w.heap.size w (((w.alloc (.cells [.int .i64 ((r 0 : Nat) : Int), .int .i64 ((r 1 : Nat) : Int), .int .i64 ((r 2 : Nat) : Int)].toArray 42)).alloc (.cells (setVals r 0).toArray 50)).alloc (.cells (setVals r 0).toArray 50)) := (((Below.refl _ w).alloc (Nat.le_refl _) _).alloc (by omega) _).alloc (by omega) _
  have HX := Lib.hid (And.intro x0 (And.intro x1 (And.intro x2 b0)))
  clear x0 x1 x2 b0 hz2 hz3
  have HSO := Lib.hid (fun j (hj : j < 64) w9 => setof_i r j w9 hr hj)
  have HAT := Lib.hid (fun j k hk => setVals_at r j k hk)
  have HSET := Lib.hid (fun j => setVals_set r j)
  have HK8 := Lib.hid (fun j => setF_lt8 r j)
  have HKL := Lib.hid (fun j k hj => setK_lt r j k hj)
  clear hr
  have HAG := Lib.hid (show aggS r = .agg (setVals r 64).toArray from rfl)
  rw [HAG.out]
  unfold aggR at *
  go_enter Tryd.func25, Tryd.ntmps25
  go_wp2
  go_loopw [5] (fun i wr => ∃ j : Nat, j ≤ 64 ∧ i = .int .i64 j ∧ Hid (Kb wr w.heap.size [.int .i64 ((r 0 : Nat) : Int), .int .i64 ((r 1 : Nat) : Int), .int .i64 ((r 2 : Nat) : Int)] 42 ∧ Kb wr (w.heap.size + 1) (setVals r 0) 50 ∧ Kb wr (w.heap.size + 1 + 1) (setVals r j) 50 ∧ Below w.heap.size w wr)) (fun i _ => 64 - (intOf i).toNat)
  case atStart => exact ⟨0, by omega, rfl, Lib.hid HX.out⟩
  case round =>
    obtain ⟨j, hj, rfl, hX⟩ := hrel
    by_cases hlt : j < 64
    · have HS := Lib.hid (HSO.out j hlt)
      have hk8 := HK8.out j
      have hset := HSET.out j
      have hat := HAT.out j (setF r j 3) hk8
      have hkl := HKL.out j (setF r j 3) hj
      obtain ⟨hsh, hsl⟩ := shlU j hlt
      have hor := i64_orU (setK r j (setF r j 3)) (2 ^ j) hkl hsl
      generalize setF r j 3 = k at *
      generalize setK r j k ||| 2 ^ j = s' at *
      generalize setK r j k = s at *
      generalize 2 ^ j = p at *
      have g0 : wr.cell? ⟨w.heap.size, 0, none⟩ = some (.int .i64 ((r 0 : Nat) : Int)) := hX.out.1.cell 0
      have g1 : wr.cell? ⟨w.heap.size, 1, none⟩ = some (.int .i64 ((r 1 : Nat) : Int)) := hX.out.1.cell 1
      have g2 : wr.cell? ⟨w.heap.size, 2, none⟩ = some (.int .i64 ((r 2 : Nat) : Int)) := hX.out.1.cell 2
      have hk8' : (k : Int) < 8 := by omega
      have HC9 := Lib.hid (fun (w9 : World) (bb : Below wr.heap.size wr w9) => (show w9.cell? ⟨w.heap.size + 1 + 1, k, none⟩ = some (.int .u64 (s : Int)) ∧ w9.frozen? ⟨w.heap.size + 1 + 1, k, none⟩ = false ∧
          Hid (Kb (w9.setCell ⟨w.heap.size + 1 + 1, k, none⟩ (.int .u64 (s' : Int))) w.heap.size [.int .i64 ((r 0 : Nat) : Int), .int .i64 ((r 1 : Nat) : Int), .int .i64 ((r 2 : Nat) : Int)] 42 ∧ Kb (w9.setCell ⟨w.heap.size + 1 + 1, k, none⟩ (.int .u64 (s' : Int))) (w.heap.size + 1) (setVals r 0) 50 ∧ Kb (w9.setCell ⟨w.heap.size + 1 + 1, k, none⟩ (.int .u64 (s' : Int))) (w.heap.size + 1 + 1) (setVals r (j + 1)) 50 ∧ Below w.heap.size w (w9.setCell ⟨w.heap.size + 1 + 1, k, none⟩ (.int .u64 (s' : Int)))) from by
        have h2 := hX.out.2.2.1.below bb hX.out.2.2.1.lt
        have h3 := h2.set k (.int .u64 (s' : Int))
        rw [hset] at h3
        exact ⟨(h2.cell k).trans hat, h2.froz k, Lib.hid ⟨(hX.out.1.below bb hX.out.1.lt).off k _ (by omega), (hX.out.2.1.below bb hX.out.2.1.lt).off k _ (by omega), h3, (bt hX.out.2.2.2 bb).setCell (p := ⟨w.heap.size + 1 + 1, k, none⟩) (by show w.heap.size ≤ w.heap.size + 1 + 1; omega) _⟩⟩))
      clear hat hset hkl hX
      go_wp2
      go_region_law (go_simp; go_at_call 26; (with_reducible refine (HS.out _).mono ?_); rintro e w9 ⟨rfl, bb⟩; obtain ⟨c9, f9, K9⟩ := HC9.out w9 ((Below.refl _ wr).drew.trans bb); clear bb)
      all_goals
        go_wp2
        refine ⟨⟨j + 1, by omega, by go_num, K9⟩, by simp [intOf]; omega⟩
    · obtain rfl : j = 64 := by omega
      obtain ⟨_, h1, h2, h3⟩ := hX.out
      have c0 : wr.cell? ⟨w.heap.size + 1 + 1, 0, none⟩ = some (.int .u64 ((setK r 64 0 : Nat) : Int)) := h2.cell 0
      have c1 : wr.cell? ⟨w.heap.size + 1 + 1, 1, none⟩ = some (.int .u64 ((setK r 64 1 : Nat) : Int)) := h2.cell 1
      have c2 : wr.cell? ⟨w.heap.size + 1 + 1, 2, none⟩ = some (.int .u64 ((setK r 64 2 : Nat) : Int)) := h2.cell 2
      have c3 : wr.cell? ⟨w.heap.size + 1 + 1, 3, none⟩ = some (.int .u64 ((setK r 64 3 : Nat) : Int)) := h2.cell 3
      have c4 : wr.cell? ⟨w.heap.size + 1 + 1, 4, none⟩ = some (.int .u64 ((setK r 64 4 : Nat) : Int)) := h2.cell 4
      have c5 : wr.cell? ⟨w.heap.size + 1 + 1, 5, none⟩ = some (.int .u64 ((setK r 64 5 : Nat) : Int)) := h2.cell 5
      have c6 : wr.cell? ⟨w.heap.size + 1 + 1, 6, none⟩ = some (.int .u64 ((setK r 64 6 : Nat) : Int)) := h2.cell 6
      have c7 : wr.cell? ⟨w.heap.size + 1 + 1, 7, none⟩ = some (.int .u64 ((setK r 64 7 : Nat) : Int)) := h2.cell 7
      have t0 : wr.cell? ⟨w.heap.size + 1, 0, none⟩ = some (.int .u64 0) := h1.cell 0
      have t1 : wr.cell? ⟨w.heap.size + 1, 1, none⟩ = some (.int .u64 0) := h1.cell 1
      have t2 : wr.cell? ⟨w.heap.size + 1, 2, none⟩ = some (.int .u64 0) := h1.cell 2
      have t3 : wr.cell? ⟨w.heap.size + 1, 3, none⟩ = some (.int .u64 0) := h1.cell 3
      have t4 : wr.cell? ⟨w.heap.size + 1, 4, none⟩ = some (.int .u64 0) := h1.cell 4
      have t5 : wr.cell? ⟨w.heap.size + 1, 5, none⟩ = some (.int .u64 0) := h1.cell 5
      have t6 : wr.cell? ⟨w.heap.size + 1, 6, none⟩ = some (.int .u64 0) := h1.cell 6
      have t7 : wr.cell? ⟨w.heap.size + 1, 7, none⟩ = some (.int .u64 0) := h1.cell 7
      have f0 := h1.froz 0
      have f1 := h1.froz 1
      have f2 := h1.froz 2
      have f3 := h1.froz 3
      have f4 := h1.froz 4
      have f5 := h1.froz 5
      have f6 := h1.froz 6
      have f7 := h1.froz 7
      have HB := Lib.hid h3
      have hv : (Value.agg (setVals r 64).toArray) = .agg #[.int .u64 ((setK r 64 0 : Nat) : Int), .int .u64 ((setK r 64 1 : Nat) : Int), .int .u64 ((setK r 64 2 : Nat) : Int), .int .u64 ((setK r 64 3 : Nat) : Int), .int .u64 ((setK r 64 4 : Nat) : Int), .int .u64 ((setK r 64 5 : Nat) : Int), .int .u64 ((setK r 64 6 : Nat) : Int), .int .u64 ((setK r 64 7 : Nat) : Int)] := rfl
      have HV := Lib.hid hv
      clear h1 h2 h3 hX HX HAT HSET HKL HAG hv
      generalize setK r 64 0 = s0 at *
      generalize setK r 64 1 = s1 at *
      generalize setK r 64 2 = s2 at *
      generalize setK r 64 3 = s3 at *
      generalize setK r 64 4 = s4 at *
      generalize setK r 64 5 = s5 at *
      generalize setK r 64 6 = s6 at *
      generalize setK r 64 7 = s7 at *
      go_wp2
      refine bodyPost_ret (v := .agg #[.int .u64 (s0 : Int), .int .u64 (s1 : Int), .int .u64 (s2 : Int), .int .u64 (s3 : Int), .int .u64 (s4 : Int), .int .u64 (s5 : Int), .int .u64 (s6 : Int), .int .u64 (s7 : Int)]) (by simp [results, Tryd.results25, go_sem, t0, f0, t1, f1, t2, f2, t3, f3, t4, f4, t5, f5, t6, f6, t7, f7]) rfl ⟨by rw [HV.out], ?_⟩
      repeat (first | with_reducible exact HB.out | with_reducible refine Below.setCell ?_ (Nat.le_succ _) _)
theorem index8 (r : Nat → Nat) (j : Nat) (hj : j < 8) (w : World) : (Instr.index 50 (aggS r) (.int .i64 (j : Int))).run Tryd.prog w = .ok (.int .u64 ((setK r 64 j : Nat) : Int)) w := by
  unfold aggS setVals
  simp only [List.range, List.range.loop, List.map_cons, List.map_nil]
  generalize setK r 64 = s
  obtain rfl | rfl | rfl | rfl | rfl | rfl | rfl | rfl : j = 0 ∨ j = 1 ∨ j = 2 ∨ j = 3 ∨ j = 4 ∨ j = 5 ∨ j = 6 ∨ j = 7 := by omega
  all_goals kernel_rfl
theorem kernel_i (r : Nat → Nat) (w : World) (hr : ∀ i, i < 3 → r i < 64) :
    Calls Tryd.prog 21 #[aggR r] w (fun e w' => e = .returned (.int .u64 ((setK r 64 0 : Nat) : Int)) ∧ Below w.heap.size w w') := by
  have HSE := Lib.hid (fun w9 => sets_i r w9 hr)
  have H8 := Lib.hid (fun w9 => index8 r 0 (by omega) w9)
  have b0 : Below w.heap.size w (w.alloc (.cells #[.int .i64 ((r 0 : Nat) : Int), .int .i64 ((r 1 : Nat) : Int), .int .i64 ((r 2 : Nat) : Int)] 42)) := (Below.refl _ w).alloc (Nat.le_refl _) _
  have B0 := Lib.hid b0
  clear b0 hr
  generalize aggS r = S at *
  generalize setK r 64 0 = k at *
  unfold aggR at *
  have h8 : ∀ w9, (Instr.index 50 S (.int .i64 0)).run Tryd.prog w9 = .ok (.int .u64 (k : Int)) w9 := H8.out
  go_enter Tryd.func21, Tryd.ntmps21
  go_wp2_with (go_at_call 25; refine (HSE.out _).mono ?_; rintro e w1 ⟨rfl, b1⟩)
  go_ret
  exact ⟨rfl, bt B0.out b1⟩
end Go.Proofs.YtgfablkdfablfaaDoor.Ix
