/- One move of a pebbling: the model's computing, and all moves. -/
import Derived.Test.YtepobkflahjldaaCmvs
namespace Go.Proofs.Ytepobkflahjldaa.Pb
open Go.RowKit Pv
set_option maxHeartbeats 4000000 in
theorem mv_comp_s (g : Nat) (a : Option Addr) (c : Nat) (bs : List (List Int)) (w : World) (hg : g < w.heap.size) (h0 : w.cell? ⟨g, 0, none⟩ = some (.slice a bs.length c)) (h6 : bs.length ≤ 6) (p : Int) (f s : Nat) (hf : f < 64) (hs : s < 64) (i : Nat) (hi : i < bs.length) (hh : RdR w a bs) (hok : okG bs = true) (h1 : f.testBit i = false) (h2 : bs.getD i [] = []) :
    Calls Try.prog 39 #[.pointer (some ⟨g, 0, none⟩), .int .i64 p, .int .i64 (f : Int), .int .i64 (s : Int), .agg #[.int .i64 2, .int .i64 (i : Int)]] w (MoP (nx bs f s 2 i).1 (nx bs f s 2 i).2 (okM bs p f s 2 i) w) := by
  have hi6 : i < 6 := by omega
  have HOK := Lib.hid (show okM bs p f s 2 i = false from comp_no fun h => (src_and hi h6).1 h.1 h2)
  have b0 : Below w.heap.size w (w.alloc (.cells #[.int .i64 2, .int .i64 (i : Int)] 52)) := (Below.refl _ w).alloc (Nat.le_refl _) _
  have BB : Hid (∀ q, Below w.heap.size w ((w.alloc (.cells #[.int .i64 2, .int .i64 (i : Int)] 52)).drewN q)) := fun q => below_drewN q b0
  have z0 : (w.alloc (.cells #[.int .i64 2, .int .i64 (i : Int)] 52)).cell? ⟨g, 0, none⟩ = some (.slice a bs.length c) := (b0.cell (p := ⟨g, 0, none⟩) hg).trans h0
  have HIN := Lib.hid (fun w9 => (show Calls Try.prog 37 #[.int .i64 (i : Int), .int .i64 0, .int .i64 ((bs.length : Int) - 1)] w9 (Bl true w9) from by
    have h := Tr.in_g (i : Int) 0 ((bs.length : Int) - 1) w9
    have e : (decide (0 ≤ (i : Int)) && decide ((i : Int) ≤ (bs.length : Int) - 1)) = true := by rw [decide_eq_true (by omega), decide_eq_true (by omega)]; rfl
    rwa [e] at h))
  have hu := u64_in i (by omega)
  have hsh := shl64 i (by omega)
  have h64 : i < 64 := by omega
  have hiL : (i : Int) < (bs.length : Int) := by omega
  have haf := and64 f (2 ^ i) hf (pow_lt i hi6)
  have has := and64 s (2 ^ i) hs (pow_lt i hi6)
  have htf := and_test f i hf hi6
  have hts := and_test s i hs hi6
  obtain ⟨q, hq⟩ : ∃ q, q = 2 ^ i := ⟨_, rfl⟩
  rw [← hq] at haf has htf hts hsh
  rw [h1] at htf
  generalize s.testBit i = ts at hts
  obtain ⟨b1, off1, A, C, rfl, c0, hrow, hbl, _⟩ := hh i hi
  have z1 : (w.alloc (.cells #[.int .i64 2, .int .i64 (i : Int)] 52)).cell? ⟨b1, off1 + i, none⟩ = some (.slice A (bs.getD i []).length C) := (b0.cell (p := ⟨b1, off1 + i, none⟩) hbl).trans c0
  have zk : (w.alloc (.cells #[.int .i64 2, .int .i64 (i : Int)] 52)).cell? ⟨w.heap.size, 1, none⟩ = some (.int .i64 (i : Int)) := (Blk.newAt w _ [.int .i64 2, .int .i64 (i : Int)] 52 rfl).cell 1
  have zk0 : (w.alloc (.cells #[.int .i64 2, .int .i64 (i : Int)] 52)).cell? ⟨w.heap.size, 0, none⟩ = some (.int .i64 2) := (Blk.newAt w _ [.int .i64 2, .int .i64 (i : Int)] 52 rfl).cell 0
  have hL6 : (bs.getD i []).length ≤ 6 := by have := okRow_len (okG_row hok i hi); omega
  have hL0 : (bs.getD i []).length = 0 := by rw [h2]; rfl
  rw [hL0] at z1
  clear b0 hq hi6 hrow hL6 hL0 h2 c0 hok
  generalize okM bs p f s 2 i = okm at *
  generalize nx bs f s 2 i = nxv at *
  generalize f &&& q = fq at *
  generalize s &&& q = sq at *
  generalize bs.length = N at *
  have hw : IntKind.i64.wrap ((N : Int) - 1) = (N : Int) - 1 := IntWalk.i64_in _ (by omega)
  go_enter Try.func39, Try.ntmps39
  go_wp2
  go_region_law (go_simp; go_at_call 37; (with_reducible refine (HIN.out _).mono ?_); rintro e w9 ⟨rfl, rfl⟩)
  all_goals
    go_wp2
    go_big_quiet (fail)
    go_wp2
    refine bodyPost_ret (v := .tuple #[.int .i64 ((0 : Nat) : Int), .int .i64 ((0 : Nat) : Int), .bool false]) (by simp [results, Try.results39, go_sem]) rfl ⟨0, 0, by rw [HOK.out], (fun h => by rw [HOK.out] at h; cases h), ?_⟩
    first | exact BB.out 1 | exact below_drewN _ (BB.out 1)
set_option maxHeartbeats 4000000 in
theorem mv_comp_f (g : Nat) (a : Option Addr) (c : Nat) (bs : List (List Int)) (w : World) (hg : g < w.heap.size) (h0 : w.cell? ⟨g, 0, none⟩ = some (.slice a bs.length c)) (h6 : bs.length ≤ 6) (p : Int) (f s : Nat) (hf : f < 64) (hs : s < 64) (i : Nat) (hi : i < bs.length) (h1 : f.testBit i = true) :
    Calls Try.prog 39 #[.pointer (some ⟨g, 0, none⟩), .int .i64 p, .int .i64 (f : Int), .int .i64 (s : Int), .agg #[.int .i64 2, .int .i64 (i : Int)]] w (MoP (nx bs f s 2 i).1 (nx bs f s 2 i).2 (okM bs p f s 2 i) w) := by
  have hi6 : i < 6 := by omega
  have HOK := Lib.hid (show okM bs p f s 2 i = false from comp_has hf hi6 h1)
  have b0 : Below w.heap.size w (w.alloc (.cells #[.int .i64 2, .int .i64 (i : Int)] 52)) := (Below.refl _ w).alloc (Nat.le_refl _) _
  have BB : Hid (∀ q, Below w.heap.size w ((w.alloc (.cells #[.int .i64 2, .int .i64 (i : Int)] 52)).drewN q)) := fun q => below_drewN q b0
  have z0 : (w.alloc (.cells #[.int .i64 2, .int .i64 (i : Int)] 52)).cell? ⟨g, 0, none⟩ = some (.slice a bs.length c) := (b0.cell (p := ⟨g, 0, none⟩) hg).trans h0
  have HIN := Lib.hid (fun w9 => (show Calls Try.prog 37 #[.int .i64 (i : Int), .int .i64 0, .int .i64 ((bs.length : Int) - 1)] w9 (Bl true w9) from by
    have h := Tr.in_g (i : Int) 0 ((bs.length : Int) - 1) w9
    have e : (decide (0 ≤ (i : Int)) && decide ((i : Int) ≤ (bs.length : Int) - 1)) = true := by rw [decide_eq_true (by omega), decide_eq_true (by omega)]; rfl
    rwa [e] at h))
  have hu := u64_in i (by omega)
  have hsh := shl64 i (by omega)
  have h64 : i < 64 := by omega
  have hiL : (i : Int) < (bs.length : Int) := by omega
  have haf := and64 f (2 ^ i) hf (pow_lt i hi6)
  have has := and64 s (2 ^ i) hs (pow_lt i hi6)
  have htf := and_test f i hf hi6
  have hts := and_test s i hs hi6
  obtain ⟨q, hq⟩ : ∃ q, q = 2 ^ i := ⟨_, rfl⟩
  rw [← hq] at haf has htf hts hsh
  rw [h1] at htf
  generalize s.testBit i = ts at hts
  clear b0 hq hi6
  generalize okM bs p f s 2 i = okm at *
  generalize nx bs f s 2 i = nxv at *
  generalize f &&& q = fq at *
  generalize s &&& q = sq at *
  generalize bs.length = N at *
  have hw : IntKind.i64.wrap ((N : Int) - 1) = (N : Int) - 1 := IntWalk.i64_in _ (by omega)
  go_enter Try.func39, Try.ntmps39
  go_wp2
  go_region_law (go_simp; go_at_call 37; (with_reducible refine (HIN.out _).mono ?_); rintro e w9 ⟨rfl, rfl⟩)
  all_goals
    go_wp2
    go_big_quiet (fail)
    go_wp2
    refine bodyPost_ret (v := .tuple #[.int .i64 ((0 : Nat) : Int), .int .i64 ((0 : Nat) : Int), .bool false]) (by simp [results, Try.results39, go_sem]) rfl ⟨0, 0, by rw [HOK.out], (fun h => by rw [HOK.out] at h; cases h), ?_⟩
    first | exact BB.out 1 | exact below_drewN _ (BB.out 1)
set_option maxHeartbeats 4000000 in
theorem mv_comp_go (g : Nat) (a : Option Addr) (c : Nat) (bs : List (List Int)) (w : World) (hg : g < w.heap.size) (h0 : w.cell? ⟨g, 0, none⟩ = some (.slice a bs.length c)) (h6 : bs.length ≤ 6) (p : Int) (f s : Nat) (hf : f < 64) (hs : s < 64) (i : Nat) (hi : i < bs.length) (hh : RdR w a bs) (hok : okG bs = true) (h1 : f.testBit i = false) (h2 : bs.getD i [] ≠ []) :
    Calls Try.prog 39 #[.pointer (some ⟨g, 0, none⟩), .int .i64 p, .int .i64 (f : Int), .int .i64 (s : Int), .agg #[.int .i64 2, .int .i64 (i : Int)]] w (MoP (nx bs f s 2 i).1 (nx bs f s 2 i).2 (okM bs p f s 2 i) w) := by
  have hi6 : i < 6 := by omega

  have b0 : Below w.heap.size w (w.alloc (.cells #[.int .i64 2, .int .i64 (i : Int)] 52)) := (Below.refl _ w).alloc (Nat.le_refl _) _
  have BB : Hid (∀ q, Below w.heap.size w ((w.alloc (.cells #[.int .i64 2, .int .i64 (i : Int)] 52)).drewN q)) := fun q => below_drewN q b0
  have z0 : (w.alloc (.cells #[.int .i64 2, .int .i64 (i : Int)] 52)).cell? ⟨g, 0, none⟩ = some (.slice a bs.length c) := (b0.cell (p := ⟨g, 0, none⟩) hg).trans h0
  have HIN := Lib.hid (fun w9 => (show Calls Try.prog 37 #[.int .i64 (i : Int), .int .i64 0, .int .i64 ((bs.length : Int) - 1)] w9 (Bl true w9) from by
    have h := Tr.in_g (i : Int) 0 ((bs.length : Int) - 1) w9
    have e : (decide (0 ≤ (i : Int)) && decide ((i : Int) ≤ (bs.length : Int) - 1)) = true := by rw [decide_eq_true (by omega), decide_eq_true (by omega)]; rfl
    rwa [e] at h))
  have hu := u64_in i (by omega)
  have hsh := shl64 i (by omega)
  have h64 : i < 64 := by omega
  have hiL : (i : Int) < (bs.length : Int) := by omega
  have haf := and64 f (2 ^ i) hf (pow_lt i hi6)
  have has := and64 s (2 ^ i) hs (pow_lt i hi6)
  have htf := and_test f i hf hi6
  have hts := and_test s i hs hi6
  obtain ⟨q, hq⟩ : ∃ q, q = 2 ^ i := ⟨_, rfl⟩
  rw [← hq] at haf has htf hts hsh
  rw [h1] at htf
  generalize s.testBit i = ts at hts
  obtain ⟨b1, off1, A, C, rfl, c0, hrow, hbl, _⟩ := hh i hi
  have z1 : (w.alloc (.cells #[.int .i64 2, .int .i64 (i : Int)] 52)).cell? ⟨b1, off1 + i, none⟩ = some (.slice A (bs.getD i []).length C) := (b0.cell (p := ⟨b1, off1 + i, none⟩) hbl).trans c0
  have zk : (w.alloc (.cells #[.int .i64 2, .int .i64 (i : Int)] 52)).cell? ⟨w.heap.size, 1, none⟩ = some (.int .i64 (i : Int)) := (Blk.newAt w _ [.int .i64 2, .int .i64 (i : Int)] 52 rfl).cell 1
  have zk0 : (w.alloc (.cells #[.int .i64 2, .int .i64 (i : Int)] 52)).cell? ⟨w.heap.size, 0, none⟩ = some (.int .i64 2) := (Blk.newAt w _ [.int .i64 2, .int .i64 (i : Int)] 52 rfl).cell 0
  have hL6 : (bs.getD i []).length ≤ 6 := by have := okRow_len (okG_row hok i hi); omega
  have HNO := Lib.hid (fun k (hk : k < (bs.getD i []).length) (h : f.testBit ((bs.getD i []).getD k 0).toNat = false) => (show okM bs p f s 2 i = false from comp_no fun h3 => by
    have h4 := (needs_iff (bs.getD i []) f).1 h3.2 _ (getD_mem hk)
    rw [h] at h4
    cases h4))
  have HYE := Lib.hid (fun (h : ∀ k, k < (bs.getD i []).length → f.testBit ((bs.getD i []).getD k 0).toNat = true) => (show okM bs p f s 2 i = decide ((cnt (f ||| q) : Int) ≤ p) ∧ nx bs f s 2 i = (f ||| q, s) from by
    have h3 : adn (nd bs i) f = 0 := (needs_iff (bs.getD i []) f).2 fun b hb => by
      obtain ⟨k, hk, rfl⟩ := mem_getD hb
      exact h k hk
    rw [hq]
    exact comp_yes hf hi6 h1 ⟨(src_and hi h6).2 h2, h3⟩))
  have HEL := Lib.hid (fun k (hk : k < (bs.getD i []).length) => (show ∃ m : Nat, (bs.getD i []).getD k 0 = (m : Int) ∧ m < 6 from by
    have h3 := okRow_at (okG_row hok i hi) k hk
    exact ⟨((bs.getD i []).getD k 0).toNat, by omega, by omega⟩))
  have HSZ := Lib.hid (fun m (hm : m < 6) => (show (bits .and .i64 ((f : Int) / (2 ^ m)) 1 == 0) = !f.testBit m from shr_zero ⟨f, hf⟩ ⟨m, hm⟩))
  have HRW := Lib.hid (fun (w' : World) (hb : Below w.heap.size w w') => hrow.below hb)
  have hL0 : ((bs.getD i []).length : Int) ≠ 0 := by
    have : (bs.getD i []).length ≠ 0 := fun h => h2 (List.eq_nil_of_length_eq_zero h)
    omega
  have hor := or64 f q hf (by rw [hq]; exact pow_lt i hi6)
  have hR1 : f ||| q < 64 := or_lt _ _ hf (by rw [hq]; exact pow_lt i hi6)
  have HCN := Lib.hid (fun w9 => count_s _ hR1 w9)
  have hd0 : (((bs.getD i []).length : Int) == 0) = false := by simpa using hL0
  have hW0 : ∃ W0, W0 = w.alloc (.cells #[.int .i64 2, .int .i64 (i : Int)] 52) := ⟨_, rfl⟩
  obtain ⟨W0, hW⟩ := hW0
  rw [← hW] at BB z0 z1 zk zk0
  have HWW := Lib.hid hW
  clear b0 hq hi6 hrow h2 c0 hok hR1 hL0 hW
  generalize f ||| q = R1 at *
  generalize cnt R1 = cv at *
  generalize hLL : (bs.getD i []).length = L at *
  have HLL := Lib.hid hLL
  clear hLL
  generalize okM bs p f s 2 i = okm at *
  generalize nx bs f s 2 i = nxv at *
  generalize f &&& q = fq at *
  generalize s &&& q = sq at *
  generalize bs.length = N at *
  have hw : IntKind.i64.wrap ((N : Int) - 1) = (N : Int) - 1 := IntWalk.i64_in _ (by omega)
  go_enter Try.func39, Try.ntmps39
  go_wp2_with fail
  rw [← HWW.out]
  clear HWW
  go_wp2_with fail
  go_region_law (go_simp; go_at_call 37; (with_reducible refine (HIN.out _).mono ?_); rintro e w9 ⟨rfl, rfl⟩)
  all_goals
    go_wp2
    go_big_quiet (fail)
    go_wp2
    go_loopw [16] (fun i9 wr => ∃ k : Nat, k ≤ L ∧ i9 = .int .i64 (k : Nat) ∧ Hid (∃ n, wr = W0.drewN n) ∧ Hid (∀ k', k' < k → f.testBit ((bs.getD i []).getD k' 0).toNat = true)) (fun i9 _ => L - (intOf i9).toNat)
    case atStart => exact ⟨0, Nat.zero_le _, rfl, Lib.hid ⟨1 + nq, by rw [← World.drewN_drewN]; rfl⟩, Lib.hid fun k' h => by omega⟩
    case round =>
      obtain ⟨k, hk, rfl, hwr, hall⟩ := hrel
      obtain ⟨n, hwr⟩ := hwr.out
      have y0 : wr.cell? ⟨g, 0, none⟩ = some (.slice (some ⟨b1, off1, none⟩) N c) := by rw [hwr]; exact z0
      have y1 : wr.cell? ⟨b1, off1 + i, none⟩ = some (.slice A L C) := by rw [hwr]; exact z1
      have yk : wr.cell? ⟨w.heap.size, 1, none⟩ = some (.int .i64 (i : Int)) := by rw [hwr]; exact zk
      have BW : Hid (∀ m, Below w.heap.size w (wr.drewN m)) := fun m => by rw [hwr]; exact below_drewN _ (BB.out n)
      have HQ := Lib.hid (fun m => (show ∃ n, wr.drewN m = W0.drewN n from ⟨n + m, by rw [hwr, World.drewN_drewN]⟩))
      clear hwr
      by_cases hlt : k < L
      · obtain ⟨b2, off2, rfl, y2, _⟩ := HRW.out wr (BW.out 0) k (by rw [HLL.out]; exact hlt)
        obtain ⟨m, hm, hm6⟩ := HEL.out k hlt
        have hno := HNO.out k hlt
        rw [hm] at y2 hno
        have hsz := HSZ.out m hm6
        have hum := u64_in m (by omega)
        have hm64 : m < 64 := by omega
        have hstep := Lib.hid (fun (h : f.testBit m = true) => (show ∀ k', k' < k + 1 → f.testBit ((bs.getD i []).getD k' 0).toNat = true from fun k' h' => by
          by_cases e : k' = k
          · subst e; rw [hm]; exact h
          · exact hall.out k' (by omega)))
        have hlt' : (k : Int) < (L : Int) := by omega
        clear hm HEL HNO HSZ
        cases ht : f.testBit m
        · have HOK := Lib.hid (hno ht)
          rw [ht] at hsz
          have hsz' : (bits .and .i64 ((f : Int) / (2 ^ m)) 1 == 0) = true := hsz
          clear hno hstep ht HYE hsz
          go_wp2
          go_big_quiet (fail)
          go_wp2
          go_big_quiet (fail)
          go_wp2
          refine bodyPost_ret (v := .tuple #[.int .i64 ((0 : Nat) : Int), .int .i64 ((0 : Nat) : Int), .bool false]) (by simp [results, Try.results39, go_sem]) rfl ⟨0, 0, by rw [HOK.out], (fun h => by rw [HOK.out] at h; cases h), ?_⟩
          first | exact BW.out _ | exact below_drewN _ (BW.out _)
        · rw [ht] at hsz
          have hsz' : (bits .and .i64 ((f : Int) / (2 ^ m)) 1 == 0) = false := hsz
          have hst := Lib.hid (hstep.out ht)
          clear hno hstep ht hsz
          go_wp2
          go_big_quiet (fail)
          go_wp2
          go_big_quiet (fail)
          go_wp2
          go_roundw
          case rel => exact ⟨k + 1, by omega, by go_num, by first | exact Lib.hid (HQ.out _) | (rw [World.drewN_drewN]; exact Lib.hid (HQ.out _)), hst⟩
          case measure => simp [intOf]; omega
      · have e : k = L := by omega
        subst e
        have hY := HYE.out hall.out
        have HOK := Lib.hid hY.1
        have HNX := Lib.hid hY.2
        have hlt' : ¬ (k : Int) < (k : Int) := by omega
        clear hY HYE HNO HEL HSZ HRW
        generalize hok : decide ((cv : Int) ≤ p) = okv at *
        generalize hR2 : s = R2 at *
        go_wp2
        go_big_quiet (fail)
        go_wp2_with (go_at_call 50; (with_reducible refine (HCN.out _).mono ?_); rintro e w9 ⟨rfl, rfl⟩)
        refine bodyPost_ret (v := .tuple #[.int .i64 ((R1 : Nat) : Int), .int .i64 ((R2 : Nat) : Int), .bool okv]) (by simp [results, Try.results39, go_sem]) rfl ⟨R1, R2, by rw [HOK.out], (fun _ => by rw [HNX.out]; exact ⟨rfl, rfl⟩), ?_⟩
        first | exact BW.out _ | exact below_drewN _ (BW.out _)
end Go.Proofs.Ytepobkflahjldaa.Pb
