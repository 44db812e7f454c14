/- One move of a pebbling: the model. -/
import Derived.Test.YtepobkflahjldaaPlainMov
import Derived.Test.YtepobkflahjldaaCgms
import Derived.Test.YtepobkflahjldaaCgam
import Derived.Deep.QuietTactic
import Derived.BigQuiet
namespace Go.Proofs.Ytepobkflahjldaa.Pb
open Go.RowKit Pv
theorem shr_zero : ∀ a : Fin 64, ∀ k : Fin 6, (bits .and .i64 ((a.val : Int) / (2 ^ k.val)) 1 == 0) = !a.val.testBit k.val := by decide +kernel
theorem and_test (a k : Nat) (ha : a < 64) (hk : k < 6) : (((a &&& 2 ^ k : Nat) : Int) != 0) = a.testBit k := by
  have h : (a &&& 2 ^ k != 0) = a.testBit k := bit_test ⟨a, ha⟩ ⟨k, hk⟩
  rw [← h]
  by_cases e : a &&& 2 ^ k = 0
  · rw [e]; rfl
  · rw [(bne_iff_ne).2 e]; simp; exact e
/-- What the model's move leaves. -/
def MoP (F S : Nat) (ok : Bool) (w : World) (e : Ending) (w' : World) : Prop := ∃ a b : Nat, e = .returned (.tuple #[.int .i64 (a : Int), .int .i64 (b : Int), .bool ok]) ∧ (ok = true → a = F ∧ b = S) ∧ Below w.heap.size w w'
theorem getD_mem {xs : List Int} {k : Nat} (h : k < xs.length) : xs.getD k 0 ∈ xs := by
  rw [List.getD_eq_getElem?_getD, List.getElem?_eq_getElem h]
  exact List.getElem_mem h
theorem mem_getD {xs : List Int} {b : Int} (h : b ∈ xs) : ∃ k, k < xs.length ∧ xs.getD k 0 = b := by
  obtain ⟨k, hk, rfl⟩ := List.getElem_of_mem h
  exact ⟨k, hk, by rw [List.getD_eq_getElem?_getD, List.getElem?_eq_getElem hk]; rfl⟩

set_option maxHeartbeats 2000000 in
theorem move_out (g : Nat) (a : Option Addr) (c : Nat) (bs : List (List Int)) (w : World) (hg : g < w.heap.size) (h0 : w.cell? ⟨g, 0, none⟩ = some (.slice a bs.length c)) (h6 : bs.length ≤ 6) (p : Int) (f s : Nat) (hf : f < 64) (hs : s < 64) (k x : Int) (hx : isN bs x = false) :
    Calls Try.prog 39 #[.pointer (some ⟨g, 0, none⟩), .int .i64 p, .int .i64 (f : Int), .int .i64 (s : Int), .agg #[.int .i64 k, .int .i64 x]] w (MoP 0 0 false w) := by
  have b0 : Below w.heap.size w (w.alloc (.cells #[.int .i64 k, .int .i64 x] 52)) := (Below.refl _ w).alloc (Nat.le_refl _) _
  have BB : Hid (∀ q, Below w.heap.size w ((w.alloc (.cells #[.int .i64 k, .int .i64 x] 52)).drewN q)) := fun q => below_drewN q b0
  have z0 : (w.alloc (.cells #[.int .i64 k, .int .i64 x] 52)).cell? ⟨g, 0, none⟩ = some (.slice a bs.length c) := (b0.cell (p := ⟨g, 0, none⟩) hg).trans h0
  have HIN := Lib.hid (fun w9 => (show Calls Try.prog 37 #[.int .i64 x, .int .i64 0, .int .i64 ((bs.length : Int) - 1)] w9 (Bl false w9) from by
    have h := Tr.in_g x 0 ((bs.length : Int) - 1) w9
    have e : (decide (0 ≤ x) && decide (x ≤ (bs.length : Int) - 1)) = false := by
      rw [← hx]; unfold isN
      congr 1
      exact decide_eq_decide.2 (by omega)
    rwa [e] at h))
  clear b0 hx
  generalize bs.length = N at *
  have hw : IntKind.i64.wrap ((N : Int) - 1) = (N : Int) - 1 := IntWalk.i64_in _ (by omega)
  go_enter Try.func39, Try.ntmps39
  go_wp2
  go_region_law (go_simp; go_at_call 37; (with_reducible refine (HIN.out _).mono ?_); rintro e w9 ⟨rfl, rfl⟩)
  all_goals
    go_wp2
    refine bodyPost_ret (v := .tuple #[.int .i64 ((0 : Nat) : Int), .int .i64 ((0 : Nat) : Int), .bool false]) (by simp [results, Try.results39, go_sem]) rfl ⟨0, 0, rfl, (fun h => by cases h), ?_⟩
    exact BB.out 1

set_option maxHeartbeats 4000000 in
theorem mv_load_f (g : Nat) (a : Option Addr) (c : Nat) (bs : List (List Int)) (w : World) (hg : g < w.heap.size) (h0 : w.cell? ⟨g, 0, none⟩ = some (.slice a bs.length c)) (h6 : bs.length ≤ 6) (p : Int) (f s : Nat) (hf : f < 64) (hs : s < 64) (i : Nat) (hi : i < bs.length) (h1 : f.testBit i = true) :
    Calls Try.prog 39 #[.pointer (some ⟨g, 0, none⟩), .int .i64 p, .int .i64 (f : Int), .int .i64 (s : Int), .agg #[.int .i64 0, .int .i64 (i : Int)]] w (MoP (nx bs f s 0 i).1 (nx bs f s 0 i).2 (okM bs p f s 0 i) w) := by
  have hi6 : i < 6 := by omega
  have HOK := Lib.hid (show okM bs p f s 0 i = false from load_no hf hs hi6 (Or.inl h1))
  have b0 : Below w.heap.size w (w.alloc (.cells #[.int .i64 0, .int .i64 (i : Int)] 52)) := (Below.refl _ w).alloc (Nat.le_refl _) _
  have BB : Hid (∀ q, Below w.heap.size w ((w.alloc (.cells #[.int .i64 0, .int .i64 (i : Int)] 52)).drewN q)) := fun q => below_drewN q b0
  have z0 : (w.alloc (.cells #[.int .i64 0, .int .i64 (i : Int)] 52)).cell? ⟨g, 0, none⟩ = some (.slice a bs.length c) := (b0.cell (p := ⟨g, 0, none⟩) hg).trans h0
  have HIN := Lib.hid (fun w9 => (show Calls Try.prog 37 #[.int .i64 (i : Int), .int .i64 0, .int .i64 ((bs.length : Int) - 1)] w9 (Bl true w9) from by
    have h := Tr.in_g (i : Int) 0 ((bs.length : Int) - 1) w9
    have e : (decide (0 ≤ (i : Int)) && decide ((i : Int) ≤ (bs.length : Int) - 1)) = true := by rw [decide_eq_true (by omega), decide_eq_true (by omega)]; rfl
    rwa [e] at h))
  have hu := u64_in i (by omega)
  have hsh := shl64 i (by omega)
  have h64 : i < 64 := by omega
  have hiL : (i : Int) < (bs.length : Int) := by omega
  have haf := and64 f (2 ^ i) hf (pow_lt i hi6)
  have has := and64 s (2 ^ i) hs (pow_lt i hi6)
  have htf := and_test f i hf hi6
  have hts := and_test s i hs hi6
  obtain ⟨q, hq⟩ : ∃ q, q = 2 ^ i := ⟨_, rfl⟩
  rw [← hq] at haf has htf hts hsh
  rw [h1] at htf
  generalize s.testBit i = ts at hts
  clear b0 hq hi6
  generalize nx bs f s 0 i = nxv at *
  generalize okM bs p f s 0 i = okm at *
  generalize bs.length = N at *
  generalize f &&& q = fq at *
  generalize s &&& q = sq at *
  have hw : IntKind.i64.wrap ((N : Int) - 1) = (N : Int) - 1 := IntWalk.i64_in _ (by omega)
  go_enter Try.func39, Try.ntmps39
  go_wp2
  go_region_law (go_simp; go_at_call 37; (with_reducible refine (HIN.out _).mono ?_); rintro e w9 ⟨rfl, rfl⟩)
  all_goals
    go_wp2
    refine bodyPost_ret (v := .tuple #[.int .i64 ((0 : Nat) : Int), .int .i64 ((0 : Nat) : Int), .bool false]) (by simp [results, Try.results39, go_sem]) rfl ⟨0, 0, by rw [HOK.out], (fun h => by rw [HOK.out] at h; cases h), ?_⟩
    exact BB.out 1
set_option maxHeartbeats 4000000 in
theorem mv_load_s (g : Nat) (a : Option Addr) (c : Nat) (bs : List (List Int)) (w : World) (hg : g < w.heap.size) (h0 : w.cell? ⟨g, 0, none⟩ = some (.slice a bs.length c)) (h6 : bs.length ≤ 6) (p : Int) (f s : Nat) (hf : f < 64) (hs : s < 64) (i : Nat) (hi : i < bs.length) (h1 : f.testBit i = false) (h2 : s.testBit i = false) :
    Calls Try.prog 39 #[.pointer (some ⟨g, 0, none⟩), .int .i64 p, .int .i64 (f : Int), .int .i64 (s : Int), .agg #[.int .i64 0, .int .i64 (i : Int)]] w (MoP (nx bs f s 0 i).1 (nx bs f s 0 i).2 (okM bs p f s 0 i) w) := by
  have hi6 : i < 6 := by omega
  have HOK := Lib.hid (show okM bs p f s 0 i = false from load_no hf hs hi6 (Or.inr h2))
  have b0 : Below w.heap.size w (w.alloc (.cells #[.int .i64 0, .int .i64 (i : Int)] 52)) := (Below.refl _ w).alloc (Nat.le_refl _) _
  have BB : Hid (∀ q, Below w.heap.size w ((w.alloc (.cells #[.int .i64 0, .int .i64 (i : Int)] 52)).drewN q)) := fun q => below_drewN q b0
  have z0 : (w.alloc (.cells #[.int .i64 0, .int .i64 (i : Int)] 52)).cell? ⟨g, 0, none⟩ = some (.slice a bs.length c) := (b0.cell (p := ⟨g, 0, none⟩) hg).trans h0
  have HIN := Lib.hid (fun w9 => (show Calls Try.prog 37 #[.int .i64 (i : Int), .int .i64 0, .int .i64 ((bs.length : Int) - 1)] w9 (Bl true w9) from by
    have h := Tr.in_g (i : Int) 0 ((bs.length : Int) - 1) w9
    have e : (decide (0 ≤ (i : Int)) && decide ((i : Int) ≤ (bs.length : Int) - 1)) = true := by rw [decide_eq_true (by omega), decide_eq_true (by omega)]; rfl
    rwa [e] at h))
  have hu := u64_in i (by omega)
  have hsh := shl64 i (by omega)
  have h64 : i < 64 := by omega
  have hiL : (i : Int) < (bs.length : Int) := by omega
  have haf := and64 f (2 ^ i) hf (pow_lt i hi6)
  have has := and64 s (2 ^ i) hs (pow_lt i hi6)
  have htf := and_test f i hf hi6
  have hts := and_test s i hs hi6
  obtain ⟨q, hq⟩ : ∃ q, q = 2 ^ i := ⟨_, rfl⟩
  rw [← hq] at haf has htf hts hsh
  rw [h1] at htf
  rw [h2] at hts
  clear b0 hq hi6
  generalize nx bs f s 0 i = nxv at *
  generalize okM bs p f s 0 i = okm at *
  generalize bs.length = N at *
  generalize f &&& q = fq at *
  generalize s &&& q = sq at *
  have hw : IntKind.i64.wrap ((N : Int) - 1) = (N : Int) - 1 := IntWalk.i64_in _ (by omega)
  go_enter Try.func39, Try.ntmps39
  go_wp2
  go_region_law (go_simp; go_at_call 37; (with_reducible refine (HIN.out _).mono ?_); rintro e w9 ⟨rfl, rfl⟩)
  all_goals
    go_wp2
    refine bodyPost_ret (v := .tuple #[.int .i64 ((0 : Nat) : Int), .int .i64 ((0 : Nat) : Int), .bool false]) (by simp [results, Try.results39, go_sem]) rfl ⟨0, 0, by rw [HOK.out], (fun h => by rw [HOK.out] at h; cases h), ?_⟩
    exact BB.out 1
set_option maxHeartbeats 4000000 in
theorem mv_load_go (g : Nat) (a : Option Addr) (c : Nat) (bs : List (List Int)) (w : World) (hg : g < w.heap.size) (h0 : w.cell? ⟨g, 0, none⟩ = some (.slice a bs.length c)) (h6 : bs.length ≤ 6) (p : Int) (f s : Nat) (hf : f < 64) (hs : s < 64) (i : Nat) (hi : i < bs.length) (h1 : f.testBit i = false) (h2 : s.testBit i = true) :
    Calls Try.prog 39 #[.pointer (some ⟨g, 0, none⟩), .int .i64 p, .int .i64 (f : Int), .int .i64 (s : Int), .agg #[.int .i64 0, .int .i64 (i : Int)]] w (MoP (nx bs f s 0 i).1 (nx bs f s 0 i).2 (okM bs p f s 0 i) w) := by
  have hi6 : i < 6 := by omega

  have b0 : Below w.heap.size w (w.alloc (.cells #[.int .i64 0, .int .i64 (i : Int)] 52)) := (Below.refl _ w).alloc (Nat.le_refl _) _
  have BB : Hid (∀ q, Below w.heap.size w ((w.alloc (.cells #[.int .i64 0, .int .i64 (i : Int)] 52)).drewN q)) := fun q => below_drewN q b0
  have z0 : (w.alloc (.cells #[.int .i64 0, .int .i64 (i : Int)] 52)).cell? ⟨g, 0, none⟩ = some (.slice a bs.length c) := (b0.cell (p := ⟨g, 0, none⟩) hg).trans h0
  have HIN := Lib.hid (fun w9 => (show Calls Try.prog 37 #[.int .i64 (i : Int), .int .i64 0, .int .i64 ((bs.length : Int) - 1)] w9 (Bl true w9) from by
    have h := Tr.in_g (i : Int) 0 ((bs.length : Int) - 1) w9
    have e : (decide (0 ≤ (i : Int)) && decide ((i : Int) ≤ (bs.length : Int) - 1)) = true := by rw [decide_eq_true (by omega), decide_eq_true (by omega)]; rfl
    rwa [e] at h))
  have hu := u64_in i (by omega)
  have hsh := shl64 i (by omega)
  have h64 : i < 64 := by omega
  have hiL : (i : Int) < (bs.length : Int) := by omega
  have haf := and64 f (2 ^ i) hf (pow_lt i hi6)
  have has := and64 s (2 ^ i) hs (pow_lt i hi6)
  have htf := and_test f i hf hi6
  have hts := and_test s i hs hi6
  obtain ⟨q, hq⟩ : ∃ q, q = 2 ^ i := ⟨_, rfl⟩
  rw [← hq] at haf has htf hts hsh
  rw [h1] at htf
  rw [h2] at hts
  have hY := load_yes (bs := bs) (p := p) hf hs hi6 h1 h2
  have HOK := Lib.hid hY.1
  have HNX := Lib.hid hY.2
  try rw [← hq] at HOK
  try rw [← hq] at HNX
  clear hY
  have hR1 : (f ||| q) < 64 := or_lt _ _ hf (by rw [hq]; exact pow_lt i hi6)
  have HCN := Lib.hid (fun w9 => count_s _ hR1 w9)
  have hor := or64 f q hf (by rw [hq]; exact pow_lt i hi6)
  clear b0 hq hi6
  generalize okM bs p f s 0 i = okm at *
  generalize nx bs f s 0 i = nxv at *
  generalize f &&& q = fq at *
  generalize s &&& q = sq at *
  generalize hR1' : (f ||| q) = R1 at *
  generalize hR2' : s = R2 at *
  generalize cnt R1 = cv at *
  generalize hok : decide ((cv : Int) ≤ p) = okv at *
  generalize bs.length = N at *
  have hw : IntKind.i64.wrap ((N : Int) - 1) = (N : Int) - 1 := IntWalk.i64_in _ (by omega)
  go_enter Try.func39, Try.ntmps39
  go_wp2
  go_region_law (go_simp; go_at_call 37; (with_reducible refine (HIN.out _).mono ?_); rintro e w9 ⟨rfl, rfl⟩)
  all_goals
    go_wp2_with (go_at_call 50; (with_reducible refine (HCN.out _).mono ?_); rintro e w9 ⟨rfl, rfl⟩)
    refine bodyPost_ret (v := .tuple #[.int .i64 ((R1 : Nat) : Int), .int .i64 ((R2 : Nat) : Int), .bool okv]) (by simp [results, Try.results39, go_sem]) rfl ⟨R1, R2, by rw [HOK.out], (fun _ => by rw [HNX.out]; exact ⟨rfl, rfl⟩), ?_⟩
    exact BB.out 1
set_option maxHeartbeats 4000000 in
theorem mv_store_f (g : Nat) (a : Option Addr) (c : Nat) (bs : List (List Int)) (w : World) (hg : g < w.heap.size) (h0 : w.cell? ⟨g, 0, none⟩ = some (.slice a bs.length c)) (h6 : bs.length ≤ 6) (p : Int) (f s : Nat) (hf : f < 64) (hs : s < 64) (i : Nat) (hi : i < bs.length) (h1 : f.testBit i = false) :
    Calls Try.prog 39 #[.pointer (some ⟨g, 0, none⟩), .int .i64 p, .int .i64 (f : Int), .int .i64 (s : Int), .agg #[.int .i64 1, .int .i64 (i : Int)]] w (MoP (nx bs f s 1 i).1 (nx bs f s 1 i).2 (okM bs p f s 1 i) w) := by
  have hi6 : i < 6 := by omega
  have HOK := Lib.hid (show okM bs p f s 1 i = false from store_no hf hs hi6 (Or.inl h1))
  have b0 : Below w.heap.size w (w.alloc (.cells #[.int .i64 1, .int .i64 (i : Int)] 52)) := (Below.refl _ w).alloc (Nat.le_refl _) _
  have BB : Hid (∀ q, Below w.heap.size w ((w.alloc (.cells #[.int .i64 1, .int .i64 (i : Int)] 52)).drewN q)) := fun q => below_drewN q b0
  have z0 : (w.alloc (.cells #[.int .i64 1, .int .i64 (i : Int)] 52)).cell? ⟨g, 0, none⟩ = some (.slice a bs.length c) := (b0.cell (p := ⟨g, 0, none⟩) hg).trans h0
  have HIN := Lib.hid (fun w9 => (show Calls Try.prog 37 #[.int .i64 (i : Int), .int .i64 0, .int .i64 ((bs.length : Int) - 1)] w9 (Bl true w9) from by
    have h := Tr.in_g (i : Int) 0 ((bs.length : Int) - 1) w9
    have e : (decide (0 ≤ (i : Int)) && decide ((i : Int) ≤ (bs.length : Int) - 1)) = true := by rw [decide_eq_true (by omega), decide_eq_true (by omega)]; rfl
    rwa [e] at h))
  have hu := u64_in i (by omega)
  have hsh := shl64 i (by omega)
  have h64 : i < 64 := by omega
  have hiL : (i : Int) < (bs.length : Int) := by omega
  have haf := and64 f (2 ^ i) hf (pow_lt i hi6)
  have has := and64 s (2 ^ i) hs (pow_lt i hi6)
  have htf := and_test f i hf hi6
  have hts := and_test s i hs hi6
  obtain ⟨q, hq⟩ : ∃ q, q = 2 ^ i := ⟨_, rfl⟩
  rw [← hq] at haf has htf hts hsh
  rw [h1] at htf
  generalize s.testBit i = ts at hts
  clear b0 hq hi6
  generalize nx bs f s 1 i = nxv at *
  generalize okM bs p f s 1 i = okm at *
  generalize bs.length = N at *
  generalize f &&& q = fq at *
  generalize s &&& q = sq at *
  have hw : IntKind.i64.wrap ((N : Int) - 1) = (N : Int) - 1 := IntWalk.i64_in _ (by omega)
  go_enter Try.func39, Try.ntmps39
  go_wp2
  go_region_law (go_simp; go_at_call 37; (with_reducible refine (HIN.out _).mono ?_); rintro e w9 ⟨rfl, rfl⟩)
  all_goals
    go_wp2
    refine bodyPost_ret (v := .tuple #[.int .i64 ((0 : Nat) : Int), .int .i64 ((0 : Nat) : Int), .bool false]) (by simp [results, Try.results39, go_sem]) rfl ⟨0, 0, by rw [HOK.out], (fun h => by rw [HOK.out] at h; cases h), ?_⟩
    exact BB.out 1
set_option maxHeartbeats 4000000 in
theorem mv_store_s (g : Nat) (a : Option Addr) (c : Nat) (bs : List (List Int)) (w : World) (hg : g < w.heap.size) (h0 : w.cell? ⟨g, 0, none⟩ = some (.slice a bs.length c)) (h6 : bs.length ≤ 6) (p : Int) (f s : Nat) (hf : f < 64) (hs : s < 64) (i : Nat) (hi : i < bs.length) (h1 : f.testBit i = true) (h2 : s.testBit i = true) :
    Calls Try.prog 39 #[.pointer (some ⟨g, 0, none⟩), .int .i64 p, .int .i64 (f : Int), .int .i64 (s : Int), .agg #[.int .i64 1, .int .i64 (i : Int)]] w (MoP (nx bs f s 1 i).1 (nx bs f s 1 i).2 (okM bs p f s 1 i) w) := by
  have hi6 : i < 6 := by omega
  have HOK := Lib.hid (show okM bs p f s 1 i = false from store_no hf hs hi6 (Or.inr h2))
  have b0 : Below w.heap.size w (w.alloc (.cells #[.int .i64 1, .int .i64 (i : Int)] 52)) := (Below.refl _ w).alloc (Nat.le_refl _) _
  have BB : Hid (∀ q, Below w.heap.size w ((w.alloc (.cells #[.int .i64 1, .int .i64 (i : Int)] 52)).drewN q)) := fun q => below_drewN q b0
  have z0 : (w.alloc (.cells #[.int .i64 1, .int .i64 (i : Int)] 52)).cell? ⟨g, 0, none⟩ = some (.slice a bs.length c) := (b0.cell (p := ⟨g, 0, none⟩) hg).trans h0
  have HIN := Lib.hid (fun w9 => (show Calls Try.prog 37 #[.int .i64 (i : Int), .int .i64 0, .int .i64 ((bs.length : Int) - 1)] w9 (Bl true w9) from by
    have h := Tr.in_g (i : Int) 0 ((bs.length : Int) - 1) w9
    have e : (decide (0 ≤ (i : Int)) && decide ((i : Int) ≤ (bs.length : Int) - 1)) = true := by rw [decide_eq_true (by omega), decide_eq_true (by omega)]; rfl
    rwa [e] at h))
  have hu := u64_in i (by omega)
  have hsh := shl64 i (by omega)
  have h64 : i < 64 := by omega
  have hiL : (i : Int) < (bs.length : Int) := by omega
  have haf := and64 f (2 ^ i) hf (pow_lt i hi6)
  have has := and64 s (2 ^ i) hs (pow_lt i hi6)
  have htf := and_test f i hf hi6
  have hts := and_test s i hs hi6
  obtain ⟨q, hq⟩ : ∃ q, q = 2 ^ i := ⟨_, rfl⟩
  rw [← hq] at haf has htf hts hsh
  rw [h1] at htf
  rw [h2] at hts
  clear b0 hq hi6
  generalize nx bs f s 1 i = nxv at *
  generalize okM bs p f s 1 i = okm at *
  generalize bs.length = N at *
  generalize f &&& q = fq at *
  generalize s &&& q = sq at *
  have hw : IntKind.i64.wrap ((N : Int) - 1) = (N : Int) - 1 := IntWalk.i64_in _ (by omega)
  go_enter Try.func39, Try.ntmps39
  go_wp2
  go_region_law (go_simp; go_at_call 37; (with_reducible refine (HIN.out _).mono ?_); rintro e w9 ⟨rfl, rfl⟩)
  all_goals
    go_wp2
    refine bodyPost_ret (v := .tuple #[.int .i64 ((0 : Nat) : Int), .int .i64 ((0 : Nat) : Int), .bool false]) (by simp [results, Try.results39, go_sem]) rfl ⟨0, 0, by rw [HOK.out], (fun h => by rw [HOK.out] at h; cases h), ?_⟩
    exact BB.out 1
set_option maxHeartbeats 4000000 in
theorem mv_store_go (g : Nat) (a : Option Addr) (c : Nat) (bs : List (List Int)) (w : World) (hg : g < w.heap.size) (h0 : w.cell? ⟨g, 0, none⟩ = some (.slice a bs.length c)) (h6 : bs.length ≤ 6) (p : Int) (f s : Nat) (hf : f < 64) (hs : s < 64) (i : Nat) (hi : i < bs.length) (h1 : f.testBit i = true) (h2 : s.testBit i = false) :
    Calls Try.prog 39 #[.pointer (some ⟨g, 0, none⟩), .int .i64 p, .int .i64 (f : Int), .int .i64 (s : Int), .agg #[.int .i64 1, .int .i64 (i : Int)]] w (MoP (nx bs f s 1 i).1 (nx bs f s 1 i).2 (okM bs p f s 1 i) w) := by
  have hi6 : i < 6 := by omega

  have b0 : Below w.heap.size w (w.alloc (.cells #[.int .i64 1, .int .i64 (i : Int)] 52)) := (Below.refl _ w).alloc (Nat.le_refl _) _
  have BB : Hid (∀ q, Below w.heap.size w ((w.alloc (.cells #[.int .i64 1, .int .i64 (i : Int)] 52)).drewN q)) := fun q => below_drewN q b0
  have z0 : (w.alloc (.cells #[.int .i64 1, .int .i64 (i : Int)] 52)).cell? ⟨g, 0, none⟩ = some (.slice a bs.length c) := (b0.cell (p := ⟨g, 0, none⟩) hg).trans h0
  have HIN := Lib.hid (fun w9 => (show Calls Try.prog 37 #[.int .i64 (i : Int), .int .i64 0, .int .i64 ((bs.length : Int) - 1)] w9 (Bl true w9) from by
    have h := Tr.in_g (i : Int) 0 ((bs.length : Int) - 1) w9
    have e : (decide (0 ≤ (i : Int)) && decide ((i : Int) ≤ (bs.length : Int) - 1)) = true := by rw [decide_eq_true (by omega), decide_eq_true (by omega)]; rfl
    rwa [e] at h))
  have hu := u64_in i (by omega)
  have hsh := shl64 i (by omega)
  have h64 : i < 64 := by omega
  have hiL : (i : Int) < (bs.length : Int) := by omega
  have haf := and64 f (2 ^ i) hf (pow_lt i hi6)
  have has := and64 s (2 ^ i) hs (pow_lt i hi6)
  have htf := and_test f i hf hi6
  have hts := and_test s i hs hi6
  obtain ⟨q, hq⟩ : ∃ q, q = 2 ^ i := ⟨_, rfl⟩
  rw [← hq] at haf has htf hts hsh
  rw [h1] at htf
  rw [h2] at hts
  have hY := store_yes (bs := bs) (p := p) hf hs hi6 h1 h2
  have HOK := Lib.hid hY.1
  have HNX := Lib.hid hY.2
  try rw [← hq] at HOK
  try rw [← hq] at HNX
  clear hY
  have hR1 : f < 64 := hf
  have HCN := Lib.hid (fun w9 => count_s _ hR1 w9)
  have hor := or64 s q hs (by rw [hq]; exact pow_lt i hi6)
  clear b0 hq hi6
  generalize okM bs p f s 1 i = okm at *
  generalize nx bs f s 1 i = nxv at *
  generalize f &&& q = fq at *
  generalize s &&& q = sq at *
  generalize hR1' : f = R1 at *
  generalize hR2' : (s ||| q) = R2 at *
  generalize cnt R1 = cv at *
  generalize hok : decide ((cv : Int) ≤ p) = okv at *
  generalize bs.length = N at *
  have hw : IntKind.i64.wrap ((N : Int) - 1) = (N : Int) - 1 := IntWalk.i64_in _ (by omega)
  go_enter Try.func39, Try.ntmps39
  go_wp2
  go_region_law (go_simp; go_at_call 37; (with_reducible refine (HIN.out _).mono ?_); rintro e w9 ⟨rfl, rfl⟩)
  all_goals
    go_wp2_with (go_at_call 50; (with_reducible refine (HCN.out _).mono ?_); rintro e w9 ⟨rfl, rfl⟩)
    refine bodyPost_ret (v := .tuple #[.int .i64 ((R1 : Nat) : Int), .int .i64 ((R2 : Nat) : Int), .bool okv]) (by simp [results, Try.results39, go_sem]) rfl ⟨R1, R2, by rw [HOK.out], (fun _ => by rw [HNX.out]; exact ⟨rfl, rfl⟩), ?_⟩
    exact BB.out 1
set_option maxHeartbeats 4000000 in
theorem mv_drop_f (g : Nat) (a : Option Addr) (c : Nat) (bs : List (List Int)) (w : World) (hg : g < w.heap.size) (h0 : w.cell? ⟨g, 0, none⟩ = some (.slice a bs.length c)) (h6 : bs.length ≤ 6) (p : Int) (f s : Nat) (hf : f < 64) (hs : s < 64) (i : Nat) (hi : i < bs.length) (h1 : f.testBit i = false) :
    Calls Try.prog 39 #[.pointer (some ⟨g, 0, none⟩), .int .i64 p, .int .i64 (f : Int), .int .i64 (s : Int), .agg #[.int .i64 3, .int .i64 (i : Int)]] w (MoP (nx bs f s 3 i).1 (nx bs f s 3 i).2 (okM bs p f s 3 i) w) := by
  have hi6 : i < 6 := by omega
  have HOK := Lib.hid (show okM bs p f s 3 i = false from drop_no hf hi6 h1)
  have b0 : Below w.heap.size w (w.alloc (.cells #[.int .i64 3, .int .i64 (i : Int)] 52)) := (Below.refl _ w).alloc (Nat.le_refl _) _
  have BB : Hid (∀ q, Below w.heap.size w ((w.alloc (.cells #[.int .i64 3, .int .i64 (i : Int)] 52)).drewN q)) := fun q => below_drewN q b0
  have z0 : (w.alloc (.cells #[.int .i64 3, .int .i64 (i : Int)] 52)).cell? ⟨g, 0, none⟩ = some (.slice a bs.length c) := (b0.cell (p := ⟨g, 0, none⟩) hg).trans h0
  have HIN := Lib.hid (fun w9 => (show Calls Try.prog 37 #[.int .i64 (i : Int), .int .i64 0, .int .i64 ((bs.length : Int) - 1)] w9 (Bl true w9) from by
    have h := Tr.in_g (i : Int) 0 ((bs.length : Int) - 1) w9
    have e : (decide (0 ≤ (i : Int)) && decide ((i : Int) ≤ (bs.length : Int) - 1)) = true := by rw [decide_eq_true (by omega), decide_eq_true (by omega)]; rfl
    rwa [e] at h))
  have hu := u64_in i (by omega)
  have hsh := shl64 i (by omega)
  have h64 : i < 64 := by omega
  have hiL : (i : Int) < (bs.length : Int) := by omega
  have haf := and64 f (2 ^ i) hf (pow_lt i hi6)
  have has := and64 s (2 ^ i) hs (pow_lt i hi6)
  have htf := and_test f i hf hi6
  have hts := and_test s i hs hi6
  obtain ⟨q, hq⟩ : ∃ q, q = 2 ^ i := ⟨_, rfl⟩
  rw [← hq] at haf has htf hts hsh
  rw [h1] at htf
  generalize s.testBit i = ts at hts
  clear b0 hq hi6
  generalize nx bs f s 3 i = nxv at *
  generalize okM bs p f s 3 i = okm at *
  generalize bs.length = N at *
  generalize f &&& q = fq at *
  generalize s &&& q = sq at *
  have hw : IntKind.i64.wrap ((N : Int) - 1) = (N : Int) - 1 := IntWalk.i64_in _ (by omega)
  go_enter Try.func39, Try.ntmps39
  go_wp2
  go_region_law (go_simp; go_at_call 37; (with_reducible refine (HIN.out _).mono ?_); rintro e w9 ⟨rfl, rfl⟩)
  all_goals
    go_wp2
    refine bodyPost_ret (v := .tuple #[.int .i64 ((0 : Nat) : Int), .int .i64 ((0 : Nat) : Int), .bool false]) (by simp [results, Try.results39, go_sem]) rfl ⟨0, 0, by rw [HOK.out], (fun h => by rw [HOK.out] at h; cases h), ?_⟩
    exact BB.out 1
set_option maxHeartbeats 4000000 in
theorem mv_drop_go (g : Nat) (a : Option Addr) (c : Nat) (bs : List (List Int)) (w : World) (hg : g < w.heap.size) (h0 : w.cell? ⟨g, 0, none⟩ = some (.slice a bs.length c)) (h6 : bs.length ≤ 6) (p : Int) (f s : Nat) (hf : f < 64) (hs : s < 64) (i : Nat) (hi : i < bs.length) (h1 : f.testBit i = true) :
    Calls Try.prog 39 #[.pointer (some ⟨g, 0, none⟩), .int .i64 p, .int .i64 (f : Int), .int .i64 (s : Int), .agg #[.int .i64 3, .int .i64 (i : Int)]] w (MoP (nx bs f s 3 i).1 (nx bs f s 3 i).2 (okM bs p f s 3 i) w) := by
  have hi6 : i < 6 := by omega

  have b0 : Below w.heap.size w (w.alloc (.cells #[.int .i64 3, .int .i64 (i : Int)] 52)) := (Below.refl _ w).alloc (Nat.le_refl _) _
  have BB : Hid (∀ q, Below w.heap.size w ((w.alloc (.cells #[.int .i64 3, .int .i64 (i : Int)] 52)).drewN q)) := fun q => below_drewN q b0
  have z0 : (w.alloc (.cells #[.int .i64 3, .int .i64 (i : Int)] 52)).cell? ⟨g, 0, none⟩ = some (.slice a bs.length c) := (b0.cell (p := ⟨g, 0, none⟩) hg).trans h0
  have HIN := Lib.hid (fun w9 => (show Calls Try.prog 37 #[.int .i64 (i : Int), .int .i64 0, .int .i64 ((bs.length : Int) - 1)] w9 (Bl true w9) from by
    have h := Tr.in_g (i : Int) 0 ((bs.length : Int) - 1) w9
    have e : (decide (0 ≤ (i : Int)) && decide ((i : Int) ≤ (bs.length : Int) - 1)) = true := by rw [decide_eq_true (by omega), decide_eq_true (by omega)]; rfl
    rwa [e] at h))
  have hu := u64_in i (by omega)
  have hsh := shl64 i (by omega)
  have h64 : i < 64 := by omega
  have hiL : (i : Int) < (bs.length : Int) := by omega
  have haf := and64 f (2 ^ i) hf (pow_lt i hi6)
  have has := and64 s (2 ^ i) hs (pow_lt i hi6)
  have htf := and_test f i hf hi6
  have hts := and_test s i hs hi6
  obtain ⟨q, hq⟩ : ∃ q, q = 2 ^ i := ⟨_, rfl⟩
  rw [← hq] at haf has htf hts hsh
  rw [h1] at htf
  generalize s.testBit i = ts at hts
  have hY := (show okM bs p f s 3 i = decide ((cnt (adn f (2 ^ i)) : Int) ≤ p) ∧ nx bs f s 3 i = (adn f (2 ^ i), s) from ⟨drop_yes hf hi6 h1, rfl⟩)
  have HOK := Lib.hid hY.1
  have HNX := Lib.hid hY.2
  try rw [← hq] at HOK
  try rw [← hq] at HNX
  clear hY
  have hR1 : adn f q < 64 := adn_lt _ _ hf
  have HCN := Lib.hid (fun w9 => count_s _ hR1 w9)
  have hor := adn64 f q hf (by rw [hq]; exact pow_lt i hi6)
  clear b0 hq hi6
  generalize okM bs p f s 3 i = okm at *
  generalize nx bs f s 3 i = nxv at *
  generalize f &&& q = fq at *
  generalize s &&& q = sq at *
  generalize hR1' : adn f q = R1 at *
  generalize hR2' : s = R2 at *
  generalize cnt R1 = cv at *
  generalize hok : decide ((cv : Int) ≤ p) = okv at *
  generalize bs.length = N at *
  have hw : IntKind.i64.wrap ((N : Int) - 1) = (N : Int) - 1 := IntWalk.i64_in _ (by omega)
  go_enter Try.func39, Try.ntmps39
  go_wp2
  go_region_law (go_simp; go_at_call 37; (with_reducible refine (HIN.out _).mono ?_); rintro e w9 ⟨rfl, rfl⟩)
  all_goals
    go_wp2_with (go_at_call 50; (with_reducible refine (HCN.out _).mono ?_); rintro e w9 ⟨rfl, rfl⟩)
    refine bodyPost_ret (v := .tuple #[.int .i64 ((R1 : Nat) : Int), .int .i64 ((R2 : Nat) : Int), .bool okv]) (by simp [results, Try.results39, go_sem]) rfl ⟨R1, R2, by rw [HOK.out], (fun _ => by rw [HNX.out]; exact ⟨rfl, rfl⟩), ?_⟩
    exact BB.out 1
set_option maxHeartbeats 4000000 in
theorem mv_other_s (g : Nat) (a : Option Addr) (c : Nat) (bs : List (List Int)) (w : World) (hg : g < w.heap.size) (h0 : w.cell? ⟨g, 0, none⟩ = some (.slice a bs.length c)) (h6 : bs.length ≤ 6) (p : Int) (f s : Nat) (hf : f < 64) (hs : s < 64) (k : Int) (i : Nat) (hi : i < bs.length) (k0 : k ≠ 0) (k1 : k ≠ 1) (k2 : k ≠ 2) (k3 : k ≠ 3) :
    Calls Try.prog 39 #[.pointer (some ⟨g, 0, none⟩), .int .i64 p, .int .i64 (f : Int), .int .i64 (s : Int), .agg #[.int .i64 k, .int .i64 (i : Int)]] w (MoP (nx bs f s k i).1 (nx bs f s k i).2 (okM bs p f s k i) w) := by
  have hi6 : i < 6 := by omega
  have HOK := Lib.hid (show okM bs p f s k i = false from other_no k0 k1 k2 k3)
  have e0 : (k == 0) = false := by simp [k0]
  have e1 : (k == 1) = false := by simp [k1]
  have e2 : (k == 2) = false := by simp [k2]
  have e3 : (k == 3) = false := by simp [k3]
  clear k0 k1 k2 k3
  have b0 : Below w.heap.size w (w.alloc (.cells #[.int .i64 k, .int .i64 (i : Int)] 52)) := (Below.refl _ w).alloc (Nat.le_refl _) _
  have BB : Hid (∀ q, Below w.heap.size w ((w.alloc (.cells #[.int .i64 k, .int .i64 (i : Int)] 52)).drewN q)) := fun q => below_drewN q b0
  have z0 : (w.alloc (.cells #[.int .i64 k, .int .i64 (i : Int)] 52)).cell? ⟨g, 0, none⟩ = some (.slice a bs.length c) := (b0.cell (p := ⟨g, 0, none⟩) hg).trans h0
  have HIN := Lib.hid (fun w9 => (show Calls Try.prog 37 #[.int .i64 (i : Int), .int .i64 0, .int .i64 ((bs.length : Int) - 1)] w9 (Bl true w9) from by
    have h := Tr.in_g (i : Int) 0 ((bs.length : Int) - 1) w9
    have e : (decide (0 ≤ (i : Int)) && decide ((i : Int) ≤ (bs.length : Int) - 1)) = true := by rw [decide_eq_true (by omega), decide_eq_true (by omega)]; rfl
    rwa [e] at h))
  have hu := u64_in i (by omega)
  have hsh := shl64 i (by omega)
  have h64 : i < 64 := by omega
  have hiL : (i : Int) < (bs.length : Int) := by omega
  have haf := and64 f (2 ^ i) hf (pow_lt i hi6)
  have has := and64 s (2 ^ i) hs (pow_lt i hi6)
  have htf := and_test f i hf hi6
  have hts := and_test s i hs hi6
  obtain ⟨q, hq⟩ : ∃ q, q = 2 ^ i := ⟨_, rfl⟩
  rw [← hq] at haf has htf hts hsh
  generalize f.testBit i = tf at htf
  generalize s.testBit i = ts at hts
  clear b0 hq hi6
  generalize nx bs f s k i = nxv at *
  generalize okM bs p f s k i = okm at *
  generalize bs.length = N at *
  generalize f &&& q = fq at *
  generalize s &&& q = sq at *
  have hw : IntKind.i64.wrap ((N : Int) - 1) = (N : Int) - 1 := IntWalk.i64_in _ (by omega)
  go_enter Try.func39, Try.ntmps39
  go_wp2
  go_region_law (go_simp; go_at_call 37; (with_reducible refine (HIN.out _).mono ?_); rintro e w9 ⟨rfl, rfl⟩)
  all_goals
    go_wp2
    refine bodyPost_ret (v := .tuple #[.int .i64 ((0 : Nat) : Int), .int .i64 ((0 : Nat) : Int), .bool false]) (by simp [results, Try.results39, go_sem]) rfl ⟨0, 0, by rw [HOK.out], (fun h => by rw [HOK.out] at h; cases h), ?_⟩
    exact BB.out 1
end Go.Proofs.Ytepobkflahjldaa.Pb
