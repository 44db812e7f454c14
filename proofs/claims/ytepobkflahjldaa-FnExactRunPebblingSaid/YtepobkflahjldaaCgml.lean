/- Sets of nodes as lists, by both sides; how many nodes a set has, by the program. -/
import Derived.Test.YtepobkflahjldaaCgms
import Derived.Test.YtepobkflahjldaaCgam
import Derived.Test.YtepobkflahjldaaCappg
namespace Go.Proofs.Ytepobkflahjldaa.Pb
open Go.RowKit Pv
def LbG (xs : List Int) (w : World) (e : Ending) (w' : World) : Prop := ∃ v, e = .returned v ∧ Own w' w.heap.size v xs ∧ Below w.heap.size w w'
set_option maxHeartbeats 1000000 in
theorem set_s (m : Nat) (hm : m < 64) (w : World) : Calls Try.prog 24 #[.int .i64 (m : Int)] w (LbG (bitL m 6) w) := by
  have H0 := Lib.hid (Own.lit0 w)
  have HS := Lib.hid (fun k (hk : k < 6) => shr_test ⟨m, hm⟩ ⟨k, hk⟩)
  have HB := Lib.hid (fun j => bitL_succ m j)
  have HL := Lib.hid (fun j => bitL_len m j)
  go_enter Try.func24, Try.ntmps24
  go_wp2
  go_loopw [3, 4] (fun v i wr => ∃ j : Nat, j ≤ 6 ∧ i = .int .i64 (j : Nat) ∧ Hid (Own wr w.heap.size v (bitL m j)) ∧ Hid (Below w.heap.size w wr)) (fun _ i _ => 6 - (intOf i).toNat)
  case atStart => exact ⟨0, Nat.zero_le _, rfl, H0, (Below.refl _ _).alloc (Nat.le_refl _) _⟩
  case round =>
    obtain ⟨j, hj, rfl, hO, hb⟩ := hrel
    by_cases hlt : j < 6
    · have hu := u64_in j (by omega)
      have h64 : j < 64 := by omega
      have hs : (bits .and .i64 ((m : Int) / (2 ^ j)) 1 == 1) = m.testBit j := HS.out j hlt
      have hB := HB.out j
      have hll := HL.out j
      have ho := hO.out
      have hsz := hb.out.size
      have hlt' : (j : Int) < 6 := by omega
      clear HS HB HL
      cases ht : m.testBit j
      · rw [ht] at hs hB
        have HE : Hid (bitL m (j + 1) = bitL m j) := by show _ = _; rw [hB]; simp
        clear hB ht
        go_wp2
        go_roundw
        case rel => exact ⟨j + 1, by omega, by go_num, by rw [HE.out]; exact hO, hb⟩
        case measure => simp [intOf]; omega
      · rw [ht] at hs hB
        have HE : Hid (bitL m (j + 1) = bitL m j ++ [(j : Int)]) := by show _ = _; rw [hB]; simp
        clear hB ht
        generalize bitL m j = L at *
        have hq1 : L.length + 1 ≤ 1000000000 := by omega
        go_wp2_with (at_builtin; refine wpList_app _ rfl _ _ rfl w.heap.size _ L _ ?_ ?_ ho hq1 hsz ?_; rfl; rfl)
        intro v1 w1 ho1 hb1
        go_wp2
        go_roundw
        case rel => exact ⟨j + 1, by omega, by go_num, (by rw [HE.out]; exact ho1), hb.out.trans hb1⟩
        case measure => simp [intOf]; omega
    · have e : j = 6 := by omega
      subst e
      go_wp2
      go_ret
      exact ⟨_, rfl, hO.out, hb.out⟩
set_option maxHeartbeats 1000000 in
theorem list_i (m : Nat) (hm : m < 64) (w : World) : Calls Try.prog 29 #[.int .u8 (m : Int)] w (LbG (bitL m 6) w) := by
  have HS := Lib.hid (fun k (hk : k < 6) => (show (((m &&& 2 ^ k : Nat) : Int) != 0) = m.testBit k from by
    have h : (m &&& 2 ^ k != 0) = m.testBit k := bit_test ⟨m, hm⟩ ⟨k, hk⟩
    rw [← h]
    by_cases e : m &&& 2 ^ k = 0
    · rw [e]; rfl
    · rw [(bne_iff_ne).2 e]; simp; exact e))
  have HA := Lib.hid (fun k (hk : k < 6) => and8 m (2 ^ k) hm (pow_lt k hk))
  have HB := Lib.hid (fun j => bitL_succ m j)
  have HL := Lib.hid (fun j => bitL_len m j)
  have HM := Lib.hid (fun k (hk : k < 6) w9 => mask_i k hk w9)
  go_enter Try.func29, Try.ntmps29
  go_wp2
  go_loopw [3, 4, 5] (fun v _ i wr => ∃ j : Nat, j ≤ 6 ∧ i = .int .i64 (j : Nat) ∧ Hid (Own wr w.heap.size v (bitL m j)) ∧ Hid (Below w.heap.size w wr)) (fun _ _ i _ => 6 - (intOf i).toNat)
  case atStart => exact ⟨0, Nat.zero_le _, rfl, Own.nil _ _, Below.refl _ _⟩
  case round =>
    obtain ⟨j, hj, rfl, hO, hb⟩ := hrel
    by_cases hlt : j < 6
    · have hs := HS.out j hlt
      have ha := HA.out j hlt
      have hB := HB.out j
      have hll := HL.out j
      have ho := hO.out
      have hsz := hb.out.size
      have hlt' : (j : Int) < 6 := by omega
      have HMj := Lib.hid (fun w9 => HM.out j hlt w9)
      clear HS HB HL HA HM
      generalize m &&& 2 ^ j = q at *
      generalize 2 ^ j = pw at *
      cases ht : m.testBit j
      · rw [ht] at hs hB
        have HE : Hid (bitL m (j + 1) = bitL m j) := by show _ = _; rw [hB]; simp
        clear hB ht
        go_wp2_with (go_at_call 44; refine (HMj.out _).mono ?_; rintro e w1 ⟨rfl, rfl⟩)
        go_roundw
        case rel => exact ⟨j + 1, by omega, by go_num, by rw [HE.out]; exact hO, hb⟩
        case measure => simp [intOf]; omega
      · rw [ht] at hs hB
        have HE : Hid (bitL m (j + 1) = bitL m j ++ [(j : Int)]) := by show _ = _; rw [hB]; simp
        clear hB ht
        generalize bitL m j = L at *
        have hq1 : L.length + 1 ≤ 1000000000 := by omega
        go_wp2_with (first | (go_at_call 44; refine (HMj.out _).mono ?_; rintro e w1 ⟨rfl, rfl⟩) | (at_builtin; refine wpList_app _ rfl _ _ rfl w.heap.size _ L _ ?_ ?_ ho hq1 hsz ?_; rfl; rfl))
        intro v1 w1 ho1 hb1
        go_wp2
        go_roundw
        case rel => exact ⟨j + 1, by omega, by go_num, (by rw [HE.out]; exact ho1), hb.out.trans hb1⟩
        case measure => simp [intOf]; omega
    · have e : j = 6 := by omega
      subst e
      go_wp2
      go_ret
      exact ⟨_, rfl, hO.out, hb.out⟩
set_option maxHeartbeats 2000000 in
set_option maxRecDepth 100000 in
theorem ones_i (m : Nat) (hm : m < 64) (w : World) : Calls Try.prog 53 #[.int .u8 (m : Int)] w (NwG ((cnt m : Nat) : Int) w) := by
  obtain rfl | rfl | rfl | rfl | rfl | rfl | rfl | rfl | rfl | rfl | rfl | rfl | rfl | rfl | rfl | rfl | rfl | rfl | rfl | rfl | rfl | rfl | rfl | rfl | rfl | rfl | rfl | rfl | rfl | rfl | rfl | rfl | rfl | rfl | rfl | rfl | rfl | rfl | rfl | rfl | rfl | rfl | rfl | rfl | rfl | rfl | rfl | rfl | rfl | rfl | rfl | rfl | rfl | rfl | rfl | rfl | rfl | rfl | rfl | rfl | rfl | rfl | rfl | rfl : m = 0 ∨ m = 1 ∨ m = 2 ∨ m = 3 ∨ m = 4 ∨ m = 5 ∨ m = 6 ∨ m = 7 ∨ m = 8 ∨ m = 9 ∨ m = 10 ∨ m = 11 ∨ m = 12 ∨ m = 13 ∨ m = 14 ∨ m = 15 ∨ m = 16 ∨ m = 17 ∨ m = 18 ∨ m = 19 ∨ m = 20 ∨ m = 21 ∨ m = 22 ∨ m = 23 ∨ m = 24 ∨ m = 25 ∨ m = 26 ∨ m = 27 ∨ m = 28 ∨ m = 29 ∨ m = 30 ∨ m = 31 ∨ m = 32 ∨ m = 33 ∨ m = 34 ∨ m = 35 ∨ m = 36 ∨ m = 37 ∨ m = 38 ∨ m = 39 ∨ m = 40 ∨ m = 41 ∨ m = 42 ∨ m = 43 ∨ m = 44 ∨ m = 45 ∨ m = 46 ∨ m = 47 ∨ m = 48 ∨ m = 49 ∨ m = 50 ∨ m = 51 ∨ m = 52 ∨ m = 53 ∨ m = 54 ∨ m = 55 ∨ m = 56 ∨ m = 57 ∨ m = 58 ∨ m = 59 ∨ m = 60 ∨ m = 61 ∨ m = 62 ∨ m = 63 := by omega
  all_goals
    go_enter Try.func53, Try.ntmps53
    go_wp2
    go_ret
    exact ⟨by kernel_rfl, rfl⟩
theorem cnt_i (m : Nat) (hm : m < 64) (w : World) : Calls Try.prog 52 #[.int .u8 (m : Int)] w (NwG ((cnt m : Nat) : Int) w) := by
  have H := Lib.hid (ones_i m hm w)
  generalize cnt m = q at *
  go_enter Try.func52, Try.ntmps52
  go_wp2_with (go_at_call 53; refine H.out.mono ?_; rintro e w1 ⟨rfl, rfl⟩)
  go_ret
  exact ⟨rfl, rfl⟩
end Go.Proofs.Ytepobkflahjldaa.Pb
