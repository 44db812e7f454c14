/- Contracts of math/bits.OnesCount64 (below 2^32: the sum of the bits), of the model's parity loop, and of both ParityOf. -/
import Derived.Test.YtfdjjaogmnagaaaCBase
import Derived.Test.YtfdjjaogmnagaaaPlainBits
namespace Go.Proofs.Ytfdjjaogmnagaaa.Bt
open Go.RowKit
def o1 (x : Int) : Int := IntKind.u64.wrap (bits .and .u64 (x / 2) 6148914691236517205 + bits .and .u64 x 6148914691236517205)
def o2 (x : Int) : Int := IntKind.u64.wrap (bits .and .u64 (x / 4) 3689348814741910323 + bits .and .u64 x 3689348814741910323)
def o3 (x : Int) : Int := bits .and .u64 (IntKind.u64.wrap (x / 16 + x)) 1085102592571150095
def o4 (x : Int) : Int := IntKind.u64.wrap (x + x / 256)
def o5 (x : Int) : Int := IntKind.u64.wrap (x + x / 65536)
def o6 (x : Int) : Int := IntKind.u64.wrap (x + x / 4294967296)
def o7 (x : Int) : Int := bits .and .i64 (wrap64 x) 127
theorem ofInt_i64 (a : Nat) (ha : a < 9223372036854775808) : (BitVec.ofInt 64 (a : Int)).toNat = a := ofInt_u64 a (by omega)
theorem i64_and (a b : Nat) (ha : a < 9223372036854775808) (hb : b < 9223372036854775808) : bits .and .i64 (a : Int) (b : Int) = ((a &&& b : Nat) : Int) := by
  have hx : a &&& b < 2 ^ 63 := Nat.and_lt_two_pow _ (by omega)
  show IntKind.i64.wrap ((BitVec.ofInt 64 (a : Int) &&& BitVec.ofInt 64 (b : Int)).toNat : Int) = _
  rw [BitVec.toNat_and, ofInt_i64 a ha, ofInt_i64 b hb]
  exact IntWalk.i64_in _ (by omega)
theorem i64_xor (a b : Nat) (ha : a < 9223372036854775808) (hb : b < 9223372036854775808) : bits .xor .i64 (a : Int) (b : Int) = ((a ^^^ b : Nat) : Int) := by
  have hx : a ^^^ b < 2 ^ 63 := Nat.xor_lt_two_pow (by omega) (by omega)
  show IntKind.i64.wrap ((BitVec.ofInt 64 (a : Int) ^^^ BitVec.ofInt 64 (b : Int)).toNat : Int) = _
  rw [BitVec.toNat_xor, ofInt_i64 a ha, ofInt_i64 b hb]
  exact IntWalk.i64_in _ (by omega)
theorem u64_nat (n : Nat) (h : n < 18446744073709551616) : IntKind.u64.wrap (n : Int) = n := by rw [IntKind.wrap_u64]; omega
theorem half (x m : Nat) (k : Nat) (hx : x < 18446744073709551616) (hm : m < 18446744073709551616) : bits .and .u64 ((x : Int) / (k : Nat)) (m : Nat) = ((x / k &&& m : Nat) : Int) := by
  rw [← Int.natCast_ediv]
  exact u64_and_nat _ _ (Nat.lt_of_le_of_lt (Nat.div_le_self _ _) hx) hm
theorem ones_val (x : Nat) (hx : x < 4294967296) : o7 (o6 (o5 (o4 (o3 (o2 (o1 (x : Int))))))) = ((pc 32 x : Nat) : Int) := by
  obtain ⟨s1, s2, s3, s4, s5, s6, h1, b1, h2, b2, h3, b3, h4, h5, h6, b6, h7⟩ := chain x hx
  have e1 : o1 (x : Int) = (s1 : Int) := by
    unfold o1
    rw [show (6148914691236517205 : Int) = ((6148914691236517205 : Nat) : Int) from rfl, show ((x : Int) / 2) = (x : Int) / (2 : Nat) from rfl, half x _ 2 (by omega) (by omega), u64_and_nat x _ (by omega) (by omega), ← Int.natCast_add, ← h1]
    exact u64_nat _ (by omega)
  have e2 : o2 (s1 : Int) = (s2 : Int) := by
    unfold o2
    rw [show (3689348814741910323 : Int) = ((3689348814741910323 : Nat) : Int) from rfl, show ((s1 : Int) / 4) = (s1 : Int) / (4 : Nat) from rfl, half s1 _ 4 (by omega) (by omega), u64_and_nat s1 _ (by omega) (by omega), ← Int.natCast_add, ← h2]
    exact u64_nat _ (by omega)
  have e3 : o3 (s2 : Int) = (s3 : Int) := by
    unfold o3
    rw [show (1085102592571150095 : Int) = ((1085102592571150095 : Nat) : Int) from rfl, show ((s2 : Int) / 16 + s2) = ((s2 / 16 + s2 : Nat) : Int) by simp, u64_nat _ (by omega), u64_and_nat _ _ (by omega) (by omega), ← h3]
  have e4 : o4 (s3 : Int) = (s4 : Int) := by
    unfold o4
    rw [show ((s3 : Int) + s3 / 256) = ((s3 + s3 / 256 : Nat) : Int) by simp, u64_nat _ (by omega), ← h4]
  have e5 : o5 (s4 : Int) = (s5 : Int) := by
    unfold o5
    rw [show ((s4 : Int) + s4 / 65536) = ((s4 + s4 / 65536 : Nat) : Int) by simp, u64_nat _ (by omega), ← h5]
  have e6 : o6 (s5 : Int) = (s6 : Int) := by
    unfold o6
    rw [show ((s5 : Int) + s5 / 4294967296) = ((s5 + s5 / 4294967296 : Nat) : Int) by simp, u64_nat _ (by omega), ← h6]
  have b7 : s6 < 9223372036854775808 := by omega
  rw [e1, e2, e3, e4, e5, e6]
  unfold o7
  rw [IntWalk.wrap64_in _ (by omega), show (127 : Int) = ((127 : Nat) : Int) from rfl, i64_and _ _ b7 (by omega), h7]
theorem ones (x : Nat) (w : World) (hx : x < 4294967296) :
    Calls Try.prog 37 #[.int .u64 x] w fun e w' => e = .returned (.int .i64 (pc 32 x : Nat)) ∧ w = w' := by
  have hv := ones_val x hx
  have HV := Lib.hid hv
  clear hv
  go_enter Try.func37, Try.ntmps37
  go_wp2
  go_ret
  rw [← HV.out]
  exact ⟨rfl, rfl⟩
theorem and_one (r : Nat) (h : r < 9223372036854775808) : bits .and .i64 (r : Int) 1 = ((r % 2 : Nat) : Int) := by
  rw [show (1 : Int) = ((1 : Nat) : Int) from rfl, i64_and r 1 h (by omega), nat_mask1]
theorem xor_bit (o b : Nat) (ho : o < 2) (hb : b < 2) : bits .xor .i64 (o : Int) (b : Int) = (((o + b) % 2 : Nat) : Int) := by
  rw [i64_xor o b (by omega) (by omega)]
  obtain rfl | rfl : o = 0 ∨ o = 1 := by omega
  all_goals
    obtain rfl | rfl : b = 0 ∨ b = 1 := by omega
    all_goals rfl
theorem par_no_i (a0 a1 : Int) (w : World) (h : ¬ (0 ≤ a0 ∧ a0 ≤ 1000000000 ∧ 0 ≤ a1 ∧ a1 ≤ 1000000000)) :
    Calls Try.prog 44 #[.int .i64 a0, .int .i64 a1] w fun e w' => e = .returned (.tuple #[.int .i64 0, .bool false]) ∧ w = w' := by
  by_cases h0 : 0 ≤ a0
  · by_cases h1 : a0 ≤ 1000000000
    · by_cases h2 : 0 ≤ a1
      · have h3 : ¬ a1 ≤ 1000000000 := by omega
        clear h
        go_enter Try.func44, Try.ntmps44
        go_wp2
        go_ret2
        exact ⟨rfl, rfl⟩
      · clear h
        go_enter Try.func44, Try.ntmps44
        go_wp2
        go_ret2
        exact ⟨rfl, rfl⟩
    · clear h
      go_enter Try.func44, Try.ntmps44
      go_wp2
      go_ret2
      exact ⟨rfl, rfl⟩
  · clear h
    go_enter Try.func44, Try.ntmps44
    go_wp2
    go_ret2
    exact ⟨rfl, rfl⟩
theorem l00In_yes (a lo hi : Int) (w : World) (h1 : lo ≤ a) (h2 : a ≤ hi) :
    Calls Try.prog 28 #[.int .i64 a, .int .i64 lo, .int .i64 hi] w fun e w' => e = .returned (.bool true) ∧ w = w' := by
  go_enter Try.func28, Try.ntmps28
  go_wp2
  go_ret
  exact ⟨rfl, rfl⟩
theorem btw_yes (a lo hi : Int) (w : World) (h1 : lo ≤ a) (h2 : a ≤ hi) :
    Calls Try.prog 34 #[.int .i64 a, .int .i64 lo, .int .i64 hi] w fun e w' => e = .returned (.bool true) ∧ w = w' := by
  go_enter Try.func34, Try.ntmps34
  go_wp2
  go_ret
  exact ⟨rfl, rfl⟩
theorem par_yes_i (x m : Nat) (w : World) (hx : x ≤ 1000000000) (hm : m ≤ 1000000000) :
    Calls Try.prog 44 #[.int .i64 x, .int .i64 m] w fun e w' => e = .returned (.tuple #[.int .i64 (pc 32 (x &&& m) % 2 : Nat), .bool true]) ∧ w = w' := by
  have hb : bits .and .i64 (x : Int) (m : Int) = ((x &&& m : Nat) : Int) := i64_and _ _ (by omega) (by omega)
  have hlt : x &&& m < 2 ^ 32 := Nat.and_lt_two_pow _ (by omega)
  generalize x &&& m = v at *
  go_enter Try.func44, Try.ntmps44
  go_wp2_with (first | (go_at_call 34; refine (btw_yes _ _ _ _ (by omega) (by omega)).mono ?_; rintro e w' ⟨rfl, rfl⟩) | (go_at_call 37; refine (ones _ _ (by omega)).mono ?_; rintro e w' ⟨rfl, rfl⟩))
  go_ret2
  exact ⟨rfl, rfl⟩
end Go.Proofs.Ytfdjjaogmnagaaa.Bt
