/- Contract of math/bits.OnesCount64 at every number: the sum of its 64 bits. -/
import Derived.Test.YtfdjjaogmnagaaaCbits
import Derived.Test.YtfdjjaogmnagaaaPlainBits64
namespace Go.Proofs.Ytfdjjaogmnagaaa.Bt
open Go.RowKit
theorem ones_val64 (x : Nat) (hx : x < 18446744073709551616) : o7 (o6 (o5 (o4 (o3 (o2 (o1 (x : Int))))))) = ((pc 64 x : Nat) : Int) := by
  obtain ⟨s1, s2, s3, s4, s5, s6, h1, b1, h2, b2, b23, h3, b3, h4, b4, h5, b5, h6, b6, h7⟩ := chain64 x hx
  have e1 : o1 (x : Int) = (s1 : Int) := by
    unfold o1
    rw [show (6148914691236517205 : Int) = ((6148914691236517205 : Nat) : Int) from rfl, show ((x : Int) / 2) = (x : Int) / (2 : Nat) from rfl, half x _ 2 hx (by omega), u64_and_nat x _ hx (by omega), ← Int.natCast_add, ← h1]
    exact u64_nat _ b1
  have e2 : o2 (s1 : Int) = (s2 : Int) := by
    unfold o2
    rw [show (3689348814741910323 : Int) = ((3689348814741910323 : Nat) : Int) from rfl, show ((s1 : Int) / 4) = (s1 : Int) / (4 : Nat) from rfl, half s1 _ 4 b1 (by omega), u64_and_nat s1 _ b1 (by omega), ← Int.natCast_add, ← h2]
    exact u64_nat _ b2
  have e3 : o3 (s2 : Int) = (s3 : Int) := by
    unfold o3
    rw [show (1085102592571150095 : Int) = ((1085102592571150095 : Nat) : Int) from rfl, show ((s2 : Int) / 16 + s2) = ((s2 / 16 + s2 : Nat) : Int) by simp, u64_nat _ b23, u64_and_nat _ _ b23 (by omega), ← h3]
  have e4 : o4 (s3 : Int) = (s4 : Int) := by
    unfold o4
    rw [show ((s3 : Int) + s3 / 256) = ((s3 + s3 / 256 : Nat) : Int) by simp, ← h4]
    exact u64_nat _ b4
  have e5 : o5 (s4 : Int) = (s5 : Int) := by
    unfold o5
    rw [show ((s4 : Int) + s4 / 65536) = ((s4 + s4 / 65536 : Nat) : Int) by simp, ← h5]
    exact u64_nat _ b5
  have e6 : o6 (s5 : Int) = (s6 : Int) := by
    unfold o6
    rw [show ((s5 : Int) + s5 / 4294967296) = ((s5 + s5 / 4294967296 : Nat) : Int) by simp, ← h6]
    exact u64_nat _ (by omega)
  rw [e1, e2, e3, e4, e5, e6]
  unfold o7
  clear h1 h2 h3 h4 h5 h6 e1 e2 e3 e4 e5 e6 b23 b1 b2 b3 b4 b5
  rw [IntWalk.wrap64_in _ (by omega), show (127 : Int) = ((127 : Nat) : Int) from rfl, i64_and _ _ b6 (by omega), h7]
theorem ones64 (x : Nat) (w : World) (hx : x < 18446744073709551616) :
    Calls Try.prog 37 #[.int .u64 x] w fun e w' => e = .returned (.int .i64 (pc 64 x : Nat)) ∧ w = w' := by
  have hv := ones_val64 x hx
  have HV := Lib.hid hv
  clear hv
  go_enter Try.func37, Try.ntmps37
  go_wp2
  go_ret
  rw [← HV.out]
  exact ⟨rfl, rfl⟩
end Go.Proofs.Ytfdjjaogmnagaaa.Bt
