/- Contracts of the two loops for a greatest common divisor: both return Nat.gcd of their arguments, for 0 ≤ a, 1 ≤ b. The one with a parallel assignment may draw. -/
import Derived.Test.YtdilbogjihafoaaDoorCBase
namespace Go.Proofs.YtdilbogjihafoaaDoor.Gcd
open Go.RowKit
theorem spec_gcd (a b : Nat) (w : World) (ha : a ≤ 1000000000) (hb : b ≤ 1000000000) :
    Calls Tryd.prog 65 #[.int .i64 a, .int .i64 b] w fun e w' => e = .returned (.int .i64 (Nat.gcd a b : Nat)) ∧ w = w' := by
  go_enter Tryd.func65, Tryd.ntmps65
  go_wp2
  go_loop [0, 1, 5] (fun x y _ => ∃ p q : Nat, p ≤ 1000000000 ∧ q ≤ 1000000000 ∧ x = .int .i64 p ∧ y = .int .i64 q ∧ Hid (Nat.gcd p q = Nat.gcd a b)) (fun x _ _ => (intOf x).toNat)
  case atStart => exact ⟨a, b, ha, hb, rfl, rfl, Lib.hid rfl⟩
  case round =>
    obtain ⟨p, q, hp, hq, rfl, rfl, hg⟩ := hrel
    by_cases h0 : 0 < p
    · have hm : q % p < p := Nat.mod_lt _ h0
      have hm2 : q % p ≤ q := Nat.mod_le _ _
      go_wp2
      go_round
      case rel => exact ⟨q % p, p, by omega, by omega, by go_num, rfl, Lib.hid (by rw [← hg.out, Nat.gcd_rec p q])⟩
      case measure => simp [intOf]; omega
    · have hp0 : ¬ (0 : Int) < p := by omega
      go_wp2
      go_ret
      refine ⟨ret_i64 ?_, rfl⟩
      have : p = 0 := by omega
      subst this
      rw [← hg.out, Nat.gcd_zero_left]
theorem impl_gcd (a b : Nat) (w : World) (ha : a ≤ 1000000000) (hb : b ≤ 1000000000) :
    Calls Tryd.prog 34 #[.int .i64 a, .int .i64 b] w fun e w' => e = .returned (.int .i64 (Nat.gcd a b : Nat)) ∧ ∃ n, w' = w.drewN n := by
  go_enter Tryd.func34, Tryd.ntmps34
  go_wp2
  go_loopw [0, 1] (fun x y wr => ∃ p q : Nat, p ≤ 1000000000 ∧ q ≤ 1000000000 ∧ x = .int .i64 p ∧ y = .int .i64 q ∧ Hid (Nat.gcd p q = Nat.gcd a b) ∧ ∃ n, wr = w.drewN n) (fun _ y _ => (intOf y).toNat)
  case atStart => exact ⟨a, b, ha, hb, rfl, rfl, Lib.hid rfl, 0, rfl⟩
  case round =>
    obtain ⟨p, q, hp, hq, rfl, rfl, hg, n, rfl⟩ := hrel
    by_cases h0 : 0 < q
    · have hm : p % q < q := Nat.mod_lt _ h0
      have hm2 : p % q ≤ p := Nat.mod_le _ _
      have hq1 : (1 : Int) ≤ q := by omega
      have hne : ((q : Int) != 0) = true := by simp; omega
      go_wp2
      go_quiet (fail)
      go_wp2
      go_roundw
      case rel => exact ⟨q, p % q, by omega, by omega, rfl, by go_num, Lib.hid (by rw [← hg.out, Nat.gcd_comm p q, Nat.gcd_rec q p, Nat.gcd_comm]), _, World.drewN_drewN ..⟩
      case measure => simp [intOf]; omega
    · have hne : ((q : Int) != 0) = false := by simp; omega
      go_wp2
      go_ret
      refine ⟨ret_i64 ?_, n, rfl⟩
      have : q = 0 := by omega
      subst this
      rw [← hg.out, Nat.gcd_zero_right]
theorem lratio_yes (a b : Int) (w : World) (h0 : 0 ≤ a) (h1 : a ≤ 1000000000) (h2 : 1 ≤ b) (h3 : b ≤ 1000000000) :
    Calls Tryd.prog 50 #[.int .i64 a, .int .i64 b] w fun e w' => e = .returned (.bool true) ∧ w = w' := by
  go_enter Tryd.func50, Tryd.ntmps50
  go_wp2
  go_ret
  exact ⟨rfl, rfl⟩
theorem iratio_yes (a b : Int) (w : World) (h0 : 0 ≤ a) (h1 : a ≤ 1000000000) (h2 : 1 ≤ b) (h3 : b ≤ 1000000000) :
    Calls Tryd.prog 33 #[.int .i64 a, .int .i64 b] w fun e w' => e = .returned (.bool true) ∧ w = w' := by
  go_enter Tryd.func33, Tryd.ntmps33
  go_wp2
  go_ret
  exact ⟨rfl, rfl⟩
theorem impl_yes (a b : Nat) (w : World) (h1 : a ≤ 1000000000) (h2 : 1 ≤ b) (h3 : b ≤ 1000000000) :
    Calls Tryd.prog 12 #[.int .i64 a, .int .i64 b] w fun e w' => e = .returned (.tuple #[.int .i64 ((a : Int) / (Nat.gcd a b : Nat)), .int .i64 ((b : Int) / (Nat.gcd a b : Nat)), .bool true]) ∧ ∃ n, w' = w.drewN n := by
  have hg : 0 < Nat.gcd a b := Nat.gcd_pos_of_pos_right _ (by omega)
  have hg1 : (1 : Int) ≤ (Nat.gcd a b : Nat) := by omega
  go_enter Tryd.func12, Tryd.ntmps12
  go_wp2_with (first | (go_at_call 33; refine (iratio_yes _ _ _ (by omega) (by omega) (by omega) (by omega)).mono ?_; rintro e w' ⟨rfl, rfl⟩) | (go_at_call 34; refine (impl_gcd _ _ _ (by omega) (by omega)).mono ?_; rintro e w' ⟨rfl, n, rfl⟩))
  go_quiet (fail)
  go_wp2
  go_ret3
  have d1 := div_bd a (Nat.gcd a b) (by omega)
  have d2 := div_bd b (Nat.gcd a b) (by omega)
  refine ⟨ret_iib (IntWalk.wrap64_in _ (by omega)) (IntWalk.wrap64_in _ (by omega)), _, World.drewN_drewN ..⟩
theorem impl_no (a0 a1 : Int) (w : World) (h : ¬ (0 ≤ a0 ∧ a0 ≤ 1000000000 ∧ 1 ≤ a1 ∧ a1 ≤ 1000000000)) :
    Calls Tryd.prog 12 #[.int .i64 a0, .int .i64 a1] w fun e w' => e = .returned (.tuple #[.int .i64 0, .int .i64 0, .bool false]) ∧ w = w' := by
  by_cases h0 : 0 ≤ a0
  · by_cases h1 : a0 ≤ 1000000000
    · by_cases h2 : 1 ≤ a1
      · have h3 : ¬ a1 ≤ 1000000000 := by omega
        clear h
        go_enter Tryd.func12, Tryd.ntmps12
        go_wp2
        go_ret3
        exact ⟨rfl, rfl⟩
      · clear h
        go_enter Tryd.func12, Tryd.ntmps12
        go_wp2
        go_ret3
        exact ⟨rfl, rfl⟩
    · clear h
      go_enter Tryd.func12, Tryd.ntmps12
      go_wp2
      go_ret3
      exact ⟨rfl, rfl⟩
  · clear h
    go_enter Tryd.func12, Tryd.ntmps12
    go_wp2
    go_ret3
    exact ⟨rfl, rfl⟩
end Go.Proofs.YtdilbogjihafoaaDoor.Gcd
