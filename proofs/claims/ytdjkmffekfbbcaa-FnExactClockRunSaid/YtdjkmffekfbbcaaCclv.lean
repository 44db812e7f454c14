/- Both ClockRuns. -/
import Derived.Test.YtdjkmffekfbbcaaClkr
namespace Go.Proofs.Ytdjkmffekfbbcaa.Ck
open Go.RowKit
def ckL (n : Int) (xs : List (Int × Int)) : List Int := if ckOk n xs = true then (ckR n.toNat xs xs.length).fl else []
def ckB (n : Int) (xs : List (Int × Int)) : Int := if ckOk n xs = true then (ckR n.toNat xs xs.length).b else 0
theorem ckOk_yes {n : Int} {xs : List (Int × Int)} (h : ckOk n xs = true) : 1 ≤ n ∧ n ≤ 16 ∧ Ac.okT xs = true := by
  unfold ckOk at h
  rw [Bool.and_eq_true] at h
  have h1 := of_decide_eq_true h.1
  exact ⟨h1.1, h1.2, h.2⟩
theorem ckL_len (n : Int) (xs : List (Int × Int)) (hl : xs.length ≤ 1048576) : (ckL n xs).length ≤ 1048576 := by
  unfold ckL
  split
  · rw [ckR_fl]; exact hl
  · simp
set_option maxRecDepth 100000 in
set_option maxHeartbeats 2000000 in
theorem run_no_i (n : Int) (a : Option Addr) (c : Nat) (xs : List (Int × Int)) (w : World) (hl : xs.length ≤ 1048576) (hok : ckOk n xs = false) (hr : Ac.RowA w a xs) :
    Calls Try.prog 10 #[.int .i64 n, .slice a xs.length c] w (ResLI [] 0 false w) := by
  by_cases hn : 1 ≤ n ∧ n ≤ 16
  · have ho : Ac.okT xs = false := by unfold ckOk at hok; rw [decide_eq_true hn, Bool.true_and] at hok; exact hok
    have HB := Lib.hid (Tr.btw_yes n 1 16 w hn.1 hn.2)
    have HV := Lib.hid (Ac.valid_i a c xs w hl hr)
    rw [ho] at HV
    clear hr hok ho hn hl
    generalize xs.length = N at *
    go_enter Try.func10, Try.ntmps10
    go_wp2_with (go_at_call 32; (with_reducible refine HB.out.mono ?_); rintro e w' ⟨rfl, rfl⟩)
    refine HV.out.mono ?_; rintro e w1 ⟨rfl, b1⟩
    go_wp2
    go_ret3
    exact ⟨_, rfl, Own.nil _ _, b1⟩
  · have HB := Lib.hid (Tr.btw_no n 1 16 w hn)
    clear hr hok hn hl
    generalize xs.length = N at *
    go_enter Try.func10, Try.ntmps10
    go_wp2_with (go_at_call 32; (with_reducible refine HB.out.mono ?_); rintro e w' ⟨rfl, rfl⟩)
    first | go_ret3 | (go_wp2; go_ret3)
    exact ⟨_, rfl, Own.nil _ _, Below.refl _ _⟩
theorem run_i (n : Int) (a : Option Addr) (c : Nat) (xs : List (Int × Int)) (w : World) (hl : xs.length ≤ 1048576) (hr : Ac.RowA w a xs) :
    Calls Try.prog 10 #[.int .i64 n, .slice a xs.length c] w (ResLI (ckL n xs) (ckB n xs) (ckOk n xs) w) := by
  unfold ckL ckB
  cases hok : ckOk n xs
  · exact run_no_i n a c xs w hl hok hr
  · obtain ⟨h1, h2, ho⟩ := ckOk_yes hok
    have h3 := run_yes_i n.toNat (by omega) (by omega) a c xs w ho hr
    rw [show ((n.toNat : Nat) : Int) = n by omega] at h3
    exact h3
set_option maxRecDepth 100000 in
set_option maxHeartbeats 2000000 in
theorem run_no_s (n : Int) (a : Option Addr) (c : Nat) (xs : List (Int × Int)) (w : World) (hl : xs.length ≤ 1048576) (hok : ckOk n xs = false) (hr : Ac.RowA w a xs) :
    Calls Try.prog 8 #[.int .i64 n, .slice a xs.length c] w (ResLI [] 0 false w) := by
  by_cases hn : 1 ≤ n ∧ n ≤ 16
  · have ho : Ac.okT xs = false := by unfold ckOk at hok; rw [decide_eq_true hn, Bool.true_and] at hok; exact hok
    have HB := Lib.hid (Tr.in_yes n 1 16 w hn.1 hn.2)
    have HV := Lib.hid (Ac.is_s a c xs w hl hr)
    rw [ho] at HV
    clear hr hok ho hn hl
    generalize xs.length = N at *
    go_enter Try.func8, Try.ntmps8
    go_wp2_with (go_at_call 29; (with_reducible refine HB.out.mono ?_); rintro e w' ⟨rfl, rfl⟩)
    refine HV.out.mono ?_; rintro e w1 ⟨rfl, rfl⟩
    go_wp2
    go_ret3
    exact ⟨_, rfl, Own.nil _ _, Below.refl _ _⟩
  · have HB := Lib.hid (Tr.in_no n 1 16 w hn)
    clear hr hok hn hl
    generalize xs.length = N at *
    go_enter Try.func8, Try.ntmps8
    go_wp2_with (go_at_call 29; (with_reducible refine HB.out.mono ?_); rintro e w' ⟨rfl, rfl⟩)
    first | go_ret3 | (go_wp2; go_ret3)
    exact ⟨_, rfl, Own.nil _ _, Below.refl _ _⟩
theorem run_s (n : Int) (a : Option Addr) (c : Nat) (xs : List (Int × Int)) (w : World) (hl : xs.length ≤ 1048576) (hr : Ac.RowA w a xs) :
    Calls Try.prog 8 #[.int .i64 n, .slice a xs.length c] w (ResLI (ckL n xs) (ckB n xs) (ckOk n xs) w) := by
  unfold ckL ckB
  cases hok : ckOk n xs
  · exact run_no_s n a c xs w hl hok hr
  · obtain ⟨h1, h2, ho⟩ := ckOk_yes hok
    have h3 := run_yes_s n.toNat (by omega) (by omega) a c xs w ho hr
    rw [show ((n.toNat : Nat) : Int) = n by omega] at h3
    exact h3
end Go.Proofs.Ytdjkmffekfbbcaa.Ck
