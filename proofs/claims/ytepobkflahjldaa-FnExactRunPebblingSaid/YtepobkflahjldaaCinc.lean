/- The program's test that a list increases. -/
import Derived.Test.YtepobkflahjldaaConlyS
namespace Go.Proofs.Ytepobkflahjldaa.Tr
open Go.RowKit
def upB (s : List Int) (n : Nat) : Bool := (List.range n).all fun i => decide (i = 0) || decide (s.getD (i - 1) 0 < s.getD i 0)
theorem upB_succ (s : List Int) (j : Nat) : upB s (j + 1) = (upB s j && (decide (j = 0) || decide (s.getD (j - 1) 0 < s.getD j 0))) := by
  simp [upB, List.range_succ]
theorem upB_no (s : List Int) (j n : Nat) (hj : j < n) (h : (decide (j = 0) || decide (s.getD (j - 1) 0 < s.getD j 0)) = false) : upB s n = false := by
  unfold upB
  rw [List.all_eq_false]
  exact ⟨j, by simpa using hj, by simpa using h⟩
set_option maxHeartbeats 1000000 in
theorem inc_i (a : Option Addr) (c : Nat) (xs : List Int) (w : World) (hn : xs.length ≤ 1048576) (hr : Row w a xs) :
    Calls Try.prog 42 #[.slice a xs.length c] w (Bb (upB xs xs.length) w) := by
  have HC := Lib.hid hr
  have HS := Lib.hid (upB_succ xs)
  have HN := Lib.hid (fun j hj => upB_no xs j xs.length hj)
  have H1 := Lib.hid (show upB xs 1 = true from rfl)
  have H0 := Lib.hid (show upB xs 0 = true from rfl)
  clear hr
  unfold Row at HC
  obtain ⟨r, hrr⟩ : ∃ r, upB xs xs.length = r := ⟨_, rfl⟩
  rw [hrr] at HN ⊢
  have HR := Lib.hid hrr
  clear hrr
  generalize hN : xs.length = N at *
  go_enter Try.func42, Try.ntmps42
  go_wp2
  go_loopw [3] (fun i wr => ∃ j q : Nat, 1 ≤ j ∧ (j ≤ N ∨ j = 1) ∧ i = .int .i64 j ∧ wr = w.drewN q ∧ Hid (upB xs j = true)) (fun i _ => N - (intOf i).toNat)
  case atStart => exact ⟨1, 0, Nat.le_refl _, .inr rfl, rfl, rfl, H1⟩
  case round =>
    obtain ⟨j, q, hj1, hj, rfl, rfl, hx⟩ := hrel
    by_cases hlt : j < N
    · obtain ⟨b, off, rfl, c1, hb⟩ := HC.out j hlt
      obtain ⟨k, rfl⟩ : ∃ k, j = k + 1 := ⟨j - 1, by omega⟩
      obtain ⟨b1, off1, hab, c2, _⟩ := HC.out k (by omega)
      injection hab with hab
      injection hab with e1 e2
      subst e1 e2
      have hs := Lib.hid (HS.out (k + 1))
      have hno := Lib.hid (HN.out (k + 1) hlt)
      have ej : k + 1 - 1 = k := rfl
      rw [ej] at hs hno
      clear ej
      generalize xs.getD (k + 1) 0 = u at *
      generalize xs.getD k 0 = t at *
      have e9 : IntKind.i64.wrap ((k : Int) + 1 - 1) = (k : Int) := by rw [IntWalk.i64_in _ (by omega)]; omega
      by_cases hlt2 : t < u
      · have hnew : Hid (upB xs (k + 1 + 1) = true) := by show _ = _; rw [hs.out, hx.out, decide_eq_true hlt2]; simp
        have hge : ¬ u ≤ t := by omega
        clear hs hno
        go_wp2
        go_quiet (fail)
        go_wp2
        go_roundw
        case rel => exact ⟨k + 1 + 1, _, by omega, by omega, by go_num, rfl, hnew⟩
        case measure => simp [intOf] <;> omega
      · have e : r = false := hno.out (by rw [decide_eq_false hlt2]; simp)
        have hge : u ≤ t := by omega
        clear hs hno hx HR HN HS H1 H0
        subst e
        go_wp2
        go_quiet (fail)
        go_wp2
        go_ret
        exact ⟨rfl, by first | exact below_drewN _ (Below.refl _ _) | exact below_drewN _ (below_drewN _ (Below.refl _ _))⟩
    · have e : r = true := by
        rcases hj with hj | hj
        · have e : j = N := by omega
          subst e
          exact HR.out.symm.trans hx.out
        · subst hj
          by_cases hz : N = 0
          · subst hz; exact HR.out.symm.trans H0.out
          · have e : 1 = N := by omega
            subst e
            exact HR.out.symm.trans hx.out
      clear HR HN HS hx H1 H0
      subst e
      go_wp2
      go_ret
      exact ⟨rfl, by first | exact below_drewN _ (Below.refl _ _) | exact below_drewN _ (below_drewN _ (Below.refl _ _))⟩
end Go.Proofs.Ytepobkflahjldaa.Tr
