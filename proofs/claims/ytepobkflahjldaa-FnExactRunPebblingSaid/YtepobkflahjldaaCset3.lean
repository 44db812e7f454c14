/- Sets of numbers from 0 to a bound: both tests. -/
import Derived.Test.YtepobkflahjldaaCinc
import Derived.Test.YtepobkflahjldaaCbtg
import Derived.IntWalk
namespace Go.Proofs.Ytepobkflahjldaa.Tr
open Go.RowKit
def isR (H x : Int) : Bool := decide (0 ≤ x) && decide (x ≤ H)
def riseH (H : Int) (s : List Int) (j : Nat) : Bool := (List.range j).all fun i => isR H (s.getD i 0) && (decide (i = 0) || decide (s.getD (i - 1) 0 < s.getD i 0))
theorem riseH_succ (H : Int) (s : List Int) (j : Nat) : riseH H s (j + 1) = (riseH H s j && (isR H (s.getD j 0) && (decide (j = 0) || decide (s.getD (j - 1) 0 < s.getD j 0)))) := by
  simp [riseH, List.range_succ]
theorem riseH_no (H : Int) (s : List Int) (j n : Nat) (hj : j < n) (h : (isR H (s.getD j 0) && (decide (j = 0) || decide (s.getD (j - 1) 0 < s.getD j 0))) = false) : riseH H s n = false := by
  unfold riseH
  rw [List.all_eq_false]
  exact ⟨j, by simpa using hj, by simpa using h⟩
theorem riseH_at {H : Int} {s : List Int} {n : Nat} (h : riseH H s n = true) (j : Nat) (hj : j < n) : 0 ≤ s.getD j 0 ∧ s.getD j 0 ≤ H := by
  unfold riseH at h
  have := List.all_eq_true.1 h j (by simpa using hj)
  rw [Bool.and_eq_true] at this
  have h1 := this.1
  unfold isR at h1
  rw [Bool.and_eq_true, decide_eq_true_eq, decide_eq_true_eq] at h1
  exact h1
def allR (H : Int) (s : List Int) (j : Nat) : Bool := (List.range j).all fun i => isR H (s.getD i 0)
theorem allR_succ (H : Int) (s : List Int) (j : Nat) : allR H s (j + 1) = (allR H s j && isR H (s.getD j 0)) := by simp [allR, List.range_succ]
theorem allR_no (H : Int) (s : List Int) (j n : Nat) (hj : j < n) (h : isR H (s.getD j 0) = false) : allR H s n = false := by
  unfold allR
  rw [List.all_eq_false]
  exact ⟨j, by simpa using hj, by simpa using h⟩
theorem riseH_split (H : Int) (s : List Int) : ∀ j, riseH H s j = (allR H s j && upB s j)
  | 0 => rfl
  | j + 1 => by
    rw [riseH_succ, riseH_split H s j, allR_succ, upB_succ]
    cases allR H s j <;> cases upB s j <;> cases isR H (s.getD j 0) <;> cases (decide (j = 0) || decide (s.getD (j - 1) 0 < s.getD j 0)) <;> rfl
set_option maxHeartbeats 1000000 in
theorem riseH_s (H : Int) (a : Option Addr) (c : Nat) (xs : List Int) (w : World) (hn : xs.length ≤ 1048576) (hr : Row w a xs) :
    Calls Try.prog 36 #[.slice a xs.length c, .int .i64 0, .int .i64 H] w (Bb (riseH H xs xs.length) w) := by
  have HC := Lib.hid hr
  have HS := Lib.hid (riseH_succ H xs)
  have HN := Lib.hid (fun j hj => riseH_no H xs j xs.length hj)
  clear hr
  unfold Row at HC
  obtain ⟨r, hrr⟩ : ∃ r, riseH H xs xs.length = r := ⟨_, rfl⟩
  rw [hrr] at HN ⊢
  have HR := Lib.hid hrr
  clear hrr
  generalize hN : xs.length = N at *
  go_enter Try.func36, Try.ntmps36
  go_wp2
  go_loopw [7] (fun i wr => ∃ j q : Nat, j ≤ N ∧ i = .int .i64 j ∧ wr = w.drewN q ∧ Hid (riseH H xs j = true)) (fun i _ => N - (intOf i).toNat)
  case atStart => exact ⟨0, 0, Nat.zero_le _, rfl, rfl, Lib.hid rfl⟩
  case round =>
    obtain ⟨j, q, hj, rfl, rfl, hx⟩ := hrel
    by_cases hlt : j < N
    · obtain ⟨b, off, rfl, c1, hb⟩ := HC.out j hlt
      have hs := Lib.hid (HS.out j)
      have hno := Lib.hid (HN.out j hlt)
      have hI := Lib.hid (fun n => (in_g (xs.getD j 0) 0 H (w.drewN (q + n))).mono (R' := fun e w' => e = .returned (.bool (isR H (xs.getD j 0))) ∧ ∃ m, w' = w.drewN (q + m)) fun e w' ⟨he, hw⟩ => ⟨he, n, hw.symm⟩)
      cases j with
      | zero =>
        have c3 : w.cell? ⟨b, off, none⟩ = some (.int .i64 (xs.getD 0 0)) := c1
        have e0 : ((0 : Nat) : Int) = 0 := rfl
        rw [e0]
        clear c1 e0
        generalize xs.getD 0 0 = u at *
        cases hb : isR H u
        · have e : r = false := hno.out (by rw [hb]; rfl)
          rw [hb] at hI
          clear hs hno hx HR HN HS hb
          subst e
          go_wp2
          go_quiet (exact hI.out _)
          go_wp2
          go_ret
          exact ⟨rfl, by first | exact below_drewN _ (Below.refl _ _) | exact below_drewN _ (below_drewN _ (Below.refl _ _))⟩
        · have hnew : Hid (riseH H xs (0 + 1) = true) := by show _ = _; rw [hs.out, hx.out, hb]; rfl
          rw [hb] at hI
          clear hs hno hb
          go_wp2
          go_quiet (exact hI.out _)
          go_wp2
          go_roundw
          case rel => exact ⟨0 + 1, _, by omega, rfl, rfl, hnew⟩
          case measure => simp [intOf] <;> omega
      | succ j =>
        obtain ⟨b1, off1, hab, c2, _⟩ := HC.out j (by omega)
        injection hab with hab
        injection hab with e1 e2
        subst e1 e2
        have ej : j + 1 - 1 = j := rfl
        rw [ej] at hs hno
        clear ej
        generalize xs.getD (j + 1) 0 = u at *
        generalize xs.getD j 0 = t at *
        cases hb : isR H u
        · have e : r = false := hno.out (by rw [hb]; rfl)
          rw [hb] at hI
          clear hs hno hx HR HN HS hb
          subst e
          go_wp2
          go_quiet (exact hI.out _)
          go_wp2
          go_ret
          exact ⟨rfl, by first | exact below_drewN _ (Below.refl _ _) | exact below_drewN _ (below_drewN _ (Below.refl _ _))⟩
        · rw [hb] at hI
          by_cases hlt2 : t < u
          · have hnew : Hid (riseH H xs (j + 1 + 1) = true) := by show _ = _; rw [hs.out, hx.out, hb, decide_eq_true hlt2]; simp
            have hge : ¬ u ≤ t := by omega
            have hgt : (0 : Int) < (j : Int) + 1 := by omega
            have e9 : IntKind.i64.wrap ((j : Int) + 1 - 1) = (j : Int) := by rw [IntWalk.i64_in _ (by omega)]; omega
            clear hs hno hb
            go_wp2
            go_quiet (exact hI.out _)
            go_wp2
            go_roundw
            case rel => exact ⟨j + 1 + 1, _, by omega, by go_num, rfl, hnew⟩
            case measure => simp [intOf] <;> omega
          · have e : r = false := hno.out (by rw [hb, decide_eq_false hlt2]; simp)
            have hge : u ≤ t := by omega
            have hgt : (0 : Int) < (j : Int) + 1 := by omega
            have e9 : IntKind.i64.wrap ((j : Int) + 1 - 1) = (j : Int) := by rw [IntWalk.i64_in _ (by omega)]; omega
            clear hs hno hx HR HN HS hb
            subst e
            go_wp2
            go_quiet (exact hI.out _)
            go_wp2
            go_ret
            exact ⟨rfl, by first | exact below_drewN _ (Below.refl _ _) | exact below_drewN _ (below_drewN _ (Below.refl _ _))⟩
    · have e : j = N := by omega
      subst e
      have e : r = true := HR.out.symm.trans hx.out
      clear HR HN HS hx
      subst e
      go_wp2
      go_ret
      exact ⟨rfl, by first | exact below_drewN _ (Below.refl _ _) | exact below_drewN _ (below_drewN _ (Below.refl _ _))⟩
end Go.Proofs.Ytepobkflahjldaa.Tr
