/- Sets of numbers from 0 to a bound: both tests. -/
import Derived.Test.YtlakekeolpepbaaConlyI
import Derived.IntWalk
namespace Go.Proofs.Ytlakekeolpepbaa.Tr
open Go.RowKit
def isR (H x : Int) : Bool := decide (0 ≤ x) && decide (x ≤ H)
def riseH (H : Int) (s : List Int) (j : Nat) : Bool := (List.range j).all fun i => isR H (s.getD i 0) && (decide (i = 0) || decide (s.getD (i - 1) 0 < s.getD i 0))
theorem riseH_succ (H : Int) (s : List Int) (j : Nat) : riseH H s (j + 1) = (riseH H s j && (isR H (s.getD j 0) && (decide (j = 0) || decide (s.getD (j - 1) 0 < s.getD j 0)))) := by
  simp [riseH, List.range_succ]
theorem riseH_no (H : Int) (s : List Int) (j n : Nat) (hj : j < n) (h : (isR H (s.getD j 0) && (decide (j = 0) || decide (s.getD (j - 1) 0 < s.getD j 0))) = false) : riseH H s n = false := by
  unfold riseH
  rw [List.all_eq_false]
  exact ⟨j, by simpa using hj, by simpa using h⟩
theorem riseH_at {H : Int} {s : List Int} {n : Nat} (h : riseH H s n = true) (j : Nat) (hj : j < n) : 0 ≤ s.getD j 0 ∧ s.getD j 0 ≤ H := by
  unfold riseH at h
  have := List.all_eq_true.1 h j (by simpa using hj)
  rw [Bool.and_eq_true] at this
  have h1 := this.1
  unfold isR at h1
  rw [Bool.and_eq_true, decide_eq_true_eq, decide_eq_true_eq] at h1
  exact h1
def allR (H : Int) (s : List Int) (j : Nat) : Bool := (List.range j).all fun i => isR H (s.getD i 0)
theorem allR_succ (H : Int) (s : List Int) (j : Nat) : allR H s (j + 1) = (allR H s j && isR H (s.getD j 0)) := by simp [allR, List.range_succ]
theorem allR_no (H : Int) (s : List Int) (j n : Nat) (hj : j < n) (h : isR H (s.getD j 0) = false) : allR H s n = false := by
  unfold allR
  rw [List.all_eq_false]
  exact ⟨j, by simpa using hj, by simpa using h⟩
theorem riseH_split (H : Int) (s : List Int) : ∀ j, riseH H s j = (allR H s j && upB s j)
  | 0 => rfl
  | j + 1 => by
    rw [riseH_succ, riseH_split H s j, allR_succ, upB_succ]
    cases allR H s j <;> cases upB s j <;> cases isR H (s.getD j 0) <;> cases (decide (j = 0) || decide (s.getD (j - 1) 0 < s.getD j 0)) <;> rfl
theorem in_g (x lo hi : Int) (w : World) : Calls Try.prog 43 #[.int .i64 x, .int .i64 lo, .int .i64 hi] w (Bl (decide (lo ≤ x) && decide (x ≤ hi)) w) := by
  by_cases h : lo ≤ x
  · go_enter Try.func43, Try.ntmps43
    go_wp2
    go_ret
    exact ⟨ret_bool (by simp [h]), rfl⟩
  · go_enter Try.func43, Try.ntmps43
    go_wp2
    go_ret
    exact ⟨ret_bool (by simp; omega), rfl⟩
theorem btw_g (x lo hi : Int) (w : World) : Calls Try.prog 45 #[.int .i64 x, .int .i64 lo, .int .i64 hi] w (Bl (decide (lo ≤ x) && decide (x ≤ hi)) w) := by
  by_cases h : lo ≤ x
  · go_enter Try.func45, Try.ntmps45
    go_wp2
    go_ret
    exact ⟨ret_bool (by simp [h]), rfl⟩
  · go_enter Try.func45, Try.ntmps45
    go_wp2
    go_ret
    exact ⟨ret_bool (by simp; omega), rfl⟩
set_option maxHeartbeats 1000000 in
theorem riseH_s (H : Int) (a : Option Addr) (c : Nat) (xs : List Int) (w : World) (hn : xs.length ≤ 1048576) (hr : Row w a xs) :
    Calls Try.prog 27 #[.slice a xs.length c, .int .i64 0, .int .i64 H] w (Bb (riseH H xs xs.length) w) := by
  have HC := Lib.hid hr
  have HS := Lib.hid (riseH_succ H xs)
  have HN := Lib.hid (fun j hj => riseH_no H xs j xs.length hj)
  clear hr
  unfold Row at HC
  obtain ⟨r, hrr⟩ : ∃ r, riseH H xs xs.length = r := ⟨_, rfl⟩
  rw [hrr] at HN ⊢
  have HR := Lib.hid hrr
  clear hrr
  generalize hN : xs.length = N at *
  go_enter Try.func27, Try.ntmps27
  go_wp2
  go_loopw [7] (fun i wr => ∃ j q : Nat, j ≤ N ∧ i = .int .i64 j ∧ wr = w.drewN q ∧ Hid (riseH H xs j = true)) (fun i _ => N - (intOf i).toNat)
  case atStart => exact ⟨0, 0, Nat.zero_le _, rfl, rfl, Lib.hid rfl⟩
  case round =>
    obtain ⟨j, q, hj, rfl, rfl, hx⟩ := hrel
    by_cases hlt : j < N
    · obtain ⟨b, off, rfl, c1, hb⟩ := HC.out j hlt
      have hs := Lib.hid (HS.out j)
      have hno := Lib.hid (HN.out j hlt)
      have hI := Lib.hid (fun n => (in_g (xs.getD j 0) 0 H (w.drewN (q + n))).mono (R' := fun e w' => e = .returned (.bool (isR H (xs.getD j 0))) ∧ ∃ m, w' = w.drewN (q + m)) fun e w' ⟨he, hw⟩ => ⟨he, n, hw.symm⟩)
      cases j with
      | zero =>
        have c3 : w.cell? ⟨b, off, none⟩ = some (.int .i64 (xs.getD 0 0)) := c1
        have e0 : ((0 : Nat) : Int) = 0 := rfl
        rw [e0]
        clear c1 e0
        generalize xs.getD 0 0 = u at *
        cases hb : isR H u
        · have e : r = false := hno.out (by rw [hb]; rfl)
          rw [hb] at hI
          clear hs hno hx HR HN HS hb
          subst e
          go_wp2
          go_quiet (exact hI.out _)
          go_wp2
          go_ret
          exact ⟨rfl, by first | exact below_drewN _ (Below.refl _ _) | exact below_drewN _ (below_drewN _ (Below.refl _ _))⟩
        · have hnew : Hid (riseH H xs (0 + 1) = true) := by show _ = _; rw [hs.out, hx.out, hb]; rfl
          rw [hb] at hI
          clear hs hno hb
          go_wp2
          go_quiet (exact hI.out _)
          go_wp2
          go_roundw
          case rel => exact ⟨0 + 1, _, by omega, rfl, rfl, hnew⟩
          case measure => simp [intOf] <;> omega
      | succ j =>
        obtain ⟨b1, off1, hab, c2, _⟩ := HC.out j (by omega)
        injection hab with hab
        injection hab with e1 e2
        subst e1 e2
        have ej : j + 1 - 1 = j := rfl
        rw [ej] at hs hno
        clear ej
        generalize xs.getD (j + 1) 0 = u at *
        generalize xs.getD j 0 = t at *
        cases hb : isR H u
        · have e : r = false := hno.out (by rw [hb]; rfl)
          rw [hb] at hI
          clear hs hno hx HR HN HS hb
          subst e
          go_wp2
          go_quiet (exact hI.out _)
          go_wp2
          go_ret
          exact ⟨rfl, by first | exact below_drewN _ (Below.refl _ _) | exact below_drewN _ (below_drewN _ (Below.refl _ _))⟩
        · rw [hb] at hI
          by_cases hlt2 : t < u
          · have hnew : Hid (riseH H xs (j + 1 + 1) = true) := by show _ = _; rw [hs.out, hx.out, hb, decide_eq_true hlt2]; simp
            have hge : ¬ u ≤ t := by omega
            have hgt : (0 : Int) < (j : Int) + 1 := by omega
            have e9 : IntKind.i64.wrap ((j : Int) + 1 - 1) = (j : Int) := by rw [IntWalk.i64_in _ (by omega)]; omega
            clear hs hno hb
            go_wp2
            go_quiet (exact hI.out _)
            go_wp2
            go_roundw
            case rel => exact ⟨j + 1 + 1, _, by omega, by go_num, rfl, hnew⟩
            case measure => simp [intOf] <;> omega
          · have e : r = false := hno.out (by rw [hb, decide_eq_false hlt2]; simp)
            have hge : u ≤ t := by omega
            have hgt : (0 : Int) < (j : Int) + 1 := by omega
            have e9 : IntKind.i64.wrap ((j : Int) + 1 - 1) = (j : Int) := by rw [IntWalk.i64_in _ (by omega)]; omega
            clear hs hno hx HR HN HS hb
            subst e
            go_wp2
            go_quiet (exact hI.out _)
            go_wp2
            go_ret
            exact ⟨rfl, by first | exact below_drewN _ (Below.refl _ _) | exact below_drewN _ (below_drewN _ (Below.refl _ _))⟩
    · have e : j = N := by omega
      subst e
      have e : r = true := HR.out.symm.trans hx.out
      clear HR HN HS hx
      subst e
      go_wp2
      go_ret
      exact ⟨rfl, by first | exact below_drewN _ (Below.refl _ _) | exact below_drewN _ (below_drewN _ (Below.refl _ _))⟩
set_option maxHeartbeats 1000000 in
theorem setb_i (a : Option Addr) (c : Nat) (xs : List Int) (L : Nat) (w : World) (hn : xs.length ≤ 1048576) (hL : L ≤ 1048576) (hr : Row w a xs) :
    Calls Try.prog 29 #[.slice a xs.length c, .int .i64 (L : Nat)] w (Bb (riseH ((L : Int) - 1) xs xs.length) w) := by
  have hI := Lib.hid (inc_i a c xs w hn hr)
  rw [riseH_split]
  have HC := Lib.hid (fun (j : Nat) (hj : j < xs.length) => hr j hj)
  have HB := Lib.hid (fun x => btw_g x 0 ((L : Int) - 1) w)
  have HS := Lib.hid (fun j => allR_succ ((L : Int) - 1) xs j)
  have HN := Lib.hid (fun j hj => allR_no ((L : Int) - 1) xs j xs.length hj)
  have HR := Lib.hid (fun x => show (decide ((0 : Int) ≤ x) && decide (x ≤ (L : Int) - 1)) = isR ((L : Int) - 1) x from rfl)
  have H0 := Lib.hid (show allR ((L : Int) - 1) xs 0 = true from rfl)
  clear hr
  generalize upB xs xs.length = q at *
  obtain ⟨r, hrr⟩ : ∃ r, allR ((L : Int) - 1) xs xs.length = r := ⟨_, rfl⟩
  rw [hrr] at HN ⊢
  have HRR := Lib.hid hrr
  clear hrr
  generalize hN : xs.length = N at *
  clear hN
  go_enter Try.func29, Try.ntmps29
  go_wp2
  go_loop [6, 9] (fun _ i => ∃ j : Nat, j ≤ N ∧ i = .int .i64 j ∧ Hid (allR ((L : Int) - 1) xs j = true)) (fun _ i => N - (intOf i).toNat)
  case atStart => exact ⟨0, Nat.zero_le _, rfl, H0⟩
  case round =>
    obtain ⟨j, hj, rfl, hx⟩ := hrel
    by_cases hlt : j < N
    · obtain ⟨b, off, rfl, c1, hb⟩ := HC.out j hlt
      have hs := Lib.hid (HS.out j)
      have hno := Lib.hid (HN.out j hlt)
      have hB := HB.out (xs.getD j 0)
      rw [HR.out] at hB
      have hBB := Lib.hid hB
      clear hB
      generalize xs.getD j 0 = u at *
      cases hb2 : isR ((L : Int) - 1) u
      · have e : r = false := hno.out hb2
        rw [hb2] at hBB
        clear hs hno hx HRR HN HS H0 hI hb2
        subst e
        go_wp2_with (go_at_call 45; (with_reducible refine hBB.out.mono ?_); rintro e w' ⟨rfl, rfl⟩)
        go_ret
        exact ⟨rfl, Below.refl _ _⟩
      · have hnew : Hid (allR ((L : Int) - 1) xs (j + 1) = true) := by show _ = _; rw [hs.out, hx.out, hb2]; rfl
        rw [hb2] at hBB
        clear hs hno hb2
        go_wp2_with (go_at_call 45; (with_reducible refine hBB.out.mono ?_); rintro e w' ⟨rfl, rfl⟩)
        go_round
        case rel => exact ⟨j + 1, by omega, by go_num, hnew⟩
        case measure => simp [intOf] <;> omega
    · have e : j = N := by omega
      subst e
      have e : r = true := HRR.out.symm.trans hx.out
      clear HRR HN HS hx H0 HC HB HR
      subst e
      go_wp2_with (go_at_call 46; (with_reducible refine hI.out.mono ?_); rintro e w1 ⟨rfl, hb1⟩)
      go_ret
      exact ⟨rfl, hb1⟩
def wayB (x : Int) : Bool := decide (1 ≤ x) && decide (x ≤ 6)
theorem wayB_of {x : Int} (h : wayB x = true) : 1 ≤ x ∧ x ≤ 6 := by simpa [wayB] using h
theorem iways_i (x : Int) (w : World) : Calls Try.prog 44 #[.int .i64 x] w (Bl (wayB x) w) := by
  have HB := Lib.hid (btw_g x 1 6)
  unfold wayB
  go_enter Try.func44, Try.ntmps44
  go_wp2_with (go_at_call 45; refine (HB.out _).mono ?_; rintro e w' ⟨rfl, rfl⟩)
  go_ret
  exact ⟨rfl, rfl⟩
theorem ways_s (x : Int) (w : World) : Calls Try.prog 42 #[.int .i64 x] w (Bl (wayB x) w) := by
  have HB := Lib.hid (in_g x 1 6)
  unfold wayB
  go_enter Try.func42, Try.ntmps42
  go_wp2_with (go_at_call 43; refine (HB.out _).mono ?_; rintro e w' ⟨rfl, rfl⟩)
  go_ret
  exact ⟨rfl, rfl⟩
def runB (xs : List Int) (ways : Int) : Bool := okU xs && wayB ways
theorem run_s (a : Option Addr) (c : Nat) (xs : List Int) (ways : Int) (w : World) (hn : xs.length ≤ 1048576) (hr : Row w a xs) : Calls Try.prog 26 #[.slice a xs.length c, .int .i64 ways] w (Bl (runB xs ways) w) := by
  have HU := Lib.hid (uses_s a c xs w hn hr)
  have HW := Lib.hid (ways_s ways w)
  unfold runB
  generalize okU xs = p at *
  generalize wayB ways = q at *
  generalize xs.length = N at *
  cases p
  · go_enter Try.func26, Try.ntmps26
    go_wp2_with (go_at_call 22; (with_reducible refine HU.out.mono ?_); rintro e w' ⟨rfl, rfl⟩)
    go_ret
    exact ⟨rfl, rfl⟩
  · go_enter Try.func26, Try.ntmps26
    go_wp2_with (first | (go_at_call 22; (with_reducible refine HU.out.mono ?_); rintro e w' ⟨rfl, rfl⟩) | (go_at_call 42; (with_reducible refine HW.out.mono ?_); rintro e w' ⟨rfl, rfl⟩))
    go_ret
    exact ⟨rfl, rfl⟩
theorem run_i (a : Option Addr) (c : Nat) (xs : List Int) (ways : Int) (w : World) (hn : xs.length ≤ 1048576) (hr : Row w a xs) : Calls Try.prog 28 #[.slice a xs.length c, .int .i64 ways] w (Bl (runB xs ways) w) := by
  have HU := Lib.hid (uses_i a c xs w hn hr)
  have HW := Lib.hid (iways_i ways w)
  unfold runB
  generalize okU xs = p at *
  generalize wayB ways = q at *
  generalize xs.length = N at *
  cases p
  · go_enter Try.func28, Try.ntmps28
    go_wp2_with (go_at_call 24; (with_reducible refine HU.out.mono ?_); rintro e w' ⟨rfl, rfl⟩)
    go_ret
    exact ⟨rfl, rfl⟩
  · go_enter Try.func28, Try.ntmps28
    go_wp2_with (first | (go_at_call 24; (with_reducible refine HU.out.mono ?_); rintro e w' ⟨rfl, rfl⟩) | (go_at_call 44; (with_reducible refine HW.out.mono ?_); rintro e w' ⟨rfl, rfl⟩))
    go_ret
    exact ⟨rfl, rfl⟩
end Go.Proofs.Ytlakekeolpepbaa.Tr
