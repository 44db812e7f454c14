/- Contracts of the model's test of a set, of its look for a number, and of its uses of a set. -/
import Derived.Test.YtepobkflahjldaaCuses
import Derived.Test.YtepobkflahjldaaCapp
import Derived.Test.YtepobkflahjldaaPlainUses
import Derived.IntWalk
namespace Go.Proofs.Ytepobkflahjldaa.Tr
open Go.RowKit
theorem has_step (xs : List Int) (n : Int) (j : Nat) (h : j < xs.length) : (xs.take (j + 1)).contains n = ((xs.take j).contains n || decide (xs.getD j 0 = n)) := by
  rw [List.take_succ_eq_append_getElem h, getD_get' xs j h, List.contains_eq_mem, List.contains_eq_mem, ← Bool.decide_or]
  congr 1
  simp only [List.mem_append, List.mem_singleton, eq_comm]
theorem only_take (xs set : List Int) (j : Nat) (h : j < xs.length) : onlyP (xs.take (j + 1)) set = onlyP (xs.take j) set ++ if set.contains (xs.getD j 0) then [xs.getD j 0] else [] := by
  rw [List.take_succ_eq_append_getElem h, only_snoc, getD_get' xs j h]
theorem only_length (xs set : List Int) : (onlyP xs set).length ≤ xs.length := List.length_filter_le _ _
/-- The test of a set, the first j. -/
theorem rises_no (s : List Int) (j n : Nat) (hj : j < n) (h : (isA (s.getD j 0) && (decide (j = 0) || decide (s.getD (j - 1) 0 < s.getD j 0))) = false) : risesK s n = false := by
  unfold risesK
  rw [List.all_eq_false]
  exact ⟨j, by simpa using hj, by simpa using h⟩
set_option maxHeartbeats 1000000 in
theorem rises_s (a : Option Addr) (c : Nat) (xs : List Int) (w : World) (hn : xs.length ≤ 1048576) (hr : Row w a xs) :
    Calls Try.prog 36 #[.slice a xs.length c, .int .i64 0, .int .i64 63] w (Bb (risesK xs xs.length) w) := by
  have HC := Lib.hid hr
  have HS := Lib.hid (rises_succ xs)
  have HN := Lib.hid (fun j hj => rises_no xs j xs.length hj)
  clear hr
  unfold Row at HC
  obtain ⟨r, hrr⟩ : ∃ r, risesK xs xs.length = r := ⟨_, rfl⟩
  rw [hrr] at HN ⊢
  have HR := Lib.hid hrr
  clear hrr
  generalize hN : xs.length = N at *
  go_enter Try.func36, Try.ntmps36
  go_wp2
  go_loopw [7] (fun i wr => ∃ j q : Nat, j ≤ N ∧ i = .int .i64 j ∧ wr = w.drewN q ∧ Hid (risesK xs j = true)) (fun i _ => N - (intOf i).toNat)
  case atStart => exact ⟨0, 0, Nat.zero_le _, rfl, rfl, Lib.hid rfl⟩
  case round =>
    obtain ⟨j, q, hj, rfl, rfl, hx⟩ := hrel
    by_cases hlt : j < N
    · obtain ⟨b, off, rfl, c1, hb⟩ := HC.out j hlt
      have hs := Lib.hid (HS.out j)
      have hno := Lib.hid (HN.out j hlt)
      have hI := Lib.hid (fun n => (in_a (xs.getD j 0) (w.drewN (q + n))).mono (R' := fun e w' => e = .returned (.bool (isA (xs.getD j 0))) ∧ ∃ m, w' = w.drewN (q + m)) fun e w' ⟨he, hw⟩ => ⟨he, n, hw.symm⟩)
      cases j with
      | zero =>
        have c3 : w.cell? ⟨b, off, none⟩ = some (.int .i64 (xs.getD 0 0)) := c1
        have e0 : ((0 : Nat) : Int) = 0 := rfl
        rw [e0]
        clear c1 e0
        generalize xs.getD 0 0 = u at *
        cases hb : isA u
        · have e : r = false := hno.out (by rw [hb]; rfl)
          rw [hb] at hI
          clear hs hno hx HR HN HS hb
          subst e
          go_wp2
          go_quiet (exact hI.out _)
          go_wp2
          go_ret
          exact ⟨rfl, by first | exact below_drewN _ (Below.refl _ _) | exact below_drewN _ (below_drewN _ (Below.refl _ _))⟩
        · have hnew : Hid (risesK xs (0 + 1) = true) := by show _ = _; rw [hs.out, hx.out, hb]; rfl
          rw [hb] at hI
          clear hs hno hb
          go_wp2
          go_quiet (exact hI.out _)
          go_wp2
          go_roundw
          case rel => exact ⟨0 + 1, _, by omega, rfl, rfl, hnew⟩
          case measure => simp [intOf] <;> omega
      | succ j =>
        obtain ⟨b1, off1, hab, c2, _⟩ := HC.out j (by omega)
        injection hab with hab
        injection hab with e1 e2
        subst e1 e2
        have ej : j + 1 - 1 = j := rfl
        rw [ej] at hs hno
        clear ej
        generalize xs.getD (j + 1) 0 = u at *
        generalize xs.getD j 0 = t at *
        cases hb : isA u
        · have e : r = false := hno.out (by rw [hb]; rfl)
          rw [hb] at hI
          clear hs hno hx HR HN HS hb
          subst e
          go_wp2
          go_quiet (exact hI.out _)
          go_wp2
          go_ret
          exact ⟨rfl, by first | exact below_drewN _ (Below.refl _ _) | exact below_drewN _ (below_drewN _ (Below.refl _ _))⟩
        · rw [hb] at hI
          by_cases hlt2 : t < u
          · have hnew : Hid (risesK xs (j + 1 + 1) = true) := by show _ = _; rw [hs.out, hx.out, hb, decide_eq_true hlt2]; simp
            have hge : ¬ u ≤ t := by omega
            have hgt : (0 : Int) < (j : Int) + 1 := by omega
            have e9 : IntKind.i64.wrap ((j : Int) + 1 - 1) = (j : Int) := by rw [IntWalk.i64_in _ (by omega)]; omega
            clear hs hno hb
            go_wp2
            go_quiet (exact hI.out _)
            go_wp2
            go_roundw
            case rel => exact ⟨j + 1 + 1, _, by omega, by go_num, rfl, hnew⟩
            case measure => simp [intOf] <;> omega
          · have e : r = false := hno.out (by rw [hb, decide_eq_false hlt2]; simp)
            have hge : u ≤ t := by omega
            have hgt : (0 : Int) < (j : Int) + 1 := by omega
            have e9 : IntKind.i64.wrap ((j : Int) + 1 - 1) = (j : Int) := by rw [IntWalk.i64_in _ (by omega)]; omega
            clear hs hno hx HR HN HS hb
            subst e
            go_wp2
            go_quiet (exact hI.out _)
            go_wp2
            go_ret
            exact ⟨rfl, by first | exact below_drewN _ (Below.refl _ _) | exact below_drewN _ (below_drewN _ (Below.refl _ _))⟩
    · have e : j = N := by omega
      subst e
      have e : r = true := HR.out.symm.trans hx.out
      clear HR HN HS hx
      subst e
      go_wp2
      go_ret
      exact ⟨rfl, by first | exact below_drewN _ (Below.refl _ _) | exact below_drewN _ (below_drewN _ (Below.refl _ _))⟩
end Go.Proofs.Ytepobkflahjldaa.Tr
