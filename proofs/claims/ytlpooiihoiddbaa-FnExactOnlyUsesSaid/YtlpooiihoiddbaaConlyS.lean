/- Contracts of the model's test of a set, of its look for a number, and of its uses of a set. -/
import Derived.Test.YtlpooiihoiddbaaCuses
import Derived.Test.YtlpooiihoiddbaaCapp
import Derived.Test.YtlpooiihoiddbaaPlainUses
import Derived.IntWalk
namespace Go.Proofs.Ytlpooiihoiddbaa.Tr
open Go.RowKit
theorem has_step (xs : List Int) (n : Int) (j : Nat) (h : j < xs.length) : (xs.take (j + 1)).contains n = ((xs.take j).contains n || decide (xs.getD j 0 = n)) := by
  rw [List.take_succ_eq_append_getElem h, getD_get' xs j h, List.contains_eq_mem, List.contains_eq_mem, ← Bool.decide_or]
  congr 1
  simp only [List.mem_append, List.mem_singleton, eq_comm]
set_option maxHeartbeats 1000000 in
theorem has_s (a : Option Addr) (c : Nat) (xs : List Int) (n : Int) (w : World) (hn : xs.length ≤ 1048576) (hr : Row w a xs) :
    Calls Try.prog 63 #[.slice a xs.length c, .int .i64 n] w (Bl (xs.contains n) w) := by
  have HC := Lib.hid hr
  have HS := Lib.hid (has_step xs n)
  have HE := Lib.hid (show (xs.take xs.length).contains n = xs.contains n by rw [List.take_length])
  have HY := Lib.hid (fun (j : Nat) (h : j < xs.length) (e : xs.getD j 0 = n) => (show xs.contains n = true by rw [List.contains_eq_mem]; exact decide_eq_true (by rw [← e, getD_get' xs j h]; exact List.getElem_mem h)))
  clear hr
  unfold Row at HC
  generalize xs.contains n = r at *
  generalize hN : xs.length = N at *
  go_enter Try.func63, Try.ntmps63
  go_wp2
  go_loop [5] (fun i => ∃ j : Nat, j ≤ N ∧ i = .int .i64 j ∧ Hid ((xs.take j).contains n = false)) (fun i => N - (intOf i).toNat)
  case atStart => exact ⟨0, Nat.zero_le _, rfl, Lib.hid rfl⟩
  case round =>
    obtain ⟨j, hj, rfl, hx⟩ := hrel
    by_cases hlt : j < N
    · obtain ⟨b, off, rfl, c1, hb⟩ := HC.out j hlt
      have hs := Lib.hid (HS.out j hlt)
      have hy := Lib.hid (HY.out j hlt)
      generalize xs.getD j 0 = u at *
      by_cases hu : u = n
      · have e : r = true := hy.out hu
        clear hs hy HE HY HS hx
        subst e
        subst hu
        go_wp2
        go_ret
        exact ⟨rfl, rfl⟩
      · have hnew : Hid ((xs.take (j + 1)).contains n = false) := by show _ = _; rw [hs.out, hx.out, decide_eq_false hu]; rfl
        go_wp2
        go_round
        case rel => exact ⟨j + 1, by omega, by go_num, hnew⟩
        case measure => simp [intOf]; omega
    · have e : j = N := by omega
      subst e
      have e : r = false := HE.out.symm.trans hx.out
      clear HE HY HS hx
      subst e
      go_wp2
      go_ret
      exact ⟨rfl, rfl⟩
theorem only_take (xs set : List Int) (j : Nat) (h : j < xs.length) : onlyP (xs.take (j + 1)) set = onlyP (xs.take j) set ++ if set.contains (xs.getD j 0) then [xs.getD j 0] else [] := by
  rw [List.take_succ_eq_append_getElem h, only_snoc, getD_get' xs j h]
theorem only_length (xs set : List Int) : (onlyP xs set).length ≤ xs.length := List.length_filter_le _ _
set_option maxHeartbeats 1000000 in
theorem only_s (a a2 : Option Addr) (c c2 : Nat) (xs set : List Int) (w : World) (hn : xs.length ≤ 1000) (hn2 : set.length ≤ 1048576) (hr : Row w a xs) (hr2 : Row w a2 set) :
    Calls Try.prog 46 #[.slice a xs.length c, .slice a2 set.length c2] w (Lb (onlyP xs set) w) := by
  have HC := Lib.hid hr
  have HS := Lib.hid (only_take xs set)
  have HL := Lib.hid (fun j => only_length (xs.take j) set)
  have HE := Lib.hid (show xs.take xs.length = xs by rw [List.take_length])
  have HH := Lib.hid (fun n (wr : World) (hb : Below w.heap.size w wr) => has_s a2 c2 set n wr hn2 (hr2.below hb))
  clear hr hr2
  unfold Row at HC
  generalize hN : xs.length = N at *
  generalize set.length = N2 at *
  go_enter Try.func46, Try.ntmps46
  go_wp2
  go_loopw [5, 6] (fun v i wr => ∃ (j : Nat) (l : List Int), j ≤ N ∧ i = .int .i64 j ∧ Hid (l = onlyP (xs.take j) set) ∧ Own wr w.heap.size v l ∧ Below w.heap.size w wr) (fun _ i _ => N - (intOf i).toNat)
  case atStart => exact ⟨0, [], Nat.zero_le _, rfl, Lib.hid rfl, World.ownsRow_lit w #[] 0 (Nat.le_refl _) (by unfold maxLen; omega) rfl, (Below.refl _ _).alloc (Nat.le_refl _) _⟩
  case round =>
    obtain ⟨j, l, hj, rfl, hp, ho, hb⟩ := hrel
    have hsz := hb.size
    have hll : l.length ≤ 1000 := by have := HL.out j; rw [← hp.out] at this; have h2 : (xs.take j).length ≤ j := List.length_take_le _ _; omega
    by_cases hlt : j < N
    · obtain ⟨b0, off, rfl, c1, hb0⟩ := HC.out j hlt
      have c2 : wr.cell? ⟨b0, off + j, none⟩ = some (.int .i64 (xs.getD j 0)) := (hb.cell (p := ⟨b0, off + j, none⟩) hb0).trans c1
      have hs := Lib.hid (HS.out j hlt)
      have hh := Lib.hid (HH.out (xs.getD j 0) wr hb)
      clear c1
      generalize xs.getD j 0 = u at *
      cases hcb : set.contains u
      · rw [hcb] at hs hh
        have hnew : Hid (l = onlyP (xs.take (j + 1)) set) := by show _ = _; rw [hs.out, ← hp.out]; simp
        clear hcb hs
        go_wp2_with (go_at_call 63; refine hh.out.mono ?_; rintro e w1 ⟨rfl, rfl⟩)
        go_roundw
        case rel => exact ⟨j + 1, l, by omega, by go_num, hnew, ho, hb⟩
        case measure => simp [intOf]; omega
      · rw [hcb] at hs hh
        have hnew : Hid (l ++ [u] = onlyP (xs.take (j + 1)) set) := by show _ = _; rw [hs.out, ← hp.out]; simp
        clear hcb hs
        have hq1 : (l).length + 1 ≤ 1000000000 := by omega
        go_wp2_with (first | (go_at_call 63; refine hh.out.mono ?_; rintro e w1 ⟨rfl, rfl⟩) | (at_builtin; refine wpList_app _ rfl _ _ rfl w.heap.size _ l _ ?_ ?_ ho hq1 hsz ?_; rfl; rfl))
        intro v1 w1 ho1 hb1
        go_wp2
        go_roundw
        case rel => exact ⟨j + 1, l ++ [u], by omega, by go_num, hnew, ho1, hb.trans hb1⟩
        case measure => simp [intOf]; omega
    · have e : j = N := by omega
      subst e
      go_wp2
      go_ret
      have e2 : l = onlyP xs set := by rw [hp.out, HE.out]
      exact ⟨_, rfl, by rw [← e2]; exact ho, hb⟩
/-- The test of a set, the first j. -/
theorem rises_no (s : List Int) (j n : Nat) (hj : j < n) (h : (isA (s.getD j 0) && (decide (j = 0) || decide (s.getD (j - 1) 0 < s.getD j 0))) = false) : risesK s n = false := by
  unfold risesK
  rw [List.all_eq_false]
  exact ⟨j, by simpa using hj, by simpa using h⟩
set_option maxHeartbeats 1000000 in
theorem rises_s (a : Option Addr) (c : Nat) (xs : List Int) (w : World) (hn : xs.length ≤ 1048576) (hr : Row w a xs) :
    Calls Try.prog 45 #[.slice a xs.length c, .int .i64 0, .int .i64 63] w (Bb (risesK xs xs.length) w) := by
  have HC := Lib.hid hr
  have HS := Lib.hid (rises_succ xs)
  have HN := Lib.hid (fun j hj => rises_no xs j xs.length hj)
  clear hr
  unfold Row at HC
  obtain ⟨r, hrr⟩ : ∃ r, risesK xs xs.length = r := ⟨_, rfl⟩
  rw [hrr] at HN ⊢
  have HR := Lib.hid hrr
  clear hrr
  generalize hN : xs.length = N at *
  go_enter Try.func45, Try.ntmps45
  go_wp2
  go_loopw [7] (fun i wr => ∃ j q : Nat, j ≤ N ∧ i = .int .i64 j ∧ wr = w.drewN q ∧ Hid (risesK xs j = true)) (fun i _ => N - (intOf i).toNat)
  case atStart => exact ⟨0, 0, Nat.zero_le _, rfl, rfl, Lib.hid rfl⟩
  case round =>
    obtain ⟨j, q, hj, rfl, rfl, hx⟩ := hrel
    by_cases hlt : j < N
    · obtain ⟨b, off, rfl, c1, hb⟩ := HC.out j hlt
      have hs := Lib.hid (HS.out j)
      have hno := Lib.hid (HN.out j hlt)
      have hI := Lib.hid (fun n => (in_a (xs.getD j 0) (w.drewN (q + n))).mono (R' := fun e w' => e = .returned (.bool (isA (xs.getD j 0))) ∧ ∃ m, w' = w.drewN (q + m)) fun e w' ⟨he, hw⟩ => ⟨he, n, hw.symm⟩)
      cases j with
      | zero =>
        have c3 : w.cell? ⟨b, off, none⟩ = some (.int .i64 (xs.getD 0 0)) := c1
        have e0 : ((0 : Nat) : Int) = 0 := rfl
        rw [e0]
        clear c1 e0
        generalize xs.getD 0 0 = u at *
        cases hb : isA u
        · have e : r = false := hno.out (by rw [hb]; rfl)
          rw [hb] at hI
          clear hs hno hx HR HN HS hb
          subst e
          go_wp2
          go_quiet (exact hI.out _)
          go_wp2
          go_ret
          exact ⟨rfl, by first | exact below_drewN _ (Below.refl _ _) | exact below_drewN _ (below_drewN _ (Below.refl _ _))⟩
        · have hnew : Hid (risesK xs (0 + 1) = true) := by show _ = _; rw [hs.out, hx.out, hb]; rfl
          rw [hb] at hI
          clear hs hno hb
          go_wp2
          go_quiet (exact hI.out _)
          go_wp2
          go_roundw
          case rel => exact ⟨0 + 1, _, by omega, rfl, rfl, hnew⟩
          case measure => simp [intOf] <;> omega
      | succ j =>
        obtain ⟨b1, off1, hab, c2, _⟩ := HC.out j (by omega)
        injection hab with hab
        injection hab with e1 e2
        subst e1 e2
        have ej : j + 1 - 1 = j := rfl
        rw [ej] at hs hno
        clear ej
        generalize xs.getD (j + 1) 0 = u at *
        generalize xs.getD j 0 = t at *
        cases hb : isA u
        · have e : r = false := hno.out (by rw [hb]; rfl)
          rw [hb] at hI
          clear hs hno hx HR HN HS hb
          subst e
          go_wp2
          go_quiet (exact hI.out _)
          go_wp2
          go_ret
          exact ⟨rfl, by first | exact below_drewN _ (Below.refl _ _) | exact below_drewN _ (below_drewN _ (Below.refl _ _))⟩
        · rw [hb] at hI
          by_cases hlt2 : t < u
          · have hnew : Hid (risesK xs (j + 1 + 1) = true) := by show _ = _; rw [hs.out, hx.out, hb, decide_eq_true hlt2]; simp
            have hge : ¬ u ≤ t := by omega
            have hgt : (0 : Int) < (j : Int) + 1 := by omega
            have e9 : IntKind.i64.wrap ((j : Int) + 1 - 1) = (j : Int) := by rw [IntWalk.i64_in _ (by omega)]; omega
            clear hs hno hb
            go_wp2
            go_quiet (exact hI.out _)
            go_wp2
            go_roundw
            case rel => exact ⟨j + 1 + 1, _, by omega, by go_num, rfl, hnew⟩
            case measure => simp [intOf] <;> omega
          · have e : r = false := hno.out (by rw [hb, decide_eq_false hlt2]; simp)
            have hge : u ≤ t := by omega
            have hgt : (0 : Int) < (j : Int) + 1 := by omega
            have e9 : IntKind.i64.wrap ((j : Int) + 1 - 1) = (j : Int) := by rw [IntWalk.i64_in _ (by omega)]; omega
            clear hs hno hx HR HN HS hb
            subst e
            go_wp2
            go_quiet (exact hI.out _)
            go_wp2
            go_ret
            exact ⟨rfl, by first | exact below_drewN _ (Below.refl _ _) | exact below_drewN _ (below_drewN _ (Below.refl _ _))⟩
    · have e : j = N := by omega
      subst e
      have e : r = true := HR.out.symm.trans hx.out
      clear HR HN HS hx
      subst e
      go_wp2
      go_ret
      exact ⟨rfl, by first | exact below_drewN _ (Below.refl _ _) | exact below_drewN _ (below_drewN _ (Below.refl _ _))⟩
end Go.Proofs.Ytlpooiihoiddbaa.Tr
