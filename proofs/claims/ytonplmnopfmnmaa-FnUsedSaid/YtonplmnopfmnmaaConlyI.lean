/- The contracts of both OnlyUses: the program's test of a set, and the loop over slices.Contains. -/
import Derived.Test.YtonplmnopfmnmaaConlyS
import Derived.Test.YtonplmnopfmnmaaCshelf
namespace Go.Proofs.Ytonplmnopfmnmaa.Tr
open Go.RowKit
def upB (s : List Int) (n : Nat) : Bool := (List.range n).all fun i => decide (i = 0) || decide (s.getD (i - 1) 0 < s.getD i 0)
theorem upB_succ (s : List Int) (j : Nat) : upB s (j + 1) = (upB s j && (decide (j = 0) || decide (s.getD (j - 1) 0 < s.getD j 0))) := by
  simp [upB, List.range_succ]
theorem upB_no (s : List Int) (j n : Nat) (hj : j < n) (h : (decide (j = 0) || decide (s.getD (j - 1) 0 < s.getD j 0)) = false) : upB s n = false := by
  unfold upB
  rw [List.all_eq_false]
  exact ⟨j, by simpa using hj, by simpa using h⟩
theorem rises_split (s : List Int) : ∀ j, j ≤ s.length → risesK s j = ((s.take j).all isA && upB s j)
  | 0, _ => rfl
  | j + 1, h => by
    rw [rises_succ, rises_split s j (by omega), all_step s j (by omega), upB_succ]
    cases (s.take j).all isA <;> cases upB s j <;> cases isA (s.getD j 0) <;> cases (decide (j = 0) || decide (s.getD (j - 1) 0 < s.getD j 0)) <;> rfl
theorem rises_all (s : List Int) : risesK s s.length = (s.all isA && upB s s.length) := by rw [rises_split s s.length (Nat.le_refl _), List.take_length]
set_option maxHeartbeats 1000000 in
theorem inc_i (a : Option Addr) (c : Nat) (xs : List Int) (w : World) (hn : xs.length ≤ 1048576) (hr : Row w a xs) :
    Calls Try.prog 61 #[.slice a xs.length c] w (Bb (upB xs xs.length) w) := by
  have HC := Lib.hid hr
  have HS := Lib.hid (upB_succ xs)
  have HN := Lib.hid (fun j hj => upB_no xs j xs.length hj)
  have H1 := Lib.hid (show upB xs 1 = true from rfl)
  have H0 := Lib.hid (show upB xs 0 = true from rfl)
  clear hr
  unfold Row at HC
  obtain ⟨r, hrr⟩ : ∃ r, upB xs xs.length = r := ⟨_, rfl⟩
  rw [hrr] at HN ⊢
  have HR := Lib.hid hrr
  clear hrr
  generalize hN : xs.length = N at *
  go_enter Try.func61, Try.ntmps61
  go_wp2
  go_loopw [3] (fun i wr => ∃ j q : Nat, 1 ≤ j ∧ (j ≤ N ∨ j = 1) ∧ i = .int .i64 j ∧ wr = w.drewN q ∧ Hid (upB xs j = true)) (fun i _ => N - (intOf i).toNat)
  case atStart => exact ⟨1, 0, Nat.le_refl _, .inr rfl, rfl, rfl, H1⟩
  case round =>
    obtain ⟨j, q, hj1, hj, rfl, rfl, hx⟩ := hrel
    by_cases hlt : j < N
    · obtain ⟨b, off, rfl, c1, hb⟩ := HC.out j hlt
      obtain ⟨k, rfl⟩ : ∃ k, j = k + 1 := ⟨j - 1, by omega⟩
      obtain ⟨b1, off1, hab, c2, _⟩ := HC.out k (by omega)
      injection hab with hab
      injection hab with e1 e2
      subst e1 e2
      have hs := Lib.hid (HS.out (k + 1))
      have hno := Lib.hid (HN.out (k + 1) hlt)
      have ej : k + 1 - 1 = k := rfl
      rw [ej] at hs hno
      clear ej
      generalize xs.getD (k + 1) 0 = u at *
      generalize xs.getD k 0 = t at *
      have e9 : IntKind.i64.wrap ((k : Int) + 1 - 1) = (k : Int) := by rw [IntWalk.i64_in _ (by omega)]; omega
      by_cases hlt2 : t < u
      · have hnew : Hid (upB xs (k + 1 + 1) = true) := by show _ = _; rw [hs.out, hx.out, decide_eq_true hlt2]; simp
        have hge : ¬ u ≤ t := by omega
        clear hs hno
        go_wp2
        go_quiet (fail)
        go_wp2
        go_roundw
        case rel => exact ⟨k + 1 + 1, _, by omega, by omega, by go_num, rfl, hnew⟩
        case measure => simp [intOf] <;> omega
      · have e : r = false := hno.out (by rw [decide_eq_false hlt2]; simp)
        have hge : u ≤ t := by omega
        clear hs hno hx HR HN HS H1 H0
        subst e
        go_wp2
        go_quiet (fail)
        go_wp2
        go_ret
        exact ⟨rfl, by first | exact below_drewN _ (Below.refl _ _) | exact below_drewN _ (below_drewN _ (Below.refl _ _))⟩
    · have e : r = true := by
        rcases hj with hj | hj
        · have e : j = N := by omega
          subst e
          exact HR.out.symm.trans hx.out
        · subst hj
          by_cases hz : N = 0
          · subst hz; exact HR.out.symm.trans H0.out
          · have e : 1 = N := by omega
            subst e
            exact HR.out.symm.trans hx.out
      clear HR HN HS hx H1 H0
      subst e
      go_wp2
      go_ret
      exact ⟨rfl, by first | exact below_drewN _ (Below.refl _ _) | exact below_drewN _ (below_drewN _ (Below.refl _ _))⟩
theorem aset_i (a : Option Addr) (c : Nat) (xs : List Int) (w : World) (hn : xs.length ≤ 1048576) (hr : Row w a xs) :
    Calls Try.prog 42 #[.slice a xs.length c] w (Bb (risesK xs xs.length) w) := by
  have hA := Lib.hid (are_i a c xs w hn hr)
  have hI := Lib.hid (inc_i a c xs w hn hr)
  rw [rises_all]
  generalize xs.all isA = p at *
  generalize upB xs xs.length = q at *
  cases p
  · go_enter Try.func42, Try.ntmps42
    go_wp2_with (go_at_call 54; refine hA.out.mono ?_; rintro e w' ⟨rfl, rfl⟩)
    go_ret
    exact ⟨rfl, Below.refl _ _⟩
  · go_enter Try.func42, Try.ntmps42
    go_wp2_with (first | (go_at_call 54; refine hA.out.mono ?_; rintro e w' ⟨rfl, rfl⟩) | (go_at_call 61; refine hI.out.mono ?_; rintro e w1 ⟨rfl, hb1⟩))
    go_ret
    exact ⟨rfl, hb1⟩
/-- slices.Contains, wherever the list lies. -/
theorem contains_i (a : Option Addr) (c : Nat) (xs : List Int) (n : Int) (w : World) (hl : xs.length ≤ 1048576) (hr : Row w a xs) :
    Calls Try.prog 43 #[.slice a xs.length c, .int .i64 n] w (Bl (xs.contains n) w) := by
  cases hx : xs with
  | nil => exact (Try.slices_has_empty a c n w).mono fun e w' ⟨he, hw⟩ => ⟨by rw [he]; rfl, hw.symm⟩
  | cons y ys =>
    rw [← hx]
    obtain ⟨b, off, rfl, _, _⟩ := hr 0 (by rw [hx]; simp)
    have hc : ∀ j, j < xs.length → w.cell? ⟨b, off + j, none⟩ = some (.int .i64 (xs.getD j 0)) := fun j hj => by
      obtain ⟨b', off', ha, hc, _⟩ := hr j hj
      injection ha with ha
      injection ha with e1 e2
      subst e1 e2
      exact hc
    have h := Try.slices_has b off xs.length c xs n w (Nat.le_refl _) (by omega) hc
    rw [List.take_length] at h
    exact h.mono fun e w' ⟨he, hw⟩ => ⟨he, hw.symm⟩
set_option maxHeartbeats 2000000 in
theorem only_i (a a2 : Option Addr) (c c2 : Nat) (xs set : List Int) (w : World) (hok : okU xs = true) (hst : risesK set set.length = true) (hn2 : set.length ≤ 1048576) (hr : Row w a xs) (hr2 : Row w a2 set) :
    Calls Try.prog 19 #[.slice a xs.length c, .slice a2 set.length c2] w (Res (onlyP xs set) true w) := by
  have hn := okU_len hok
  have hU := Lib.hid (uses_i a c xs w (by omega) hr)
  rw [hok] at hU
  have hA := Lib.hid (aset_i a2 c2 set w hn2 hr2)
  rw [hst] at hA
  have HC := Lib.hid hr
  have HS := Lib.hid (only_take xs set)
  have HL := Lib.hid (fun j => only_length (xs.take j) set)
  have HE := Lib.hid (show xs.take xs.length = xs by rw [List.take_length])
  have HH := Lib.hid (fun n (wr : World) (hb : Below w.heap.size w wr) => contains_i a2 c2 set n wr hn2 (hr2.below hb))
  clear hr hr2 hst
  unfold Row at HC
  generalize hN : xs.length = N at *
  generalize set.length = N2 at *
  go_enter Try.func19, Try.ntmps19
  go_wp2_with (first | (go_at_call 31; refine hU.out.mono ?_; rintro e w' ⟨rfl, rfl⟩) | (go_at_call 42; refine hA.out.mono ?_; rintro e w0 ⟨rfl, hb0⟩))
  go_loopw [6, 19] (fun v i wr => ∃ (j : Nat) (l : List Int), j ≤ N ∧ i = .int .i64 j ∧ Hid (l = onlyP (xs.take j) set) ∧ Own wr w.heap.size v l ∧ Below w.heap.size w wr) (fun _ i _ => N - (intOf i).toNat)
  case atStart => exact ⟨0, [], Nat.zero_le _, rfl, Lib.hid rfl, Own.nil _ _, hb0⟩
  case round =>
    obtain ⟨j, l, hj, rfl, hp, ho, hb⟩ := hrel
    have hsz := hb.size
    have hll : l.length + 1 ≤ 1000000000 := by have := HL.out j; rw [← hp.out] at this; have h2 : (xs.take j).length ≤ j := List.length_take_le _ _; omega
    by_cases hlt : j < N
    · obtain ⟨b0, off, rfl, c1, hb0⟩ := HC.out j hlt
      have c2 : wr.cell? ⟨b0, off + j, none⟩ = some (.int .i64 (xs.getD j 0)) := (hb.cell (p := ⟨b0, off + j, none⟩) hb0).trans c1
      have hs := Lib.hid (HS.out j hlt)
      have hh := Lib.hid (HH.out (xs.getD j 0) wr hb)
      clear c1
      generalize xs.getD j 0 = u at *
      cases hcb : set.contains u
      · rw [hcb] at hs hh
        have hnew : Hid (l = onlyP (xs.take (j + 1)) set) := by show _ = _; rw [hs.out, ← hp.out]; simp
        clear hcb hs
        go_wp2_with (go_at_call 43; refine hh.out.mono ?_; rintro e w1 ⟨rfl, rfl⟩)
        go_roundw
        case rel => exact ⟨j + 1, l, by omega, by go_num, hnew, ho, hb⟩
        case measure => simp [intOf]; omega
      · rw [hcb] at hs hh
        have hnew : Hid (l ++ [u] = onlyP (xs.take (j + 1)) set) := by show _ = _; rw [hs.out, ← hp.out]; simp
        clear hcb hs
        go_wp2_with (first | (go_at_call 43; refine hh.out.mono ?_; rintro e w1 ⟨rfl, rfl⟩) | (at_builtin; refine wpList_app _ rfl _ _ rfl w.heap.size _ l _ ?_ ?_ ho hll hsz ?_; rfl; rfl))
        intro v1 w1 ho1 hb1
        go_wp2
        go_roundw
        case rel => exact ⟨j + 1, l ++ [u], by omega, by go_num, hnew, ho1, hb.trans hb1⟩
        case measure => simp [intOf]; omega
    · have e : j = N := by omega
      subst e
      go_wp2
      go_ret2
      have e2 : l = onlyP xs set := by rw [hp.out, HE.out]
      exact ⟨_, rfl, by rw [← e2]; exact ho, hb⟩
theorem only_yes_i {v v2 : Value} {xs set : List Int} {w : World} (h : Rd w v xs) (h2 : Rd w v2 set) (hn2 : set.length ≤ 1048576) (hok : okU xs = true) (hst : risesK set set.length = true) :
    Calls Try.prog 19 #[v, v2] w (Res (onlyP xs set) true w) := by
  obtain ⟨a, c, rfl, _, _, hr⟩ := h
  obtain ⟨a2, c2, rfl, _, _, hr2⟩ := h2
  exact only_i a a2 c c2 xs set w hok hst hn2 hr hr2
theorem only_no_i {v v2 : Value} {xs set : List Int} {w : World} (h : Rd w v xs) (h2 : Rd w v2 set) (hn : xs.length ≤ 1048576) (hn2 : set.length ≤ 1048576) (hno : ¬ (okU xs = true ∧ risesK set set.length = true)) :
    Calls Try.prog 19 #[v, v2] w (Res [] false w) := by
  have hU := Lib.hid (uses_iR h hn)
  cases hok : okU xs
  · rw [hok] at hU
    clear hno
    go_enter Try.func19, Try.ntmps19
    go_wp2_with (go_at_call 31; refine hU.out.mono ?_; rintro e w' ⟨rfl, rfl⟩)
    go_ret2
    exact ⟨_, rfl, Own.nil _ _, Below.refl _ _⟩
  · rw [hok] at hU
    obtain ⟨a2, c2, rfl, _, _, hr2⟩ := h2
    have hA := Lib.hid (aset_i a2 c2 set w hn2 hr2)
    have e : risesK set set.length = false := by
      cases hs : risesK set set.length
      · rfl
      · exact absurd ⟨hok, hs⟩ hno
    rw [e] at hA
    clear hno e
    go_enter Try.func19, Try.ntmps19
    go_wp2_with (first | (go_at_call 31; refine hU.out.mono ?_; rintro e w' ⟨rfl, rfl⟩) | (go_at_call 42; refine hA.out.mono ?_; rintro e w1 ⟨rfl, hb1⟩))
    go_ret2
    exact ⟨_, rfl, Own.nil _ _, hb1⟩
end Go.Proofs.Ytonplmnopfmnmaa.Tr
