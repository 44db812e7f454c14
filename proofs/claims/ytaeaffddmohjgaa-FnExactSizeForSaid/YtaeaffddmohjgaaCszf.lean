/- The least size with few misses: the search in a curve that never grows, and both SizeFor. -/
import Derived.Test.YtaeaffddmohjgaaClru
import Derived.IntWalk
namespace Go.Proofs.Ytaeaffddmohjgaa.Tr
open Go.RowKit
def cmp3 (a b : Int) : Int := if a < b then -1 else if b < a then 1 else 0
theorem nan_i (a : Int) (w : World) : Calls Try.prog 49 #[.int .i64 a] w (Bl false w) := by
  go_enter Try.func49, Try.ntmps49
  go_wp2
  go_ret
  exact ⟨ret_bool (by simp), rfl⟩
theorem cmp_i (a b : Int) (w : World) : Calls Try.prog 28 #[.int .i64 a, .int .i64 b] w (Nw (cmp3 a b) w) := by
  have hA := Lib.hid (nan_i a w)
  have hB := Lib.hid (nan_i b w)
  unfold cmp3
  by_cases h : a < b
  · rw [if_pos h]
    go_enter Try.func28, Try.ntmps28
    go_wp2_with (go_at_call 49; first | ((with_reducible refine hA.out.mono ?_); rintro e w' ⟨rfl, rfl⟩) | ((with_reducible refine hB.out.mono ?_); rintro e w' ⟨rfl, rfl⟩))
    go_ret
    exact ⟨rfl, rfl⟩
  · rw [if_neg h]
    by_cases h2 : b < a
    · rw [if_pos h2]
      go_enter Try.func28, Try.ntmps28
      go_wp2_with (go_at_call 49; first | ((with_reducible refine hA.out.mono ?_); rintro e w' ⟨rfl, rfl⟩) | ((with_reducible refine hB.out.mono ?_); rintro e w' ⟨rfl, rfl⟩))
      go_ret
      exact ⟨rfl, rfl⟩
    · rw [if_neg h2]
      go_enter Try.func28, Try.ntmps28
      go_wp2_with (go_at_call 49; first | ((with_reducible refine hA.out.mono ?_); rintro e w' ⟨rfl, rfl⟩) | ((with_reducible refine hB.out.mono ?_); rintro e w' ⟨rfl, rfl⟩))
      go_ret
      exact ⟨rfl, rfl⟩
theorem clo_i (a b : Int) (w : World) : Calls Try.prog 27 #[.int .i64 a, .int .i64 b] w (Nw (cmp3 b a) w) := by
  have hA := Lib.hid (cmp_i b a w)
  generalize cmp3 b a = n at *
  go_enter Try.func27, Try.ntmps27
  go_wp2_with (go_at_call 28; refine hA.out.mono ?_; rintro e w' ⟨rfl, rfl⟩)
  go_ret
  exact ⟨rfl, rfl⟩
/-- How many elements are greater, in a list that never grows. -/
def over (xs : List Int) (m : Int) : Nat := xs.countP fun x => decide (m < x)
theorem over_le (xs : List Int) (m : Int) : over xs m ≤ xs.length := List.countP_le_length
/-- A list never grows. -/
def Falls (xs : List Int) : Prop := ∀ i j, i ≤ j → j < xs.length → xs.getD j 0 ≤ xs.getD i 0
theorem over_split (xs : List Int) (m : Int) : Falls xs → (∀ k, k < over xs m → m < xs.getD k 0) ∧ (∀ k, over xs m ≤ k → k < xs.length → xs.getD k 0 ≤ m) := by
  induction xs with
  | nil => intro _; simp [over]
  | cons x xs ih =>
    intro hf
    have hf' : Falls xs := fun i j hij hj => by
      have := hf (i + 1) (j + 1) (by omega) (by simp; omega)
      simpa using this
    obtain ⟨i1, i2⟩ := ih hf'
    have ho : over (x :: xs) m = over xs m + if m < x then 1 else 0 := by unfold over; rw [List.countP_cons]; simp
    by_cases hx : m < x
    · rw [ho, if_pos hx]
      refine ⟨fun k hk => ?_, fun k hk hl => ?_⟩
      · cases k with
        | zero => simpa using hx
        | succ k => simpa using i1 k (by omega)
      · cases k with
        | zero => omega
        | succ k => simpa using i2 k (by omega) (by simpa using hl)
    · rw [ho, if_neg hx]
      have h0 : over xs m = 0 := by
        rcases Nat.eq_zero_or_pos (over xs m) with h | h
        · exact h
        · have h1 := i1 0 h
          have hne : 0 < xs.length := Nat.lt_of_lt_of_le h (over_le xs m)
          have h2 := hf 0 1 (by omega) (by simp; omega)
          simp at h2 h1
          omega
      refine ⟨fun k hk => by omega, fun k hk hl => ?_⟩
      have := hf 0 k (by omega) hl
      simp at this ⊢
      omega
set_option maxHeartbeats 1000000 in
theorem search_i (a : Option Addr) (c : Nat) (xs : List Int) (m : Int) (w : World) (hn : xs.length ≤ 1000) (hf : Falls xs) (hr : Row w a xs) :
    Calls Try.prog 26 #[.slice a xs.length c, .int .i64 m, .func (.func 27) #[] #[]] w (fun e w' => ∃ b, e = .returned (.tuple #[.int .i64 ((over xs m : Nat) : Int), .bool b]) ∧ w = w') := by
  have HC := Lib.hid hr
  obtain ⟨s1, s2⟩ := over_split xs m hf
  have HS1 := Lib.hid s1
  have HS2 := Lib.hid s2
  have hov := over_le xs m
  clear hr hf s1 s2
  unfold Row at HC
  generalize over xs m = K at *
  generalize hN : xs.length = N at *
  clear hN
  go_enter Try.func26, Try.ntmps26
  go_wp2
  go_loop [9, 10, 11] (fun i j _ => ∃ p q : Nat, i = .int .i64 p ∧ j = .int .i64 q ∧ p ≤ K ∧ K ≤ q ∧ q ≤ N) (fun i j _ => (intOf j).toNat - (intOf i).toNat)
  case atStart => exact ⟨0, N, rfl, rfl, Nat.zero_le _, hov, Nat.le_refl _⟩
  case round =>
    obtain ⟨p, q, rfl, rfl, hp, hq, hqN⟩ := hrel
    by_cases hlt : p < q
    · have hlti : (p : Int) < q := by omega
      obtain ⟨b, off, rfl, c1, _⟩ := HC.out ((p + q) / 2) (by omega)
      have hc1 := HS1.out ((p + q) / 2)
      have hc2 := HS2.out ((p + q) / 2)
      have HL := Lib.hid (clo_i (xs.getD ((p + q) / 2) 0) m w)
      generalize xs.getD ((p + q) / 2) 0 = u at *
      have hd : (((p + q) / 2 : Nat) : Int) = ((p : Int) + q) / 2 := by omega
      by_cases hmu : m < u
      · have e : cmp3 m u = -1 := if_pos hmu
        have hK : (p + q) / 2 < K := by
          apply Classical.byContradiction; intro hno
          have := hc2 (by omega) (by omega); omega
        rw [e] at HL
        clear hc1 hc2 e
        go_wp2_with (go_at_call 27; refine HL.out.mono ?_; rintro e w' ⟨rfl, rfl⟩)
        go_round
        case rel => exact ⟨(p + q) / 2 + 1, q, by congr 1, rfl, by omega, hq, hqN⟩
        case measure => simp [intOf]; omega
      · have e : 0 ≤ cmp3 m u := by unfold cmp3; rw [if_neg hmu]; split <;> decide
        have e2 : ¬ cmp3 m u < 0 := by omega
        have hK : K ≤ (p + q) / 2 := by
          apply Classical.byContradiction; intro hno
          have := hc1 (by omega); omega
        clear hc1 hc2
        go_wp2_with (go_at_call 27; refine HL.out.mono ?_; rintro e w' ⟨rfl, rfl⟩)
        go_round
        case rel => exact ⟨p, (p + q) / 2, rfl, by congr 1, hp, hK, by omega⟩
        case measure => simp [intOf]; omega
    · have e1 : p = K := by omega
      have e2 : q = K := by omega
      subst e1 e2
      by_cases hl : q < N
      · obtain ⟨b, off, rfl, c1, _⟩ := HC.out q hl
        have HL := Lib.hid (clo_i (xs.getD q 0) m w)
        have hli : (q : Int) < N := by omega
        generalize xs.getD q 0 = u at *
        go_wp2_with (go_at_call 27; refine HL.out.mono ?_; rintro e w' ⟨rfl, rfl⟩)
        go_ret2
        exact ⟨_, rfl, rfl⟩
      · have hli : ¬ (q : Int) < N := by omega
        go_wp2
        go_ret2
        first | exact ⟨_, rfl, rfl⟩ | exact ⟨rfl, rfl⟩ | (refine ⟨?_, rfl⟩; simp; done)
/-- What a function leaves that returns a number and whether it succeeded. -/
def Ib2 (n : Int) (ok : Bool) (w : World) (e : Ending) (w' : World) : Prop := e = .returned (.tuple #[.int .i64 n, .bool ok]) ∧ Below w.heap.size w w'
theorem curve_falls (ds : List Int) (k : Nat) : Falls (curveP ds k) := by
  intro i j hij hj
  rw [curve_len] at hj
  unfold curveP
  rw [told_get _ _ _ (by omega), told_get _ _ _ (by omega)]
  have : ∀ n m, missP ds (n + m) ≤ missP ds n := by
    intro n m
    induction m with
    | zero => exact Nat.le_refl _
    | succ m ih => have := miss_succ ds (n + m); rw [← Nat.add_assoc]; omega
  have h := this i (j - i)
  rw [Nat.add_sub_cancel' hij] at h
  omega
def szOk (xs : List Int) (m : Int) : Bool := okU xs && okS m && decide (over (curveP (distP xs) 60) m < 61)
def szV (xs : List Int) (m : Int) : Int := if szOk xs m then ((over (curveP (distP xs) 60) m : Nat) : Int) else 0
set_option maxHeartbeats 1000000 in
theorem size_for_i {v : Value} {xs : List Int} {w : World} (m : Int) (h : Rd w v xs) (hn : xs.length ≤ 1048576) :
    Calls Try.prog 8 #[v, .int .i64 m] w (Ib2 (szV xs m) (szOk xs m) w) := by
  cases hok : okU xs
  · have hL := Lib.hid (lru_no_i 60 h hn (fun hh => by rw [hok] at hh; cases hh.1))
    have e : szOk xs m = false := by unfold szOk; rw [hok]; rfl
    have e2 : szV xs m = 0 := by unfold szV; rw [e]; rfl
    rw [e, e2]
    clear e e2 hok
    go_enter Try.func8, Try.ntmps8
    go_wp2_with (go_at_call 24; (with_reducible refine hL.out.mono ?_); rintro e w1 ⟨v1, rfl, o1, b1⟩)
    go_ret2
    exact ⟨rfl, b1⟩
  · have hL : Hid (Calls Try.prog 24 #[v, .int .i64 60] w (Res (curveP (distP xs) 60) true w)) := Lib.hid (lru_yes_i 60 (Nat.le_refl _) h hok)
    cases hm : okS m
    · have hB := Lib.hid (fun (w' : World) => bw_no m 0 60 w' (fun hh => by unfold okS at hm; rw [decide_eq_true hh] at hm; cases hm))
      have e : szOk xs m = false := by unfold szOk; rw [hm, Bool.and_false]; rfl
      have e2 : szV xs m = 0 := by unfold szV; rw [e]; rfl
      rw [e, e2]
      clear e e2 hok hm
      go_enter Try.func8, Try.ntmps8
      go_wp2_with (first | (go_at_call 24; (with_reducible refine hL.out.mono ?_); rintro e w1 ⟨v1, rfl, o1, b1⟩) | (go_at_call 25; (with_reducible refine (hB.out _).mono ?_); rintro e w2 ⟨rfl, rfl⟩))
      go_ret2
      exact ⟨rfl, b1⟩
    · have hm2 : 0 ≤ m ∧ m ≤ 60 := by unfold okS at hm; exact of_decide_eq_true hm
      have hB := Lib.hid (fun (w' : World) => bw_yes m 0 60 w' hm2.1 hm2.2)
      have hl := curve_len (distP xs) 60
      have HS := Lib.hid (fun (w1 : World) (B : Nat) (v1 : Value) (o1 : Own w1 B v1 (curveP (distP xs) 60)) => show ∃ a1 c1, v1 = .slice a1 61 c1 ∧ Calls Try.prog 26 #[.slice a1 61 c1, .int .i64 m, .func (.func 27) #[] #[]] w1 (fun e w' => ∃ b, e = .returned (.tuple #[.int .i64 ((over (curveP (distP xs) 60) m : Nat) : Int), .bool b]) ∧ w1 = w') from by
        obtain ⟨a1, c1, e1, _, _, hr1⟩ := o1.rd
        rw [hl] at e1
        refine ⟨a1, c1, e1, ?_⟩
        have := search_i a1 c1 (curveP (distP xs) 60) m w1 (by omega) (curve_falls _ _) hr1
        rw [hl] at this
        exact this)
      have hE1 : szOk xs m = decide (over (curveP (distP xs) 60) m < 61) := by unfold szOk; rw [hok, hm]; rfl
      have hov := over_le (curveP (distP xs) 60) m
      have hE2 : szV xs m = if szOk xs m then ((over (curveP (distP xs) 60) m : Nat) : Int) else 0 := rfl
      rw [hE1] at hE2
      rw [hE1, hE2]
      rw [hl] at hov
      clear hE1 hE2 hok hm hm2 hl
      generalize over (curveP (distP xs) 60) m = K at *
      generalize curveP (distP xs) 60 = CP at *
      by_cases hK : K < 61
      · have hKi : ¬ (K : Int) = 61 := by omega
        rw [decide_eq_true hK, if_pos rfl]
        clear hK
        go_enter Try.func8, Try.ntmps8
        go_wp2_with (first | (go_at_call 24; (with_reducible refine hL.out.mono ?_); rintro e w1 ⟨v1, rfl, o1, b1⟩; obtain ⟨a1, c1, rfl, hQ⟩ := HS.out w1 _ v1 o1; have HQ := Lib.hid hQ; clear hQ) | (go_at_call 25; (with_reducible refine (hB.out _).mono ?_); rintro e w2 ⟨rfl, rfl⟩) | (go_at_call 26; (with_reducible refine HQ.out.mono ?_); rintro e w3 ⟨b3, rfl, rfl⟩))
        go_ret2
        exact ⟨rfl, b1⟩
      · have hKi : K = 61 := by omega
        subst hKi
        rw [decide_eq_false (by omega)]
        clear hK
        go_enter Try.func8, Try.ntmps8
        go_wp2_with (first | (go_at_call 24; (with_reducible refine hL.out.mono ?_); rintro e w1 ⟨v1, rfl, o1, b1⟩; obtain ⟨a1, c1, rfl, hQ⟩ := HS.out w1 _ v1 o1; have HQ := Lib.hid hQ; clear hQ) | (go_at_call 25; (with_reducible refine (hB.out _).mono ?_); rintro e w2 ⟨rfl, rfl⟩) | (go_at_call 26; (with_reducible refine HQ.out.mono ?_); rintro e w3 ⟨b3, rfl, rfl⟩))
        go_ret2
        exact ⟨rfl, b1⟩
set_option maxHeartbeats 1000000 in
theorem size_for_s {v : Value} {xs : List Int} {w : World} (m : Int) (h : Rd w v xs) (hn : xs.length ≤ 1048576) :
    Calls Try.prog 6 #[v, .int .i64 m] w (Ib2 (szV xs m) (szOk xs m) w) := by
  have hU := Lib.hid (uses_sR h hn)
  have hZ := Lib.hid (size_s m w)
  cases hok : okU xs
  · have e : szOk xs m = false := by unfold szOk; rw [hok]; rfl
    have e2 : szV xs m = 0 := by unfold szV; rw [e]; rfl
    rw [e, e2]
    rw [hok] at hU
    clear e e2 hok
    go_enter Try.func6, Try.ntmps6
    go_wp2_with (go_at_call 20; (with_reducible refine hU.out.mono ?_); rintro e w1 ⟨rfl, rfl⟩)
    go_ret2
    exact ⟨rfl, Below.refl _ _⟩
  · rw [hok] at hU
    cases hm : okS m
    · have e : szOk xs m = false := by unfold szOk; rw [hm, Bool.and_false]; rfl
      have e2 : szV xs m = 0 := by unfold szV; rw [e]; rfl
      rw [e, e2]
      rw [hm] at hZ
      clear e e2 hok hm
      go_enter Try.func6, Try.ntmps6
      go_wp2_with (first | (go_at_call 20; (with_reducible refine hU.out.mono ?_); rintro e w1 ⟨rfl, rfl⟩) | (go_at_call 21; (with_reducible refine hZ.out.mono ?_); rintro e w1 ⟨rfl, rfl⟩))
      go_ret2
      exact ⟨rfl, Below.refl _ _⟩
    · rw [hm] at hZ
      obtain ⟨a, c, rfl, hcc, hcm, hr⟩ := h
      have hD : Hid (Calls Try.prog 23 #[.slice a xs.length c] w (Lb (distP xs) w)) := dist_s a c xs w (okU_len hok) hcc hcm.1 hr
      have HB := Lib.hid (fun (w1 : World) (B : Nat) (v2 : Value) (o2 : Own w1 B v2 (distP xs)) => show Calls Try.prog 22 #[v2, .int .i64 60] w1 (Lb (curveP (distP xs) 60) w1) from by
        obtain ⟨a2, c2, rfl, _, _, hr2⟩ := o2.rd
        exact curve_s a2 c2 (distP xs) 60 w1 (Nat.le_refl _) (by rw [distP_len]; exact okU_len hok) hr2)
      have hl := curve_len (distP xs) 60
      obtain ⟨s1, s2⟩ := over_split (curveP (distP xs) 60) m (curve_falls _ _)
      have HS1 := Lib.hid s1
      have HS2 := Lib.hid s2
      have hE1 : szOk xs m = decide (over (curveP (distP xs) 60) m < 61) := by unfold szOk; rw [hok, hm]; rfl
      have hov := over_le (curveP (distP xs) 60) m
      have hE2 : szV xs m = if szOk xs m then ((over (curveP (distP xs) 60) m : Nat) : Int) else 0 := rfl
      rw [hE1] at hE2
      rw [hE1, hE2]
      rw [hl] at hov HS2
      have HLL := Lib.hid hl
      clear hE1 hE2 hok hm hl s1 s2 hr hcm
      generalize over (curveP (distP xs) 60) m = K at *
      generalize curveP (distP xs) 60 = CP at *
      generalize distP xs = DP at *
      generalize xs.length = N at *
      obtain ⟨R, hR⟩ : ∃ R, (if decide (K < 61) = true then (K : Int) else 0) = R := ⟨_, rfl⟩
      obtain ⟨D, hD⟩ : ∃ D, decide (K < 61) = D := ⟨_, rfl⟩
      rw [hR, hD]
      have HR := Lib.hid hR
      have HD := Lib.hid hD
      clear hR hD
      go_enter Try.func6, Try.ntmps6
      go_wp2_with (first | (go_at_call 20; (with_reducible refine hU.out.mono ?_); rintro e w1 ⟨rfl, rfl⟩) | (go_at_call 21; (with_reducible refine hZ.out.mono ?_); rintro e w1 ⟨rfl, rfl⟩) | (go_at_call 23; (with_reducible refine hD.out.mono ?_); rintro e w1 ⟨v1, rfl, o1, b1⟩) | (go_at_call 22; (with_reducible refine (HB.out _ _ _ o1).mono ?_); rintro e w2 ⟨v2, rfl, o2, b2⟩))
      obtain ⟨a3, c3, ev, _, _, hrow⟩ := o2.rd
      rw [HLL.out] at ev
      subst ev
      have HC := Lib.hid hrow
      unfold Row at HC
      rw [HLL.out] at HC
      have BB := Lib.hid (b1.trans (b2.mono b1.size))
      clear hrow o2 o1 b1 b2
      go_loopw [7] (fun i wr => ∃ j : Nat, j ≤ K ∧ i = .int .i64 j ∧ wr = w2) (fun i _ => K - (intOf i).toNat)
      case atStart => exact ⟨0, Nat.zero_le _, rfl, rfl⟩
      case round =>
        obtain ⟨j, hj, rfl, rfl⟩ := hrel
        by_cases hlt : j < K
        · have h61 : j < 61 := by omega
          have hji : (j : Int) < 61 := by omega
          obtain ⟨b0, off, rfl, c1, _⟩ := HC.out j h61
          have hgt := HS1.out j hlt
          generalize CP.getD j 0 = u at *
          go_wp2
          go_roundw
          case rel => exact ⟨j + 1, by omega, by go_num, by first | rfl | trivial⟩
          case measure => simp [intOf]; omega
        · have e : j = K := by omega
          subst e
          by_cases hK : j < 61
          · obtain ⟨b0, off, rfl, c1, _⟩ := HC.out j hK
            have hgt := HS2.out j (Nat.le_refl _) hK
            have hji : (j : Int) < 61 := by omega
            generalize CP.getD j 0 = u at *
            have eD : D = true := by rw [← HD.out, decide_eq_true hK]
            have eR : R = (j : Int) := by rw [← HR.out, decide_eq_true hK, if_pos rfl]
            clear HR HD
            subst eD eR
            go_wp2
            go_ret2
            exact ⟨rfl, BB.out⟩
          · have hji : ¬ (j : Int) < 61 := by omega
            have eD : D = false := by rw [← HD.out, decide_eq_false hK]
            have eR : R = 0 := by rw [← HR.out, decide_eq_false hK]; rfl
            clear HR HD
            subst eD eR
            go_wp2
            go_ret2
            exact ⟨rfl, BB.out⟩
end Go.Proofs.Ytaeaffddmohjgaa.Tr
