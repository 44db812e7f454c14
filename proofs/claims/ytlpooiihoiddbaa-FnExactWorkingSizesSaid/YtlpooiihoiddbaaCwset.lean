/- The contracts of both WorkingSet. -/
import Derived.Test.YtlpooiihoiddbaaCworkI
namespace Go.Proofs.Ytlpooiihoiddbaa.Tr
open Go.RowKit
theorem win_i (x : Int) (w : World) (b : Bool) (hb : b = decide (1 ≤ x ∧ x ≤ 60)) : Calls Try.prog 53 #[.int .i64 x] w (Bl b w) := by
  by_cases h : 1 ≤ x ∧ x ≤ 60
  · have e : b = true := by rw [hb, decide_eq_true h]
    have hK := Lib.hid (btw_yes x 1 60 w h.1 h.2)
    clear hb h
    subst e
    go_enter Try.func53, Try.ntmps53
    go_wp2_with (go_at_call 43; refine hK.out.mono ?_; rintro e w' ⟨rfl, rfl⟩)
    go_ret
    exact ⟨rfl, rfl⟩
  · have e : b = false := by rw [hb, decide_eq_false h]
    have hK := Lib.hid (btw_no x 1 60 w h)
    clear hb h
    subst e
    go_enter Try.func53, Try.ntmps53
    go_wp2_with (go_at_call 43; refine hK.out.mono ?_; rintro e w' ⟨rfl, rfl⟩)
    go_ret
    exact ⟨rfl, rfl⟩
set_option maxHeartbeats 1000000 in
theorem ws_yes_i {v : Value} {xs : List Int} {w : World} (i q : Nat) (h : Rd w v xs) (hok : okU xs = true) (hi : i < xs.length) (hq1 : 1 ≤ q) (hq : q ≤ 60) :
    Calls Try.prog 29 #[v, .int .i64 (i : Int), .int .i64 (q : Int)] w (Res (wsL xs q i) true w) := by
  have hn := okU_len hok
  have hU := Lib.hid (uses_iR h (by omega))
  rw [hok] at hU
  obtain ⟨a, c, rfl, _, _, hr⟩ := h
  have hB := Lib.hid (btw_yes (i : Int) 0 ((xs.length : Int) - 1) w (by omega) (by omega))
  have hW := Lib.hid (win_i (q : Int) w true (by rw [decide_eq_true (by omega)]))
  have hV := Lib.hid (last_value a xs.length c i q w)
  have hS := Lib.hid (work_i a c i q xs hn hi hq1 hq w hr)
  clear hok hr
  generalize wsL xs q i = ys at *
  generalize xs.length = N at *
  go_enter Try.func29, Try.ntmps29
  go_wp2_with (first | (go_at_call 14; refine hU.out.mono ?_; rintro e w' ⟨rfl, rfl⟩) | (go_at_call 43; refine hB.out.mono ?_; rintro e w' ⟨rfl, rfl⟩) | (go_at_call 53; refine hW.out.mono ?_; rintro e w' ⟨rfl, rfl⟩) | (go_at_call 54; refine hV.out.mono ?_; rintro e w0 ⟨rfl, rfl⟩) | (go_at_call 50; refine hS.out.mono ?_; rintro e w1 ⟨v1, rfl, ho, hb⟩))
  go_ret2
  exact ⟨_, rfl, ho, hb⟩
set_option maxHeartbeats 1000000 in
theorem ws_yes_s {v : Value} {xs : List Int} {w : World} (i q : Nat) (h : Rd w v xs) (hok : okU xs = true) (hi : i < xs.length) (hq1 : 1 ≤ q) (hq : q ≤ 60) :
    Calls Try.prog 28 #[v, .int .i64 (i : Int), .int .i64 (q : Int)] w (Res (wsL xs q i) true w) := by
  have hn := okU_len hok
  have hU := Lib.hid (uses_sR h (by omega))
  rw [hok] at hU
  obtain ⟨a, c, rfl, hcc, hcm, hr⟩ := h
  have hB := Lib.hid (in_yes (i : Int) 0 ((xs.length : Int) - 1) w (by omega) (by omega))
  have hW := Lib.hid (in_yes (q : Int) 1 60 w (by omega) (by omega))
  have hS := Lib.hid (work_s a c i q xs hn hcc hcm.1 hi hq1 hq w hr)
  clear hok hr hcm
  generalize wsL xs q i = ys at *
  generalize xs.length = N at *
  go_enter Try.func28, Try.ntmps28
  go_wp2_with (first | (go_at_call 34; refine hU.out.mono ?_; rintro e w' ⟨rfl, rfl⟩) | (go_at_call 41; first | ((with_reducible refine hB.out.mono ?_); rintro e w' ⟨rfl, rfl⟩) | ((with_reducible refine hW.out.mono ?_); rintro e w' ⟨rfl, rfl⟩)) | (go_at_call 52; refine hS.out.mono ?_; rintro e w1 ⟨v1, rfl, ho, hb⟩))
  go_ret2
  exact ⟨_, rfl, ho, hb⟩
theorem ws_no_i {v : Value} {xs : List Int} {w : World} (x y : Int) (h : Rd w v xs) (hn : xs.length ≤ 1048576) (hno : ¬ (okU xs = true ∧ 0 ≤ x ∧ x < xs.length ∧ 1 ≤ y ∧ y ≤ 60)) :
    Calls Try.prog 29 #[v, .int .i64 x, .int .i64 y] w (Res [] false w) := by
  have hU := Lib.hid (uses_iR h hn)
  have hW := Lib.hid (win_i y w (decide (1 ≤ y ∧ y ≤ 60)) rfl)
  obtain ⟨a, c, rfl, _, _, _⟩ := h
  cases hok : okU xs
  · rw [hok] at hU
    clear hno
    go_enter Try.func29, Try.ntmps29
    go_wp2_with (go_at_call 14; refine hU.out.mono ?_; rintro e w' ⟨rfl, rfl⟩)
    go_ret2
    exact ⟨_, rfl, Own.nil _ _, Below.refl _ _⟩
  · rw [hok] at hU
    by_cases hx : 0 ≤ x ∧ x < xs.length
    · have hB := Lib.hid (btw_yes x 0 ((xs.length : Int) - 1) w (by omega) (by omega))
      have hy : ¬ (1 ≤ y ∧ y ≤ 60) := fun h => hno ⟨hok, hx.1, hx.2, h⟩
      rw [decide_eq_false hy] at hW
      clear hno hx hy
      go_enter Try.func29, Try.ntmps29
      go_wp2_with (first | (go_at_call 14; refine hU.out.mono ?_; rintro e w' ⟨rfl, rfl⟩) | (go_at_call 43; refine hB.out.mono ?_; rintro e w' ⟨rfl, rfl⟩) | (go_at_call 53; refine hW.out.mono ?_; rintro e w' ⟨rfl, rfl⟩))
      go_ret2
      exact ⟨_, rfl, Own.nil _ _, Below.refl _ _⟩
    · have hB := Lib.hid (btw_no x 0 ((xs.length : Int) - 1) w (by omega))
      clear hno hx
      go_enter Try.func29, Try.ntmps29
      go_wp2_with (first | (go_at_call 14; refine hU.out.mono ?_; rintro e w' ⟨rfl, rfl⟩) | (go_at_call 43; refine hB.out.mono ?_; rintro e w' ⟨rfl, rfl⟩))
      go_ret2
      exact ⟨_, rfl, Own.nil _ _, Below.refl _ _⟩
theorem ws_no_s {v : Value} {xs : List Int} {w : World} (x y : Int) (h : Rd w v xs) (hn : xs.length ≤ 1048576) (hno : ¬ (okU xs = true ∧ 0 ≤ x ∧ x < xs.length ∧ 1 ≤ y ∧ y ≤ 60)) :
    Calls Try.prog 28 #[v, .int .i64 x, .int .i64 y] w (Res [] false w) := by
  have hU := Lib.hid (uses_sR h hn)
  obtain ⟨a, c, rfl, _, _, _⟩ := h
  cases hok : okU xs
  · rw [hok] at hU
    clear hno
    go_enter Try.func28, Try.ntmps28
    go_wp2_with (go_at_call 34; refine hU.out.mono ?_; rintro e w' ⟨rfl, rfl⟩)
    go_ret2
    exact ⟨_, rfl, Own.nil _ _, Below.refl _ _⟩
  · rw [hok] at hU
    by_cases hx : 0 ≤ x ∧ x < xs.length
    · have hB := Lib.hid (in_yes x 0 ((xs.length : Int) - 1) w (by omega) (by omega))
      have hW := Lib.hid (in_no y 1 60 w (fun h => hno ⟨hok, hx.1, hx.2, h⟩))
      clear hno hx
      go_enter Try.func28, Try.ntmps28
      go_wp2_with (first | (go_at_call 34; refine hU.out.mono ?_; rintro e w' ⟨rfl, rfl⟩) | (go_at_call 41; first | ((with_reducible refine hB.out.mono ?_); rintro e w' ⟨rfl, rfl⟩) | ((with_reducible refine hW.out.mono ?_); rintro e w' ⟨rfl, rfl⟩)))
      go_ret2
      exact ⟨_, rfl, Own.nil _ _, Below.refl _ _⟩
    · have hB := Lib.hid (in_no x 0 ((xs.length : Int) - 1) w (by omega))
      clear hno hx
      go_enter Try.func28, Try.ntmps28
      go_wp2_with (first | (go_at_call 34; refine hU.out.mono ?_; rintro e w' ⟨rfl, rfl⟩) | (go_at_call 41; refine hB.out.mono ?_; rintro e w' ⟨rfl, rfl⟩))
      go_ret2
      exact ⟨_, rfl, Own.nil _ _, Below.refl _ _⟩
end Go.Proofs.Ytlpooiihoiddbaa.Tr
