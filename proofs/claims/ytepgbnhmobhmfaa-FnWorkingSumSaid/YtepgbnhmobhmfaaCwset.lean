/- The contracts of both WorkingSet. -/
import Derived.Test.YtepgbnhmobhmfaaCworkI
namespace Go.Proofs.Ytepgbnhmobhmfaa.Tr
open Go.RowKit
theorem win_i (x : Int) (w : World) (b : Bool) (hb : b = decide (1 ≤ x ∧ x ≤ 60)) : Calls Try.prog 23 #[.int .i64 x] w (Bl b w) := by
  by_cases h : 1 ≤ x ∧ x ≤ 60
  · have e : b = true := by rw [hb, decide_eq_true h]
    have hK := Lib.hid (btw_yes x 1 60 w h.1 h.2)
    clear hb h
    subst e
    go_enter Try.func23, Try.ntmps23
    go_wp2_with (go_at_call 30; refine hK.out.mono ?_; rintro e w' ⟨rfl, rfl⟩)
    go_ret
    exact ⟨rfl, rfl⟩
  · have e : b = false := by rw [hb, decide_eq_false h]
    have hK := Lib.hid (btw_no x 1 60 w h)
    clear hb h
    subst e
    go_enter Try.func23, Try.ntmps23
    go_wp2_with (go_at_call 30; refine hK.out.mono ?_; rintro e w' ⟨rfl, rfl⟩)
    go_ret
    exact ⟨rfl, rfl⟩
set_option maxHeartbeats 1000000 in
theorem ws_yes_i {v : Value} {xs : List Int} {w : World} (i q : Nat) (h : Rd w v xs) (hok : okU xs = true) (hi : i < xs.length) (hq1 : 1 ≤ q) (hq : q ≤ 60) :
    Calls Try.prog 12 #[v, .int .i64 (i : Int), .int .i64 (q : Int)] w (Res (wsL xs q i) true w) := by
  have hn := okU_len hok
  have hU := Lib.hid (uses_iR h (by omega))
  rw [hok] at hU
  obtain ⟨a, c, rfl, _, _, hr⟩ := h
  have hB := Lib.hid (btw_yes (i : Int) 0 ((xs.length : Int) - 1) w (by omega) (by omega))
  have hW := Lib.hid (win_i (q : Int) w true (by rw [decide_eq_true (by omega)]))
  have hV := Lib.hid (last_value a xs.length c i q w)
  have hS := Lib.hid (work_i a c i q xs hn hi hq1 hq w hr)
  clear hok hr
  generalize wsL xs q i = ys at *
  generalize xs.length = N at *
  go_enter Try.func12, Try.ntmps12
  go_wp2_with (first | (go_at_call 29; refine hU.out.mono ?_; rintro e w' ⟨rfl, rfl⟩) | (go_at_call 30; refine hB.out.mono ?_; rintro e w' ⟨rfl, rfl⟩) | (go_at_call 23; refine hW.out.mono ?_; rintro e w' ⟨rfl, rfl⟩) | (go_at_call 27; refine hV.out.mono ?_; rintro e w0 ⟨rfl, rfl⟩) | (go_at_call 26; refine hS.out.mono ?_; rintro e w1 ⟨v1, rfl, ho, hb⟩))
  go_ret2
  exact ⟨_, rfl, ho, hb⟩
theorem ws_no_i {v : Value} {xs : List Int} {w : World} (x y : Int) (h : Rd w v xs) (hn : xs.length ≤ 1048576) (hno : ¬ (okU xs = true ∧ 0 ≤ x ∧ x < xs.length ∧ 1 ≤ y ∧ y ≤ 60)) :
    Calls Try.prog 12 #[v, .int .i64 x, .int .i64 y] w (Res [] false w) := by
  have hU := Lib.hid (uses_iR h hn)
  have hW := Lib.hid (win_i y w (decide (1 ≤ y ∧ y ≤ 60)) rfl)
  obtain ⟨a, c, rfl, _, _, _⟩ := h
  cases hok : okU xs
  · rw [hok] at hU
    clear hno
    go_enter Try.func12, Try.ntmps12
    go_wp2_with (go_at_call 29; refine hU.out.mono ?_; rintro e w' ⟨rfl, rfl⟩)
    go_ret2
    exact ⟨_, rfl, Own.nil _ _, Below.refl _ _⟩
  · rw [hok] at hU
    by_cases hx : 0 ≤ x ∧ x < xs.length
    · have hB := Lib.hid (btw_yes x 0 ((xs.length : Int) - 1) w (by omega) (by omega))
      have hy : ¬ (1 ≤ y ∧ y ≤ 60) := fun h => hno ⟨hok, hx.1, hx.2, h⟩
      rw [decide_eq_false hy] at hW
      clear hno hx hy
      go_enter Try.func12, Try.ntmps12
      go_wp2_with (first | (go_at_call 29; refine hU.out.mono ?_; rintro e w' ⟨rfl, rfl⟩) | (go_at_call 30; refine hB.out.mono ?_; rintro e w' ⟨rfl, rfl⟩) | (go_at_call 23; refine hW.out.mono ?_; rintro e w' ⟨rfl, rfl⟩))
      go_ret2
      exact ⟨_, rfl, Own.nil _ _, Below.refl _ _⟩
    · have hB := Lib.hid (btw_no x 0 ((xs.length : Int) - 1) w (by omega))
      clear hno hx
      go_enter Try.func12, Try.ntmps12
      go_wp2_with (first | (go_at_call 29; refine hU.out.mono ?_; rintro e w' ⟨rfl, rfl⟩) | (go_at_call 30; refine hB.out.mono ?_; rintro e w' ⟨rfl, rfl⟩))
      go_ret2
      exact ⟨_, rfl, Own.nil _ _, Below.refl _ _⟩
end Go.Proofs.Ytepgbnhmobhmfaa.Tr
