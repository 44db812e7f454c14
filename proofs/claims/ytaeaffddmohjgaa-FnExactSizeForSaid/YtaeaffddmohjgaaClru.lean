/- The contracts of both DistancesOf, DistanceCounts, StackOf and LruCurve. -/
import Derived.Test.YtaeaffddmohjgaaCstuL
import Derived.Test.YtaeaffddmohjgaaCdcntS
import Derived.Test.YtaeaffddmohjgaaCbtw
namespace Go.Proofs.Ytaeaffddmohjgaa.Tr
open Go.RowKit
theorem latest_i (c t : Int) (w : World) : Calls Try.prog 47 #[.int .i64 c, .int .i64 t] w (Bl (always c t) w) := by
  show Calls _ _ _ _ (Bl true w)
  go_enter Try.func47, Try.ntmps47
  go_wp2
  go_ret
  exact ⟨rfl, rfl⟩
def distP (xs : List Int) : List Int := told (stoodAt always xs) xs.length
theorem distP_len (xs : List Int) : (distP xs).length = xs.length := told_length _ _
theorem stk_any (sl : Option Addr) (c : Nat) (xs : List Int) (w : World) (hok : okU xs = true) (hr : Row w sl xs) :
    Calls Try.prog 46 #[.slice sl xs.length c, .func (.func 47) #[] #[]] w (fun e w' => ∃ v1 v2, e = .returned (.tuple #[v1, v2]) ∧ Own w' w.heap.size v1 (stackK always xs xs.length) ∧ Own w' w.heap.size v2 (distP xs) ∧ Below w.heap.size w w') :=
  stack_L always sl c xs w hok hr (fun c t w' _ _ _ => latest_i c t w')
theorem dcnt_len (xs : List Int) (hn : xs.length ≤ 60) : (bumps (distP xs) (distP xs).length).length ≤ 60 := bumps_len (distP xs) 60 (fun j hj => (stood_told always xs hn j hj).2) _ (Nat.le_refl _)
set_option maxHeartbeats 1000000 in
theorem lru_yes_i {v : Value} {xs : List Int} {w : World} (m : Nat) (hm : m ≤ 60) (h : Rd w v xs) (hok : okU xs = true) :
    Calls Try.prog 24 #[v, .int .i64 (m : Int)] w (Res (curveP (distP xs) m) true w) := by
  have hn := okU_len hok
  have hU := Lib.hid (uses_iR h (by omega))
  rw [hok] at hU
  obtain ⟨a, c, rfl, _, _, hr⟩ := h
  have hS := Lib.hid (stk_any a c xs w hok hr)
  have hZ := Lib.hid (size_i (m : Int) w)
  have e : okS (m : Int) = true := decide_eq_true ⟨by omega, by omega⟩
  rw [e] at hZ
  have hl := distP_len xs
  have HB := Lib.hid (fun (w1 : World) (v2 : Value) (o2 : Own w1 w.heap.size v2 (distP xs)) => show Calls Try.prog 48 #[v2, .int .i64 (m : Int)] w1 (Lb (curveP (distP xs) m) w1) from by
    obtain ⟨a2, c2, rfl, _, _, hr2⟩ := o2.rd
    exact curve_i a2 c2 (distP xs) m w1 hm (by omega) (stood_told always xs hn) hr2)
  clear hok hr e hl
  generalize curveP (distP xs) m = CP at *
  generalize stackK always xs xs.length = SK at *
  generalize distP xs = DP at *
  generalize xs.length = N at *
  go_enter Try.func24, Try.ntmps24
  go_wp2_with (first | (go_at_call 33; (with_reducible refine hU.out.mono ?_); rintro e w' ⟨rfl, rfl⟩) | (go_at_call 42; (with_reducible refine hZ.out.mono ?_); rintro e w' ⟨rfl, rfl⟩) | (go_at_call 46; (with_reducible refine hS.out.mono ?_); rintro e w1 ⟨v1, v2, rfl, o1, o2, b1⟩) | (go_at_call 48; (with_reducible refine (HB.out w1 v2 o2).mono ?_); rintro e w2 ⟨v3, rfl, o3, b3⟩))
  go_ret2
  exact ⟨_, rfl, o3.mono b1.size, b1.trans (b3.mono b1.size)⟩
theorem lru_no_i {v : Value} {xs : List Int} {w : World} (x : Int) (h : Rd w v xs) (hn : xs.length ≤ 1048576) (hno : ¬ (okU xs = true ∧ 0 ≤ x ∧ x ≤ 60)) :
    Calls Try.prog 24 #[v, .int .i64 x] w (Res [] false w) := by
  have hU := Lib.hid (uses_iR h hn)
  cases hok : okU xs
  · rw [hok] at hU
    clear hno hok
    go_enter Try.func24, Try.ntmps24
    go_wp2_with (go_at_call 33; (with_reducible refine hU.out.mono ?_); rintro e w' ⟨rfl, rfl⟩)
    go_ret2
    exact ⟨_, rfl, Own.nil _ _, Below.refl _ _⟩
  · rw [hok] at hU
    have e : okS x = false := decide_eq_false (fun hx => hno ⟨hok, hx⟩)
    have hZ := Lib.hid (size_i x w)
    rw [e] at hZ
    clear hno hok e
    go_enter Try.func24, Try.ntmps24
    go_wp2_with (first | (go_at_call 33; (with_reducible refine hU.out.mono ?_); rintro e w' ⟨rfl, rfl⟩) | (go_at_call 42; (with_reducible refine hZ.out.mono ?_); rintro e w' ⟨rfl, rfl⟩))
    go_ret2
    exact ⟨_, rfl, Own.nil _ _, Below.refl _ _⟩
end Go.Proofs.Ytaeaffddmohjgaa.Tr
