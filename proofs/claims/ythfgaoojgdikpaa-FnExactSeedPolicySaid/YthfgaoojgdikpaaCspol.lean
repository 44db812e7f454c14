/- The model's orders and its known policies. -/
import Derived.Test.YthfgaoojgdikpaaCtree
namespace Go.Proofs.Ythfgaoojgdikpaa
open Go.RowKit
/-- All numbers below j but one. -/
def but (i : Nat) (j : Nat) : List Int := ((List.range j).filter fun k : Nat => k != i).map fun k : Nat => (k : Int)
theorem but_succ_ne (i j : Nat) (h : j ≠ i) : but i (j + 1) = but i j ++ [(j : Int)] := by
  unfold but; rw [List.range_succ, List.filter_append, List.map_append]; simp [h]
theorem but_succ_eq (i : Nat) : but i (i + 1) = but i i := by
  unfold but; rw [List.range_succ, List.filter_append, List.map_append]; simp
theorem but_len (i j : Nat) : (but i j).length ≤ j := by
  unfold but; rw [List.length_map]; exact Nat.le_trans (List.length_filter_le _ _) (by simp)
set_option maxHeartbeats 1000000 in
theorem front_s (i n : Nat) (hi : i ≤ 6) (hn : n ≤ 6) (w : World) : Calls Try.prog 60 #[.int .i64 (i : Nat), .int .i64 (n : Nat)] w (Lb ((i : Int) :: but i n) w) := by
  have HNE := Lib.hid (fun j (h : j ≠ i) => but_succ_ne i j h)
  have HEQ := Lib.hid (but_succ_eq i)
  have HL := Lib.hid (fun j => but_len i j)
  have h0 := Lib.hid (Own.lit w (i : Int))
  go_enter Try.func60, Try.ntmps60
  go_wp2
  go_loopw [5, 6] (fun v jj wr => ∃ j : Nat, j ≤ n ∧ jj = .int .i64 (j : Nat) ∧ Hid (Own wr w.heap.size v ((i : Int) :: but i j)) ∧ Hid (Below w.heap.size w wr)) (fun _ jj _ => n - (intOf jj).toNat)
  case atStart => exact ⟨0, Nat.zero_le _, rfl, h0, (Below.refl _ _).alloc (Nat.le_refl _) _⟩
  case round =>
    obtain ⟨j, hj, rfl, ho, hb⟩ := hrel
    by_cases hlt : j < n
    · by_cases hji : j = i
      · subst hji
        have ho2 := ho.out
        rw [← HEQ.out] at ho2
        have e := Lib.hid ho2
        clear ho2
        go_wp2
        go_roundw
        case rel => exact ⟨j + 1, by omega, by go_num, e, hb⟩
        case measure => simp [intOf]; omega
      · have hne : ((j : Int) != (i : Int)) = true := by simp; omega
        have e1 := Lib.hid (HNE.out j hji)
        have hq : ((i : Int) :: but i j).length + 1 ≤ 1000000000 := by have := HL.out j; simp; omega
        have ho5 := ho.out
        have hsz := hb.out.size
        go_wp2_with (at_builtin; refine wpList_app _ rfl _ _ rfl w.heap.size _ ((i : Int) :: but i j) _ ?_ ?_ ho5 hq hsz ?_; rfl; rfl)
        intro v' w6 ho6 hb6
        go_wp2
        go_roundw
        case rel => exact ⟨j + 1, by omega, by go_num, (by rw [e1.out]; exact ho6), hb.out.trans hb6⟩
        case measure => simp [intOf]; omega
    · have e : j = n := by omega
      subst e
      go_wp2
      go_ret
      exact ⟨_, rfl, ho.out, hb.out⟩
set_option maxHeartbeats 1000000 in
theorem back_s (i n : Nat) (hi : i ≤ 6) (hn : n ≤ 6) (w : World) : Calls Try.prog 62 #[.int .i64 (i : Nat), .int .i64 (n : Nat)] w (Lb (but i n ++ [(i : Int)]) w) := by
  have HNE := Lib.hid (fun j (h : j ≠ i) => but_succ_ne i j h)
  have HEQ := Lib.hid (but_succ_eq i)
  have HL := Lib.hid (fun j => but_len i j)
  have h0 := Lib.hid (Own.lit0 w)
  go_enter Try.func62, Try.ntmps62
  go_wp2
  go_loopw [5, 6] (fun v jj wr => ∃ j : Nat, j ≤ n ∧ jj = .int .i64 (j : Nat) ∧ Hid (Own wr w.heap.size v (but i j)) ∧ Hid (Below w.heap.size w wr)) (fun _ jj _ => n - (intOf jj).toNat)
  case atStart => exact ⟨0, Nat.zero_le _, rfl, h0, (Below.refl _ _).alloc (Nat.le_refl _) _⟩
  case round =>
    obtain ⟨j, hj, rfl, ho, hb⟩ := hrel
    by_cases hlt : j < n
    · by_cases hji : j = i
      · subst hji
        have ho2 := ho.out
        rw [← HEQ.out] at ho2
        have e := Lib.hid ho2
        clear ho2
        go_wp2
        go_roundw
        case rel => exact ⟨j + 1, by omega, by go_num, e, hb⟩
        case measure => simp [intOf]; omega
      · have hne : ((j : Int) != (i : Int)) = true := by simp; omega
        have e1 := Lib.hid (HNE.out j hji)
        have hq : (but i j).length + 1 ≤ 1000000000 := by have := HL.out j; omega
        have ho5 := ho.out
        have hsz := hb.out.size
        go_wp2_with (at_builtin; refine wpList_app _ rfl _ _ rfl w.heap.size _ (but i j) _ ?_ ?_ ho5 hq hsz ?_; rfl; rfl)
        intro v' w6 ho6 hb6
        go_wp2
        go_roundw
        case rel => exact ⟨j + 1, by omega, by go_num, (by rw [e1.out]; exact ho6), hb.out.trans hb6⟩
        case measure => simp [intOf]; omega
    · have e : j = n := by omega
      subst e
      have hq : (but i j).length + 1 ≤ 1000000000 := by have := HL.out j; omega
      have ho5 := ho.out
      have hsz := hb.out.size
      go_wp2_with (at_builtin; refine wpList_app _ rfl _ _ rfl w.heap.size _ (but i j) _ ?_ ?_ ho5 hq hsz ?_; rfl; rfl)
      intro v' w6 ho6 hb6
      go_wp2
      go_ret
      exact ⟨_, rfl, ho6, hb.out.trans hb6⟩
theorem same_s (n : Nat) (h1 : 1 ≤ n) (hn : n ≤ 6) (w : World) : Calls Try.prog 61 #[.int .i64 (n : Nat)] w (Lb (but (n - 1) n ++ [((n - 1 : Nat) : Int)]) w) := by
  have e : (n : Int) - 1 = ((n - 1 : Nat) : Int) := by omega
  have HB := Lib.hid (fun w => back_s (n - 1) n (by omega) hn w)
  have hn1 : (1 : Int) ≤ (n : Int) := by omega
  have hn6 : (n : Int) ≤ 6 := by omega
  generalize but (n - 1) n ++ [((n - 1 : Nat) : Int)] = L at *
  rw [← e] at HB
  clear e
  go_enter Try.func61, Try.ntmps61
  go_wp2_with fail
  refine (HB.out _).mono ?_
  rintro e w1 ⟨v, rfl, o1, b1⟩
  go_wp2
  go_ret
  exact ⟨_, rfl, o1, b1⟩
theorem yng_row (n age : Nat) (h : age < n) (hn : n ≤ 6) : (age : Int) :: but age n = rowL n (yng age) := by
  have : n = 0 ∨ n = 1 ∨ n = 2 ∨ n = 3 ∨ n = 4 ∨ n = 5 ∨ n = 6 := by omega
  rcases this with rfl | rfl | rfl | rfl | rfl | rfl | rfl <;> rcases below6 (show age < 6 by omega) with rfl | rfl | rfl | rfl | rfl | rfl <;> first | decide | (exact absurd h (by omega))
theorem same_row (n : Nat) (h1 : 1 ≤ n) (hn : n ≤ 6) : but (n - 1) n ++ [((n - 1 : Nat) : Int)] = rowL n sameO := by
  have : n = 0 ∨ n = 1 ∨ n = 2 ∨ n = 3 ∨ n = 4 ∨ n = 5 ∨ n = 6 := by omega
  rcases this with rfl | rfl | rfl | rfl | rfl | rfl | rfl <;> first | decide | (exact absurd h1 (by omega))
end Go.Proofs.Ythfgaoojgdikpaa
