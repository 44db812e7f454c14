/- Contracts of the model's and the program's SeedList: the list that follows from the seed, or a failure. -/
import Derived.Test.YtdilbogjihafoaaCapp
import Derived.Test.YtdilbogjihafoaaPlainSeed
namespace Go.Proofs.Ytdilbogjihafoaa.Sd
open Go.RowKit
theorem list_no_s (a0 a1 a2 : Int) (w : World) (h : ¬ (1 ≤ a0 ∧ a0 ≤ 2147483646 ∧ 0 ≤ a1 ∧ a1 ≤ 80 ∧ 1 ≤ a2 ∧ a2 ≤ 1000000000)) :
    Calls Try.prog 30 #[.int .i64 a0, .int .i64 a1, .int .i64 a2] w (Res [] false w) := by
  have H := Lib.hid h
  clear h
  by_cases g0 : 1 ≤ a0
  · by_cases g1 : a0 ≤ 2147483646
    · by_cases g2 : 0 ≤ a1
      · by_cases g3 : a1 ≤ 80
        · by_cases g4 : 1 ≤ a2
          · by_cases g5 : a2 ≤ 1000000000
            · exact absurd ⟨g0, g1, g2, g3, g4, g5⟩ H.out
            · go_enter Try.func30, Try.ntmps30
              go_wp2
              go_ret2
              exact ⟨_, rfl, Own.nil _ _, Below.refl _ _⟩
          · go_enter Try.func30, Try.ntmps30
            go_wp2
            go_ret2
            exact ⟨_, rfl, Own.nil _ _, Below.refl _ _⟩
        · go_enter Try.func30, Try.ntmps30
          go_wp2
          go_ret2
          exact ⟨_, rfl, Own.nil _ _, Below.refl _ _⟩
      · go_enter Try.func30, Try.ntmps30
        go_wp2
        go_ret2
        exact ⟨_, rfl, Own.nil _ _, Below.refl _ _⟩
    · go_enter Try.func30, Try.ntmps30
      go_wp2
      go_ret2
      exact ⟨_, rfl, Own.nil _ _, Below.refl _ _⟩
  · go_enter Try.func30, Try.ntmps30
    go_wp2
    go_ret2
    exact ⟨_, rfl, Own.nil _ _, Below.refl _ _⟩
theorem list_no_i (a0 a1 a2 : Int) (w : World) (h : ¬ (1 ≤ a0 ∧ a0 ≤ 2147483646 ∧ 0 ≤ a1 ∧ a1 ≤ 80 ∧ 1 ≤ a2 ∧ a2 ≤ 1000000000)) :
    Calls Try.prog 17 #[.int .i64 a0, .int .i64 a1, .int .i64 a2] w (Res [] false w) := by
  have H := Lib.hid h
  clear h
  by_cases g0 : 1 ≤ a0
  · by_cases g1 : a0 ≤ 2147483646
    · by_cases g2 : 0 ≤ a1
      · by_cases g3 : a1 ≤ 80
        · by_cases g4 : 1 ≤ a2
          · by_cases g5 : a2 ≤ 1000000000
            · exact absurd ⟨g0, g1, g2, g3, g4, g5⟩ H.out
            · go_enter Try.func17, Try.ntmps17
              go_wp2
              go_ret2
              exact ⟨_, rfl, Own.nil _ _, Below.refl _ _⟩
          · go_enter Try.func17, Try.ntmps17
            go_wp2
            go_ret2
            exact ⟨_, rfl, Own.nil _ _, Below.refl _ _⟩
        · go_enter Try.func17, Try.ntmps17
          go_wp2
          go_ret2
          exact ⟨_, rfl, Own.nil _ _, Below.refl _ _⟩
      · go_enter Try.func17, Try.ntmps17
        go_wp2
        go_ret2
        exact ⟨_, rfl, Own.nil _ _, Below.refl _ _⟩
    · go_enter Try.func17, Try.ntmps17
      go_wp2
      go_ret2
      exact ⟨_, rfl, Own.nil _ _, Below.refl _ _⟩
  · go_enter Try.func17, Try.ntmps17
    go_wp2
    go_ret2
    exact ⟨_, rfl, Own.nil _ _, Below.refl _ _⟩
theorem next_s (s : Nat) (w : World) (h : s < 2147483647) : Calls Try.prog 60 #[.int .i64 s] w fun e w' => e = .returned (.int .i64 (nx s : Nat)) ∧ w = w' := by
  go_enter Try.func60, Try.ntmps60
  go_wp2
  go_ret
  exact ⟨ret_i64 (by simp [nx]), rfl⟩
theorem next_i (s : Nat) (w : World) (h : s < 2147483647) : Calls Try.prog 49 #[.int .i64 s] w fun e w' => e = .returned (.int .i64 (nx s : Nat)) ∧ w = w' := by
  go_enter Try.func49, Try.ntmps49
  go_wp2
  go_ret
  exact ⟨ret_i64 (by simp [nx]), rfl⟩
theorem isSeed_s (a : Int) (w : World) (h : 1 ≤ a) (h2 : a ≤ 2147483646) : Calls Try.prog 59 #[.int .i64 a] w fun e w' => e = .returned (.bool true) ∧ w = w' := by
  go_enter Try.func59, Try.ntmps59
  go_wp2
  go_ret
  exact ⟨rfl, rfl⟩
theorem isSeed_i (a : Int) (w : World) (h : 1 ≤ a) (h2 : a ≤ 2147483646) : Calls Try.prog 47 #[.int .i64 a] w fun e w' => e = .returned (.bool true) ∧ w = w' := by
  go_enter Try.func47, Try.ntmps47
  go_wp2
  go_ret
  exact ⟨rfl, rfl⟩
theorem in_s (a lo hi : Int) (w : World) (h1 : lo ≤ a) (h2 : a ≤ hi) : Calls Try.prog 57 #[.int .i64 a, .int .i64 lo, .int .i64 hi] w fun e w' => e = .returned (.bool true) ∧ w = w' := by
  go_enter Try.func57, Try.ntmps57
  go_wp2
  go_ret
  exact ⟨rfl, rfl⟩
theorem in_i (a lo hi : Int) (w : World) (h1 : lo ≤ a) (h2 : a ≤ hi) : Calls Try.prog 48 #[.int .i64 a, .int .i64 lo, .int .i64 hi] w fun e w' => e = .returned (.bool true) ∧ w = w' := by
  go_enter Try.func48, Try.ntmps48
  go_wp2
  go_ret
  exact ⟨rfl, rfl⟩
set_option maxHeartbeats 800000 in
theorem list_yes_s (s n b : Nat) (w : World) (h1 : 1 ≤ s) (h2 : s ≤ 2147483646) (h3 : n ≤ 80) (h4 : 1 ≤ b) (h5 : b ≤ 1000000000) :
    Calls Try.prog 30 #[.int .i64 s, .int .i64 n, .int .i64 b] w (Res (sl s b n) true w) := by
  go_enter Try.func30, Try.ntmps30
  go_wp2_with (first | (go_at_call 59; refine (isSeed_s _ _ (by omega) (by omega)).mono ?_; rintro e w' ⟨rfl, rfl⟩) | (go_at_call 57; refine (in_s _ _ _ _ (by omega) (by omega)).mono ?_; rintro e w' ⟨rfl, rfl⟩))
  go_loopw [0, 1, 8] (fun sd ct v wr => ∃ j : Nat, j ≤ n ∧ sd = .int .i64 (at_ s j : Nat) ∧ ct = .int .i64 ((n : Int) - j) ∧ Own wr w.heap.size v (sl s b j) ∧ Below w.heap.size w wr) (fun _ ct _ _ => (intOf ct).toNat)
  case atStart => exact ⟨0, Nat.zero_le _, rfl, by simp, World.ownsRow_lit w #[] 0 (Nat.le_refl _) (by unfold maxLen; omega) rfl, (Below.refl _ _).alloc (Nat.le_refl _) _⟩
  case round =>
    obtain ⟨j, hj, rfl, rfl, ho, hb⟩ := hrel
    have hsz := hb.size
    have hlen := sl_length s b j
    have HL := Lib.hid hlen
    clear hlen
    have hs := at_lt s j (by omega)
    by_cases hlt : j < n
    · have hx := at_lt s (j + 1) (by omega)
      go_wp2_with (first | (go_at_call 60; refine (next_s _ _ hs).mono ?_; rintro e w' ⟨rfl, rfl⟩) | (at_builtin; refine wpList_app _ rfl _ _ rfl w.heap.size _ (sl s b j) _ ?_ ?_ ho ?_ ?_ ?_; rfl; rfl))
      · rw [HL.out]; omega
      · exact hsz
      intro v' w1 ho1 hb1
      go_wp2
      go_roundw
      case rel => exact ⟨j + 1, by omega, rfl, by go_num, ho1, hb.trans hb1⟩
      case measure => simp [intOf]; omega
    · go_wp2
      go_ret2
      have e : j = n := by omega
      subst e
      exact ⟨_, rfl, ho, hb⟩
set_option maxHeartbeats 800000 in
theorem list_yes_i (s n b : Nat) (w : World) (h1 : 1 ≤ s) (h2 : s ≤ 2147483646) (h3 : n ≤ 80) (h4 : 1 ≤ b) (h5 : b ≤ 1000000000) :
    Calls Try.prog 17 #[.int .i64 s, .int .i64 n, .int .i64 b] w (Res (sl s b n) true w) := by
  go_enter Try.func17, Try.ntmps17
  go_wp2_with (first | (go_at_call 47; refine (isSeed_i _ _ (by omega) (by omega)).mono ?_; rintro e w' ⟨rfl, rfl⟩) | (go_at_call 48; refine (in_i _ _ _ _ (by omega) (by omega)).mono ?_; rintro e w' ⟨rfl, rfl⟩) | (at_make; refine wpList_make0 _ rfl _ _ rfl n .i64 .i64 (n : Int) ?_ ?_ rfl ?_ ?_; rfl; rfl; omega))
  intro v0 w0 ho0 hb0 hsz0
  go_wp2
  go_loopw [0, 8, 25] (fun sd v ct wr => ∃ j : Nat, j ≤ n ∧ sd = .int .i64 (at_ s j : Nat) ∧ ct = .int .i64 j ∧ Own wr w.heap.size v (sl s b j) ∧ Below w.heap.size w wr) (fun _ _ ct _ => n - (intOf ct).toNat)
  case atStart => exact ⟨0, Nat.zero_le _, rfl, rfl, ho0, hb0⟩
  case round =>
    obtain ⟨j, hj, rfl, rfl, ho, hb⟩ := hrel
    have hsz := hb.size
    have hlen := sl_length s b j
    have HL := Lib.hid hlen
    clear hlen
    have hs := at_lt s j (by omega)
    by_cases hlt : j < n
    · have hx := at_lt s (j + 1) (by omega)
      go_wp2_with (first | (go_at_call 49; refine (next_i _ _ hs).mono ?_; rintro e w' ⟨rfl, rfl⟩) | (at_builtin; refine wpList_app _ rfl _ _ rfl w.heap.size _ (sl s b j) _ ?_ ?_ ho ?_ ?_ ?_; rfl; rfl))
      · rw [HL.out]; omega
      · exact hsz
      intro v' w1 ho1 hb1
      go_wp2
      go_roundw
      case rel => exact ⟨j + 1, by omega, rfl, by go_num, ho1, hb.trans hb1⟩
      case measure => simp [intOf]; omega
    · go_wp2
      go_ret2
      have e : j = n := by omega
      subst e
      exact ⟨_, rfl, ho, hb⟩
end Go.Proofs.Ytdilbogjihafoaa.Sd
