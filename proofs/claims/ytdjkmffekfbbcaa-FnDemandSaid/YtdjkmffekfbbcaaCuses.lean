/- Contracts of the model's and the program's test of uses: at most 60 addresses. -/
import Derived.Test.YtdjkmffekfbbcaaCrd
import Derived.Test.YtdjkmffekfbbcaaPlainSets
namespace Go.Proofs.Ytdjkmffekfbbcaa.Tr
open Go.RowKit
theorem isA_yes {x : Int} (h0 : 0 ≤ x) (h1 : x ≤ 63) : isA x = true := by simp only [isA, decide_eq_true h0, decide_eq_true h1]; rfl
theorem isA_low {x : Int} (h0 : ¬ 0 ≤ x) : isA x = false := by simp only [isA, decide_eq_false h0]; rfl
theorem isA_high {x : Int} (h1 : ¬ x ≤ 63) : isA x = false := by simp only [isA, decide_eq_false h1, Bool.and_false]
theorem isA_of {x : Int} (h : isA x = true) : 0 ≤ x ∧ x ≤ 63 := by simpa [isA] using h
theorem all_step (xs : List Int) (j : Nat) (h : j < xs.length) : (xs.take (j + 1)).all isA = ((xs.take j).all isA && isA (xs.getD j 0)) := by
  rw [List.take_succ_eq_append_getElem h, List.all_append, List.getD_eq_getElem?_getD, List.getElem?_eq_getElem h]
  simp
theorem all_no (xs : List Int) (j : Nat) (h : j < xs.length) (hn : isA (xs.getD j 0) = false) : xs.all isA = false := by
  rw [List.all_eq_false]
  refine ⟨xs[j], List.getElem_mem h, ?_⟩
  rw [List.getD_eq_getElem?_getD, List.getElem?_eq_getElem h] at hn
  simpa using hn
theorem okU_no (xs : List Int) (j : Nat) (h : j < xs.length) (hn : isA (xs.getD j 0) = false) : okU xs = false := by
  unfold okU; rw [all_no xs j h hn, Bool.and_false]
theorem okU_end (xs : List Int) (h : (xs.take xs.length).all isA = true) : okU xs = decide (xs.length ≤ 60) := by
  unfold okU
  rw [List.take_length] at h
  rw [h, Bool.and_true]
theorem okU_len {xs : List Int} (h : okU xs = true) : xs.length ≤ 60 := by
  unfold okU at h; rw [Bool.and_eq_true] at h; exact of_decide_eq_true h.1
theorem okU_at {xs : List Int} (h : okU xs = true) (j : Nat) (hj : j < xs.length) : 0 ≤ xs.getD j 0 ∧ xs.getD j 0 ≤ 63 := by
  unfold okU at h
  rw [Bool.and_eq_true] at h
  have := List.all_eq_true.1 h.2 _ (List.getElem_mem hj)
  rw [List.getD_eq_getElem?_getD, List.getElem?_eq_getElem hj]
  exact isA_of this
theorem between_a (x : Int) (w : World) : Calls Try.prog 32 #[.int .i64 x, .int .i64 0, .int .i64 63] w (Bl (isA x) w) := by
  by_cases h0 : 0 ≤ x
  · by_cases h1 : x ≤ 63
    · rw [isA_yes h0 h1]
      go_enter Try.func32, Try.ntmps32
      go_wp2
      go_ret
      exact ⟨rfl, rfl⟩
    · rw [isA_high h1]
      go_enter Try.func32, Try.ntmps32
      go_wp2
      go_ret
      exact ⟨rfl, rfl⟩
  · rw [isA_low h0]
    go_enter Try.func32, Try.ntmps32
    go_wp2
    go_ret
    exact ⟨rfl, rfl⟩
theorem in_a (x : Int) (w : World) : Calls Try.prog 29 #[.int .i64 x, .int .i64 0, .int .i64 63] w (Bl (isA x) w) := by
  by_cases h0 : 0 ≤ x
  · by_cases h1 : x ≤ 63
    · rw [isA_yes h0 h1]
      go_enter Try.func29, Try.ntmps29
      go_wp2
      go_ret
      exact ⟨rfl, rfl⟩
    · rw [isA_high h1]
      go_enter Try.func29, Try.ntmps29
      go_wp2
      go_ret
      exact ⟨rfl, rfl⟩
  · rw [isA_low h0]
    go_enter Try.func29, Try.ntmps29
    go_wp2
    go_ret
    exact ⟨rfl, rfl⟩
theorem addr_i (x : Int) (w : World) : Calls Try.prog 54 #[.int .i64 x] w (Bl (isA x) w) := by
  have hI := Lib.hid (between_a x w)
  generalize isA x = b at *
  go_enter Try.func54, Try.ntmps54
  go_wp2_with (go_at_call 32; refine hI.out.mono ?_; rintro e w' ⟨rfl, rfl⟩)
  go_ret
  exact ⟨rfl, rfl⟩
theorem addr_s (x : Int) (w : World) : Calls Try.prog 52 #[.int .i64 x] w (Bl (isA x) w) := by
  have hI := Lib.hid (in_a x w)
  generalize isA x = b at *
  go_enter Try.func52, Try.ntmps52
  go_wp2_with (go_at_call 29; refine hI.out.mono ?_; rintro e w' ⟨rfl, rfl⟩)
  go_ret
  exact ⟨rfl, rfl⟩
set_option maxHeartbeats 1000000 in
theorem uses_s (a : Option Addr) (c : Nat) (xs : List Int) (w : World) (hn : xs.length ≤ 1048576) (hr : Row w a xs) :
    Calls Try.prog 36 #[.slice a xs.length c] w (Bl (okU xs) w) := by
  have HC := Lib.hid hr
  have HS := Lib.hid (all_step xs)
  have HN := Lib.hid (okU_no xs)
  have HE := Lib.hid (okU_end xs)
  clear hr
  unfold Row at HC
  generalize (okU xs) = ok at *
  generalize hN : xs.length = N at *
  go_enter Try.func36, Try.ntmps36
  go_wp2
  go_loop [3] (fun i => ∃ j : Nat, j ≤ N ∧ i = .int .i64 j ∧ Hid ((xs.take j).all isA = true)) (fun i => N - (intOf i).toNat)
  case atStart => exact ⟨0, Nat.zero_le _, rfl, Lib.hid rfl⟩
  case round =>
    obtain ⟨j, hj, rfl, hx⟩ := hrel
    by_cases hlt : j < N
    · obtain ⟨b, off, rfl, c1, hb⟩ := HC.out j hlt
      have hs := Lib.hid (HS.out j hlt)
      have hno := Lib.hid (HN.out j hlt)
      have hI := Lib.hid (addr_s (xs.getD j 0) w)
      generalize xs.getD j 0 = u at *
      cases hb : isA u
      · have hok : ok = false := hno.out hb
        rw [hb] at hI
        clear hb
        subst hok
        go_wp2_with (go_at_call 52; refine hI.out.mono ?_; rintro e w' ⟨rfl, rfl⟩)
        go_ret
        exact ⟨rfl, rfl⟩
      · rw [hb] at hI
        have hnew : Hid ((xs.take (j + 1)).all isA = true) := by show _ = _; rw [hs.out, hx.out, hb]; rfl
        clear hb
        go_wp2_with (go_at_call 52; refine hI.out.mono ?_; rintro e w' ⟨rfl, rfl⟩)
        go_round
        case rel => exact ⟨j + 1, by omega, by go_num, hnew⟩
        case measure => simp [intOf]; omega
    · have e : j = N := by omega
      subst e
      have hok := HE.out hx.out
      by_cases h60 : j ≤ 60
      · have : ok = true := by rw [hok, decide_eq_true h60]
        clear hok HE HN
        subst this
        have h60' : (j : Int) ≤ 60 := by omega
        go_wp2
        go_ret
        exact ⟨ret_bool (by simp), rfl⟩
      · have : ok = false := by rw [hok, decide_eq_false h60]
        clear hok HE HN
        subst this
        have h60' : ¬ (j : Int) ≤ 60 := by omega
        go_wp2
        go_ret
        exact ⟨ret_bool (by simp), rfl⟩
set_option maxHeartbeats 1000000 in
theorem are_i (a : Option Addr) (c : Nat) (xs : List Int) (w : World) (hn : xs.length ≤ 1048576) (hr : Row w a xs) :
    Calls Try.prog 66 #[.slice a xs.length c] w (Bl (xs.all isA) w) := by
  have HC := Lib.hid hr
  have HS := Lib.hid (all_step xs)
  have HN := Lib.hid (all_no xs)
  have HE := Lib.hid (show (xs.take xs.length).all isA = true → xs.all isA = true from fun h => by rwa [List.take_length] at h)
  clear hr
  unfold Row at HC
  generalize (xs.all isA) = ok at *
  generalize hN : xs.length = N at *
  go_enter Try.func66, Try.ntmps66
  go_wp2
  go_loop [7] (fun i => ∃ j : Nat, j ≤ N ∧ i = .int .i64 j ∧ Hid ((xs.take j).all isA = true)) (fun i => N - (intOf i).toNat)
  case atStart => exact ⟨0, Nat.zero_le _, rfl, Lib.hid rfl⟩
  case round =>
    obtain ⟨j, hj, rfl, hx⟩ := hrel
    by_cases hlt : j < N
    · obtain ⟨b, off, rfl, c1, hb⟩ := HC.out j hlt
      have hs := Lib.hid (HS.out j hlt)
      have hno := Lib.hid (HN.out j hlt)
      have hI := Lib.hid (addr_i (xs.getD j 0) w)
      generalize xs.getD j 0 = u at *
      cases hb : isA u
      · have hok : ok = false := hno.out hb
        rw [hb] at hI
        clear hb
        subst hok
        go_wp2_with (go_at_call 54; refine hI.out.mono ?_; rintro e w' ⟨rfl, rfl⟩)
        go_ret
        exact ⟨rfl, rfl⟩
      · rw [hb] at hI
        have hnew : Hid ((xs.take (j + 1)).all isA = true) := by show _ = _; rw [hs.out, hx.out, hb]; rfl
        clear hb
        go_wp2_with (go_at_call 54; refine hI.out.mono ?_; rintro e w' ⟨rfl, rfl⟩)
        go_round
        case rel => exact ⟨j + 1, by omega, by go_num, hnew⟩
        case measure => simp [intOf]; omega
    · have e : j = N := by omega
      subst e
      have hok : ok = true := HE.out hx.out
      clear HE HN
      subst hok
      go_wp2
      go_ret
      exact ⟨rfl, rfl⟩
theorem uses_i (a : Option Addr) (c : Nat) (xs : List Int) (w : World) (hn : xs.length ≤ 1048576) (hr : Row w a xs) :
    Calls Try.prog 49 #[.slice a xs.length c] w (Bl (okU xs) w) := by
  have hA := Lib.hid (are_i a c xs w hn hr)
  unfold okU
  generalize xs.all isA = b at *
  generalize xs.length = N at *
  by_cases h : (N : Int) ≤ 60
  · rw [decide_eq_true (show N ≤ 60 by omega), Bool.true_and]
    go_enter Try.func49, Try.ntmps49
    go_wp2_with (go_at_call 66; refine hA.out.mono ?_; rintro e w' ⟨rfl, rfl⟩)
    go_ret
    exact ⟨rfl, rfl⟩
  · rw [decide_eq_false (show ¬ N ≤ 60 by omega), Bool.false_and]
    go_enter Try.func49, Try.ntmps49
    go_wp2
    go_ret
    exact ⟨rfl, rfl⟩
theorem uses_sR {v : Value} {xs : List Int} {w : World} (h : Rd w v xs) (hn : xs.length ≤ 1048576) : Calls Try.prog 36 #[v] w (Bl (okU xs) w) := by
  obtain ⟨a, c, rfl, _, _, hr⟩ := h
  exact uses_s a c xs w hn hr
theorem uses_iR {v : Value} {xs : List Int} {w : World} (h : Rd w v xs) (hn : xs.length ≤ 1048576) : Calls Try.prog 49 #[v] w (Bl (okU xs) w) := by
  obtain ⟨a, c, rfl, _, _, hr⟩ := h
  exact uses_i a c xs w hn hr
end Go.Proofs.Ytdjkmffekfbbcaa.Tr
