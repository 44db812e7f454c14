/- Contracts of the model's and the program's test of a list: at most 80 numbers, none too great. -/
import Derived.Test.YthfgaoojgdikpaaCsl
namespace Go.Proofs.Ythfgaoojgdikpaa.Ls
open Go.RowKit
def inR (x : Int) : Bool := decide (-1000000000 ≤ x) && decide (x ≤ 1000000000)
def okL (xs : List Int) : Bool := decide (xs.length ≤ 80) && xs.all inR
def Bl (b : Bool) (w : World) (e : Ending) (w' : World) : Prop := e = .returned (.bool b) ∧ w = w'
theorem inR_yes {x : Int} (h0 : -1000000000 ≤ x) (h1 : x ≤ 1000000000) : inR x = true := by simp only [inR, decide_eq_true h0, decide_eq_true h1]; rfl
theorem inR_low {x : Int} (h0 : ¬ -1000000000 ≤ x) : inR x = false := by simp only [inR, decide_eq_false h0]; rfl
theorem inR_high {x : Int} (h1 : ¬ x ≤ 1000000000) : inR x = false := by simp only [inR, decide_eq_false h1, Bool.and_false]
theorem all_step (xs : List Int) (j : Nat) (h : j < xs.length) : (xs.take (j + 1)).all inR = ((xs.take j).all inR && inR (xs.getD j 0)) := by
  rw [List.take_succ_eq_append_getElem h, List.all_append, List.getD_eq_getElem?_getD, List.getElem?_eq_getElem h]
  simp
theorem okL_no (xs : List Int) (j : Nat) (h : j < xs.length) (hn : inR (xs.getD j 0) = false) : okL xs = false := by
  unfold okL
  have : xs.all inR = false := by
    rw [List.all_eq_false]
    refine ⟨xs[j], List.getElem_mem h, ?_⟩
    rw [List.getD_eq_getElem?_getD, List.getElem?_eq_getElem h] at hn
    simpa using hn
  rw [this, Bool.and_false]
theorem okL_end (xs : List Int) (h : (xs.take xs.length).all inR = true) : okL xs = decide (xs.length ≤ 80) := by
  unfold okL
  rw [List.take_length] at h
  rw [h, Bool.and_true]
theorem in_any (x : Int) (w : World) : Calls Try.prog 55 #[.int .i64 x] w (Bl (inR x) w) := by
  by_cases h0 : -1000000000 ≤ x
  · by_cases h1 : x ≤ 1000000000
    · rw [inR_yes h0 h1]
      go_enter Try.func55, Try.ntmps55
      go_wp2
      go_ret
      exact ⟨rfl, rfl⟩
    · rw [inR_high h1]
      go_enter Try.func55, Try.ntmps55
      go_wp2
      go_ret
      exact ⟨rfl, rfl⟩
  · rw [inR_low h0]
    go_enter Try.func55, Try.ntmps55
    go_wp2
    go_ret
    exact ⟨rfl, rfl⟩
theorem in_spec (x : Int) (w : World) : Calls Try.prog 52 #[.int .i64 x, .int .i64 (-1000000000), .int .i64 1000000000] w (Bl (inR x) w) := by
  by_cases h0 : -1000000000 ≤ x
  · by_cases h1 : x ≤ 1000000000
    · rw [inR_yes h0 h1]
      go_enter Try.func52, Try.ntmps52
      go_wp2
      go_ret
      exact ⟨rfl, rfl⟩
    · rw [inR_high h1]
      go_enter Try.func52, Try.ntmps52
      go_wp2
      go_ret
      exact ⟨rfl, rfl⟩
  · rw [inR_low h0]
    go_enter Try.func52, Try.ntmps52
    go_wp2
    go_ret
    exact ⟨rfl, rfl⟩
theorem spec_zero (a : Option Addr) (c : Nat) (w : World) : Calls Try.prog 53 #[.slice a 0 c] w (Bl true w) := by
  go_enter Try.func53, Try.ntmps53
  go_wp2
  refine wp_loop_rounds 1 ?_
  rw [rounds_succ]
  go_wp2
  go_ret
  exact ⟨rfl, rfl⟩
set_option maxHeartbeats 1000000 in
theorem spec_cells (g c : Nat) (xs : List Int) (w : World) (hn : xs.length ≤ 1048576) (hc : ∀ i, i < xs.length → w.cell? ⟨g, i, none⟩ = some (.int .i64 (xs.getD i 0))) :
    Calls Try.prog 53 #[.slice (some ⟨g, 0, none⟩) xs.length c] w (Bl (okL xs) w) := by
  have HC := Lib.hid hc
  have HS := Lib.hid (all_step xs)
  have HN := Lib.hid (okL_no xs)
  have HE := Lib.hid (okL_end xs)
  clear hc
  generalize okL xs = ok at *
  generalize hN : xs.length = N at *
  go_enter Try.func53, Try.ntmps53
  go_wp2
  go_loop [3] (fun i => ∃ j : Nat, j ≤ N ∧ i = .int .i64 j ∧ Hid ((xs.take j).all inR = true)) (fun i => N - (intOf i).toNat)
  case atStart => exact ⟨0, Nat.zero_le _, rfl, Lib.hid rfl⟩
  case round =>
    obtain ⟨j, hj, rfl, hx⟩ := hrel
    by_cases hlt : j < N
    · have c1 := HC.out j hlt
      have hs := Lib.hid (HS.out j hlt)
      have hno := Lib.hid (HN.out j hlt)
      generalize xs.getD j 0 = u at *
      cases hb : inR u
      · have hok : ok = false := hno.out hb
        have hI := Lib.hid (in_spec u w)
        rw [hb] at hI
        clear hb
        subst hok
        go_wp2_with (go_at_call 52; refine hI.out.mono ?_; rintro e w' ⟨rfl, rfl⟩)
        go_ret
        exact ⟨rfl, rfl⟩
      · have hI := Lib.hid (in_spec u w)
        rw [hb] at hI
        have hnew : Hid ((xs.take (j + 1)).all inR = true) := by show _ = _; rw [hs.out, hx.out, hb]; rfl
        clear hb
        go_wp2_with (go_at_call 52; refine hI.out.mono ?_; rintro e w' ⟨rfl, rfl⟩)
        go_round
        case rel => exact ⟨j + 1, by omega, by go_num, hnew⟩
        case measure => simp [intOf]; omega
    · have e : j = N := by omega
      subst e
      have hok := HE.out hx.out
      by_cases h80 : j ≤ 80
      · have : ok = true := by rw [hok, decide_eq_true h80]
        clear hok HE HN
        subst this
        have h80' : (j : Int) ≤ 80 := by omega
        go_wp2
        go_ret
        exact ⟨ret_bool (by simp), rfl⟩
      · have : ok = false := by rw [hok, decide_eq_false h80]
        clear hok HE HN
        subst this
        have h80' : ¬ (j : Int) ≤ 80 := by omega
        go_wp2
        go_ret
        exact ⟨ret_bool (by simp), rfl⟩
theorem spec_own {w : World} {B : Nat} {v : Value} {xs : List Int} (h : Own w B v xs) (hn : xs.length ≤ 1048576) : Calls Try.prog 53 #[v] w (Bl (okL xs) w) := by
  rcases h.cases with ⟨rfl, rfl⟩ | ⟨g, c, rfl, _, _, _, hc, _⟩
  · exact spec_zero _ _ _
  · exact spec_cells g c xs w hn hc
end Go.Proofs.Ythfgaoojgdikpaa.Ls
