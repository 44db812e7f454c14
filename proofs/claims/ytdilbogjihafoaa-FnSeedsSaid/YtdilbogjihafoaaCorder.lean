/- Contracts of laws.b10Has (where the number is not in the list), laws.b10Order (where the list has each number once), and the program's NextSeed. -/
import Derived.Test.YtdilbogjihafoaaCord
namespace Go.Proofs.Ytdilbogjihafoaa.Sd
open Go.RowKit
theorem has_no (g i cap : Nat) (L : List Int) (u : Int) (w : World) (hi : i ≤ 1000000) (hc : ∀ p, p < i → w.cell? ⟨g, p, none⟩ = some (.int .i64 (L.getD p 0))) (hu : ∀ p, p < i → L.getD p 0 ≠ u) :
    Calls Try.prog 50 #[.slice (some ⟨g, 0, none⟩) i cap, .int .i64 u] w fun e w' => e = .returned (.bool false) ∧ w' = w := by
  have HC := Lib.hid hc
  have HU := Lib.hid hu
  clear hc hu
  go_enter Try.func50, Try.ntmps50
  go_wp2
  go_loop [5] (fun c => ∃ j : Nat, j ≤ i ∧ c = .int .i64 j) (fun c => i - (intOf c).toNat)
  case atStart => exact ⟨0, Nat.zero_le _, rfl⟩
  case round =>
    obtain ⟨j, hj, rfl⟩ := hrel
    by_cases hlt : j < i
    · have c1 := HC.out j hlt
      have hne : (L.getD j 0 == u) = false := by simpa using HU.out j hlt
      generalize L.getD j 0 = x at *
      go_wp2
      go_round
      case rel => exact ⟨j + 1, by omega, by go_num⟩
      case measure => simp [intOf]; omega
    · go_wp2
      go_ret
      exact ⟨rfl, rfl⟩
theorem bOrder_zero (a : Option Addr) (cap : Nat) (w : World) : Calls Try.prog 19 #[.slice a 0 cap, .int .i64 0] w (Drew w) := by
  go_enter Try.func19, Try.ntmps19
  go_wp2
  refine wp_loop_rounds 1 ?_
  rw [rounds_succ]
  go_wp2
  go_ret
  exact ⟨0, rfl, rfl⟩
set_option maxHeartbeats 800000 in
theorem bOrder_cells (g cap n : Nat) (L : List Int) (w : World) (hn : n ≤ 1000000) (hL : Once n L) (hc : ∀ p, p < n → w.cell? ⟨g, p, none⟩ = some (.int .i64 (L.getD p 0))) (hcap : n ≤ cap) (hcap2 : cap ≤ 9223372036854775807) :
    Calls Try.prog 19 #[.slice (some ⟨g, 0, none⟩) n cap, .int .i64 n] w (Drew w) := by
  have HC := Lib.hid hc
  have HL := Lib.hid hL
  clear hc hL
  go_enter Try.func19, Try.ntmps19
  go_wp2
  go_loopw [5] (fun c wr => ∃ j q : Nat, j ≤ n ∧ c = .int .i64 j ∧ wr = w.drewN q) (fun c _ => n - (intOf c).toNat)
  case atStart => exact ⟨0, 0, Nat.zero_le _, rfl, rfl⟩
  case round =>
    obtain ⟨j, q, hj, rfl, hw⟩ := hrel
    have hcw : ∀ p, p < n → wr.cell? ⟨g, p, none⟩ = some (.int .i64 (L.getD p 0)) := by rw [hw]; exact HC.out
    have HW := Lib.hid hw
    clear hw HC
    have HC := Lib.hid hcw
    clear hcw
    by_cases hlt : j < n
    · have c1 := HC.out j hlt
      have hr := HL.out.2.1 j hlt
      have hc2 := fun k => has_no g j cap L (L.getD j 0) (wr.drewN k) (by omega) (fun p hp => HC.out p (by omega)) (fun p hp h => by have := HL.out.2.2 p j (by omega) hlt h; omega)
      have HC2 := Lib.hid hc2
      clear hc2
      generalize L.getD j 0 = x at *
      obtain ⟨r1, r2⟩ := hr
      have hjc : j ≤ cap := by omega
      have hjc2 : (j : Int) ≤ cap := by omega
      have d1 : decide (x < 0) = false := by simp; omega
      have d2 : decide ((n : Int) ≤ x) = false := by simp; omega
      go_wp2
      go_quiet ((go_at_call 50; exact Calls.quiet_of_same (HC2.out _)))
      go_wp2
      go_roundw
      case rel => exact ⟨j + 1, q + nq, by omega, by go_num, by rw [HW.out]; exact World.drewN_drewN ..⟩
      case measure => simp [intOf]; omega
    · have e : j = n := by omega
      subst e
      go_wp2
      go_ret
      exact ⟨q, rfl, HW.out⟩
theorem bOrder_own {w : World} {B : Nat} {v : Value} {L : List Int} {n : Nat} (h : Own w B v L) (hn : n ≤ 1000000) (hL : Once n L) : Calls Try.prog 19 #[v, .int .i64 n] w (Drew w) := by
  have hl := hL.1
  have h0 : w.ownsRow B 2 1 v L.length (L.map (Value.int .i64)) := h
  rcases h0.2 with ⟨rfl, h1⟩ | ⟨g, cap, cur, rfl, hB, hg, hnc, hcm, hcs, htake⟩
  · rw [hl] at h1; subst h1; exact bOrder_zero _ _ _
  · rw [hl] at h0 hnc ⊢
    have hat : OwnAt w B g cap n L := h0
    exact bOrder_cells g cap n L w hn hL (fun p hp => hat.cell hl p hp) hnc (by unfold maxLen at hcm; omega)
theorem nextSeed_yes (s : Nat) (w : World) (h1 : 1 ≤ s) (h2 : s ≤ 2147483646) :
    Calls Try.prog 20 #[.int .i64 s] w fun e w' => e = .returned (.tuple #[.int .i64 (nx s : Nat), .bool true]) ∧ w = w' := by
  go_enter Try.func20, Try.ntmps20
  go_wp2_with (first | (go_at_call 47; refine (isSeed_i _ _ (by omega) (by omega)).mono ?_; rintro e w' ⟨rfl, rfl⟩) | (go_at_call 49; refine (next_i _ _ (by omega)).mono ?_; rintro e w' ⟨rfl, rfl⟩))
  go_ret2
  exact ⟨rfl, rfl⟩
theorem nx_pos (s : Nat) (h1 : 1 ≤ s) (h2 : s ≤ 2147483646) : 1 ≤ nx s := by
  unfold nx
  have h3 : 48271 * s % 2147483647 ≠ 0 := by
    intro h
    have hd : 2147483647 ∣ 48271 * s := Nat.dvd_of_mod_eq_zero h
    have hc : Nat.Coprime 2147483647 48271 := by decide
    have := Nat.le_of_dvd (by omega) (hc.dvd_of_dvd_mul_left hd)
    omega
  omega
theorem at_pos (s n : Nat) (h1 : 1 ≤ s) (h2 : s ≤ 2147483646) : 1 ≤ at_ s n ∧ at_ s n ≤ 2147483646 := by
  induction n with
  | zero => exact ⟨h1, h2⟩
  | succ n ih => exact ⟨nx_pos _ ih.1 ih.2, by have := nx_lt (at_ s n); show nx (at_ s n) ≤ _; omega⟩
end Go.Proofs.Ytdilbogjihafoaa.Sd
