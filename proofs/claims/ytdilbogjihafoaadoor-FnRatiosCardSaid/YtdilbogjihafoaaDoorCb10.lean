/- Contracts of laws.b10Long and laws.b10At: a number from 0 up to n, whatever the bytes. -/
import Derived.Test.YtdilbogjihafoaaDoorCRow
namespace Go.Proofs.YtdilbogjihafoaaDoor.B10
open Go.RowKit
def Under (n : Int) (w : World) (e : Ending) (w' : World) : Prop := ∃ r : Int, 0 ≤ r ∧ r < n ∧ e = .returned (.int .i64 r) ∧ w = w'
theorem under_mk {n r : Int} {w : World} {v : Value} (h0 : 0 ≤ r) (h1 : r < n) (hv : v = .int .i64 r) : Under n w (.returned v) w := ⟨r, h0, h1, by rw [hv], rfl⟩
theorem tmodb (x n : Int) (hx : 0 ≤ x) (hn : 1 ≤ n) : 0 ≤ x.tmod n ∧ x.tmod n < n := by
  rw [Int.tmod_eq_emod_of_nonneg hx]
  exact ⟨Int.emod_nonneg _ (by omega), Int.emod_lt_of_pos _ (by omega)⟩
theorem at_any (a : Option Addr) (len cap : Nat) (zs : List Int) (w : World) (h : IsRow .u8 w a len cap zs) (i n : Int) (hi0 : 0 ≤ i) (hi1 : i ≤ 1000) (hn0 : 1 ≤ n) (hn1 : n ≤ 1000000000) :
    Calls Tryd.prog 11 #[.slice a len cap, .int .i64 i, .int .i64 n] w (Under n w) := by
  by_cases hn : n ≤ 1
  · go_enter Tryd.func11, Tryd.ntmps11
    go_wp2
    go_ret
    exact under_mk (by omega) (by omega) rfl
  · have hm := tmodb (i * 37 + 11) n (by omega) hn0
    have hm2 : (i * 37 + 11) % n < n := Int.emod_lt_of_pos _ (by omega)
    have hm3 : 0 ≤ (i * 37 + 11) % n := Int.emod_nonneg _ (by omega)
    by_cases hl : i < len
    · obtain ⟨b, off, rfl, hlc, hcm, hz, hc, hwz⟩ := h.at (by omega)
      obtain ⟨k, rfl⟩ := Int.eq_ofNat_of_zero_le hi0
      have hc0 := hc k (by omega)
      have hu := bounds_u8 (hwz k (by omega))
      have hk : k < zs.length := by omega
      clear hc hwz h
      generalize zs.getD k 0 = u at *
      have hu2 : u % n < n := Int.emod_lt_of_pos _ (by omega)
      have hu3 : 0 ≤ u % n := Int.emod_nonneg _ (by omega)
      go_enter Tryd.func11, Tryd.ntmps11
      go_wp2
      go_ret
      exact under_mk hu3 hu2 rfl
    · go_enter Tryd.func11, Tryd.ntmps11
      go_wp2
      go_ret
      exact under_mk hm3 hm2 rfl
theorem long_no (a0 : Option Addr) (len0 cap0 : Nat) (a1 : Option Addr) (len1 cap1 : Nat) (w : World) (h0 : len0 ≤ 1048576) (h1 : len1 ≤ 1048576) :
    Calls Tryd.prog 10 #[.slice a0 len0 cap0, .slice a1 len1 cap1] w fun e w' => e = .returned (.bool false) ∧ w = w' := by
  have g0 : ¬ (1048576 : Int) < len0 := by omega
  have g1 : ¬ (1048576 : Int) < len1 := by omega
  go_enter Tryd.func10, Tryd.ntmps10
  go_wp2
  go_ret
  exact ⟨rfl, rfl⟩
theorem long_yes (a0 : Option Addr) (len0 cap0 : Nat) (a1 : Option Addr) (len1 cap1 : Nat) (w : World) (h : 1048576 < len0 ∨ 1048576 < len1) :
    Calls Tryd.prog 10 #[.slice a0 len0 cap0, .slice a1 len1 cap1] w fun e w' => e = .returned (.bool true) ∧ w = w' := by
  by_cases g0 : (1048576 : Int) < len0
  · go_enter Tryd.func10, Tryd.ntmps10
    go_wp2
    go_ret
    exact ⟨rfl, rfl⟩
  · have g1 : (1048576 : Int) < len1 := by omega
    go_enter Tryd.func10, Tryd.ntmps10
    go_wp2
    go_ret
    exact ⟨rfl, rfl⟩
end Go.Proofs.YtdilbogjihafoaaDoor.B10
