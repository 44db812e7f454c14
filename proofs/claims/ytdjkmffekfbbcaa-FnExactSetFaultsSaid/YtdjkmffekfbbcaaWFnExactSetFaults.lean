/- The walk of laws.FnExactSetFaults: the call returns true and writes nothing that was there. -/
import Derived.Test.YtdjkmffekfbbcaaCto
import Derived.Test.YtdjkmffekfbbcaaCsf
namespace Go.Proofs.Ytdjkmffekfbbcaa.fnExactSetFaults
open Go.RowKit
set_option maxHeartbeats 2000000 in
theorem core (a0 : Option Addr) (len0 cap0 : Nat) (z0 : List Int) (a1 : Int) (n m : Int) (ok : Bool) (hl2 : len0 ≤ 1048576)
    (hS : ∀ w' B v, Own w' B v (z0.take len0) → Calls Try.prog 16 #[v, .int .i64 a1] w' (Tr.Iib n m ok w'))
    (hI : ∀ w' B v, Own w' B v (z0.take len0) → Calls Try.prog 18 #[v, .int .i64 a1] w' (Tr.Iib n m ok w')) (w : World) (w0 : IsRow .i64 w a0 len0 cap0 z0) :
    Calls Try.prog 4 #[.slice a0 len0 cap0, .int .i64 a1] w fun e w' => e = .returned (.bool true) ∧ Below w.heap.size w w' := by
  have hl3 : (len0 : Int) ≤ 1048576 := by omega
  have HTO := Lib.hid (fun w' (h : IsRow .i64 w' a0 len0 cap0 z0) => to_any a0 len0 cap0 z0 w' h hl2)
  have HS := Lib.hid hS
  have HI := Lib.hid hI
  clear hS hI
  generalize z0.take len0 = xs at *
  go_enter Try.func4, Try.ntmps4
  go_wp2_with fail
  refine (HTO.out w w0).mono ?_; rintro e w1 ⟨v1, rfl, o1, b1⟩
  go_wp2_with fail
  refine (HS.out w1 _ v1 o1).mono ?_; rintro e w2 ⟨rfl, b2⟩
  have B2 : Below w.heap.size w w2 := b1.trans (b2.mono b1.size)
  go_wp2_with fail
  refine (HTO.out w2 (isRow_below w0 B2)).mono ?_; rintro e w3 ⟨vx, rfl, ox, b3⟩
  have B3 : Below w.heap.size w w3 := B2.trans (b3.mono B2.size)
  go_wp2_with fail
  refine (HI.out w3 _ vx ox).mono ?_; rintro e w4 ⟨rfl, b4⟩
  have B4 : Below w.heap.size w w4 := B3.trans (b4.mono B3.size)
  have ox4 := ox.below b4 (Nat.le_refl _)
  go_wp2_with fail
  refine (HTO.out w4 (isRow_below w0 B4)).mono ?_; rintro e w6 ⟨v6, rfl, o6, b6⟩
  have B6 : Below w.heap.size w w6 := B4.trans (b6.mono B4.size)
  go_wp2_with fail
  refine (eq_below (ox4.below b6 (Nat.le_refl _)) o6).mono ?_; rintro e w7 ⟨rfl, b7⟩
  go_wp2
  go_ret
  exact ⟨rfl, B6.trans (b7.mono B6.size)⟩
theorem long (a0 : Option Addr) (len0 cap0 : Nat) (a1 : Int) (w : World) (hl : ¬ len0 ≤ 1048576) :
    Calls Try.prog 4 #[.slice a0 len0 cap0, .int .i64 a1] w fun e w' => e = .returned (.bool true) ∧ Below w.heap.size w w' := by
  have hl2 : (1048576 : Int) < len0 := by omega
  clear hl
  go_enter Try.func4, Try.ntmps4
  go_wp2
  go_ret
  exact ⟨rfl, Below.refl _ _⟩
theorem walk (a0 : Option Addr) (len0 cap0 : Nat) (z0 : List Int) (a1 : Int) (w : World) (w0 : IsRow .i64 w a0 len0 cap0 z0) (_w1 : (Lit.int .i64 a1).wf = true) :
    Calls Try.prog 4 #[.slice a0 len0 cap0, .int .i64 a1] w fun e w' => e = .returned (.bool true) ∧ Below w.heap.size w w' := by
  by_cases hl : len0 ≤ 1048576
  · have hx : (z0.take len0).length ≤ 1048576 := by rw [List.length_take]; omega
    by_cases hok : Tr.okU (z0.take len0) = true ∧ 1 ≤ a1 ∧ a1 ≤ 60
    · obtain ⟨q, rfl⟩ := Int.eq_ofNat_of_zero_le (show 0 ≤ a1 by omega)
      have hq1 : 1 ≤ q := by omega
      have hq : q ≤ 60 := by omega
      exact core a0 len0 cap0 z0 _ _ _ true hl (fun w' B v h => Tr.sf_yes_s q h.rd hok.1 hq1 hq) (fun w' B v h => Tr.sf_yes_i q h.rd hok.1 hq1 hq) w w0
    · exact core a0 len0 cap0 z0 a1 0 0 false hl (fun w' B v h => Tr.sf_no_s a1 h.rd hx hok) (fun w' B v h => Tr.sf_no_i a1 h.rd hx hok) w w0
  · exact long a0 len0 cap0 a1 w hl
end Go.Proofs.Ytdjkmffekfbbcaa.fnExactSetFaults
