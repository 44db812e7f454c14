/- The walk of laws.FnExactSeedOrder: the call returns true and writes nothing that was there. -/
import Derived.Test.YtdilbogjihafoaaCord
import Derived.Test.YtdilbogjihafoaaCmark1
namespace Go.Proofs.Ytdilbogjihafoaa.fnExactSeedOrder
open Go.RowKit
set_option maxHeartbeats 1000000 in
theorem core (a0 a1 : Int) (xs : List Int) (ok : Bool) (hl : xs.length ≤ 1000000) (hS : ∀ w, Calls Try.prog 34 #[.int .i64 a0, .int .i64 a1] w (Res xs ok w)) (hI : ∀ w, Calls Try.prog 18 #[.int .i64 a0, .int .i64 a1] w (Res xs ok w)) (w : World) :
    Calls Try.prog 11 #[.int .i64 a0, .int .i64 a1] w fun e w' => e = .returned (.bool true) ∧ Below w.heap.size w w' := by
  have HS := Lib.hid hS
  have HI := Lib.hid hI
  clear hS hI
  have hN : (0 : Int) ≤ xs.length := by omega
  have hb1 : xs.length + 1 ≤ 9223372036854775807 := by omega
  go_enter Try.func11, Try.ntmps11
  go_wp2_with fail
  refine (HS.out _).mono ?_; rintro e w1 ⟨v0, rfl, o0, b0⟩
  go_wp2_with fail
  refine (HI.out _).mono ?_; rintro e w2 ⟨v1, rfl, o1, b1⟩
  go_wp2_with fail
  have p0 := o0.below b1 (Nat.le_refl _)
  refine (eq_own o1 p0).mono ?_; rintro e w3 ⟨k1, rfl, rfl⟩
  go_wp2_with fail
  refine (mark1 (o1.drewN k1) hb1).mono ?_; rintro e w4 ⟨rfl, om, gr⟩
  have s2 : w2.heap.size ≤ w4.heap.size := gr.size
  have p1 : Own w4 w.heap.size v0 xs := (p0.drewN k1).kept gr (fun k hk h => by have h1 := (o0.block k hk).2; have h2 := (o1.block k h.symm).1; omega)
  have c4 : Below w1.heap.size w1 w4 := (below_drewN k1 b1).grown gr b1.size (fun k hk => (o1.block k hk).1)
  go_wp2_with fail
  refine (held1 om hb1).mono ?_; rintro e w5 ⟨rfl, rfl⟩
  go_wp2_with fail
  refine (HI.out _).mono ?_; rintro e w6 ⟨v2, rfl, o2, b2⟩
  go_wp2_with fail
  refine (eq_own o2 (p1.below b2 (Nat.le_refl _))).mono ?_; rintro e w7 ⟨k2, rfl, rfl⟩
  go_wp2_with fail
  refine (held1 ((om.below b2 (Nat.le_refl _)).drewN k2) hb1).mono ?_; rintro e w8 ⟨rfl, rfl⟩
  go_wp2
  go_ret
  have s1 := b0.size
  have s4 := c4.size
  exact ⟨rfl, below_drewN k2 ((b0.trans (c4.mono s1)).trans (b2.mono (Nat.le_trans s1 s4)))⟩
theorem walk (a0 : Int) (a1 : Int) (_w0 : (Lit.int .i64 a0).wf = true) (_w1 : (Lit.int .i64 a1).wf = true) (w : World) :
    Calls Try.prog 11 #[.int .i64 a0, .int .i64 a1] w fun e w' => e = .returned (.bool true) ∧ Below w.heap.size w w' := by
  by_cases h : 1 ≤ a0 ∧ a0 ≤ 2147483646 ∧ 0 ≤ a1 ∧ a1 ≤ 80
  · obtain ⟨s, rfl⟩ := Int.eq_ofNat_of_zero_le (show 0 ≤ a0 by omega)
    obtain ⟨n, rfl⟩ := Int.eq_ofNat_of_zero_le (show 0 ≤ a1 by omega)
    have hn : n ≤ 80 := by omega
    exact core _ _ (Sd.ord s n) true (by rw [Sd.ord_length]; omega) (fun w => Sd.order_yes_s s n w (by omega) (by omega) hn) (fun w => Sd.order_yes_i s n w (by omega) (by omega) hn) w
  · exact core a0 a1 [] false (by simp) (fun w => Sd.order_no_s a0 a1 w h) (fun w => Sd.order_no_i a0 a1 w h) w
end Go.Proofs.Ytdilbogjihafoaa.fnExactSeedOrder
