/- The walk of laws.FnExactIntervalsOf: the call returns true and writes nothing that was there. -/
import Derived.Test.YtlakekeolpepbaaCto
import Derived.Test.YtlakekeolpepbaaCmark1
import Derived.Test.YtlakekeolpepbaaCmarkE
import Derived.Test.YtlakekeolpepbaaCivb
import Derived.Test.YtlakekeolpepbaaCheld2
namespace Go.Proofs.Ytlakekeolpepbaa.fnExactIntervalsOf
open Go.RowKit Tr
set_option maxHeartbeats 2000000 in
theorem core (a0 : Option Addr) (len0 cap0 : Nat) (z0 : List Int) (yss : List (List Int)) (ok : Bool) (hy : (yss.map List.length).sum ≤ 1000000) (hl2 : len0 ≤ 1048576)
    (hS : ∀ w' B v, Own w' B v (z0.take len0) → Calls Try.prog 7 #[v] w' (Res2 yss ok w'))
    (hI : ∀ w' B v, Own w' B v (z0.take len0) → Calls Try.prog 9 #[v] w' (Res2 yss ok w')) (w : World) (w0 : IsRow .i64 w a0 len0 cap0 z0) :
    Calls Try.prog 3 #[.slice a0 len0 cap0] w fun e w' => e = .returned (.bool true) ∧ Below w.heap.size w w' := by
  have hb1 : 1 + (yss.map List.length).sum ≤ 9223372036854775807 := by omega
  have hb2 : (z0.take len0).length + 1 ≤ 9223372036854775807 := by rw [List.length_take]; omega
  have hl3 : (len0 : Int) ≤ 1048576 := by omega
  have HTO := Lib.hid (fun w' (h : IsRow .i64 w' a0 len0 cap0 z0) => to_any a0 len0 cap0 z0 w' h hl2)
  have HS := Lib.hid hS
  have HI := Lib.hid hI
  clear hS hI
  generalize z0.take len0 = xs at *
  go_enter Try.func3, Try.ntmps3
  go_wp2_with fail
  refine (HTO.out w w0).mono ?_; rintro e w1 ⟨v1, rfl, o1, b1⟩
  go_wp2_with fail
  refine (HS.out w1 _ v1 o1).mono ?_; rintro e w2 ⟨vw, vsw, rfl, ow, b2⟩
  have B2 : Below w.heap.size w w2 := b1.trans (b2.mono b1.size)
  go_wp2_with fail
  refine (HTO.out w2 (isRow_below w0 B2)).mono ?_; rintro e w3 ⟨vx, rfl, ox, b3⟩
  have B3 : Below w.heap.size w w3 := B2.trans (b3.mono B2.size)
  have s2 := b2.size
  have s3 := b3.size
  go_wp2_with fail
  refine (HI.out w3 _ vx ox).mono ?_; rintro e w4 ⟨vg, vsg, rfl, og, b4⟩
  have B4 : Below w.heap.size w w4 := B3.trans (b4.mono B3.size)
  have b24 : Below w2.heap.size w2 w4 := b3.trans (b4.mono b3.size)
  have s4 := b4.size
  have HOW := Lib.hid (fun (w' : World) (hb : Below w2.heap.size w2 w') => Own2.below ow hb (Nat.le_refl _))
  have ox4 := ox.below b4 (Nat.le_refl _)
  go_wp2_with fail
  refine (eq2_own og (HOW.out w4 b24)).mono ?_; rintro e w5 ⟨k5, rfl, hw5⟩
  have b5 : Below w4.heap.size w4 w5 := by rw [hw5]; exact below_drewN _ (Below.refl _ _)
  have B5 : Below w.heap.size w w5 := B4.trans (b5.mono B4.size)
  have s5 := b5.size
  clear hw5
  go_wp2_with fail
  refine (HTO.out w5 (isRow_below w0 B5)).mono ?_; rintro e w6 ⟨v6, rfl, o6, b6⟩
  have B6 : Below w.heap.size w w6 := B5.trans (b6.mono B5.size)
  have s6 := b6.size
  go_wp2_with fail
  refine (eq_below ((ox4.below b5 (Nat.le_refl _)).below b6 (Nat.le_refl _)) o6).mono ?_; rintro e w7 ⟨rfl, b7⟩
  have B7 : Below w.heap.size w w7 := B6.trans (b7.mono B6.size)
  have s7 := b7.size
  have b47 : Below w4.heap.size w4 w7 := (b5.trans (b6.mono s5)).trans (b7.mono (Nat.le_trans s5 s6))
  have b27 : Below w2.heap.size w2 w7 := b24.trans (b47.mono b24.size)
  have ox7 := ((ox4.below b5 (Nat.le_refl _)).below b6 (Nat.le_refl _)).below b7 (Nat.le_refl _)
  have og7 := Own2.below og b47 (Nat.le_refl _)
  have kx : ∀ k, vx.ownBlock = some k → w2.heap.size ≤ k ∧ k < w3.heap.size := ox.block
  clear o1 ox ox4 og o6 b3 b4 b5 b6 b7 b2
  go_wp2_with fail
  refine (mark1 ox7 hb2).mono ?_; rintro e w8 ⟨rfl, _, gr⟩
  have s8 : w7.heap.size ≤ w8.heap.size := gr.size
  have s1 := b1.size
  have B8 : Below w.heap.size w w8 := B7.grown gr B7.size (fun k hk => by have := (kx k hk).1; omega)
  have b28 : Below w2.heap.size w2 w8 := b27.grown gr b27.size (fun k hk => (kx k hk).1)
  have og8 := Own2.kept og7 gr (fun k hk => (kx k hk).2)
  clear ox7 og7
  go_wp2_with fail
  refine (eq2_own og8 (HOW.out w8 b28)).mono ?_; rintro e w9 ⟨k9, rfl, hw9⟩
  have b9 : Below w8.heap.size w8 w9 := by rw [hw9]; exact below_drewN _ (Below.refl _ _)
  have B9 : Below w.heap.size w w9 := B8.trans (b9.mono B8.size)
  have b29 : Below w2.heap.size w2 w9 := b28.trans (b9.mono b28.size)
  have s9 := b9.size
  have og9 := Own2.below og8 b9 (Nat.le_refl _)
  clear og8 hw9
  go_wp2_with fail
  refine (mark2_own 1 og9 hb1 (by omega)).mono ?_; rintro e w10 ⟨rfl, om, bm, s10⟩
  have B10 : Below w.heap.size w w10 := B9.trans (bm.mono (by omega))
  have b210 : Below w2.heap.size w2 w10 := b29.trans (bm.mono (by omega))
  have HH := Lib.hid (fun (w' : World) (hb : Below w10.heap.size w10 w') => held2_own 1 _ (Own2.below om hb (Nat.le_refl _)) hb1)
  clear og9 b9 bm om
  generalize (yss.map List.length).sum = S at *
  go_wp2_with fail
  refine (HH.out w10 (Below.refl _ _)).mono ?_; rintro e w11 ⟨rfl, rfl⟩
  go_wp2_with fail
  refine (HTO.out w10 (isRow_below w0 B10)).mono ?_; rintro e w12 ⟨v12, rfl, o12, b12⟩
  have B12 : Below w.heap.size w w12 := B10.trans (b12.mono B10.size)
  go_wp2_with fail
  refine (HI.out w12 _ v12 o12).mono ?_; rintro e w13 ⟨vh, vsh, rfl, oh, b13⟩
  have B13 : Below w.heap.size w w13 := B12.trans (b13.mono B12.size)
  have b1013 : Below w10.heap.size w10 w13 := b12.trans (b13.mono b12.size)
  go_wp2_with fail
  refine (eq2_own oh (HOW.out w13 (b210.trans (b1013.mono b210.size)))).mono ?_; rintro e w14 ⟨k14, rfl, hw14⟩
  have b14 : Below w13.heap.size w13 w14 := by rw [hw14]; exact below_drewN _ (Below.refl _ _)
  clear hw14
  go_wp2_with fail
  refine (HH.out w14 (b1013.trans (b14.mono b1013.size))).mono ?_; rintro e w15 ⟨rfl, rfl⟩
  go_wp2
  go_ret
  exact ⟨rfl, B13.trans (b14.mono B13.size)⟩
theorem long (a0 : Option Addr) (len0 cap0 : Nat) (w : World) (hl : ¬ len0 ≤ 1048576) :
    Calls Try.prog 3 #[.slice a0 len0 cap0] w fun e w' => e = .returned (.bool true) ∧ Below w.heap.size w w' := by
  have hl2 : (1048576 : Int) < len0 := by omega
  clear hl
  go_enter Try.func3, Try.ntmps3
  go_wp2
  go_ret
  exact ⟨rfl, Below.refl _ _⟩
theorem walk (a0 : Option Addr) (len0 cap0 : Nat) (z0 : List Int) (w : World) (w0 : IsRow .i64 w a0 len0 cap0 z0) :
    Calls Try.prog 3 #[.slice a0 len0 cap0] w fun e w' => e = .returned (.bool true) ∧ Below w.heap.size w w' := by
  by_cases hl : len0 ≤ 1048576
  · have hx : (z0.take len0).length ≤ 1048576 := by rw [List.length_take]; omega
    cases hok : okU (z0.take len0)
    · exact core a0 len0 cap0 z0 [] false (by simp) hl (fun w' B v h => ivof_no_s h hx hok) (fun w' B v h => ivof_no_i h hx hok) w w0
    · exact core a0 len0 cap0 z0 (prI (ivP (z0.take len0))) true (by
        rw [prI_sum]
        have h1 := ivS_len (z0.take len0) (z0.take len0).length
        have h2 := okU_len hok
        rw [show ivS (z0.take len0) (z0.take len0).length = ivP (z0.take len0) from rfl] at h1
        omega) hl (fun w' B v h => ivof_s h hx hok) (fun w' B v h => ivof_i h hx hok) w w0
  · exact long a0 len0 cap0 w hl
end Go.Proofs.Ytlakekeolpepbaa.fnExactIntervalsOf
