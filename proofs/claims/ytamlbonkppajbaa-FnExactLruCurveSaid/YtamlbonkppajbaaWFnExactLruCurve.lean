/- The walk of laws.FnExactLruCurve: the call returns true and writes nothing that was there. -/
import Derived.Test.YtamlbonkppajbaaCto
import Derived.Test.YtamlbonkppajbaaCmark1
import Derived.Test.YtamlbonkppajbaaClru
namespace Go.Proofs.Ytamlbonkppajbaa.fnExactLruCurve
open Go.RowKit
set_option maxHeartbeats 2000000 in
theorem core (a0 : Option Addr) (len0 cap0 : Nat) (z0 : List Int) (a1 : Int) (ys : List Int) (ok : Bool) (hy : ys.length ≤ 1000000) (hl2 : len0 ≤ 1048576)
    (hS : ∀ w' B v, Own w' B v (z0.take len0) → Calls Try.prog 23 #[v, .int .i64 a1] w' (Res ys ok w'))
    (hI : ∀ w' B v, Own w' B v (z0.take len0) → Calls Try.prog 24 #[v, .int .i64 a1] w' (Res ys ok w')) (w : World) (w0 : IsRow .i64 w a0 len0 cap0 z0) :
    Calls Try.prog 7 #[.slice a0 len0 cap0, .int .i64 a1] w fun e w' => e = .returned (.bool true) ∧ Below w.heap.size w w' := by
  have hb1 : ys.length + 1 ≤ 9223372036854775807 := by omega
  have hb2 : (z0.take len0).length + 1 ≤ 9223372036854775807 := by rw [List.length_take]; omega
  have hl3 : (len0 : Int) ≤ 1048576 := by omega
  have HTO := Lib.hid (fun w' (h : IsRow .i64 w' a0 len0 cap0 z0) => to_any a0 len0 cap0 z0 w' h hl2)
  have HS := Lib.hid hS
  have HI := Lib.hid hI
  clear hS hI
  generalize z0.take len0 = xs at *
  go_enter Try.func7, Try.ntmps7
  go_wp2_with fail
  refine (HTO.out w w0).mono ?_; rintro e w1 ⟨v1, rfl, o1, b1⟩
  go_wp2_with fail
  refine (HS.out w1 _ v1 o1).mono ?_; rintro e w2 ⟨vw, rfl, ow, b2⟩
  have B2 : Below w.heap.size w w2 := b1.trans (b2.mono b1.size)
  have ow := ow
  go_wp2_with fail
  refine (HTO.out w2 (isRow_below w0 B2)).mono ?_; rintro e w3 ⟨vx, rfl, ox, b3⟩
  have B3 : Below w.heap.size w w3 := B2.trans (b3.mono B2.size)
  have s2 := b2.size
  have s3 := b3.size
  go_wp2_with fail
  refine (HI.out w3 _ vx ox).mono ?_; rintro e w4 ⟨vg, rfl, og, b4⟩
  have B4 : Below w.heap.size w w4 := B3.trans (b4.mono B3.size)
  have ow4 := (ow.below b3 (Nat.le_refl _)).below b4 (Nat.le_refl _)
  have ox4 := ox.below b4 (Nat.le_refl _)
  have s4 := b4.size
  go_wp2_with fail
  refine (eq_below og ow4).mono ?_; rintro e w5 ⟨rfl, b5⟩
  have B5 : Below w.heap.size w w5 := B4.trans (b5.mono B4.size)
  have s5 := b5.size
  go_wp2_with fail
  refine (HTO.out w5 (isRow_below w0 B5)).mono ?_; rintro e w6 ⟨v6, rfl, o6, b6⟩
  have B6 : Below w.heap.size w w6 := B5.trans (b6.mono B5.size)
  have s6 := b6.size
  go_wp2_with fail
  refine (eq_below ((ox4.below b5 (Nat.le_refl _)).below b6 (Nat.le_refl _)) o6).mono ?_; rintro e w7 ⟨rfl, b7⟩
  have B7 : Below w.heap.size w w7 := B6.trans (b7.mono B6.size)
  have s7 := b7.size
  have ox7 := ((ox4.below b5 (Nat.le_refl _)).below b6 (Nat.le_refl _)).below b7 (Nat.le_refl _)
  have ow7 := ((ow4.below b5 (Nat.le_refl _)).below b6 (Nat.le_refl _)).below b7 (Nat.le_refl _)
  have og7 := ((og.below b5 (Nat.le_refl _)).below b6 (Nat.le_refl _)).below b7 (Nat.le_refl _)
  have kw : ∀ k, vw.ownBlock = some k → w1.heap.size ≤ k ∧ k < w2.heap.size := ow.block
  have kx : ∀ k, vx.ownBlock = some k → w2.heap.size ≤ k ∧ k < w3.heap.size := ox.block
  have kg : ∀ k, vg.ownBlock = some k → w3.heap.size ≤ k ∧ k < w4.heap.size := og.block
  clear o1 ow ox ox4 ow4 og o6 b3 b4 b5 b6 b7 b2
  go_wp2_with fail
  refine (mark1 ox7 hb2).mono ?_; rintro e w8 ⟨rfl, _, gr⟩
  have s8 : w7.heap.size ≤ w8.heap.size := gr.size
  have s1 := b1.size
  have B8 : Below w.heap.size w w8 := B7.grown gr B7.size (fun k hk => by have := (kx k hk).1; omega)
  have ow8 := ow7.kept gr (fun k hk h => by have h1 := (kw k hk).2; have h2 := (kx k h.symm).1; omega)
  have og8 := og7.kept gr (fun k hk h => by have h1 := (kg k hk).1; have h2 := (kx k h.symm).2; omega)
  clear ox7 ow7 og7
  go_wp2_with fail
  refine (eq_below og8 ow8).mono ?_; rintro e w9 ⟨rfl, b9⟩
  have B9 : Below w.heap.size w w9 := B8.trans (b9.mono B8.size)
  have s9 := b9.size
  have ow9 := ow8.below b9 (Nat.le_refl _)
  have og9 := og8.below b9 (Nat.le_refl _)
  clear og8 ow8
  go_wp2_with fail
  refine (mark1 og9 hb1).mono ?_; rintro e w10 ⟨rfl, om, gm⟩
  have s10 : w9.heap.size ≤ w10.heap.size := gm.size
  have B10 : Below w.heap.size w w10 := B9.grown gm B9.size (fun k hk => by have := (kg k hk).1; omega)
  have ow10 := ow9.kept gm (fun k hk h => by have h1 := (kw k hk).2; have h2 := (kg k h.symm).1; omega)
  clear og9 ow9 b9
  go_wp2_with fail
  refine (held1 om hb1).mono ?_; rintro e w11 ⟨rfl, rfl⟩
  go_wp2_with fail
  refine (HTO.out w10 (isRow_below w0 B10)).mono ?_; rintro e w12 ⟨v12, rfl, o12, b12⟩
  have B12 : Below w.heap.size w w12 := B10.trans (b12.mono B10.size)
  go_wp2_with fail
  refine (HI.out w12 _ v12 o12).mono ?_; rintro e w13 ⟨vh, rfl, oh, b13⟩
  have B13 : Below w.heap.size w w13 := B12.trans (b13.mono B12.size)
  have ow13 := (ow10.below b12 (Nat.le_refl _)).below b13 (Nat.le_refl _)
  have om13 := (om.below b12 (Nat.le_refl _)).below b13 (Nat.le_refl _)
  go_wp2_with fail
  refine (eq_below oh ow13).mono ?_; rintro e w14 ⟨rfl, b14⟩
  have om14 := om13.below b14 (Nat.le_refl _)
  go_wp2_with fail
  refine (held1 om14 hb1).mono ?_; rintro e w15 ⟨rfl, rfl⟩
  go_wp2
  go_ret
  exact ⟨rfl, B13.trans (b14.mono B13.size)⟩
theorem long (a0 : Option Addr) (len0 cap0 : Nat) (a1 : Int) (w : World) (hl : ¬ len0 ≤ 1048576) :
    Calls Try.prog 7 #[.slice a0 len0 cap0, .int .i64 a1] w fun e w' => e = .returned (.bool true) ∧ Below w.heap.size w w' := by
  have hl2 : (1048576 : Int) < len0 := by omega
  clear hl
  go_enter Try.func7, Try.ntmps7
  go_wp2
  go_ret
  exact ⟨rfl, Below.refl _ _⟩
theorem walk (a0 : Option Addr) (len0 cap0 : Nat) (z0 : List Int) (a1 : Int) (w : World) (w0 : IsRow .i64 w a0 len0 cap0 z0) (_w1 : (Lit.int .i64 a1).wf = true) :
    Calls Try.prog 7 #[.slice a0 len0 cap0, .int .i64 a1] w fun e w' => e = .returned (.bool true) ∧ Below w.heap.size w w' := by
  by_cases hl : len0 ≤ 1048576
  · have hx : (z0.take len0).length ≤ 1048576 := by rw [List.length_take]; omega
    by_cases hok : Tr.okU (z0.take len0) = true ∧ 0 ≤ a1 ∧ a1 ≤ 60
    · obtain ⟨q, rfl⟩ := Int.eq_ofNat_of_zero_le hok.2.1
      have hq : q ≤ 60 := by omega
      exact core a0 len0 cap0 z0 _ (Tr.curveP (Tr.distP (z0.take len0)) q) true (by rw [Tr.curve_len]; omega) hl (fun w' B v h => Tr.lru_yes_s q hq h.rd hok.1) (fun w' B v h => Tr.lru_yes_i q hq h.rd hok.1) w w0
    · exact core a0 len0 cap0 z0 a1 [] false (by simp) hl (fun w' B v h => Tr.lru_no_s a1 h.rd hx hok) (fun w' B v h => Tr.lru_no_i a1 h.rd hx hok) w w0
  · exact long a0 len0 cap0 a1 w hl
end Go.Proofs.Ytamlbonkppajbaa.fnExactLruCurve
