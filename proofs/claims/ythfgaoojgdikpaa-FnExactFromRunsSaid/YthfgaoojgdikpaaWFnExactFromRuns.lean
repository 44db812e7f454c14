/- The walk of laws.FnExactFromRuns: the call returns true and writes nothing that was there. -/
import Derived.Test.YthfgaoojgdikpaaCfrs
import Derived.Test.YthfgaoojgdikpaaCfri
namespace Go.Proofs.Ythfgaoojgdikpaa.fnExactFromRuns
open Go.RowKit Fr
theorem weak2 {w : World} {B : Nat} {v : Value} {vs : List Value} {R : List (List Int)} (h : Own2 w B v vs R) : Own2W w B v vs R := ⟨h.1, h.2.1, fun i hi => (h.2.2.1 i hi).weak, h.2.2.2⟩
theorem same2 {w w' : World} {B n : Nat} {vs : List Value} {v : Value} {xs : List Int} (h : OwnW w B v xs) (hf : Frm vs n w w') (hd : ∀ k, v.ownBlock = some k → ∀ i, i < n → (vs.getD i s0).ownBlock ≠ some k) : OwnW w' B v xs :=
  h.same fun b hb hlt => hf b hlt (hd b hb)
set_option maxHeartbeats 4000000 in
theorem core (a : Option Addr) (c : Nat) (R : List (List Int)) (ys : List Int) (ok : Bool) (hy : ys.length ≤ 1000000) (w : World) (hm : IsMatL w a R) (hl : R.length + (lens R).sum ≤ 1048576)
    (hS : ∀ w' B v vs, Own2 w' B v vs R → Calls Try.prog 23 #[v] w' (Res ys ok w'))
    (hI : ∀ w' B v vs, Own2 w' B v vs R → Calls Try.prog 25 #[v] w' (Res ys ok w')) :
    Calls Try.prog 8 #[.slice a R.length c] w fun e w' => e = .returned (.bool true) ∧ Below w.heap.size w w' := by
  have HZ := Lib.hid (szM_yes a c R 1048576 w hm (by omega) (by omega))
  have hz0 : ¬ ((1048576 : Int) - (R.length : Int) - ((lens R).sum : Nat)) < 0 := by omega
  have HTO := Lib.hid (fun (w' : World) (hb : Below w.heap.size w w') => toM_any a c R w' (hm.below hb) hl)
  have HS := Lib.hid hS
  have HI := Lib.hid hI
  have HMK := Lib.hid (fun (w' : World) (B : Nat) (v : Value) (vs : List Value) (h : Own2W w' B v vs R) (hB : B ≤ w'.heap.size) => (show Calls Try.prog 28 #[v, .int .i64 1] w' fun e w2 => ∃ k : Int, e = .returned (.int .i64 k) ∧ 0 ≤ k ∧ Below B w' w2 ∧ w'.heap.size ≤ w2.heap.size ∧ Frm vs R.length w' w2 from
    (mark2_ownW 1 h (by have : (R.map List.length).sum = (lens R).sum := rfl; omega) hB).mono fun e w2 ⟨h1, h2, h3, h4, h5⟩ => ⟨_, h1, by omega, h3, h4, by rw [List.length_map] at h5; exact h5⟩))
  have HMG := Lib.hid (fun (w' : World) (B : Nat) (v : Value) (h : OwnW w' B v ys) => (show Calls Try.prog 29 #[v, .int .i64 1] w' (MarkedW B v 1 ys.length w') from mark_ownW 1 h (by omega)))
  have HHG := Lib.hid (fun (w' : World) (B : Nat) (v : Value) (h : OwnW w' B v (marks 1 ys.length)) => (show Calls Try.prog 30 #[v, .int .i64 1] w' (Count (((1 : Nat) : Int) + (ys.length : Nat)) w') from held_ownW 1 ys.length h (by omega)))
  have hyl : (ys.length : Int) ≤ 1000000 := by omega
  clear hS hI hm hl
  generalize (lens R).sum = T at *
  generalize hN : R.length = N at *
  have HRN := Lib.hid hN
  clear hN
  generalize ys.length = Y at *
  go_enter Try.func8, Try.ntmps8
  go_wp2_with fail
  refine HZ.out.mono ?_; rintro e w' ⟨rfl, rfl⟩
  go_wp2_with fail
  refine (HTO.out w (Below.refl _ _)).mono ?_; rintro e w1 ⟨v1, vs1, rfl, o1, b1⟩
  go_wp2_with fail
  refine (HS.out w1 _ v1 vs1 o1).mono ?_; rintro e w2 ⟨vw, rfl, ow, b2⟩
  have B2 := bt b1 b2
  have HOW := Lib.hid (fun (w' : World) (hb : Below w2.heap.size w2 w') => (OwnW.below ow.weak hb (Nat.le_refl _)))
  have s02 := B2.size
  clear o1 b1 b2 ow
  go_wp2_with fail
  refine (HTO.out w2 B2).mono ?_; rintro e w3 ⟨x0, vsx, rfl, ox, b3⟩
  have B3 := bt B2 b3
  go_wp2_with fail
  refine (HI.out w3 _ x0 vsx ox).mono ?_; rintro e w4 ⟨vg, rfl, og, b4⟩
  have B4 := bt B3 b4
  have b24 := bt b3 b4
  have s23 := b3.size
  have s34 := b4.size
  have ogb := og.block
  have hxv : ∀ i k, i < N → (vsx.getD i s0).ownBlock = some k → k < w3.heap.size := fun i k hi hk => ((ox.2.2.1 i (by rw [HRN.out]; exact hi)).block k hk).2
  have OX := Lib.hid (fun (w' : World) (hb : Below w3.heap.size w3 w') => (weak2 ox).below hb (Nat.le_refl _))
  have OG := Lib.hid (fun (w' : World) (hb : Below w4.heap.size w4 w') => og.weak.below hb (Nat.le_refl _))
  clear ox og
  go_wp2_with fail
  refine (eqW_below (OG.out w4 (Below.refl _ _)) (HOW.out w4 b24)).mono ?_; rintro e w5 ⟨rfl, b5⟩
  have B5 := bt B4 b5
  have b25 := bt b24 b5
  have b35 := bt b4 b5
  have s45 := b5.size
  go_wp2_with fail
  refine (HTO.out w5 B5).mono ?_; rintro e w6 ⟨v6, vs6, rfl, o6, b6⟩
  have B6 := bt B5 b6
  have b26 := bt b25 b6
  have b36 := bt b35 b6
  have b46 := bt b5 b6
  have s56 := b6.size
  go_wp2_with fail
  refine ((eq2_ownW (OX.out w6 b36) (weak2 o6)).mono (R' := Bb true w6) fun e w' ⟨k, he, hw⟩ => ⟨he, by rw [hw]; exact below_drewN k (Below.refl _ _)⟩).mono ?_; rintro e w7 ⟨rfl, b7⟩
  have B7 := bt B6 b7
  have b27 := bt b26 b7
  have b37 := bt b36 b7
  have b47 := bt b46 b7
  have s67 := b7.size
  clear b3 b4 b5 b6 b7 o6 b24 b25 b35 b26 b36 b46
  go_wp2_with fail
  refine (HMK.out w7 _ x0 vsx (OX.out w7 b37) (by omega)).mono ?_; rintro e w8 ⟨k8, rfl, hk8, b8, s78, fr⟩
  have B8 := B7.trans (b8.mono s02)
  have b28 := b27.trans b8
  have og8 := same2 (OG.out w7 b47) fr (fun k hk i hi hx => by have h1 := (ogb k hk).1; have h2 := hxv i k hi hx; omega)
  clear OX OG fr b8 HMK
  go_wp2_with fail
  refine (eqW_below og8 (HOW.out w8 b28)).mono ?_; rintro e w9 ⟨rfl, b9⟩
  have B9 := bt B8 b9
  have b29 := bt b28 b9
  have og9 := og8.below b9 (Nat.le_refl _)
  have s89 := b9.size
  clear og8 b9
  go_wp2_with fail
  refine (HMG.out w9 _ vg og9).mono ?_; rintro e w10 ⟨rfl, om, gm⟩
  have B10 : Below w.heap.size w w10 := B9.grown gm B9.size (fun k hk => by have := (ogb k hk).1; omega)
  have b210 : Below w2.heap.size w2 w10 := b29.grown gm b29.size (fun k hk => by have := (ogb k hk).1; omega)
  have s910 := gm.size
  clear og9 gm
  go_wp2_with fail
  refine (HHG.out w10 _ vg om).mono ?_; rintro e w11 ⟨rfl, rfl⟩
  go_wp2_with fail
  refine (HTO.out w10 B10).mono ?_; rintro e w12 ⟨v12, vs12, rfl, o12, b12⟩
  have B12 := bt B10 b12
  go_wp2_with fail
  refine (HI.out w12 _ v12 vs12 o12).mono ?_; rintro e w13 ⟨vh, rfl, oh, b13⟩
  have B13 := bt B12 b13
  have b213 := bt (bt b210 b12) b13
  have om13 := (om.below b12 (Nat.le_refl _)).below b13 (Nat.le_refl _)
  go_wp2_with fail
  refine (eqW_below oh.weak (HOW.out w13 b213)).mono ?_; rintro e w14 ⟨rfl, b14⟩
  have om14 := om13.below b14 (Nat.le_refl _)
  go_wp2_with fail
  refine (HHG.out w14 _ vg om14).mono ?_; rintro e w15 ⟨rfl, rfl⟩
  go_wp2
  go_ret
  exact ⟨rfl, bt B13 b14⟩
theorem long (a : Option Addr) (c : Nat) (R : List (List Int)) (w : World) (hm : IsMatL w a R) (hl : 1048576 < R.length + (lens R).sum) :
    Calls Try.prog 8 #[.slice a R.length c] w fun e w' => e = .returned (.bool true) ∧ Below w.heap.size w w' := by
  have HZ := Lib.hid (szM_no a c R 1048576 w hm (by omega) (by omega) (by omega))
  clear hm hl
  generalize R.length = N at *
  go_enter Try.func8, Try.ntmps8
  go_wp2_with fail
  refine HZ.out.mono ?_; rintro e w' ⟨rfl, rfl⟩
  go_wp2
  go_ret
  exact ⟨rfl, Below.refl _ _⟩
theorem walk (a0 : Option Addr) (len0 cap0 : Nat) (w : World) (w0 : IsMat w a0 len0) :
    Calls Try.prog 8 #[.slice a0 len0 cap0] w fun e w' => e = .returned (.bool true) ∧ Below w.heap.size w w' := by
  obtain ⟨R, rfl, hm⟩ := w0.list
  by_cases hl : R.length + (lens R).sum ≤ 1048576
  · refine core a0 cap0 R (frV R).1 (frV R).2 (by have := frV_len R; omega) w hm hl (fun w' B v vs h => ?_) (fun w' B v vs h => ?_)
    · obtain ⟨a, c, rfl, hr⟩ := Fr.Own2.rdM h
      exact from_s a c R w' (by omega) hr
    · obtain ⟨a, c, rfl, hr⟩ := Fr.Own2.rdM h
      exact from_i a c R w' (by omega) hr
  · exact long a0 cap0 R w hm (by omega)
end Go.Proofs.Ythfgaoojgdikpaa.fnExactFromRuns
