/- The walk of laws.FnExactShareMisses: the call returns true and writes nothing that was there. -/
import Derived.Test.YtamlbonkppajbaaCshr
import Derived.Test.YtamlbonkppajbaaCto
import Derived.Test.YtamlbonkppajbaaCmarkE
namespace Go.Proofs.Ytamlbonkppajbaa.fnExactShareMisses
open Go.RowKit
theorem weak2 {w : World} {B : Nat} {v : Value} {vs : List Value} {R : List (List Int)} (h : Own2 w B v vs R) : Own2W w B v vs R := ⟨h.1, h.2.1, fun i hi => (h.2.2.1 i hi).weak, h.2.2.2⟩
set_option maxHeartbeats 4000000 in
theorem core (a : Option Addr) (c : Nat) (R : List (List Int)) (a1 : Option Addr) (len1 cap1 : Nat) (z1 : List Int) (n : Int) (ok : Bool) (w : World) (hm : IsMatL w a R) (w1 : IsRow .i64 w a1 len1 cap1 z1) (hl : R.length + (lens R).sum ≤ 1048576) (hl3 : len1 ≤ 1048576)
    (hS : ∀ w' A C u, Tr.RdL w' A R → Rd w' u (z1.take len1) → Calls Try.prog 30 #[.slice A R.length C, u] w' (Tr.Ib n ok w'))
    (hI : ∀ w' A C u, Tr.RdL w' A R → Rd w' u (z1.take len1) → Calls Try.prog 32 #[.slice A R.length C, u] w' (Tr.Ib n ok w')) :
    Calls Try.prog 10 #[.slice a R.length c, .slice a1 len1 cap1] w fun e w' => e = .returned (.bool true) ∧ Below w.heap.size w w' := by
  have HZ := Lib.hid (szM_yes a c R 1048576 w hm (by omega) (by omega))
  have hz0 : ¬ ((1048576 : Int) - (R.length : Int) - ((lens R).sum : Nat)) < 0 := by omega
  have hl5 : (len1 : Int) ≤ 1048576 := by omega
  have HTO := Lib.hid (fun (w' : World) (hb : Below w.heap.size w w') => toM_any a c R w' (hm.below hb) hl)
  have HTP := Lib.hid (fun w' (h : IsRow .i64 w' a1 len1 cap1 z1) => to_any a1 len1 cap1 z1 w' h hl3)
  have HS := Lib.hid hS
  have HI := Lib.hid hI
  clear hS hI hm hl
  generalize z1.take len1 = ts at *
  generalize (lens R).sum = T at *
  generalize hN : R.length = N at *
  have HRN := Lib.hid hN
  clear hN
  go_enter Try.func10, Try.ntmps10
  go_wp2_with fail
  refine HZ.out.mono ?_; rintro e w' ⟨rfl, rfl⟩
  go_wp2_with fail
  refine (HTO.out w (Below.refl _ _)).mono ?_; rintro e x1 ⟨v1, vs1, rfl, o1, b1⟩
  go_wp2_with fail
  refine (HTP.out x1 (isRow_below w1 b1)).mono ?_; rintro e x2 ⟨v2, rfl, o2, b2⟩
  have B2 := bt b1 b2
  obtain ⟨A1, C1, e1, r1⟩ := Tr.rdL_own o1
  rw [HRN.out] at e1
  subst e1
  go_wp2_with fail
  refine (HS.out x2 A1 C1 v2 (r1.below b2) o2.rd).mono ?_; rintro e x3 ⟨rfl, b3⟩
  have B3 := bt B2 b3
  clear o1 o2 b1 b2 b3 r1
  go_wp2_with fail
  refine (HTO.out x3 B3).mono ?_; rintro e x4 ⟨vx, vsx, rfl, ox, b4⟩
  have B4 := bt B3 b4
  go_wp2_with fail
  refine (HTP.out x4 (isRow_below w1 B4)).mono ?_; rintro e x5 ⟨vt, rfl, ot, b5⟩
  have B5 := bt B4 b5
  obtain ⟨A2, C2, e2, r2⟩ := Tr.rdL_own ox
  rw [HRN.out] at e2
  subst e2
  go_wp2_with fail
  refine (HI.out x5 A2 C2 vt (r2.below b5) ot.rd).mono ?_; rintro e x6 ⟨rfl, b6⟩
  have B6 := bt B5 b6
  have b46 := bt b5 b6
  go_wp2_with fail
  refine (HTO.out x6 B6).mono ?_; rintro e x7 ⟨v7, vs7, rfl, o7, b7⟩
  have B7 := bt B6 b7
  have b47 := bt b46 b7
  have OX7 := (weak2 ox).below b47 (Nat.le_refl _)
  have OT7 := (ot.below b6 (Nat.le_refl _)).below b7 (Nat.le_refl _)
  clear r2 ox ot b4 b5 b6 b46 b7 b47
  go_wp2_with fail
  refine ((eq2_ownW OX7 (weak2 o7)).mono (R' := Bb true x7) fun e w' ⟨k, he, hw⟩ => ⟨he, by rw [hw]; exact below_drewN k (Below.refl _ _)⟩).mono ?_; rintro e x8 ⟨rfl, b8⟩
  have B8 := bt B7 b8
  have OT8 := OT7.below b8 (Nat.le_refl _)
  clear OX7 o7 OT7 b8
  go_wp2_with fail
  refine (HTP.out x8 (isRow_below w1 B8)).mono ?_; rintro e x9 ⟨v9, rfl, o9, b9⟩
  have B9 := bt B8 b9
  have OT9 := OT8.below b9 (Nat.le_refl _)
  clear OT8 b9
  go_wp2_with fail
  refine (eq_below OT9 o9).mono ?_; rintro e x10 ⟨rfl, b10⟩
  have B10 := bt B9 b10
  go_wp2
  go_ret
  exact ⟨rfl, B10⟩
theorem long1 (a : Option Addr) (c N : Nat) (a1 : Option Addr) (len1 cap1 : Nat) (w : World) (hl : ¬ len1 ≤ 1048576) :
    Calls Try.prog 10 #[.slice a N c, .slice a1 len1 cap1] w fun e w' => e = .returned (.bool true) ∧ Below w.heap.size w w' := by
  have hl5 : (1048576 : Int) < len1 := by omega
  clear hl
  go_enter Try.func10, Try.ntmps10
  go_wp2
  go_ret
  exact ⟨rfl, Below.refl _ _⟩
theorem long (a : Option Addr) (c : Nat) (R : List (List Int)) (a1 : Option Addr) (len1 cap1 : Nat) (w : World) (hm : IsMatL w a R) (hl : 1048576 < R.length + (lens R).sum) (hl3 : len1 ≤ 1048576) :
    Calls Try.prog 10 #[.slice a R.length c, .slice a1 len1 cap1] w fun e w' => e = .returned (.bool true) ∧ Below w.heap.size w w' := by
  have HZ := Lib.hid (szM_no a c R 1048576 w hm (by omega) (by omega) (by omega))
  have hl5 : (len1 : Int) ≤ 1048576 := by omega
  clear hm hl
  generalize R.length = N at *
  go_enter Try.func10, Try.ntmps10
  go_wp2_with fail
  refine HZ.out.mono ?_; rintro e w' ⟨rfl, rfl⟩
  go_wp2
  go_ret
  exact ⟨rfl, Below.refl _ _⟩
theorem lens_each (R : List (List Int)) (hl : R.length + (lens R).sum ≤ 1048576) (j : Nat) (hj : j < R.length) : (R.getD j []).length ≤ 1048576 := by
  have h1 := sum_step (lens R) j (by rw [lens_length]; exact hj)
  have h2 := sum_take_le (lens R) (j + 1)
  rw [lens_get R j hj] at h1
  omega
theorem walk (a0 : Option Addr) (len0 cap0 : Nat) (a1 : Option Addr) (len1 cap1 : Nat) (z1 : List Int) (w : World) (w0 : IsMat w a0 len0) (w1 : IsRow .i64 w a1 len1 cap1 z1) :
    Calls Try.prog 10 #[.slice a0 len0 cap0, .slice a1 len1 cap1] w fun e w' => e = .returned (.bool true) ∧ Below w.heap.size w w' := by
  obtain ⟨R, rfl, hm⟩ := w0.list
  by_cases h1 : len1 ≤ 1048576
  · by_cases hl : R.length + (lens R).sum ≤ 1048576
    · exact core a0 cap0 R a1 len1 cap1 z1 (Tr.shV R (z1.take len1)) (Tr.shOk R (z1.take len1)) w hm w1 hl h1 (fun w' A C u h h2 => Tr.share_s A C R u (z1.take len1) w' (by omega) (lens_each R hl) h h2) (fun w' A C u h h2 => Tr.share_i A C R u (z1.take len1) w' (by omega) (lens_each R hl) h h2)
    · exact long a0 cap0 R a1 len1 cap1 w hm (by omega) h1
  · exact long1 a0 cap0 R.length a1 len1 cap1 w h1
end Go.Proofs.Ytamlbonkppajbaa.fnExactShareMisses
