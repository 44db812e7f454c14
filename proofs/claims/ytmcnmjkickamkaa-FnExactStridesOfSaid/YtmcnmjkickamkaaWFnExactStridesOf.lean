/- The walk of laws.FnExactStridesOf: the call returns true and writes nothing that was there. -/
import Derived.Test.YtmcnmjkickamkaaCsti
import Derived.Test.YtmcnmjkickamkaaCldm
import Derived.Test.YtmcnmjkickamkaaCmark1
import Derived.Test.YtmcnmjkickamkaaCmarkE
namespace Go.Proofs.Ytmcnmjkickamkaa.fnExactStridesOf
open Go.RowKit Ld Tr St
set_option maxHeartbeats 2000000 in
theorem core (a0 : Option Addr) (cap0 : Nat) (xs : List (Int × Int)) (ys : List Int) (ok : Bool) (hy : ys.length ≤ 1000000) (hl : xs.length ≤ 1048576) (w : World) (hr : RowA w a0 xs)
    (hS : ∀ w' B v, OwnA w' B v xs → Calls Try.prog 16 #[v] w' (Res ys ok w'))
    (hI : ∀ w' B v, OwnA w' B v xs → Calls Try.prog 17 #[v] w' (Res ys ok w')) :
    Calls Try.prog 5 #[.slice a0 xs.length cap0] w fun e w' => e = .returned (.bool true) ∧ Below w.heap.size w w' := by
  have hb1 : ys.length + 1 ≤ 9223372036854775807 := by omega
  have HZ := Lib.hid (sz_any a0 xs.length cap0 1048576 w hl (Nat.le_refl _))
  have HTO := Lib.hid (fun (w' : World) (hb : Below w.heap.size w w') => Ld.to_any a0 cap0 xs w' (hr.below hb) hl)
  have HE := Lib.hid (fun (w' : World) (B1 B2 : Nat) (v1 v2 : Value) (h1 : OwnA w' B1 v1 xs) (h2 : OwnA w' B2 v2 xs) => (show Calls Try.prog 12 #[v1, v2] w' (BbA true w') by
    obtain ⟨a1, c1, rfl, r1⟩ := h1.row
    obtain ⟨a2, c2, rfl, r2⟩ := h2.row
    exact eq_any a1 a2 c1 c2 xs w' hl r1 r2))
  have HM := Lib.hid (fun (w' : World) (B : Nat) (v : Value) (h : OwnA w' B v xs) => Ld.mark_own h hl)
  have HS := Lib.hid hS
  have HI := Lib.hid hI
  have hl2 : ¬ ((1048576 : Int) - (xs.length : Int)) < 0 := by omega
  clear hr hS hI
  generalize hN : xs.length = N at *
  clear hN
  go_enter Try.func5, Try.ntmps5
  go_wp2_with fail
  refine HZ.out.mono ?_; rintro e w' ⟨rfl, rfl⟩
  go_wp2_with fail
  refine (HTO.out w (Below.refl _ _)).mono ?_; rintro e w1 ⟨v1, rfl, o1, b1⟩
  go_wp2_with fail
  refine (HS.out w1 _ v1 o1).mono ?_; rintro e w2 ⟨vw, rfl, ow, b2⟩
  have B2 : Below w.heap.size w w2 := b1.trans (b2.mono b1.size)
  go_wp2_with fail
  refine (HTO.out w2 B2).mono ?_; rintro e w3 ⟨vx, rfl, ox, b3⟩
  have B3 : Below w.heap.size w w3 := B2.trans (b3.mono B2.size)
  have s2 := b2.size
  have s3 := b3.size
  go_wp2_with fail
  refine (HI.out w3 _ vx ox).mono ?_; rintro e w4 ⟨vg, rfl, og, b4⟩
  have B4 : Below w.heap.size w w4 := B3.trans (b4.mono B3.size)
  have ow4 := (ow.below b3 (Nat.le_refl _)).below b4 (Nat.le_refl _)
  have ox4 := OwnA.below ox b4 (Nat.le_refl _)
  have s4 := b4.size
  go_wp2_with fail
  refine (eq_below og ow4).mono ?_; rintro e w5 ⟨rfl, b5⟩
  have B5 : Below w.heap.size w w5 := B4.trans (b5.mono B4.size)
  have s5 := b5.size
  go_wp2_with fail
  refine (HTO.out w5 B5).mono ?_; rintro e w6 ⟨v6, rfl, o6, b6⟩
  have B6 : Below w.heap.size w w6 := B5.trans (b6.mono B5.size)
  have s6 := b6.size
  have ox6 := OwnA.below (OwnA.below ox4 b5 (Nat.le_refl _)) b6 (Nat.le_refl _)
  go_wp2_with fail
  refine (HE.out w6 _ _ vx v6 ox6 o6).mono ?_; rintro e w7 ⟨rfl, b7⟩
  have b7 : Below w6.heap.size w6 w7 := b7
  have B7 : Below w.heap.size w w7 := B6.trans (b7.mono B6.size)
  have s7 := b7.size
  have ox7 := OwnA.below ox6 b7 (Nat.le_refl _)
  have ow7 := ((ow4.below b5 (Nat.le_refl _)).below b6 (Nat.le_refl _)).below b7 (Nat.le_refl _)
  have og7 := ((og.below b5 (Nat.le_refl _)).below b6 (Nat.le_refl _)).below b7 (Nat.le_refl _)
  have kw : ∀ k, vw.ownBlock = some k → w1.heap.size ≤ k ∧ k < w2.heap.size := ow.block
  have kx : ∀ k, vx.ownBlock = some k → w2.heap.size ≤ k ∧ k < w3.heap.size := OwnA.block ox
  have kg : ∀ k, vg.ownBlock = some k → w3.heap.size ≤ k ∧ k < w4.heap.size := og.block
  have HM7 := Lib.hid (HM.out w7 _ vx ox7)
  clear o1 ow ox ox4 ox6 ox7 ow4 og o6 b3 b4 b5 b6 b7 b2
  go_wp2_with fail
  refine HM7.out.mono ?_; rintro e w8 ⟨rfl, gr⟩
  have s8 : w7.heap.size ≤ w8.heap.size := gr.size
  have s1 := b1.size
  have B8 : Below w.heap.size w w8 := B7.grown gr B7.size (fun k hk => by have := (kx k hk).1; omega)
  have ow8 := ow7.kept gr (fun k hk h => by have h1 := (kw k hk).2; have h2 := (kx k h.symm).1; omega)
  have og8 := og7.kept gr (fun k hk h => by have h1 := (kg k hk).1; have h2 := (kx k h.symm).2; omega)
  clear ow7 og7
  go_wp2_with fail
  refine (eq_below og8 ow8).mono ?_; rintro e w9 ⟨rfl, b9⟩
  have B9 : Below w.heap.size w w9 := B8.trans (b9.mono B8.size)
  have s9 := b9.size
  have ow9 := ow8.below b9 (Nat.le_refl _)
  have og9 := og8.below b9 (Nat.le_refl _)
  clear og8 ow8
  go_wp2_with fail
  refine (mark1 og9 hb1).mono ?_; rintro e w10 ⟨rfl, om, gm⟩
  have s10 : w9.heap.size ≤ w10.heap.size := gm.size
  have B10 : Below w.heap.size w w10 := B9.grown gm B9.size (fun k hk => by have := (kg k hk).1; omega)
  have ow10 := ow9.kept gm (fun k hk h => by have h1 := (kw k hk).2; have h2 := (kg k h.symm).1; omega)
  clear og9 ow9 b9
  go_wp2_with fail
  refine (held1 om hb1).mono ?_; rintro e w11 ⟨rfl, rfl⟩
  go_wp2_with fail
  refine (HTO.out w10 B10).mono ?_; rintro e w12 ⟨v12, rfl, o12, b12⟩
  have B12 : Below w.heap.size w w12 := B10.trans (b12.mono B10.size)
  go_wp2_with fail
  refine (HI.out w12 _ v12 o12).mono ?_; rintro e w13 ⟨vh, rfl, oh, b13⟩
  have B13 : Below w.heap.size w w13 := B12.trans (b13.mono B12.size)
  have ow13 := (ow10.below b12 (Nat.le_refl _)).below b13 (Nat.le_refl _)
  have om13 := (om.below b12 (Nat.le_refl _)).below b13 (Nat.le_refl _)
  go_wp2_with fail
  refine (eq_below oh ow13).mono ?_; rintro e w14 ⟨rfl, b14⟩
  have om14 := om13.below b14 (Nat.le_refl _)
  go_wp2_with fail
  refine (held1 om14 hb1).mono ?_; rintro e w15 ⟨rfl, rfl⟩
  go_wp2
  go_ret
  exact ⟨rfl, B13.trans (b14.mono B13.size)⟩
theorem walk (a0 : Option Addr) (cap0 : Nat) (xs : List (Int × Int)) (w : World) (hr : RowA w a0 xs) (hm : xs.length ≤ 9223372036854775807) :
    Calls Try.prog 5 #[.slice a0 xs.length cap0] w fun e w' => e = .returned (.bool true) ∧ Below w.heap.size w w' := by
  by_cases hl : xs.length ≤ 1048576
  · refine core a0 cap0 xs (if okT xs then strs xs xs.length else []) (okT xs) ?_ hl w hr (fun w' B v h => ?_) (fun w' B v h => ?_)
    · split
      · rename_i h; have := okT_len h; rw [strs_len]; omega
      · simp
    · obtain ⟨a, c, rfl, hrow⟩ := h.row
      exact sts_s a c xs w' hl hrow
    · obtain ⟨a, c, rfl, hrow⟩ := h.row
      exact sts_i a c xs w' hl hrow
  · have HZ := Lib.hid (sz_long a0 xs.length cap0 1048576 w (by omega) (Nat.le_refl _) hm)
    clear hr hl
    generalize xs.length = N at *
    go_enter Try.func5, Try.ntmps5
    go_wp2_with fail
    refine HZ.out.mono ?_; rintro e w' ⟨rfl, rfl⟩
    go_wp2
    go_ret
    exact ⟨rfl, Below.refl _ _⟩
end Go.Proofs.Ytmcnmjkickamkaa.fnExactStridesOf
