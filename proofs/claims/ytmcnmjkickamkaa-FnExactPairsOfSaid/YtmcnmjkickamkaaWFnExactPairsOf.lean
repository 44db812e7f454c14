/- The walk of laws.FnExactPairsOf: the call returns true and writes nothing that was there. -/
import Derived.Test.YtmcnmjkickamkaaCprp
import Derived.Test.YtmcnmjkickamkaaCldm
import Derived.Test.YtmcnmjkickamkaaCmark1
import Derived.Test.YtmcnmjkickamkaaCmarkE
import Derived.Test.YtmcnmjkickamkaaCheld2
namespace Go.Proofs.Ytmcnmjkickamkaa.fnExactPairsOf
open Go.RowKit Ld Tr St
set_option maxHeartbeats 2000000 in
theorem core (a0 : Option Addr) (cap0 : Nat) (xs : List (Int × Int)) (s : Int) (yss : List (List Int)) (ok : Bool) (hy : (yss.map List.length).sum ≤ 1000000) (hl : xs.length ≤ 1048576) (w : World) (hr : RowA w a0 xs)
    (hS : ∀ w' B v, OwnA w' B v xs → Calls Try.prog 22 #[v, .int .i64 s] w' (Res2 yss ok w'))
    (hI : ∀ w' B v, OwnA w' B v xs → Calls Try.prog 23 #[v, .int .i64 s] w' (Res2 yss ok w')) :
    Calls Try.prog 6 #[.slice a0 xs.length cap0, .int .i64 s] w fun e w' => e = .returned (.bool true) ∧ Below w.heap.size w w' := by
  have hb1 : 1 + (yss.map List.length).sum ≤ 9223372036854775807 := by omega
  have HZ := Lib.hid (sz_any a0 xs.length cap0 1048576 w hl (Nat.le_refl _))
  have HTO := Lib.hid (fun (w' : World) (hb : Below w.heap.size w w') => Ld.to_any a0 cap0 xs w' (hr.below hb) hl)
  have HE := Lib.hid (fun (w' : World) (B1 B2 : Nat) (v1 v2 : Value) (h1 : OwnA w' B1 v1 xs) (h2 : OwnA w' B2 v2 xs) => (show Calls Try.prog 12 #[v1, v2] w' (BbA true w') by
    obtain ⟨a1, c1, rfl, r1⟩ := h1.row
    obtain ⟨a2, c2, rfl, r2⟩ := h2.row
    exact eq_any a1 a2 c1 c2 xs w' hl r1 r2))
  have HM := Lib.hid (fun (w' : World) (B : Nat) (v : Value) (h : OwnA w' B v xs) => Ld.mark_own h hl)
  have HS := Lib.hid hS
  have HI := Lib.hid hI
  have hl2 : ¬ ((1048576 : Int) - (xs.length : Int)) < 0 := by omega
  clear hr hS hI
  generalize hN : xs.length = N at *
  clear hN
  go_enter Try.func6, Try.ntmps6
  go_wp2_with fail
  refine HZ.out.mono ?_; rintro e w' ⟨rfl, rfl⟩
  go_wp2_with fail
  refine (HTO.out w (Below.refl _ _)).mono ?_; rintro e w1 ⟨v1, rfl, o1, b1⟩
  go_wp2_with fail
  refine (HS.out w1 _ v1 o1).mono ?_; rintro e w2 ⟨vw, vsw, rfl, ow, b2⟩
  have B2 : Below w.heap.size w w2 := b1.trans (b2.mono b1.size)
  go_wp2_with fail
  refine (HTO.out w2 B2).mono ?_; rintro e w3 ⟨vx, rfl, ox, b3⟩
  have B3 : Below w.heap.size w w3 := B2.trans (b3.mono B2.size)
  have s2 := b2.size
  have s3 := b3.size
  go_wp2_with fail
  refine (HI.out w3 _ vx ox).mono ?_; rintro e w4 ⟨vg, vsg, rfl, og, b4⟩
  have B4 : Below w.heap.size w w4 := B3.trans (b4.mono B3.size)
  have b24 : Below w2.heap.size w2 w4 := b3.trans (b4.mono b3.size)
  have s4 := b4.size
  have HOW := Lib.hid (fun (w' : World) (hb : Below w2.heap.size w2 w') => Own2.below ow hb (Nat.le_refl _))
  have ox4 := OwnA.below ox b4 (Nat.le_refl _)
  go_wp2_with fail
  refine (eq2_own og (HOW.out w4 b24)).mono ?_; rintro e w5 ⟨k5, rfl, hw5⟩
  have b5 : Below w4.heap.size w4 w5 := by rw [hw5]; exact below_drewN _ (Below.refl _ _)
  have B5 : Below w.heap.size w w5 := B4.trans (b5.mono B4.size)
  have s5 := b5.size
  clear hw5
  go_wp2_with fail
  refine (HTO.out w5 B5).mono ?_; rintro e w6 ⟨v6, rfl, o6, b6⟩
  have B6 : Below w.heap.size w w6 := B5.trans (b6.mono B5.size)
  have s6 := b6.size
  have ox6 := OwnA.below (OwnA.below ox4 b5 (Nat.le_refl _)) b6 (Nat.le_refl _)
  go_wp2_with fail
  refine (HE.out w6 _ _ vx v6 ox6 o6).mono ?_; rintro e w7 ⟨rfl, b7⟩
  have b7 : Below w6.heap.size w6 w7 := b7
  have B7 : Below w.heap.size w w7 := B6.trans (b7.mono B6.size)
  have s7 := b7.size
  have b47 : Below w4.heap.size w4 w7 := (b5.trans (b6.mono s5)).trans (b7.mono (Nat.le_trans s5 s6))
  have b27 : Below w2.heap.size w2 w7 := b24.trans (b47.mono b24.size)
  have ox7 := OwnA.below ox6 b7 (Nat.le_refl _)
  have og7 := Own2.below og b47 (Nat.le_refl _)
  have kx : ∀ k, vx.ownBlock = some k → w2.heap.size ≤ k ∧ k < w3.heap.size := OwnA.block ox
  have HM7 := Lib.hid (HM.out w7 _ vx ox7)
  clear o1 ox ox4 ox6 og o6 b3 b4 b5 b6 b7 b2
  go_wp2_with fail
  refine HM7.out.mono ?_; rintro e w8 ⟨rfl, gr⟩
  have s8 : w7.heap.size ≤ w8.heap.size := gr.size
  have s1 := b1.size
  have B8 : Below w.heap.size w w8 := B7.grown gr B7.size (fun k hk => by have := (kx k hk).1; omega)
  have b28 : Below w2.heap.size w2 w8 := b27.grown gr b27.size (fun k hk => (kx k hk).1)
  have og8 := Own2.kept og7 gr (fun k hk => (kx k hk).2)
  clear ox7 og7
  go_wp2_with fail
  refine (eq2_own og8 (HOW.out w8 b28)).mono ?_; rintro e w9 ⟨k9, rfl, hw9⟩
  have b9 : Below w8.heap.size w8 w9 := by rw [hw9]; exact below_drewN _ (Below.refl _ _)
  have B9 : Below w.heap.size w w9 := B8.trans (b9.mono B8.size)
  have b29 : Below w2.heap.size w2 w9 := b28.trans (b9.mono b28.size)
  have s9 := b9.size
  have og9 := Own2.below og8 b9 (Nat.le_refl _)
  clear og8 hw9
  go_wp2_with fail
  refine (mark2_own 1 og9 hb1 (by omega)).mono ?_; rintro e w10 ⟨rfl, om, bm, s10⟩
  have B10 : Below w.heap.size w w10 := B9.trans (bm.mono (by omega))
  have b210 : Below w2.heap.size w2 w10 := b29.trans (bm.mono (by omega))
  have HH := Lib.hid (fun (w' : World) (hb : Below w10.heap.size w10 w') => held2_own 1 _ (Own2.below om hb (Nat.le_refl _)) hb1)
  clear og9 b9 bm om
  generalize (yss.map List.length).sum = SS at *
  go_wp2_with fail
  refine (HH.out w10 (Below.refl _ _)).mono ?_; rintro e w11 ⟨rfl, rfl⟩
  go_wp2_with fail
  refine (HTO.out w10 B10).mono ?_; rintro e w12 ⟨v12, rfl, o12, b12⟩
  have B12 : Below w.heap.size w w12 := B10.trans (b12.mono B10.size)
  go_wp2_with fail
  refine (HI.out w12 _ v12 o12).mono ?_; rintro e w13 ⟨vh, vsh, rfl, oh, b13⟩
  have B13 : Below w.heap.size w w13 := B12.trans (b13.mono B12.size)
  have b1013 : Below w10.heap.size w10 w13 := b12.trans (b13.mono b12.size)
  go_wp2_with fail
  refine (eq2_own oh (HOW.out w13 (b210.trans (b1013.mono b210.size)))).mono ?_; rintro e w14 ⟨k14, rfl, hw14⟩
  have b14 : Below w13.heap.size w13 w14 := by rw [hw14]; exact below_drewN _ (Below.refl _ _)
  clear hw14
  go_wp2_with fail
  refine (HH.out w14 (b1013.trans (b14.mono b1013.size))).mono ?_; rintro e w15 ⟨rfl, rfl⟩
  go_wp2
  go_ret
  exact ⟨rfl, B13.trans (b14.mono B13.size)⟩
theorem walk (a0 : Option Addr) (cap0 : Nat) (xs : List (Int × Int)) (s : Int) (w : World) (hr : RowA w a0 xs) (hm : xs.length ≤ 9223372036854775807) (_ : (Lit.int .i64 s).wf = true) :
    Calls Try.prog 6 #[.slice a0 xs.length cap0, .int .i64 s] w fun e w' => e = .returned (.bool true) ∧ Below w.heap.size w w' := by
  by_cases hl : xs.length ≤ 1048576
  · refine core a0 cap0 xs s (if okP xs s then prsV xs s else []) (okP xs s) ?_ hl w hr (fun w' B v h => ?_) (fun w' B v h => ?_)
    · split
      · rename_i h; unfold prsV; have := prw_sum (lst xs s xs.length) 64; omega
      · simp
    · obtain ⟨a, c, rfl, hrow⟩ := h.row
      exact pairs_s a c xs s w' hl hrow
    · obtain ⟨a, c, rfl, hrow⟩ := h.row
      exact pairs_i a c xs s w' hl hrow
  · have HZ := Lib.hid (sz_long a0 xs.length cap0 1048576 w (by omega) (Nat.le_refl _) hm)
    clear hr hl
    generalize xs.length = N at *
    go_enter Try.func6, Try.ntmps6
    go_wp2_with fail
    refine HZ.out.mono ?_; rintro e w' ⟨rfl, rfl⟩
    go_wp2
    go_ret
    exact ⟨rfl, Below.refl _ _⟩
end Go.Proofs.Ytmcnmjkickamkaa.fnExactPairsOf
