/- The walk of laws.FnExactValidLoads: the call returns true and writes nothing that was there. -/
import Derived.Test.YtmcnmjkickamkaaCldv
namespace Go.Proofs.Ytmcnmjkickamkaa.fnExactValidLoads
open Go.RowKit Ld Tr
set_option maxHeartbeats 2000000 in
theorem walk (a0 : Option Addr) (cap0 : Nat) (xs : List (Int × Int)) (w : World) (hr : RowA w a0 xs) (hm : xs.length ≤ 9223372036854775807) :
    Calls Try.prog 3 #[.slice a0 xs.length cap0] w fun e w' => e = .returned (.bool true) ∧ Below w.heap.size w w' := by
  by_cases hl : xs.length ≤ 1048576
  · have HZ := Lib.hid (sz_any a0 xs.length cap0 1048576 w hl (Nat.le_refl _))
    have HTO := Lib.hid (fun (w' : World) (hb : Below w.heap.size w w') => Ld.to_any a0 cap0 xs w' (hr.below hb) hl)
    have HV := Lib.hid (fun (w' : World) (B : Nat) (v : Value) (h : OwnA w' B v xs) => (show Calls Try.prog 9 #[v] w' (Bl (okT xs) w') by
      obtain ⟨a, c, rfl, hrow⟩ := h.row
      exact valid_s a c xs w' hl hrow))
    have HI := Lib.hid (fun (w' : World) (B : Nat) (v : Value) (h : OwnA w' B v xs) => (show Calls Try.prog 11 #[v] w' (BbA (okT xs) w') by
      obtain ⟨a, c, rfl, hrow⟩ := h.row
      exact valid_i a c xs w' hl hrow))
    have HE := Lib.hid (fun (w' : World) (B1 B2 : Nat) (v1 v2 : Value) (h1 : OwnA w' B1 v1 xs) (h2 : OwnA w' B2 v2 xs) => (show Calls Try.prog 12 #[v1, v2] w' (BbA true w') by
      obtain ⟨a1, c1, rfl, r1⟩ := h1.row
      obtain ⟨a2, c2, rfl, r2⟩ := h2.row
      exact eq_any a1 a2 c1 c2 xs w' hl r1 r2))
    have hl2 : ¬ ((1048576 : Int) - (xs.length : Int)) < 0 := by omega
    clear hr
    generalize okT xs = ok at *
    generalize hN : xs.length = N at *
    clear hN
    go_enter Try.func3, Try.ntmps3
    go_wp2_with fail
    refine HZ.out.mono ?_; rintro e w' ⟨rfl, rfl⟩
    go_wp2_with fail
    refine (HTO.out w (Below.refl _ _)).mono ?_; rintro e w1 ⟨v1, rfl, o1, b1⟩
    go_wp2_with fail
    refine (HV.out w1 _ v1 o1).mono ?_; rintro e w' ⟨rfl, rfl⟩
    go_wp2_with fail
    refine (HTO.out w1 b1).mono ?_; rintro e w2 ⟨v2, rfl, o2, b2⟩
    have B2 : Below w.heap.size w w2 := b1.trans (b2.mono b1.size)
    go_wp2_with fail
    refine (HI.out w2 _ v2 o2).mono ?_; rintro e w3 ⟨rfl, b3⟩
    have B3 : Below w.heap.size w w3 := B2.trans (b3.mono B2.size)
    have o3 := OwnA.below o2 b3 (Nat.le_refl _)
    go_wp2_with fail
    refine (HTO.out w3 B3).mono ?_; rintro e w4 ⟨v4, rfl, o4, b4⟩
    have B4 : Below w.heap.size w w4 := B3.trans (b4.mono B3.size)
    go_wp2_with fail
    refine (HE.out w4 _ _ v2 v4 (OwnA.below o3 b4 (Nat.le_refl _)) o4).mono ?_; rintro e w5 ⟨rfl, b5⟩
    go_wp2
    go_ret
    exact ⟨rfl, B4.trans (b5.mono B4.size)⟩
  · have HZ := Lib.hid (sz_long a0 xs.length cap0 1048576 w (by omega) (Nat.le_refl _) hm)
    clear hr hl
    generalize xs.length = N at *
    go_enter Try.func3, Try.ntmps3
    go_wp2_with fail
    refine HZ.out.mono ?_; rintro e w' ⟨rfl, rfl⟩
    go_wp2
    go_ret
    exact ⟨rfl, Below.refl _ _⟩
end Go.Proofs.Ytmcnmjkickamkaa.fnExactValidLoads
