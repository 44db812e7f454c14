/- The walk of laws.FnExactMissesOf: the call returns true and writes nothing that was there. -/
import Derived.Test.YtdclcdokdkeimaaCmisS
import Derived.Deep.RegionHeld3
namespace Go.Proofs.Ytdclcdokdkeimaa.fnExactMissesOf
open Go.RowKit Pv
theorem drewBB {w w' : World} {B : Nat} (h : Below B w.drew w') : Below B w w' := (Below.refl _ w).drew.trans h
set_option maxHeartbeats 8000000 in
theorem core (a a' a2 : Option Addr) (c c' len' len2 c2 : Nat) (hs : List (List Int)) (zs xs : List Int) (n : Int) (r : Bool) (w : World) (hx : IsRow .i64 w a2 len2 c2 xs) (hl2 : len2 ≤ 1048576) (hm : IsMatL w a hs) (hr : IsRow .i64 w a' len' c' zs) (hl : hs.length + (lens hs).sum + len' ≤ 1048576)
    (hS : ∀ w' B T v B2 v2, OwnP w' B T v hs (zs.take len') → Own w' B2 v2 (xs.take len2) → Calls Try.prog 21 #[v, v2] w' (IbP n r w'))
    (hI : ∀ w' B T v B2 v2, OwnP w' B T v hs (zs.take len') → Own w' B2 v2 (xs.take len2) → Calls Try.prog 22 #[v, v2] w' (IbP n r w')) :
    Calls Try.prog 5 #[.agg #[.slice a hs.length c, .slice a' len' c'], .slice a2 len2 c2] w fun e w' => e = .returned (.bool true) ∧ Below w.heap.size w w' := by
  have b0 := (Below.refl w.heap.size w).alloc (Nat.le_refl _) (.cells #[.slice a hs.length c, .slice a' len' c'] 25)
  have HSZ := Lib.hid (szP_yes a a' c c' len' hs _ (hm.below b0) hl)
  have hz0 : ¬ ((1048576 : Int) - (hs.length : Int) - ((lens hs).sum : Nat) - (len' : Int)) < 0 := by omega
  have HTO := Lib.hid (fun (w' : World) (hb : Below w.heap.size w w') => toP_big a a' c c' len' hs zs w' (hm.below hb) (isRow_below hr hb) hl)
  have HT2 := Lib.hid (fun (w' : World) (hb : Below w.heap.size w w') => to_any a2 len2 c2 xs w' (isRow_below hx hb) hl2)
  have hl3 : (len2 : Int) ≤ 1048576 := by omega
  have hkl : (xs.take len2).length ≤ 1048576 := by rw [List.length_take]; omega
  have HKL := Lib.hid hkl
  have HS := Lib.hid hS
  have HI := Lib.hid hI
  clear hS hI hm hr hl hx hkl
  generalize xs.take len2 = ks at *
  generalize zs.take len' = ms at *
  generalize (lens hs).sum = T at *
  generalize hs.length = N at *
  go_enter Try.func5, Try.ntmps5
  go_wp2_with fail
  have BZ := Blk.newAt w w.heap.size [.slice a N c, .slice a' len' c'] 25 rfl
  have hsz : (w.alloc (.cells #[.slice a N c, .slice a' len' c'] 25)).heap.size = w.heap.size + 1 := Array.size_push _
  have eL : (w.alloc (.cells #[.slice a N c, .slice a' len' c'] 25)) = w.alloc (.cells [.slice a N c, .slice a' len' c'].toArray 25) := rfl
  rw [eL] at b0 HSZ hsz ⊢
  clear eL
  generalize w.alloc (.cells [.slice a N c, .slice a' len' c'].toArray 25) = W0 at *
  have HZ := Lib.hid (fun (w' : World) (hb : Below W0.heap.size W0 w') => (show w'.cell? ⟨w.heap.size, 0, none⟩ = some (.slice a N c) ∧ w'.cell? ⟨w.heap.size, 1, none⟩ = some (.slice a' len' c') from
    ⟨(BZ.below hb (by omega)).cell 0, (BZ.below hb (by omega)).cell 1⟩))
  clear BZ
  refine HSZ.out.mono ?_; rintro e w1 ⟨rfl, b1⟩
  obtain ⟨z0, z1⟩ := HZ.out w1 b1
  have B1 := Lib.hid (bt b0 b1)
  have B01 := Lib.hid b1
  clear b1
  go_wp2_with fail
  refine (HTO.out w1 B1.out).mono ?_; rintro e w2 ⟨v1, rfl, o1, b2, _⟩
  have B2 := Lib.hid (bt B1.out b2)
  have B02 := Lib.hid (bt B01.out b2)
  clear b2 B1 B01
  go_wp2_with fail
  refine (HT2.out w2 B2.out).mono ?_; rintro e w2' ⟨u1, rfl, p1, b2⟩
  have o1' := o1.below b2 (Nat.le_refl _)
  have B2' := Lib.hid (bt B2.out b2)
  have B02' := Lib.hid (bt B02.out b2)
  clear b2 B2 B02 o1
  go_wp2_with fail
  refine (HS.out w2' _ _ v1 _ u1 o1' p1).mono ?_; rintro e w3 ⟨rfl, b3⟩
  have B3 := Lib.hid (bt B2'.out b3)
  have B03 := Lib.hid (bt B02'.out b3)
  clear o1' p1 b3 z0 z1 B2' B02'
  obtain ⟨z0, z1⟩ := HZ.out w3 B03.out
  go_wp2_with fail
  refine (HTO.out w3 B3.out).mono ?_; rintro e w4 ⟨x0, rfl, ox, b4, s4⟩
  have B34 := Lib.hid b4
  obtain ⟨xa, xn, xc, xa', xn', xc', ex⟩ := ox.form
  subst ex
  clear b4 z0 z1
  go_wp2_with fail
  have BX := Blk.newAt w4 w4.heap.size [.slice xa xn xc, .slice xa' xn' xc'] 29 rfl
  have b5 := (Below.refl w4.heap.size w4).alloc (Nat.le_refl _) (.cells [.slice xa xn xc, .slice xa' xn' xc'].toArray 29)
  have ox5 : OwnP (w4.alloc (.cells [.slice xa xn xc, .slice xa' xn' xc'].toArray 29)) (w3.heap.size + 3) w4.heap.size (.agg #[.slice xa xn xc, .slice xa' xn' xc']) hs ms := ox.below b5 (Nat.le_refl _)
  have B35 := Lib.hid (bt B34.out b5)
  have s5 := b5.size
  have eL2 : (w4.alloc (.cells #[.slice xa xn xc, .slice xa' xn' xc'] 29)) = w4.alloc (.cells [.slice xa xn xc, .slice xa' xn' xc'].toArray 29) := rfl
  rw [eL2]
  clear eL2 ox b5 B34
  generalize w4.alloc (.cells [.slice xa xn xc, .slice xa' xn' xc'].toArray 29) = W5 at *
  have HX := Lib.hid (fun (w' : World) (hb : Below W5.heap.size W5 w') => (show (w'.cell? ⟨w4.heap.size, 0, none⟩ = some (.slice xa xn xc) ∧ w'.cell? ⟨w4.heap.size, 1, none⟩ = some (.slice xa' xn' xc') ∧ w'.cell? ⟨w.heap.size, 0, none⟩ = some (.slice a N c) ∧ w'.cell? ⟨w.heap.size, 1, none⟩ = some (.slice a' len' c')) ∧
      OwnP w' (w3.heap.size + 3) w4.heap.size (.agg #[.slice xa xn xc, .slice xa' xn' xc']) hs ms from
    ⟨⟨(BX.below hb BX.lt).cell 0, (BX.below hb BX.lt).cell 1, HZ.out w' (bt (bt B03.out B35.out) hb)⟩, ox5.below hb (Nat.le_refl _)⟩))
  have B5 := Lib.hid (bt B3.out B35.out)
  clear BX ox5
  refine (HT2.out W5 B5.out).mono ?_; rintro e w5' ⟨u5, rfl, p5, b5⟩
  obtain ⟨⟨x0, x1, _, _⟩, ox5'⟩ := HX.out w5' b5
  have hpb := p5.block
  have s5' := b5.size
  go_wp2_with fail
  refine (HI.out w5' _ _ _ _ u5 ox5' p5).mono ?_; rintro e w6 ⟨rfl, b6⟩
  have b56 := Lib.hid (bt b5 b6)
  have B36 := Lib.hid (bt B35.out (bt b5 b6))
  have P6 := Lib.hid (fun (w' : World) (hb : Below w6.heap.size w6 w') => (Own.below p5 b6 (Nat.le_refl _)).below hb (Nat.le_refl _))
  have s6 := b6.size
  clear x0 x1 b5 b6 ox5' p5
  have b57 := b56
  have B37 := B36
  obtain ⟨⟨x0, x1, z0, z1⟩, _⟩ := HX.out w6 b57.out
  have HCT := Lib.hid (HTO.out w6.drew (bt B3.out B37.out).drew)
  have HEQ := Lib.hid (fun (w8 : World) (u : Value) (b8 : Below w6.drew.heap.size w6.drew w8) (ou : OwnP w8 (w6.drew.heap.size + 3) w8.heap.size u hs ms) => eqP_own (HX.out w8 (bt b57.out (drewBB b8))).2 ou)
  have HX8 := Lib.hid (fun (w8 : World) (b8 : Below w6.drew.heap.size w6.drew w8) => (HX.out w8 (bt b57.out (drewBB b8))).1)
  go_wp2
  go_region_held3 (fun w' => w'.cell? ⟨w4.heap.size, 0, none⟩ = some (.slice xa xn xc) ∧ w'.cell? ⟨w4.heap.size, 1, none⟩ = some (.slice xa' xn' xc') ∧ w'.cell? ⟨w.heap.size, 0, none⟩ = some (.slice a N c) ∧ w'.cell? ⟨w.heap.size, 1, none⟩ = some (.slice a' len' c')) (first | exact ⟨x0, x1, z0, z1⟩ | exact HX8.out _ (by assumption) | exact HX8.out _ (bt b8 b9)) (first | (go_at_call 11; (with_reducible refine HCT.out.mono ?_); rintro e w8 ⟨u, rfl, ou, b8, _⟩) | (go_at_call 15; (with_reducible refine (HEQ.out _ _ b8 ou).mono ?_); rintro e w9 ⟨rfl, b9⟩))
  have b79 : Below w6.heap.size w6 w9 := drewBB (bt b8 b9)
  have b59 := Lib.hid (bt b57.out b79)
  have B39 := Lib.hid (bt B37.out b79)
  have P9 := Lib.hid (P6.out w9 b79)
  clear b8 b9 b79 ou z0 z1 x0 x1 HCT HEQ HX8 HX b57 B37 P6
  go_wp2_with fail
  refine (HT2.out w9 (bt B3.out B39.out)).mono ?_; rintro e w10 ⟨u9, rfl, p9, b10⟩
  have P10 := Lib.hid (P9.out.below b10 (Nat.le_refl _))
  have B310 := Lib.hid (bt B39.out b10)
  clear b10 P9
  go_wp2_with fail
  refine (eq_below P10.out p9).mono ?_; rintro e w11 ⟨rfl, b11⟩
  have B311 := Lib.hid (bt B3.out (bt B310.out b11))
  clear b11 p9 P10
  go_wp2
  go_ret
  exact ⟨rfl, B311.out⟩
theorem longX (v : Value) (a2 : Option Addr) (len2 c2 : Nat) (w : World) (hl2 : ¬ len2 ≤ 1048576) (x' y : Value) (hv : v = .agg #[x', y]) :
    Calls Try.prog 5 #[v, .slice a2 len2 c2] w fun e w' => e = .returned (.bool true) ∧ Below w.heap.size w w' := by
  subst hv
  have hl3 : (1048576 : Int) < len2 := by omega
  have b0 := (Below.refl w.heap.size w).alloc (Nat.le_refl _) (.cells #[x', y] 25)
  clear hl2
  go_enter Try.func5, Try.ntmps5
  go_wp2
  go_ret
  exact ⟨rfl, b0⟩
theorem long (a a' a2 : Option Addr) (c c' len' len2 c2 : Nat) (hs : List (List Int)) (w : World) (hl2 : len2 ≤ 1048576) (hm : IsMatL w a hs) (hl' : len' ≤ 9223372036854775807) (hl : ¬ hs.length + (lens hs).sum + len' ≤ 1048576) :
    Calls Try.prog 5 #[.agg #[.slice a hs.length c, .slice a' len' c'], .slice a2 len2 c2] w fun e w' => e = .returned (.bool true) ∧ Below w.heap.size w w' := by
  have b0 := (Below.refl w.heap.size w).alloc (Nat.le_refl _) (.cells #[.slice a hs.length c, .slice a' len' c'] 25)
  have HSZ := Lib.hid (szP_no a a' c c' len' hs _ (hm.below b0) hl' hl)
  have hl3 : (len2 : Int) ≤ 1048576 := by omega
  clear hm hl
  generalize hs.length = N at *
  go_enter Try.func5, Try.ntmps5
  go_wp2_with fail
  refine HSZ.out.mono ?_; rintro e w1 ⟨rfl, b1⟩
  have B1 := Lib.hid (bt b0 b1)
  clear b0 b1
  go_wp2
  go_ret
  exact ⟨rfl, B1.out⟩
theorem walk (a : Option Addr) (len cap : Nat) (a' : Option Addr) (len' cap' : Nat) (zs' : List Int) (a2 : Option Addr) (len2 cap2 : Nat) (xs : List Int) (w : World) (w0 : IsMat w a len) (u0 : IsRow .i64 w a' len' cap' zs') (w1 : IsRow .i64 w a2 len2 cap2 xs) :
    Calls Try.prog 5 #[.agg #[.slice a len cap, .slice a' len' cap'], .slice a2 len2 cap2] w fun e w' => e = .returned (.bool true) ∧ Below w.heap.size w w' := by
  obtain ⟨hs, rfl, hm⟩ := w0.list
  have hl' : len' ≤ 9223372036854775807 := by
    rcases u0 with ⟨_, h1, _⟩ | ⟨x', rfl, h1, h2, _⟩
    · omega
    · unfold maxLen at h2; omega
  by_cases hl2 : len2 ≤ 1048576
  · by_cases hl : hs.length + (lens hs).sum + len' ≤ 1048576
    · have hms : (zs'.take len').length ≤ 1048576 := by rw [List.length_take]; omega
      have hks : (xs.take len2).length ≤ 1048576 := by rw [List.length_take]; omega
      have hxs : ∀ i, i < hs.length → (hs.getD i []).length ≤ 1048576 := fun i hi => by
        have h1 := lens_get hs i hi
        have h2 := sum_step (lens hs) i (by rw [lens_length]; exact hi)
        have h3 := sum_take_le (lens hs) (i + 1)
        omega
      refine core a a' a2 cap cap' len' len2 cap2 hs zs' xs (misV hs (zs'.take len') (xs.take len2)) (misOk hs (zs'.take len') (xs.take len2)) w w1 hl2 hm u0 hl (fun w' B T v B2 v2 h h2 => ?_) (fun w' B T v B2 v2 h h2 => ?_)
      · obtain ⟨A, C, rfl, e1, e2, hr⟩ := h2.rd
        exact mis_s (RdP.of h (by omega) hxs hms) ⟨A, C, rfl, e1, e2, hr⟩ hks
      · obtain ⟨A, C, rfl, e1, e2, hr⟩ := h2.rd
        exact mis_i (RdP.of h (by omega) hxs hms) ⟨A, C, rfl, e1, e2, hr⟩ hks
    · exact long a a' a2 cap cap' len' len2 cap2 hs w hl2 hm hl' hl
  · exact longX _ a2 len2 cap2 w hl2 _ _ rfl
end Go.Proofs.Ytdclcdokdkeimaa.fnExactMissesOf
