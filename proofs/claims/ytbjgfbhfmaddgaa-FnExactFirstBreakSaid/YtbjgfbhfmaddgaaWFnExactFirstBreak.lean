/- The walk of laws.FnExactFirstBreak: the call returns true and writes nothing that was there. -/
import Derived.Test.YtbjgfbhfmaddgaaInB
import Derived.Test.YtbjgfbhfmaddgaaInA
import Derived.Deep.RegionHeld3
namespace Go.Proofs.Ytbjgfbhfmaddgaa.fnExactFirstBreak
open Go.RowKit Pv
theorem drewBB {w w' : World} {B : Nat} (h : Below B w.drew w') : Below B w w' := (Below.refl _ w).drew.trans h
set_option maxHeartbeats 8000000 in
theorem core (a a' b b' a2 : Option Addr) (c c' len' d d' lenq len2 c2 : Nat) (hs hq : List (List Int)) (zs zq xs : List Int) (r1 : Int) (r2 : Bool) (w : World) (hx : IsRow .i64 w a2 len2 c2 xs) (hl2 : len2 ≤ 1048576) (hm : IsMatL w a hs) (hr : IsRow .i64 w a' len' c' zs) (hmq : IsMatL w b hq) (hrq : IsRow .i64 w b' lenq d' zq) (hl : hs.length + (lens hs).sum + len' ≤ 1048576) (hlq : (hq.length : Int) + ((lens hq).sum : Nat) + (lenq : Int) ≤ 1048576 - hs.length - ((lens hs).sum : Nat) - len')
    (hS : ∀ w' B T v B1 T1 v1 B2 v2, OwnP w' B T v hs (zs.take len') → OwnP w' B1 T1 v1 hq (zq.take lenq) → Own w' B2 v2 (xs.take len2) → Calls Try.prog 13 #[v, v1, v2] w' (IbQ r1 r2 w'))
    (hI : ∀ w' B T v B1 T1 v1 B2 v2, OwnP w' B T v hs (zs.take len') → OwnP w' B1 T1 v1 hq (zq.take lenq) → Own w' B2 v2 (xs.take len2) → Calls Try.prog 14 #[v, v1, v2] w' (IbQ r1 r2 w')) :
    Calls Try.prog 4 #[.agg #[.slice a hs.length c, .slice a' len' c'], .agg #[.slice b hq.length d, .slice b' lenq d'], .slice a2 len2 c2] w fun e w' => e = .returned (.bool true) ∧ Below w.heap.size w w' := by
  have b0 : Below w.heap.size w ((w.alloc (.cells #[.slice a hs.length c, .slice a' len' c'] 25)).alloc (.cells #[.slice b hq.length d, .slice b' lenq d'] 25)) := ((Below.refl _ w).alloc (Nat.le_refl _) _).alloc (by simp) _
  have HSZ := Lib.hid (szP_yes a a' c c' len' hs _ (hm.below b0) hl)
  have hz0 : ¬ ((1048576 : Int) - (hs.length : Int) - ((lens hs).sum : Nat) - (len' : Int)) < 0 := by omega
  have HSQ := Lib.hid (fun (w' : World) (hb : Below w.heap.size w w') => szPG_yes b b' d d' lenq hq (1048576 - hs.length - ((lens hs).sum : Nat) - len') w' (by omega) (hmq.below hb) hlq)
  have hz1 : ¬ ((1048576 : Int) - (hs.length : Int) - ((lens hs).sum : Nat) - (len' : Int) - (hq.length : Int) - ((lens hq).sum : Nat) - (lenq : Int)) < 0 := by omega
  have HTO := Lib.hid (fun (w' : World) (hb : Below w.heap.size w w') => toP_big a a' c c' len' hs zs w' (hm.below hb) (isRow_below hr hb) hl)
  have HTQ := Lib.hid (fun (w' : World) (hb : Below w.heap.size w w') => toP_big b b' d d' lenq hq zq w' (hmq.below hb) (isRow_below hrq hb) (by omega))
  have HT2 := Lib.hid (fun (w' : World) (hb : Below w.heap.size w w') => to_any a2 len2 c2 xs w' (isRow_below hx hb) hl2)
  have hl3 : (len2 : Int) ≤ 1048576 := by omega
  have HKL := Lib.hid (show (xs.take len2).length ≤ 1048576 by rw [List.length_take]; omega)
  have HS := Lib.hid hS
  have HI := Lib.hid hI
  clear hS hI hm hr hmq hrq hl hlq hx
  generalize xs.take len2 = ks at *
  generalize zs.take len' = ms at *
  generalize zq.take lenq = mq at *
  generalize (lens hs).sum = T at *
  generalize hs.length = N at *
  generalize (lens hq).sum = T2 at *
  generalize hq.length = M at *
  have BZ1 : Blk ((w.alloc (.cells #[.slice a N c, .slice a' len' c'] 25)).alloc (.cells #[.slice b M d, .slice b' lenq d'] 25)) w.heap.size [.slice a N c, .slice a' len' c'] 25 := Blk.alloc (Blk.newAt w _ _ _ rfl) _
  have BZ2 : Blk ((w.alloc (.cells #[.slice a N c, .slice a' len' c'] 25)).alloc (.cells #[.slice b M d, .slice b' lenq d'] 25)) (w.heap.size + 1) [.slice b M d, .slice b' lenq d'] 25 := Blk.newAt _ _ _ _ (by simp)
  have HB0 := Lib.hid b0
  clear b0
  go_enter Try.func4, Try.ntmps4
  go_wp2_with fail
  obtain ⟨W0, hW0⟩ : ∃ W0, W0 = ((w.alloc (.cells #[.slice a N c, .slice a' len' c'] 25)).alloc (.cells #[.slice b M d, .slice b' lenq d'] 25)) := ⟨_, rfl⟩
  rw [← hW0] at HSZ BZ1 BZ2 HB0 ⊢
  clear hW0
  have HZ := Lib.hid (fun (w' : World) (hb : Below W0.heap.size W0 w') => (show w'.cell? ⟨w.heap.size, 0, none⟩ = some (.slice a N c) ∧ w'.cell? ⟨w.heap.size, 1, none⟩ = some (.slice a' len' c') ∧ w'.cell? ⟨w.heap.size + 1, 0, none⟩ = some (.slice b M d) ∧ w'.cell? ⟨w.heap.size + 1, 1, none⟩ = some (.slice b' lenq d') from
    ⟨(BZ1.below hb BZ1.lt).cell 0, (BZ1.below hb BZ1.lt).cell 1, (BZ2.below hb BZ2.lt).cell 0, (BZ2.below hb BZ2.lt).cell 1⟩))
  clear BZ1 BZ2
  refine HSZ.out.mono ?_; rintro e w1 ⟨rfl, b1⟩
  obtain ⟨z0, z1, q0, q1⟩ := HZ.out w1 b1
  have B1 := Lib.hid (bt HB0.out b1)
  have B01 := Lib.hid b1
  clear b1 HSZ
  go_wp2_with fail
  refine (HSQ.out w1 B1.out).mono ?_; rintro e w2 ⟨rfl, b2⟩
  have B2 := Lib.hid (bt B1.out b2)
  have B02 := Lib.hid (bt B01.out b2)
  clear b2 B1 B01 z0 z1 q0 q1 HSQ
  obtain ⟨z0, z1, q0, q1⟩ := HZ.out w2 B02.out
  have HT1d := Lib.hid (HTO.out w2.drew B2.out.drew)
  have HTQd := Lib.hid (fun (w3 : World) (b3 : Below w2.drew.heap.size w2.drew w3) => HTQ.out w3 (bt B2.out (drewBB b3)))
  have HT3d := Lib.hid (fun (w3 w4 : World) (b3 : Below w2.drew.heap.size w2.drew w3) (b4 : Below w3.heap.size w3 w4) => HT2.out w4 (bt B2.out (drewBB (bt b3 b4))))
  have HSd := Lib.hid (fun (w3 w4 w5 : World) (v1 v2 v3 : Value) (o1 : OwnP w3 (w2.drew.heap.size + 3) w3.heap.size v1 hs ms) (o2 : OwnP w4 (w3.heap.size + 3) w4.heap.size v2 hq mq) (o3 : Own w5 w4.heap.size v3 ks) (b4 : Below w3.heap.size w3 w4) (b5 : Below w4.heap.size w4 w5) => HS.out w5 _ _ v1 _ _ v2 _ v3 (o1.below (bt b4 b5) (Nat.le_refl _)) (o2.below b5 (Nat.le_refl _)) o3)
  have HZd := Lib.hid (fun (w' : World) (hb : Below w2.drew.heap.size w2.drew w') => HZ.out w' (bt B02.out (drewBB hb)))
  go_wp2
  go_region_held3 (fun w' => w'.cell? ⟨w.heap.size, 0, none⟩ = some (.slice a N c) ∧ w'.cell? ⟨w.heap.size, 1, none⟩ = some (.slice a' len' c') ∧ w'.cell? ⟨w.heap.size + 1, 0, none⟩ = some (.slice b M d) ∧ w'.cell? ⟨w.heap.size + 1, 1, none⟩ = some (.slice b' lenq d')) (first | exact ⟨z0, z1, q0, q1⟩ | exact HZd.out _ b3 | exact HZd.out _ (bt b3 b4) | exact HZd.out _ (bt (bt b3 b4) b5) | exact HZd.out _ (bt (bt (bt b3 b4) b5) b6)) (first | (go_at_call 8; (with_reducible refine HT1d.out.mono ?_); rintro e w3 ⟨v1, rfl, o1, b3, _⟩) | (go_at_call 8; (with_reducible refine (HTQd.out _ b3).mono ?_); rintro e w4 ⟨v2, rfl, o2, b4, _⟩) | (go_at_call 9; (with_reducible refine (HT3d.out _ _ b3 b4).mono ?_); rintro e w5 ⟨v3, rfl, o3, b5⟩) | (go_at_call 13; (with_reducible refine (HSd.out _ _ _ _ _ _ o1 o2 o3 b4 b5).mono ?_); rintro e w6 ⟨rfl, b6⟩))
  have b26 : Below w2.heap.size w2 w6 := drewBB (bt (bt (bt b3 b4) b5) b6)
  have B6 := Lib.hid (bt B2.out b26)
  have B06 := Lib.hid (bt B02.out b26)
  clear b3 b4 b5 b6 b26 o1 o2 o3 z0 z1 q0 q1 HT1d HTQd HT3d HSd HZd B2 B02 HS
  obtain ⟨z0, z1, q0, q1⟩ := HZ.out w6 B06.out
  go_wp2_with fail
  refine (HTO.out w6 B6.out).mono ?_; rintro e w7 ⟨x0, rfl, ox, b7, s7⟩
  obtain ⟨xa, xn, xc, xa', xn', xc', ex⟩ := ox.form
  subst ex
  have B7 := Lib.hid (bt B6.out b7)
  have b8 := (Below.refl w7.heap.size w7).alloc (Nat.le_refl _) (.cells #[.slice xa xn xc, .slice xa' xn' xc'] 29)
  have BX : Blk (w7.alloc (.cells #[.slice xa xn xc, .slice xa' xn' xc'] 29)) w7.heap.size [.slice xa xn xc, .slice xa' xn' xc'] 29 := Blk.newAt w7 _ _ _ rfl
  have B08 := Lib.hid (bt (bt B06.out b7) b8)
  have B8 := Lib.hid (bt B7.out b8)
  have ox8 := ox.below b8 (Nat.le_refl _)
  clear z0 z1 q0 q1 b7 b8 ox B7
  obtain ⟨z0, z1, q0, q1⟩ := HZ.out _ B08.out
  go_wp2_with fail
  obtain ⟨W8, hW8⟩ : ∃ W8, W8 = w7.alloc (.cells #[.slice xa xn xc, .slice xa' xn' xc'] 29) := ⟨_, rfl⟩
  rw [← hW8] at BX B08 B8 ox8 ⊢
  have hW8s : W8.heap.size = w7.heap.size + 1 := by rw [hW8]; exact Array.size_push _
  clear hW8 z0 z1 q0 q1
  refine (HTQ.out W8 B8.out).mono ?_; rintro e w9 ⟨y0, rfl, oy, b9, s9⟩
  obtain ⟨ya, yn, yc, ya', yn', yc', ey⟩ := oy.form
  subst ey
  have b10 := (Below.refl w9.heap.size w9).alloc (Nat.le_refl _) (.cells #[.slice ya yn yc, .slice ya' yn' yc'] 29)
  have BY : Blk (w9.alloc (.cells #[.slice ya yn yc, .slice ya' yn' yc'] 29)) w9.heap.size [.slice ya yn yc, .slice ya' yn' yc'] 29 := Blk.newAt w9 _ _ _ rfl
  have B010 := Lib.hid (bt (bt B08.out b9) b10)
  have B10 := Lib.hid (bt (bt B8.out b9) b10)
  have BX10 := (BX.below b9 BX.lt).below b10 (by have := b9.size; have := BX.lt; omega)
  have oy10 := oy.below b10 (Nat.le_refl _)
  have ox10 := (ox8.below b9 (Nat.le_refl _)).below b10 (Nat.le_refl _)
  clear b9 b10 oy ox8 BX B08 B8
  go_wp2_with fail
  obtain ⟨WA, hWA⟩ : ∃ WA, WA = w9.alloc (.cells #[.slice ya yn yc, .slice ya' yn' yc'] 29) := ⟨_, rfl⟩
  rw [← hWA] at BY B010 B10 BX10 oy10 ox10 ⊢
  clear hWA
  have HX := Lib.hid (fun (w' : World) (hb : Below WA.heap.size WA w') => (show (w'.cell? ⟨w7.heap.size, 0, none⟩ = some (.slice xa xn xc) ∧ w'.cell? ⟨w7.heap.size, 1, none⟩ = some (.slice xa' xn' xc') ∧ w'.cell? ⟨w9.heap.size, 0, none⟩ = some (.slice ya yn yc) ∧ w'.cell? ⟨w9.heap.size, 1, none⟩ = some (.slice ya' yn' yc') ∧ w'.cell? ⟨w.heap.size, 0, none⟩ = some (.slice a N c) ∧ w'.cell? ⟨w.heap.size, 1, none⟩ = some (.slice a' len' c') ∧ w'.cell? ⟨w.heap.size + 1, 0, none⟩ = some (.slice b M d) ∧ w'.cell? ⟨w.heap.size + 1, 1, none⟩ = some (.slice b' lenq d')) ∧ OwnP w' (w6.heap.size + 3) w7.heap.size (.agg #[.slice xa xn xc, .slice xa' xn' xc']) hs ms ∧ OwnP w' (W8.heap.size + 3) w9.heap.size (.agg #[.slice ya yn yc, .slice ya' yn' yc']) hq mq from
    ⟨⟨(BX10.below hb BX10.lt).cell 0, (BX10.below hb BX10.lt).cell 1, (BY.below hb BY.lt).cell 0, (BY.below hb BY.lt).cell 1, HZ.out w' (bt B010.out hb)⟩, ox10.below hb (Nat.le_refl _), oy10.below hb (Nat.le_refl _)⟩))
  clear BX10 BY ox10 oy10
  refine (HT2.out WA B10.out).mono ?_; rintro e w11 ⟨u5, rfl, p5, b11⟩
  obtain ⟨⟨x0, x1, y0, y1, _, _, _, _⟩, ox11, oy11⟩ := HX.out w11 b11
  go_wp2_with fail
  refine (HI.out w11 _ _ _ _ _ _ _ u5 ox11 oy11 p5).mono ?_; rintro e w12 ⟨rfl, b12⟩
  have P12 := Lib.hid (fun (w' : World) (hb : Below w12.heap.size w12 w') => (Own.below p5 b12 (Nat.le_refl _)).below hb (Nat.le_refl _))
  have BA := Lib.hid (bt b11 b12)
  have B12 := Lib.hid (bt B10.out (bt b11 b12))
  clear x0 x1 y0 y1 ox11 oy11 b11 b12 p5
  obtain ⟨⟨x0, x1, y0, y1, z0, z1, q0, q1⟩, _⟩ := HX.out w12 BA.out
  have HCT := Lib.hid (HTO.out w12.drew B12.out.drew)
  have HEQ := Lib.hid (fun (w13 : World) (u : Value) (b13 : Below w12.drew.heap.size w12.drew w13) (ou : OwnP w13 (w12.drew.heap.size + 3) w13.heap.size u hs ms) => eqP_own (HX.out w13 (bt BA.out (drewBB b13))).2.1 ou)
  have HX8 := Lib.hid (fun (w13 : World) (b13 : Below w12.drew.heap.size w12.drew w13) => (HX.out w13 (bt BA.out (drewBB b13))).1)
  go_wp2
  go_region_held3 (fun w' => w'.cell? ⟨w7.heap.size, 0, none⟩ = some (.slice xa xn xc) ∧ w'.cell? ⟨w7.heap.size, 1, none⟩ = some (.slice xa' xn' xc') ∧ w'.cell? ⟨w9.heap.size, 0, none⟩ = some (.slice ya yn yc) ∧ w'.cell? ⟨w9.heap.size, 1, none⟩ = some (.slice ya' yn' yc') ∧ w'.cell? ⟨w.heap.size, 0, none⟩ = some (.slice a N c) ∧ w'.cell? ⟨w.heap.size, 1, none⟩ = some (.slice a' len' c') ∧ w'.cell? ⟨w.heap.size + 1, 0, none⟩ = some (.slice b M d) ∧ w'.cell? ⟨w.heap.size + 1, 1, none⟩ = some (.slice b' lenq d')) (first | exact ⟨x0, x1, y0, y1, z0, z1, q0, q1⟩ | exact HX8.out _ b13 | exact HX8.out _ (bt b13 b14)) (first | (go_at_call 8; (with_reducible refine HCT.out.mono ?_); rintro e w13 ⟨u, rfl, ou, b13, _⟩) | (go_at_call 11; (with_reducible refine (HEQ.out _ _ b13 ou).mono ?_); rintro e w14 ⟨rfl, b14⟩))
  have b15 : Below w12.heap.size w12 w14 := drewBB (bt b13 b14)
  have BA14 := Lib.hid (bt BA.out b15)
  have B14 := Lib.hid (bt B12.out b15)
  have P14 := Lib.hid (fun (w' : World) (hb : Below w14.heap.size w14 w') => P12.out w' (bt b15 hb))
  clear b13 b14 b15 ou x0 x1 y0 y1 z0 z1 q0 q1 HCT HEQ HX8 BA B12 P12
  obtain ⟨⟨x0, x1, y0, y1, z0, z1, q0, q1⟩, _⟩ := HX.out w14 BA14.out
  have HCT := Lib.hid (HTQ.out w14.drew B14.out.drew)
  have HEQ := Lib.hid (fun (w15 : World) (u : Value) (b15 : Below w14.drew.heap.size w14.drew w15) (ou : OwnP w15 (w14.drew.heap.size + 3) w15.heap.size u hq mq) => eqP_own (HX.out w15 (bt BA14.out (drewBB b15))).2.2 ou)
  have HX8 := Lib.hid (fun (w15 : World) (b15 : Below w14.drew.heap.size w14.drew w15) => (HX.out w15 (bt BA14.out (drewBB b15))).1)
  go_wp2
  go_region_held3 (fun w' => w'.cell? ⟨w7.heap.size, 0, none⟩ = some (.slice xa xn xc) ∧ w'.cell? ⟨w7.heap.size, 1, none⟩ = some (.slice xa' xn' xc') ∧ w'.cell? ⟨w9.heap.size, 0, none⟩ = some (.slice ya yn yc) ∧ w'.cell? ⟨w9.heap.size, 1, none⟩ = some (.slice ya' yn' yc') ∧ w'.cell? ⟨w.heap.size, 0, none⟩ = some (.slice a N c) ∧ w'.cell? ⟨w.heap.size, 1, none⟩ = some (.slice a' len' c') ∧ w'.cell? ⟨w.heap.size + 1, 0, none⟩ = some (.slice b M d) ∧ w'.cell? ⟨w.heap.size + 1, 1, none⟩ = some (.slice b' lenq d')) (first | exact ⟨x0, x1, y0, y1, z0, z1, q0, q1⟩ | exact HX8.out _ b15 | exact HX8.out _ (bt b15 b16)) (first | (go_at_call 8; (with_reducible refine HCT.out.mono ?_); rintro e w15 ⟨u, rfl, ou, b15, _⟩) | (go_at_call 11; (with_reducible refine (HEQ.out _ _ b15 ou).mono ?_); rintro e w16 ⟨rfl, b16⟩))
  have b17 : Below w14.heap.size w14 w16 := drewBB (bt b15 b16)
  have B16 := Lib.hid (bt B14.out b17)
  have P16 := Lib.hid (P14.out w16 b17)
  clear b15 b16 b17 ou x0 x1 y0 y1 z0 z1 q0 q1 HCT HEQ HX8 BA14 B14 P14 HX
  go_wp2_with fail
  refine (HT2.out w16 B16.out).mono ?_; rintro e w18 ⟨u9, rfl, p9, b18⟩
  have P18 := Lib.hid (P16.out.below b18 (Nat.le_refl _))
  have B18 := Lib.hid (bt B16.out b18)
  clear b18 P16
  go_wp2_with fail
  refine (eq_below P18.out p9).mono ?_; rintro e w19 ⟨rfl, b19⟩
  have B19 := Lib.hid (bt B18.out b19)
  clear b19 p9 P18
  go_wp2
  go_ret
  exact ⟨rfl, B19.out⟩
theorem longX (v u : Value) (a2 : Option Addr) (len2 c2 : Nat) (w : World) (hl2 : ¬ len2 ≤ 1048576) (x' y x2 y2 : Value) (hv : v = .agg #[x', y]) (hu : u = .agg #[x2, y2]) :
    Calls Try.prog 4 #[v, u, .slice a2 len2 c2] w fun e w' => e = .returned (.bool true) ∧ Below w.heap.size w w' := by
  subst hv hu
  have hl3 : (1048576 : Int) < len2 := by omega
  have b0 : Below w.heap.size w ((w.alloc (.cells #[x', y] 25)).alloc (.cells #[x2, y2] 25)) := ((Below.refl _ w).alloc (Nat.le_refl _) _).alloc (by simp) _
  clear hl2
  go_enter Try.func4, Try.ntmps4
  go_wp2
  go_ret
  exact ⟨rfl, b0⟩
theorem long1 (a a' b b' a2 : Option Addr) (c c' len' d d' lenq len2 c2 n : Nat) (hs : List (List Int)) (w : World) (hl2 : len2 ≤ 1048576) (hm : IsMatL w a hs) (hl' : len' ≤ 9223372036854775807) (hl : ¬ hs.length + (lens hs).sum + len' ≤ 1048576) :
    Calls Try.prog 4 #[.agg #[.slice a hs.length c, .slice a' len' c'], .agg #[.slice b n d, .slice b' lenq d'], .slice a2 len2 c2] w fun e w' => e = .returned (.bool true) ∧ Below w.heap.size w w' := by
  have b0 : Below w.heap.size w ((w.alloc (.cells #[.slice a hs.length c, .slice a' len' c'] 25)).alloc (.cells #[.slice b n d, .slice b' lenq d'] 25)) := ((Below.refl _ w).alloc (Nat.le_refl _) _).alloc (by simp) _
  have HSZ := Lib.hid (szP_no a a' c c' len' hs _ (hm.below b0) hl' hl)
  have hl3 : (len2 : Int) ≤ 1048576 := by omega
  clear hm hl
  generalize hs.length = N at *
  go_enter Try.func4, Try.ntmps4
  go_wp2_with fail
  refine HSZ.out.mono ?_; rintro e w1 ⟨rfl, b1⟩
  have B1 := Lib.hid (bt b0 b1)
  clear b0 b1
  go_wp2
  go_ret
  exact ⟨rfl, B1.out⟩
theorem long2 (a a' b b' a2 : Option Addr) (c c' len' d d' lenq len2 c2 : Nat) (hs hq : List (List Int)) (w : World) (hl2 : len2 ≤ 1048576) (hm : IsMatL w a hs) (hmq : IsMatL w b hq) (hl' : lenq ≤ 9223372036854775807) (hl : hs.length + (lens hs).sum + len' ≤ 1048576) (hlq : ¬ (hq.length : Int) + ((lens hq).sum : Nat) + (lenq : Int) ≤ 1048576 - hs.length - ((lens hs).sum : Nat) - len') :
    Calls Try.prog 4 #[.agg #[.slice a hs.length c, .slice a' len' c'], .agg #[.slice b hq.length d, .slice b' lenq d'], .slice a2 len2 c2] w fun e w' => e = .returned (.bool true) ∧ Below w.heap.size w w' := by
  have b0 : Below w.heap.size w ((w.alloc (.cells #[.slice a hs.length c, .slice a' len' c'] 25)).alloc (.cells #[.slice b hq.length d, .slice b' lenq d'] 25)) := ((Below.refl _ w).alloc (Nat.le_refl _) _).alloc (by simp) _
  have HSZ := Lib.hid (szP_yes a a' c c' len' hs _ (hm.below b0) hl)
  have hz0 : ¬ ((1048576 : Int) - (hs.length : Int) - ((lens hs).sum : Nat) - (len' : Int)) < 0 := by omega
  have HSQ := Lib.hid (fun (w' : World) (hb : Below w.heap.size w w') => szPG_no b b' d d' lenq hq (1048576 - hs.length - ((lens hs).sum : Nat) - len') w' (by omega) (by omega) (hmq.below hb) hl' hlq)
  have hl3 : (len2 : Int) ≤ 1048576 := by omega
  clear hm hmq hl hlq
  generalize (lens hs).sum = T at *
  generalize hs.length = N at *
  generalize hq.length = M at *
  have BZ2 : Blk ((w.alloc (.cells #[.slice a N c, .slice a' len' c'] 25)).alloc (.cells #[.slice b M d, .slice b' lenq d'] 25)) (w.heap.size + 1) [.slice b M d, .slice b' lenq d'] 25 := Blk.newAt _ _ _ _ (by simp)
  have HB0 := Lib.hid b0
  clear b0
  go_enter Try.func4, Try.ntmps4
  go_wp2_with fail
  refine HSZ.out.mono ?_; rintro e w1 ⟨rfl, b1⟩
  have q0 : w1.cell? ⟨w.heap.size + 1, 0, none⟩ = some (.slice b M d) := (BZ2.below b1 BZ2.lt).cell 0
  have q1 : w1.cell? ⟨w.heap.size + 1, 1, none⟩ = some (.slice b' lenq d') := (BZ2.below b1 BZ2.lt).cell 1
  have B1 := Lib.hid (bt HB0.out b1)
  clear b1 BZ2 HB0 HSZ
  go_wp2_with fail
  refine (HSQ.out w1 B1.out).mono ?_; rintro e w2 ⟨rfl, b2⟩
  have B2 := Lib.hid (bt B1.out b2)
  clear b2 B1
  go_wp2
  go_ret
  exact ⟨rfl, B2.out⟩
theorem walk (a : Option Addr) (len cap : Nat) (a' : Option Addr) (len' cap' : Nat) (zs' : List Int) (b : Option Addr) (lenb capb : Nat) (b' : Option Addr) (lenb' capb' : Nat) (zq' : List Int) (a2 : Option Addr) (len2 cap2 : Nat) (xs : List Int) (w : World) (w0 : IsMat w a len) (u0 : IsRow .i64 w a' len' cap' zs') (w1 : IsMat w b lenb) (u1 : IsRow .i64 w b' lenb' capb' zq') (w2 : IsRow .i64 w a2 len2 cap2 xs) :
    Calls Try.prog 4 #[.agg #[.slice a len cap, .slice a' len' cap'], .agg #[.slice b lenb capb, .slice b' lenb' capb'], .slice a2 len2 cap2] w fun e w' => e = .returned (.bool true) ∧ Below w.heap.size w w' := by
  obtain ⟨hs, rfl, hm⟩ := w0.list
  obtain ⟨hq, rfl, hmq⟩ := w1.list
  have hl' : len' ≤ 9223372036854775807 := by
    rcases u0 with ⟨_, h1, _⟩ | ⟨x', rfl, h1, h2, _⟩
    · omega
    · unfold maxLen at h2; omega
  have hlq' : lenb' ≤ 9223372036854775807 := by
    rcases u1 with ⟨_, h1, _⟩ | ⟨x', rfl, h1, h2, _⟩
    · omega
    · unfold maxLen at h2; omega
  by_cases hl2 : len2 ≤ 1048576
  · by_cases hl : hs.length + (lens hs).sum + len' ≤ 1048576
    · by_cases hlq : (hq.length : Int) + ((lens hq).sum : Nat) + (lenb' : Int) ≤ 1048576 - hs.length - ((lens hs).sum : Nat) - len'
      · have hms : (zs'.take len').length ≤ 1048576 := by rw [List.length_take]; omega
        have hmq2 : (zq'.take lenb').length ≤ 1048576 := by rw [List.length_take]; omega
        have hks : (xs.take len2).length ≤ 1048576 := by rw [List.length_take]; omega
        have hlq2 : hq.length + (lens hq).sum + lenb' ≤ 1048576 := by omega
        have hxs : ∀ i, i < hs.length → (hs.getD i []).length ≤ 1048576 := fun i hi => by
          have h1 := lens_get hs i hi
          have h2 := sum_step (lens hs) i (by rw [lens_length]; exact hi)
          have h3 := sum_take_le (lens hs) (i + 1)
          omega
        have hxq : ∀ i, i < hq.length → (hq.getD i []).length ≤ 1048576 := fun i hi => by
          have h1 := lens_get hq i hi
          have h2 := sum_step (lens hq) i (by rw [lens_length]; exact hi)
          have h3 := sum_take_le (lens hq) (i + 1)
          omega
        refine core a a' b b' a2 cap cap' len' capb capb' lenb' len2 cap2 hs hq zs' zq' xs (fbrV hs (zs'.take len') hq (zq'.take lenb') (xs.take len2)) (fbrB hs (zs'.take len') hq (zq'.take lenb') (xs.take len2)) w w2 hl2 hm u0 hmq u1 hl hlq (fun w' B T v B1 T1 v1 B2 v2 h hh h2 => ?_) (fun w' B T v B1 T1 v1 B2 v2 h hh h2 => ?_)
        · obtain ⟨A, C, rfl, e1, e2, hr⟩ := h2.rd
          exact fbr_s (RdP.of h (by omega) hxs hms) (RdP.of hh (by omega) hxq hmq2) ⟨A, C, rfl, e1, e2, hr⟩ hks
        · obtain ⟨A, C, rfl, e1, e2, hr⟩ := h2.rd
          exact fbr_i (RdP.of h (by omega) hxs hms) (RdP.of hh (by omega) hxq hmq2) ⟨A, C, rfl, e1, e2, hr⟩ hks
      · exact long2 a a' b b' a2 cap cap' len' capb capb' lenb' len2 cap2 hs hq w hl2 hm hmq hlq' hl hlq
    · exact long1 a a' b b' a2 cap cap' len' capb capb' lenb' len2 cap2 hq.length hs w hl2 hm hl' hl
  · exact longX _ _ a2 len2 cap2 w hl2 _ _ _ _ rfl rfl
end Go.Proofs.Ytbjgfbhfmaddgaa.fnExactFirstBreak
