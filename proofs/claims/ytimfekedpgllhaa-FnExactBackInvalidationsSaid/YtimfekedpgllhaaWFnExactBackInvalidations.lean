/- The walk of laws.FnExactBackInvalidations: the call returns true and writes nothing that was there. -/
import Derived.Test.YtimfekedpgllhaaLv2
import Derived.Deep.RegionHeld3
namespace Go.Proofs.Ytimfekedpgllhaa.fnExactBackInvalidations
open Go.RowKit Pv
theorem drewBB {w w' : World} {B : Nat} (h : Below B w.drew w') : Below B w w' := (Below.refl _ w).drew.trans h
set_option maxHeartbeats 8000000 in
set_option maxRecDepth 100000 in
theorem core (a a' b b' a2 : Option Addr) (c c' len' d d' lenq len2 c2 : Nat) (hs hq : List (List Int)) (zs zq xs : List Int) (md : Int) (nn : Int) (r : Bool) (w : World) (hx : IsRow .i64 w a2 len2 c2 xs) (hl2 : len2 ≤ 1048576) (hm : IsMatL w a hs) (hr : IsRow .i64 w a' len' c' zs) (hl : hs.length + (lens hs).sum + len' ≤ 1048576) (hmq : IsMatL w b hq) (hrq : IsRow .i64 w b' lenq d' zq) (hlq : (hq.length : Int) + ((lens hq).sum : Nat) + (lenq : Int) ≤ 1048576 - hs.length - ((lens hs).sum : Nat) - len')
    (hS : ∀ w' B T C U p n q p' n' q' r1 m s r1' m' s' B2 v2, OwnP w' B T (.agg #[.slice p n q, .slice p' n' q']) hs (zs.take len') → OwnP w' C U (.agg #[.slice r1 m s, .slice r1' m' s']) hq (zq.take lenq) → Own w' B2 v2 (xs.take len2) → Calls Try.prog 21 #[.agg #[.slice p n q, .slice p' n' q', .slice r1 m s, .slice r1' m' s', .int .i64 md], v2] w' (ResLN nn r w'))
    (hI : ∀ w' B T C U p n q p' n' q' r1 m s r1' m' s' B2 v2, OwnP w' B T (.agg #[.slice p n q, .slice p' n' q']) hs (zs.take len') → OwnP w' C U (.agg #[.slice r1 m s, .slice r1' m' s']) hq (zq.take lenq) → Own w' B2 v2 (xs.take len2) → Calls Try.prog 22 #[.agg #[.slice p n q, .slice p' n' q', .slice r1 m s, .slice r1' m' s', .int .i64 md], v2] w' (ResLN nn r w')) :
    Calls Try.prog 6 #[.agg #[.slice a hs.length c, .slice a' len' c', .slice b hq.length d, .slice b' lenq d', .int .i64 md], .slice a2 len2 c2] w fun e w' => e = .returned (.bool true) ∧ Below w.heap.size w w' := by
  have b0 := (Below.refl w.heap.size w).alloc (Nat.le_refl _) (.cells #[.slice a hs.length c, .slice a' len' c', .slice b hq.length d, .slice b' lenq d', .int .i64 md] 27)
  have HSZ := Lib.hid (szL_yes a a' b b' c c' len' d d' lenq hs hq md _ (hm.below b0) (hmq.below b0) hl hlq)
  have hz0 : ¬ ((1048576 : Int) - (hs.length : Int) - ((lens hs).sum : Nat) - (len' : Int) - (hq.length : Int) - ((lens hq).sum : Nat) - (lenq : Int)) < 0 := by omega
  have HTO := Lib.hid (fun (w' : World) (hb : Below w.heap.size w w') => toL_any a a' b b' c c' len' d d' lenq hs hq zs zq md w' (hm.below hb) (isRow_below hr hb) hl (hmq.below hb) (isRow_below hrq hb) (by omega))
  have HT2 := Lib.hid (fun (w' : World) (hb : Below w.heap.size w w') => to_any a2 len2 c2 xs w' (isRow_below hx hb) hl2)
  have HMK := Lib.hid (fun (w' : World) (B T1 T2 : Nat) (p : Option Addr) (n q : Nat) (p' : Option Addr) (n' q' : Nat) (r1 : Option Addr) (m s : Nat) (r1' : Option Addr) (m' s' : Nat) (h1 : OwnP w' B T1 (.agg #[.slice p n q, .slice p' n' q']) hs (zs.take len')) (h2 : OwnP w' T1 T2 (.agg #[.slice r1 m s, .slice r1' m' s']) hq (zq.take lenq)) (hB : B ≤ T1 ∧ T1 ≤ T2 ∧ T2 ≤ w'.heap.size) =>
    markL_own (md := md) h1 h2 (by have : (hs.map List.length).sum = (lens hs).sum := rfl; omega) (by rw [List.length_take]; omega) (by have : (hq.map List.length).sum = (lens hq).sum := rfl; omega) (by rw [List.length_take]; omega) hB)
  have hl3 : (len2 : Int) ≤ 1048576 := by omega
  have hkl : (xs.take len2).length ≤ 1048576 := by rw [List.length_take]; omega
  have HKL := Lib.hid hkl
  have HS := Lib.hid hS
  have HI := Lib.hid hI
  clear hS hI hm hr hl hmq hrq hlq hx hkl
  generalize xs.take len2 = ks at *
  generalize zs.take len' = ms at *
  generalize zq.take lenq = mq at *
  generalize (lens hs).sum = T at *
  generalize hs.length = N at *
  generalize (lens hq).sum = T2 at *
  generalize hq.length = M at *
  unfold lvV at HSZ HTO HMK
  unfold CopL lvV at HTO
  go_enter Try.func6, Try.ntmps6
  go_wp2_with fail
  have BZ := Blk.newAt w w.heap.size [.slice a N c, .slice a' len' c', .slice b M d, .slice b' lenq d', .int .i64 md] 27 rfl
  have hsz : (w.alloc (.cells #[.slice a N c, .slice a' len' c', .slice b M d, .slice b' lenq d', .int .i64 md] 27)).heap.size = w.heap.size + 1 := Array.size_push _
  have eL : (w.alloc (.cells #[.slice a N c, .slice a' len' c', .slice b M d, .slice b' lenq d', .int .i64 md] 27)) = w.alloc (.cells [.slice a N c, .slice a' len' c', .slice b M d, .slice b' lenq d', .int .i64 md].toArray 27) := rfl
  rw [eL] at b0 HSZ hsz ⊢
  clear eL
  generalize w.alloc (.cells [.slice a N c, .slice a' len' c', .slice b M d, .slice b' lenq d', .int .i64 md].toArray 27) = W0 at *
  have HZ := Lib.hid (fun (w' : World) (hb : Below W0.heap.size W0 w') => (show w'.cell? ⟨w.heap.size, 0, none⟩ = some (.slice a N c) ∧ w'.cell? ⟨w.heap.size, 1, none⟩ = some (.slice a' len' c') ∧ w'.cell? ⟨w.heap.size, 2, none⟩ = some (.slice b M d) ∧ w'.cell? ⟨w.heap.size, 3, none⟩ = some (.slice b' lenq d') ∧ w'.cell? ⟨w.heap.size, 4, none⟩ = some (.int .i64 md) from
    ⟨(BZ.below hb (by omega)).cell 0, (BZ.below hb (by omega)).cell 1, (BZ.below hb (by omega)).cell 2, (BZ.below hb (by omega)).cell 3, (BZ.below hb (by omega)).cell 4⟩))
  clear BZ
  refine HSZ.out.mono ?_; rintro e w1 ⟨rfl, b1⟩
  obtain ⟨z0, z1, z2, z3, z4⟩ := HZ.out w1 b1
  have B1 := Lib.hid (bt b0 b1)
  have B01 := Lib.hid b1
  clear b1
  go_wp2_with fail
  refine (HTO.out w1 B1.out).mono ?_; rintro e w2 ⟨p1, n1, q1, p1', n1', q1', p2, n2, q2, p2', n2', q2', U2, rfl, o1, o2, b2, _⟩
  have B2 := Lib.hid (bt B1.out b2)
  have B02 := Lib.hid (bt B01.out b2)
  clear b2 B1 B01
  go_wp2_with fail
  refine (HT2.out w2 B2.out).mono ?_; rintro e w2' ⟨u1, rfl, p1_, b2⟩
  have o1' := o1.below b2 (Nat.le_refl _)
  have o2' := o2.below b2 (Nat.le_refl _)
  have B2' := Lib.hid (bt B2.out b2)
  have B02' := Lib.hid (bt B02.out b2)
  clear b2 B2 B02 o1 o2
  go_wp2_with fail
  refine (HS.out w2' _ _ _ _ p1 n1 q1 p1' n1' q1' p2 n2 q2 p2' n2' q2' _ u1 o1' o2' p1_).mono ?_; rintro e w3 ⟨rfl, b3⟩
  have B3 := Lib.hid (bt B2'.out b3)
  have B03 := Lib.hid (bt B02'.out b3)
  clear o1' o2' p1_ b3 z0 z1 z2 z3 z4 B2' B02'
  obtain ⟨z0, z1, z2, z3, z4⟩ := HZ.out w3 B03.out
  go_wp2_with fail
  refine (HTO.out w3 B3.out).mono ?_; rintro e w4 ⟨xa, xn, xc, xa', xn', xc', xb, xm, xd, xb', xm', xd', UX, rfl, ox, oy, b4, s4, s4'⟩
  have B34 := Lib.hid b4
  clear b4 z0 z1 z2 z3 z4
  go_wp2_with fail
  have BX := Blk.newAt w4 w4.heap.size [.slice xa xn xc, .slice xa' xn' xc', .slice xb xm xd, .slice xb' xm' xd', .int .i64 md] 32 rfl
  have b5 := (Below.refl w4.heap.size w4).alloc (Nat.le_refl _) (.cells [.slice xa xn xc, .slice xa' xn' xc', .slice xb xm xd, .slice xb' xm' xd', .int .i64 md].toArray 32)
  have ox5 : OwnP (w4.alloc (.cells [.slice xa xn xc, .slice xa' xn' xc', .slice xb xm xd, .slice xb' xm' xd', .int .i64 md].toArray 32)) (w3.heap.size + 6) UX (.agg #[.slice xa xn xc, .slice xa' xn' xc']) hs ms := ox.below b5 (Nat.le_refl _)
  have oy5 : OwnP (w4.alloc (.cells [.slice xa xn xc, .slice xa' xn' xc', .slice xb xm xd, .slice xb' xm' xd', .int .i64 md].toArray 32)) UX w4.heap.size (.agg #[.slice xb xm xd, .slice xb' xm' xd']) hq mq := oy.below b5 (Nat.le_refl _)
  have B35 := Lib.hid (bt B34.out b5)
  have s5 := b5.size
  have eL2 : (w4.alloc (.cells #[.slice xa xn xc, .slice xa' xn' xc', .slice xb xm xd, .slice xb' xm' xd', .int .i64 md] 32)) = w4.alloc (.cells [.slice xa xn xc, .slice xa' xn' xc', .slice xb xm xd, .slice xb' xm' xd', .int .i64 md].toArray 32) := rfl
  rw [eL2]
  clear eL2 ox oy b5 B34
  generalize w4.alloc (.cells [.slice xa xn xc, .slice xa' xn' xc', .slice xb xm xd, .slice xb' xm' xd', .int .i64 md].toArray 32) = W5 at *
  have HX := Lib.hid (fun (w' : World) (hb : Below W5.heap.size W5 w') => (show (w'.cell? ⟨w4.heap.size, 0, none⟩ = some (.slice xa xn xc) ∧ w'.cell? ⟨w4.heap.size, 1, none⟩ = some (.slice xa' xn' xc') ∧ w'.cell? ⟨w4.heap.size, 2, none⟩ = some (.slice xb xm xd) ∧ w'.cell? ⟨w4.heap.size, 3, none⟩ = some (.slice xb' xm' xd') ∧ w'.cell? ⟨w4.heap.size, 4, none⟩ = some (.int .i64 md) ∧ w'.cell? ⟨w.heap.size, 0, none⟩ = some (.slice a N c) ∧ w'.cell? ⟨w.heap.size, 1, none⟩ = some (.slice a' len' c') ∧ w'.cell? ⟨w.heap.size, 2, none⟩ = some (.slice b M d) ∧ w'.cell? ⟨w.heap.size, 3, none⟩ = some (.slice b' lenq d') ∧ w'.cell? ⟨w.heap.size, 4, none⟩ = some (.int .i64 md)) ∧
      (OwnP w' (w3.heap.size + 6) UX (.agg #[.slice xa xn xc, .slice xa' xn' xc']) hs ms ∧ OwnP w' UX w4.heap.size (.agg #[.slice xb xm xd, .slice xb' xm' xd']) hq mq) from
    ⟨⟨(BX.below hb BX.lt).cell 0, (BX.below hb BX.lt).cell 1, (BX.below hb BX.lt).cell 2, (BX.below hb BX.lt).cell 3, (BX.below hb BX.lt).cell 4, HZ.out w' (bt (bt B03.out B35.out) hb)⟩, ox5.below hb (Nat.le_refl _), oy5.below hb (Nat.le_refl _)⟩))
  have B5 := Lib.hid (bt B3.out B35.out)
  clear BX ox5 oy5
  refine (HT2.out W5 B5.out).mono ?_; rintro e w5' ⟨u5, rfl, p5, b5⟩
  obtain ⟨⟨x0, x1, x2, x3, x4, _⟩, ox5', oy5'⟩ := HX.out w5' b5
  have hpb := p5.block
  have s5' := b5.size
  go_wp2_with fail
  refine (HI.out w5' _ _ _ _ _ _ _ _ _ _ _ _ _ _ _ _ _ u5 ox5' oy5' p5).mono ?_; rintro e w6 ⟨rfl, b6⟩
  have b56 := Lib.hid (bt b5 b6)
  have B36 := Lib.hid (bt B35.out (bt b5 b6))
  have P6 := Lib.hid (fun (w' : World) (hb : Below w6.heap.size w6 w') => (Own.below p5 b6 (Nat.le_refl _)).below hb (Nat.le_refl _))
  have s6 := b6.size
  clear x0 x1 x2 x3 x4 b5 b6 ox5' oy5' p5
  have b57 := b56
  have B37 := B36
  have P7 := P6
  have s7 := Nat.le_refl w6.heap.size
  generalize w6 = w7 at *
  clear b56 B36 P6
  obtain ⟨⟨x0, x1, x2, x3, x4, z0, z1, z2, z3, z4⟩, _⟩ := HX.out w7 b57.out
  have HCT := Lib.hid (HTO.out w7.drew (bt B3.out B37.out).drew)
  have HEQ := Lib.hid (fun (w8 : World) (u : Option Addr) (un uc : Nat) (u' : Option Addr) (un' uc' : Nat) (v : Option Addr) (vn vc : Nat) (v' : Option Addr) (vn' vc' U7 : Nat) (b8 : Below w7.drew.heap.size w7.drew w8) (ou : OwnP w8 (w7.drew.heap.size + 6) U7 (.agg #[.slice u un uc, .slice u' un' uc']) hs ms) (ov : OwnP w8 U7 w8.heap.size (.agg #[.slice v vn vc, .slice v' vn' vc']) hq mq) => eqL_own (md := md) (HX.out w8 (bt b57.out (drewBB b8))).2.1 (HX.out w8 (bt b57.out (drewBB b8))).2.2 ou ov)
  unfold lvV at HEQ
  have HX8 := Lib.hid (fun (w8 : World) (b8 : Below w7.drew.heap.size w7.drew w8) => (HX.out w8 (bt b57.out (drewBB b8))).1)
  go_wp2
  go_region_held3 (fun w' => w'.cell? ⟨w4.heap.size, 0, none⟩ = some (.slice xa xn xc) ∧ w'.cell? ⟨w4.heap.size, 1, none⟩ = some (.slice xa' xn' xc') ∧ w'.cell? ⟨w4.heap.size, 2, none⟩ = some (.slice xb xm xd) ∧ w'.cell? ⟨w4.heap.size, 3, none⟩ = some (.slice xb' xm' xd') ∧ w'.cell? ⟨w4.heap.size, 4, none⟩ = some (.int .i64 md) ∧ w'.cell? ⟨w.heap.size, 0, none⟩ = some (.slice a N c) ∧ w'.cell? ⟨w.heap.size, 1, none⟩ = some (.slice a' len' c') ∧ w'.cell? ⟨w.heap.size, 2, none⟩ = some (.slice b M d) ∧ w'.cell? ⟨w.heap.size, 3, none⟩ = some (.slice b' lenq d') ∧ w'.cell? ⟨w.heap.size, 4, none⟩ = some (.int .i64 md)) (first | exact ⟨x0, x1, x2, x3, x4, z0, z1, z2, z3, z4⟩ | exact HX8.out _ (by assumption) | exact HX8.out _ (bt b8 b9)) (first | (go_at_call 9; (with_reducible refine HCT.out.mono ?_); rintro e w8 ⟨u, un, uc, u', un', uc', v, vn, vc, v', vn', vc', U7, rfl, ou, ov, b8, _⟩) | (go_at_call 11; (with_reducible refine (HEQ.out _ _ _ _ _ _ _ _ _ _ _ _ _ _ b8 ou ov).mono ?_); rintro e w9 ⟨rfl, b9⟩))
  have b79 : Below w7.heap.size w7 w9 := drewBB (bt b8 b9)
  have b59 := Lib.hid (bt b57.out b79)
  have B39 := Lib.hid (bt B37.out b79)
  have P9 := Lib.hid (P7.out w9 b79)
  have s9 := b79.size
  clear b8 b9 b79 ou ov z0 z1 z2 z3 z4 x0 x1 x2 x3 x4 HCT HEQ HX8 B37 P7
  go_wp2_with fail
  refine (HT2.out w9 (bt B3.out B39.out)).mono ?_; rintro e wa ⟨u9, rfl, p9, ba⟩
  have Pa := Lib.hid (P9.out.below ba (Nat.le_refl _))
  have B3a := Lib.hid (bt B39.out ba)
  have b5a := Lib.hid (bt b59.out ba)
  have sa := ba.size
  clear ba P9
  go_wp2_with fail
  refine (eq_below Pa.out p9).mono ?_; rintro e wb ⟨rfl, bb⟩
  have BE := Lib.hid (bt B3.out (bt B3a.out bb))
  clear bb
  go_wp2
  go_ret
  exact ⟨rfl, BE.out⟩
theorem longX (y0 y1 y2 y3 y4 : Value) (a2 : Option Addr) (len2 c2 : Nat) (w : World) (hl2 : ¬ len2 ≤ 1048576) :
    Calls Try.prog 6 #[.agg #[y0, y1, y2, y3, y4], .slice a2 len2 c2] w fun e w' => e = .returned (.bool true) ∧ Below w.heap.size w w' := by
  have hl3 : (1048576 : Int) < len2 := by omega
  have b0 := (Below.refl w.heap.size w).alloc (Nat.le_refl _) (.cells #[y0, y1, y2, y3, y4] 27)
  clear hl2
  go_enter Try.func6, Try.ntmps6
  go_wp2
  go_ret
  exact ⟨rfl, b0⟩
theorem long1 (a a' b b' a2 : Option Addr) (c c' len' d d' lenq m len2 c2 : Nat) (hs : List (List Int)) (md : Int) (w : World) (hl2 : len2 ≤ 1048576) (hm : IsMatL w a hs) (hl' : len' ≤ 9223372036854775807) (hl : ¬ hs.length + (lens hs).sum + len' ≤ 1048576) :
    Calls Try.prog 6 #[.agg #[.slice a hs.length c, .slice a' len' c', .slice b m d, .slice b' lenq d', .int .i64 md], .slice a2 len2 c2] w fun e w' => e = .returned (.bool true) ∧ Below w.heap.size w w' := by
  have b0 := (Below.refl w.heap.size w).alloc (Nat.le_refl _) (.cells #[.slice a hs.length c, .slice a' len' c', .slice b m d, .slice b' lenq d', .int .i64 md] 27)
  have HSZ := Lib.hid (szL_no1 a a' b b' c c' len' d d' lenq m hs md _ (hm.below b0) hl' hl)
  have hl3 : (len2 : Int) ≤ 1048576 := by omega
  unfold lvV at HSZ
  clear hm hl
  generalize hs.length = N at *
  go_enter Try.func6, Try.ntmps6
  go_wp2_with fail
  refine HSZ.out.mono ?_; rintro e w1 ⟨rfl, b1⟩
  have B1 := Lib.hid (bt b0 b1)
  clear b0 b1
  go_wp2
  go_ret
  exact ⟨rfl, B1.out⟩
theorem long2 (a a' b b' a2 : Option Addr) (c c' len' d d' lenq len2 c2 : Nat) (hs hq : List (List Int)) (md : Int) (w : World) (hl2 : len2 ≤ 1048576) (hm : IsMatL w a hs) (hmq : IsMatL w b hq) (h : hs.length + (lens hs).sum + len' ≤ 1048576) (hl' : lenq ≤ 9223372036854775807) (hlq : ¬ (hq.length : Int) + ((lens hq).sum : Nat) + (lenq : Int) ≤ 1048576 - hs.length - ((lens hs).sum : Nat) - len') :
    Calls Try.prog 6 #[.agg #[.slice a hs.length c, .slice a' len' c', .slice b hq.length d, .slice b' lenq d', .int .i64 md], .slice a2 len2 c2] w fun e w' => e = .returned (.bool true) ∧ Below w.heap.size w w' := by
  have b0 := (Below.refl w.heap.size w).alloc (Nat.le_refl _) (.cells #[.slice a hs.length c, .slice a' len' c', .slice b hq.length d, .slice b' lenq d', .int .i64 md] 27)
  have HSZ := Lib.hid (szL_no2 a a' b b' c c' len' d d' lenq hs hq md _ (hm.below b0) (hmq.below b0) h hl' hlq)
  have hl3 : (len2 : Int) ≤ 1048576 := by omega
  unfold lvV at HSZ
  clear hm hmq h hlq
  generalize hs.length = N at *
  generalize hq.length = M at *
  go_enter Try.func6, Try.ntmps6
  go_wp2_with fail
  refine HSZ.out.mono ?_; rintro e w1 ⟨rfl, b1⟩
  have B1 := Lib.hid (bt b0 b1)
  clear b0 b1
  go_wp2
  go_ret
  exact ⟨rfl, B1.out⟩
theorem row_max {k : IntKind} {w : World} {a : Option Addr} {len cap : Nat} {zs : List Int} (h : IsRow k w a len cap zs) : len ≤ 9223372036854775807 := by
  rcases h with ⟨_, h1, _⟩ | ⟨x, rfl, h1, h2, _⟩
  · omega
  · unfold maxLen at h2; omega
theorem mat_short {hs : List (List Int)} {n : Nat} (hl : hs.length + (lens hs).sum + n ≤ 1048576) : ∀ i, i < hs.length → (hs.getD i []).length ≤ 1048576 := fun i hi => by
  have h1 := lens_get hs i hi
  have h2 := sum_step (lens hs) i (by rw [lens_length]; exact hi)
  have h3 := sum_take_le (lens hs) (i + 1)
  omega
theorem walk (a : Option Addr) (len cap : Nat) (a' : Option Addr) (len' cap' : Nat) (zs' : List Int) (b : Option Addr) (lem cam : Nat) (b' : Option Addr) (lem' cam' : Nat) (zq : List Int) (md : Int) (a2 : Option Addr) (len2 cap2 : Nat) (xs : List Int) (w : World) (w0 : IsMat w a len) (u0 : IsRow .i64 w a' len' cap' zs') (x0 : IsMat w b lem) (t0 : IsRow .i64 w b' lem' cam' zq) (_ : (Lit.int .i64 md).wf = true) (w1 : IsRow .i64 w a2 len2 cap2 xs) :
    Calls Try.prog 6 #[.agg #[.slice a len cap, .slice a' len' cap', .slice b lem cam, .slice b' lem' cam', .int .i64 md], .slice a2 len2 cap2] w fun e w' => e = .returned (.bool true) ∧ Below w.heap.size w w' := by
  obtain ⟨hs, rfl, hm⟩ := w0.list
  obtain ⟨hq, rfl, hmq⟩ := x0.list
  have hl' := row_max u0
  have hl2' := row_max t0
  by_cases hl2 : len2 ≤ 1048576
  · by_cases hl : hs.length + (lens hs).sum + len' ≤ 1048576
    · by_cases hlq : (hq.length : Int) + ((lens hq).sum : Nat) + (lem' : Int) ≤ 1048576 - hs.length - ((lens hs).sum : Nat) - len'
      · have hms : (zs'.take len').length ≤ 1048576 := by rw [List.length_take]; omega
        have hmq' : (zq.take lem').length ≤ 1048576 := by rw [List.length_take]; omega
        have hks : (xs.take len2).length ≤ 1048576 := by rw [List.length_take]; omega
        have hxs := mat_short hl
        have hxq := mat_short (hs := hq) (n := lem') (by omega)
        refine core a a' b b' a2 cap cap' len' cam cam' lem' len2 cap2 hs hq zs' zq xs md (lvN hs hq (zs'.take len') (zq.take lem') md (xs.take len2)) (lvO hs hq (zs'.take len') (zq.take lem') md (xs.take len2))  w w1 hl2 hm u0 hl hmq t0 hlq
          (fun w' B T C U p n q p' n' q' r1 m s r1' m' s' B2 v2 h k h2 => ?_) (fun w' B T C U p n q p' n' q' r1 m s r1' m' s' B2 v2 h k h2 => ?_)
        · obtain ⟨A, C9, rfl, e1, e2, hr⟩ := h2.rd
          exact BackInvalidations_s (RdP.of h (by omega) hxs hms) (RdP.of k (by omega) hxq hmq') hr hks
        · obtain ⟨A, C9, rfl, e1, e2, hr⟩ := h2.rd
          exact BackInvalidations_i (RdP.of h (by omega) hxs hms) (RdP.of k (by omega) hxq hmq') hr hks
      · exact long2 a a' b b' a2 cap cap' len' cam cam' lem' len2 cap2 hs hq md w hl2 hm hmq hl hl2' hlq
    · exact long1 a a' b b' a2 cap cap' len' cam cam' lem' hq.length len2 cap2 hs md w hl2 hm hl' hl
  · exact longX _ _ _ _ _ a2 len2 cap2 w hl2
end Go.Proofs.Ytimfekedpgllhaa.fnExactBackInvalidations
