/- The walk of laws.FnExactTrafficOf: the call returns true and writes nothing that was there. -/
import Derived.Test.YtngbddmbmkphcaaG18
import Derived.Deep.RegionHeld3
namespace Go.Proofs.Ytngbddmbmkphcaa.fnExactTrafficOf
open Go.RowKit Pv Ac
theorem drewBB {w w' : World} {B : Nat} (h : Below B w.drew w') : Below B w w' := (Below.refl _ w).drew.trans h
theorem eqA_own {w : World} {B1 B2 : Nat} {v1 v2 : Value} {xs : List (Int × Int)} (h1 : OwnA w B1 v1 xs) (h2 : OwnA w B2 v2 xs) (hn : xs.length ≤ 1048576) : Calls Try.prog 15 #[v1, v2] w (BbA true w) := by
  obtain ⟨a1, c1, rfl, r1⟩ := h1.row
  obtain ⟨a2, c2, rfl, r2⟩ := h2.row
  exact Ac.eq_any a1 a2 c1 c2 xs w hn r1 r2
theorem eqT_own (i0 i1 i2 i3 i4 : Int) (w : World) : Calls Try.prog 26 #[.agg #[.int .i64 i0, .int .i64 i1, .int .i64 i2, .int .i64 i3, .int .i64 i4], .agg #[.int .i64 i0, .int .i64 i1, .int .i64 i2, .int .i64 i3, .int .i64 i4]] w (fun e w' => e = .returned (.bool true) ∧ Below w.heap.size w w') := by
  go_enter Try.func26, Try.ntmps26
  go_wp2
  go_ret
  exact ⟨rfl, ((Below.refl _ _).alloc (Nat.le_refl _) _).alloc (by simp) _⟩
set_option maxHeartbeats 8000000 in
set_option maxRecDepth 100000 in
theorem core (a a' a2 : Option Addr) (c c' len' c2 : Nat) (hs : List (List Int)) (zs : List Int) (xs : List (Int × Int)) (bk al : Bool) (i0 i1 i2 i3 i4 : Int) (r : Bool) (w : World) (hx : RowA w a2 xs) (hm : IsMatL w a hs) (hr : IsRow .i64 w a' len' c' zs) (hl : hs.length + (lens hs).sum + len' ≤ 1048576) (hlx : hs.length + (lens hs).sum + len' + xs.length ≤ 1048576)
    (hS : ∀ w' B T p n q p' n' q' B2 v2, OwnP w' B T (.agg #[.slice p n q, .slice p' n' q']) hs (zs.take len') → OwnA w' B2 v2 xs → Calls Try.prog 24 #[.agg #[.slice p n q, .slice p' n' q', .bool bk, .bool al], v2] w' (ResCT [.int .i64 i0, .int .i64 i1, .int .i64 i2, .int .i64 i3, .int .i64 i4] r w'))
    (hI : ∀ w' B T p n q p' n' q' B2 v2, OwnP w' B T (.agg #[.slice p n q, .slice p' n' q']) hs (zs.take len') → OwnA w' B2 v2 xs → Calls Try.prog 25 #[.agg #[.slice p n q, .slice p' n' q', .bool bk, .bool al], v2] w' (ResCT [.int .i64 i0, .int .i64 i1, .int .i64 i2, .int .i64 i3, .int .i64 i4] r w')) :
    Calls Try.prog 6 #[.agg #[.slice a hs.length c, .slice a' len' c', .bool bk, .bool al], .slice a2 xs.length c2] w fun e w' => e = .returned (.bool true) ∧ Below w.heap.size w w' := by
  have b0 := (Below.refl w.heap.size w).alloc (Nat.le_refl _) (.cells #[.slice a hs.length c, .slice a' len' c', .bool bk, .bool al] 27)
  obtain ⟨L, hL⟩ : ∃ L : Nat, (1048576 : Int) - (hs.length : Int) - ((lens hs).sum : Nat) - (len' : Int) = (L : Int) := ⟨1048576 - (hs.length + (lens hs).sum + len'), by omega⟩
  have hL1 : xs.length ≤ L := by omega
  have hL2 : L ≤ 1048576 := by omega
  have HSZ := Lib.hid (szC_yes a a' c c' len' hs bk al _ (hm.below b0) hl)
  rw [hL] at HSZ
  have HSX := Lib.hid (fun w' => Ac.sz_any a2 xs.length c2 L w' hL1 hL2)
  have hz1 : ¬ ((L : Int) - (xs.length : Int)) < 0 := by omega
  have HTO := Lib.hid (fun (w' : World) (hb : Below w.heap.size w w') => toC_any a a' c c' len' hs zs bk al w' (hm.below hb) (isRow_below hr hb) hl)
  have HT2 := Lib.hid (fun (w' : World) (hb : Below w.heap.size w w') => Ac.to_any a2 c2 xs w' (hx.below hb) (by omega))
  have HMK := Lib.hid (fun (w' : World) (B T1 : Nat) (p : Option Addr) (n q : Nat) (p' : Option Addr) (n' q' : Nat) (h1 : OwnP w' B T1 (.agg #[.slice p n q, .slice p' n' q']) hs (zs.take len')) (hB : B ≤ w'.heap.size) =>
    markC_own (bk := bk) (al := al) h1 (by have : (hs.map List.length).sum = (lens hs).sum := rfl; omega) (by rw [List.length_take]; omega) hB)
  unfold MarkCR at HMK
  unfold CopC at HTO
  unfold CopiedA at HT2
  have hkl : xs.length ≤ 1048576 := by omega
  have HKL := Lib.hid hkl
  have HS := Lib.hid hS
  have HI := Lib.hid hI
  clear hS hI hm hr hl hlx hx hkl hL hL1 hL2
  generalize zs.take len' = ms at *
  generalize hs.length = N at *
  generalize hXN : xs.length = XN at *
  have HXN := Lib.hid hXN
  clear hXN
  go_enter Try.func6, Try.ntmps6
  go_wp2_with fail
  have BZ := Blk.newAt w w.heap.size [.slice a N c, .slice a' len' c', .bool bk, .bool al] 27 rfl
  have hsz : (w.alloc (.cells #[.slice a N c, .slice a' len' c', .bool bk, .bool al] 27)).heap.size = w.heap.size + 1 := Array.size_push _
  have eL : (w.alloc (.cells #[.slice a N c, .slice a' len' c', .bool bk, .bool al] 27)) = w.alloc (.cells [.slice a N c, .slice a' len' c', .bool bk, .bool al].toArray 27) := rfl
  rw [eL] at b0 HSZ hsz ⊢
  clear eL
  generalize w.alloc (.cells [.slice a N c, .slice a' len' c', .bool bk, .bool al].toArray 27) = W0 at *
  have HZ := Lib.hid (fun (w' : World) (hb : Below W0.heap.size W0 w') => (show w'.cell? ⟨w.heap.size, 0, none⟩ = some (.slice a N c) ∧ w'.cell? ⟨w.heap.size, 1, none⟩ = some (.slice a' len' c') ∧ w'.cell? ⟨w.heap.size, 2, none⟩ = some (.bool bk) ∧ w'.cell? ⟨w.heap.size, 3, none⟩ = some (.bool al) from
    ⟨(BZ.below hb (by omega)).cell 0, (BZ.below hb (by omega)).cell 1, (BZ.below hb (by omega)).cell 2, (BZ.below hb (by omega)).cell 3⟩))
  clear BZ
  refine HSZ.out.mono ?_; rintro e w1 ⟨rfl, b1⟩
  have B1 := Lib.hid (bt b0 b1)
  have B01 := Lib.hid b1
  clear b1
  go_wp2_with fail
  refine (HSX.out w1).mono ?_; rintro e w1' ⟨rfl, rfl⟩
  obtain ⟨z0, z1, z2, z3⟩ := HZ.out w1 B01.out
  go_wp2_with fail
  refine (HTO.out w1 B1.out).mono ?_; rintro e w2 ⟨p1, n1, q1, p1', n1', q1', rfl, o1, b2, _⟩
  have B2 := Lib.hid (bt B1.out b2)
  have B02 := Lib.hid (bt B01.out b2)
  clear b2 B1 B01
  go_wp2_with fail
  refine (HT2.out w2 B2.out).mono ?_; rintro e w2' ⟨u1, rfl, p1_, b2⟩
  have o1' := o1.below b2 (Nat.le_refl _)
  have B2' := Lib.hid (bt B2.out b2)
  have B02' := Lib.hid (bt B02.out b2)
  clear b2 B2 B02 o1
  go_wp2_with fail
  refine (HS.out w2' _ _ p1 n1 q1 p1' n1' q1' _ u1 o1' p1_).mono ?_; rintro e w3a ⟨rfl, b3⟩
  clear o1' p1_
  obtain ⟨y0, y1, y2, y3⟩ := HZ.out (w3a.alloc (.cells #[.int .i64 i0, .int .i64 i1, .int .i64 i2, .int .i64 i3, .int .i64 i4] 47)) (bt B02'.out (bt b3 ((Below.refl _ _).alloc (Nat.le_refl _) _)))
  have BW := Blk.newAt w3a w3a.heap.size [.int .i64 i0, .int .i64 i1, .int .i64 i2, .int .i64 i3, .int .i64 i4] 47 rfl
  have b3b : Below w3a.heap.size w3a (w3a.alloc (.cells #[.int .i64 i0, .int .i64 i1, .int .i64 i2, .int .i64 i3, .int .i64 i4] 47)) := (Below.refl _ _).alloc (Nat.le_refl _) _
  have s3a : (w3a.alloc (.cells #[.int .i64 i0, .int .i64 i1, .int .i64 i2, .int .i64 i3, .int .i64 i4] 47)).heap.size = w3a.heap.size + 1 := Array.size_push _
  have eW : w3a.alloc (.cells [Value.int .i64 i0, .int .i64 i1, .int .i64 i2, .int .i64 i3, .int .i64 i4].toArray 47) = w3a.alloc (.cells #[.int .i64 i0, .int .i64 i1, .int .i64 i2, .int .i64 i3, .int .i64 i4] 47) := rfl
  rw [eW] at BW
  clear eW
  obtain ⟨w3, hw3⟩ : ∃ w3, w3 = w3a.alloc (.cells #[.int .i64 i0, .int .i64 i1, .int .i64 i2, .int .i64 i3, .int .i64 i4] 47) := ⟨_, rfl⟩
  rw [← hw3] at BW b3b s3a
  have B3 := Lib.hid (bt B2'.out (bt b3 b3b))
  have B03 := Lib.hid (bt B02'.out (bt b3 b3b))
  have HOW := Lib.hid (fun (w' : World) (hb : Below w3.heap.size w3 w') => (show w'.cell? ⟨w3a.heap.size, 0, none⟩ = some (.int .i64 i0) ∧ w'.cell? ⟨w3a.heap.size, 1, none⟩ = some (.int .i64 i1) ∧ w'.cell? ⟨w3a.heap.size, 2, none⟩ = some (.int .i64 i2) ∧ w'.cell? ⟨w3a.heap.size, 3, none⟩ = some (.int .i64 i3) ∧ w'.cell? ⟨w3a.heap.size, 4, none⟩ = some (.int .i64 i4) from ⟨(BW.below hb BW.lt).cell 0, (BW.below hb BW.lt).cell 1, (BW.below hb BW.lt).cell 2, (BW.below hb BW.lt).cell 3, (BW.below hb BW.lt).cell 4⟩))
  have HW3 := Lib.hid hw3
  clear hw3 BW b3b
  clear b3 z0 z1 z2 z3 B2' B02'
  go_wp2_with fail
  rw [← HW3.out]
  clear HW3 y0 y1 y2 y3
  obtain ⟨z0, z1, z2, z3⟩ := HZ.out w3 B03.out
  refine (HTO.out w3 B3.out).mono ?_; rintro e w4 ⟨xa, xn, xc, xa', xn', xc', rfl, ox, b4, s4⟩
  have B34 := Lib.hid b4
  clear b4 z0 z1 z2 z3
  go_wp2_with fail
  have BX := Blk.newAt w4 w4.heap.size [.slice xa xn xc, .slice xa' xn' xc', .bool bk, .bool al] 35 rfl
  have b5 := (Below.refl w4.heap.size w4).alloc (Nat.le_refl _) (.cells [.slice xa xn xc, .slice xa' xn' xc', .bool bk, .bool al].toArray 35)
  have ox5 : OwnP (w4.alloc (.cells [.slice xa xn xc, .slice xa' xn' xc', .bool bk, .bool al].toArray 35)) (w3.heap.size + 6) w4.heap.size (.agg #[.slice xa xn xc, .slice xa' xn' xc']) hs ms := ox.below b5 (Nat.le_refl _)
  have B35 := Lib.hid (bt B34.out b5)
  have s5 := b5.size
  have eL2 : (w4.alloc (.cells #[.slice xa xn xc, .slice xa' xn' xc', .bool bk, .bool al] 35)) = w4.alloc (.cells [.slice xa xn xc, .slice xa' xn' xc', .bool bk, .bool al].toArray 35) := rfl
  rw [eL2]
  clear eL2 ox b5 B34
  generalize w4.alloc (.cells [.slice xa xn xc, .slice xa' xn' xc', .bool bk, .bool al].toArray 35) = W5 at *
  have HX := Lib.hid (fun (w' : World) (hb : Below W5.heap.size W5 w') => (show (w'.cell? ⟨w4.heap.size, 0, none⟩ = some (.slice xa xn xc) ∧ w'.cell? ⟨w4.heap.size, 1, none⟩ = some (.slice xa' xn' xc') ∧ w'.cell? ⟨w4.heap.size, 2, none⟩ = some (.bool bk) ∧ w'.cell? ⟨w4.heap.size, 3, none⟩ = some (.bool al) ∧ w'.cell? ⟨w.heap.size, 0, none⟩ = some (.slice a N c) ∧ w'.cell? ⟨w.heap.size, 1, none⟩ = some (.slice a' len' c') ∧ w'.cell? ⟨w.heap.size, 2, none⟩ = some (.bool bk) ∧ w'.cell? ⟨w.heap.size, 3, none⟩ = some (.bool al)) ∧
      OwnP w' (w3.heap.size + 6) w4.heap.size (.agg #[.slice xa xn xc, .slice xa' xn' xc']) hs ms from
    ⟨⟨(BX.below hb BX.lt).cell 0, (BX.below hb BX.lt).cell 1, (BX.below hb BX.lt).cell 2, (BX.below hb BX.lt).cell 3, HZ.out w' (bt (bt B03.out B35.out) hb)⟩, ox5.below hb (Nat.le_refl _)⟩))
  have B5 := Lib.hid (bt B3.out B35.out)
  clear BX ox5
  refine (HT2.out W5 B5.out).mono ?_; rintro e w5' ⟨u5, rfl, p5, b5⟩
  obtain ⟨⟨x0, x1, x2, x3, _⟩, ox5'⟩ := HX.out w5' b5
  have hpb := p5.block
  have s5' := b5.size
  go_wp2_with fail
  refine (HI.out w5' _ _ _ _ _ _ _ _ _ u5 ox5' p5).mono ?_; rintro e w6 ⟨rfl, b6⟩
  have b56 := Lib.hid (bt b5 b6)
  have B36 := Lib.hid (bt B35.out (bt b5 b6))
  have P6 := Lib.hid (fun (w' : World) (hb : Below w6.heap.size w6 w') => (OwnA.below p5 b6 (Nat.le_refl _)).below hb (Nat.le_refl _))
  have s6 := b6.size
  clear x0 x1 x2 x3 b5 b6 ox5' p5
  obtain ⟨t0, t1, t2, t3, t4⟩ := HOW.out (w6.alloc (.cells #[.int .i64 i0, .int .i64 i1, .int .i64 i2, .int .i64 i3, .int .i64 i4] 47)) (bt B36.out ((Below.refl _ _).alloc (Nat.le_refl _) _))
  have b6a : Below w6.heap.size w6 (w6.alloc (.cells #[.int .i64 i0, .int .i64 i1, .int .i64 i2, .int .i64 i3, .int .i64 i4] 47)) := (Below.refl _ _).alloc (Nat.le_refl _) _
  have s6a := B36.out.size
  go_wp2_with fail
  refine (eqT_own i0 i1 i2 i3 i4 _).mono ?_; rintro e w7 ⟨rfl, b7⟩
  have b67 := bt b6a b7
  have b57 := Lib.hid (bt b56.out b67)
  have B37 := Lib.hid (bt B36.out b67)
  have P7 := Lib.hid (fun (w' : World) (hb : Below w7.heap.size w7 w') => P6.out w' (bt b67 hb))
  have s7 := b67.size
  clear t0 t1 t2 t3 t4 b6a b7 b67 b56 B36 P6
  obtain ⟨⟨x0, x1, x2, x3, z0, z1, z2, z3⟩, _⟩ := HX.out w7 b57.out
  have HCT := Lib.hid (HTO.out w7.drew (bt B3.out B37.out).drew)
  have HEQ := Lib.hid (fun (w8 : World) (u : Option Addr) (un uc : Nat) (u' : Option Addr) (un' uc' : Nat) (b8 : Below w7.drew.heap.size w7.drew w8) (ou : OwnP w8 (w7.drew.heap.size + 6) w8.heap.size (.agg #[.slice u un uc, .slice u' un' uc']) hs ms) => eqC_own (bk := bk) (al := al) (HX.out w8 (bt b57.out (drewBB b8))).2 ou)
  unfold BbP2 at HEQ
  have HX8 := Lib.hid (fun (w8 : World) (b8 : Below w7.drew.heap.size w7.drew w8) => (HX.out w8 (bt b57.out (drewBB b8))).1)
  go_wp2
  go_region_held3 (fun w' => w'.cell? ⟨w4.heap.size, 0, none⟩ = some (.slice xa xn xc) ∧ w'.cell? ⟨w4.heap.size, 1, none⟩ = some (.slice xa' xn' xc') ∧ w'.cell? ⟨w4.heap.size, 2, none⟩ = some (.bool bk) ∧ w'.cell? ⟨w4.heap.size, 3, none⟩ = some (.bool al) ∧ w'.cell? ⟨w.heap.size, 0, none⟩ = some (.slice a N c) ∧ w'.cell? ⟨w.heap.size, 1, none⟩ = some (.slice a' len' c') ∧ w'.cell? ⟨w.heap.size, 2, none⟩ = some (.bool bk) ∧ w'.cell? ⟨w.heap.size, 3, none⟩ = some (.bool al)) (first | exact ⟨x0, x1, x2, x3, z0, z1, z2, z3⟩ | exact HX8.out _ (by assumption) | exact HX8.out _ (bt b8 b9)) (first | (go_at_call 10; (with_reducible refine HCT.out.mono ?_); rintro e w8 ⟨u, un, uc, u', un', uc', rfl, ou, b8, _⟩) | (go_at_call 14; (with_reducible refine (HEQ.out _ _ _ _ _ _ _ b8 ou).mono ?_); rintro e w9 ⟨rfl, b9⟩))
  have b79 : Below w7.heap.size w7 w9 := drewBB (bt b8 b9)
  have b59 := Lib.hid (bt b57.out b79)
  have B39 := Lib.hid (bt B37.out b79)
  have P9 := Lib.hid (P7.out w9 b79)
  have s9 := b79.size
  clear b8 b9 b79 ou z0 z1 z2 z3 x0 x1 x2 x3 HCT HEQ HX8 B37 P7
  go_wp2_with fail
  refine (HT2.out w9 (bt B3.out B39.out)).mono ?_; rintro e wa ⟨u9, rfl, p9, ba⟩
  have Pa := Lib.hid (P9.out.below ba (Nat.le_refl _))
  have B3a := Lib.hid (bt B39.out ba)
  have b5a := Lib.hid (bt b59.out ba)
  have sa := ba.size
  clear ba P9
  go_wp2_with fail
  refine (eqA_own Pa.out p9 (by rw [HXN.out]; exact HKL.out)).mono ?_; rintro e wb ⟨rfl, bb⟩
  have BE := Lib.hid (bt B3.out (bt B3a.out bb))
  clear bb
  go_wp2
  go_ret
  exact ⟨rfl, BE.out⟩
theorem long1 (a a' a2 : Option Addr) (c c' len' n2 c2 : Nat) (hs : List (List Int)) (bk al : Bool) (w : World) (hm : IsMatL w a hs) (hl' : len' ≤ 9223372036854775807) (hl : ¬ hs.length + (lens hs).sum + len' ≤ 1048576) :
    Calls Try.prog 6 #[.agg #[.slice a hs.length c, .slice a' len' c', .bool bk, .bool al], .slice a2 n2 c2] w fun e w' => e = .returned (.bool true) ∧ Below w.heap.size w w' := by
  have b0 := (Below.refl w.heap.size w).alloc (Nat.le_refl _) (.cells #[.slice a hs.length c, .slice a' len' c', .bool bk, .bool al] 27)
  have HSZ := Lib.hid (szC_no a a' c c' len' hs bk al _ (hm.below b0) hl' hl)
  clear hm hl
  generalize hs.length = N at *
  go_enter Try.func6, Try.ntmps6
  go_wp2_with fail
  refine HSZ.out.mono ?_; rintro e w1 ⟨rfl, b1⟩
  have B1 := Lib.hid (bt b0 b1)
  clear b0 b1
  go_wp2
  go_ret
  exact ⟨rfl, B1.out⟩
theorem long2 (a a' a2 : Option Addr) (c c' len' n2 c2 : Nat) (hs : List (List Int)) (bk al : Bool) (w : World) (hm : IsMatL w a hs) (hn2 : n2 ≤ 9223372036854775807) (hl : hs.length + (lens hs).sum + len' ≤ 1048576) (hlx : ¬ hs.length + (lens hs).sum + len' + n2 ≤ 1048576) :
    Calls Try.prog 6 #[.agg #[.slice a hs.length c, .slice a' len' c', .bool bk, .bool al], .slice a2 n2 c2] w fun e w' => e = .returned (.bool true) ∧ Below w.heap.size w w' := by
  have b0 := (Below.refl w.heap.size w).alloc (Nat.le_refl _) (.cells #[.slice a hs.length c, .slice a' len' c', .bool bk, .bool al] 27)
  obtain ⟨L, hL⟩ : ∃ L : Nat, (1048576 : Int) - (hs.length : Int) - ((lens hs).sum : Nat) - (len' : Int) = (L : Int) := ⟨1048576 - (hs.length + (lens hs).sum + len'), by omega⟩
  have HSZ := Lib.hid (szC_yes a a' c c' len' hs bk al _ (hm.below b0) hl)
  rw [hL] at HSZ
  have HSX := Lib.hid (fun w' => Ac.sz_long a2 n2 c2 L w' (by omega) (by omega) hn2)
  clear hm hl hlx hL
  generalize hs.length = N at *
  go_enter Try.func6, Try.ntmps6
  go_wp2_with fail
  refine HSZ.out.mono ?_; rintro e w1 ⟨rfl, b1⟩
  have B1 := Lib.hid (bt b0 b1)
  clear b0 b1
  go_wp2_with fail
  refine (HSX.out w1).mono ?_; rintro e w1' ⟨rfl, rfl⟩
  go_wp2
  go_ret
  exact ⟨rfl, B1.out⟩
theorem row_max {k : IntKind} {w : World} {a : Option Addr} {len cap : Nat} {zs : List Int} (h : IsRow k w a len cap zs) : len ≤ 9223372036854775807 := by
  rcases h with ⟨_, h1, _⟩ | ⟨x, rfl, h1, h2, _⟩
  · omega
  · unfold maxLen at h2; omega
theorem mat_short {hs : List (List Int)} {n : Nat} (hl : hs.length + (lens hs).sum + n ≤ 1048576) : ∀ i, i < hs.length → (hs.getD i []).length ≤ 1048576 := fun i hi => by
  have h1 := lens_get hs i hi
  have h2 := sum_step (lens hs) i (by rw [lens_length]; exact hi)
  have h3 := sum_take_le (lens hs) (i + 1)
  omega
theorem walk (a : Option Addr) (len cap : Nat) (a' : Option Addr) (len' cap' : Nat) (zs' : List Int) (bk al : Bool) (a2 : Option Addr) (cap2 : Nat) (xs : List (Int × Int)) (w : World) (w0 : IsMat w a len) (u0 : IsRow .i64 w a' len' cap' zs') (w1 : RowA w a2 xs) (hm1 : xs.length ≤ 9223372036854775807) :
    Calls Try.prog 6 #[.agg #[.slice a len cap, .slice a' len' cap', .bool bk, .bool al], .slice a2 xs.length cap2] w fun e w' => e = .returned (.bool true) ∧ Below w.heap.size w w' := by
  obtain ⟨hs, rfl, hm⟩ := w0.list
  have hl' := row_max u0
  by_cases hl : hs.length + (lens hs).sum + len' ≤ 1048576
  · by_cases hlx : hs.length + (lens hs).sum + len' + xs.length ≤ 1048576
    · have hms : (zs'.take len').length ≤ 1048576 := by rw [List.length_take]; omega
      have hxs := mat_short hl
      obtain ⟨i0, i1, i2, i3, i4, hT⟩ := caTr_five hs (zs'.take len') bk al xs
      refine core a a' a2 cap cap' len' cap2 hs zs' xs bk al i0 i1 i2 i3 i4 (caO hs (zs'.take len') xs) w w1 hm u0 hl hlx
          (fun w' B T p n q p' n' q' B2 v2 h h2 => ?_) (fun w' B T p n q p' n' q' B2 v2 h h2 => ?_)
      · obtain ⟨A, C9, rfl, hr⟩ := h2.row
        rw [← hT]
        exact TrafficOf_s (RdP.of h (by omega) hxs hms) hr (by omega)
      · obtain ⟨A, C9, rfl, hr⟩ := h2.row
        rw [← hT]
        exact TrafficOf_i (RdP.of h (by omega) hxs hms) hr (by omega)
    · exact long2 a a' a2 cap cap' len' xs.length cap2 hs bk al w hm hm1 hl hlx
  · exact long1 a a' a2 cap cap' len' xs.length cap2 hs bk al w hm hl' hl
end Go.Proofs.Ytngbddmbmkphcaa.fnExactTrafficOf
