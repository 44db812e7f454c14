/- The walk of laws.FnExactLevelContents: the call returns true and writes nothing that was there. -/
import Derived.Test.YtimfekedpgllhaaLv2
import Derived.Deep.RegionHeld3
namespace Go.Proofs.Ytimfekedpgllhaa.fnExactLevelContents
open Go.RowKit Pv
theorem drewBB {w w' : World} {B : Nat} (h : Below B w.drew w') : Below B w w' := (Below.refl _ w).drew.trans h
set_option maxHeartbeats 8000000 in
set_option maxRecDepth 100000 in
theorem core (a a' b b' a2 : Option Addr) (c c' len' d d' lenq len2 c2 : Nat) (hs hq : List (List Int)) (zs zq xs : List Int) (md : Int) (ys ts : List Int) (r : Bool) (hy : ys.length ≤ 1000000) (hy2 : ts.length ≤ 1000000) (w : World) (hx : IsRow .i64 w a2 len2 c2 xs) (hl2 : len2 ≤ 1048576) (hm : IsMatL w a hs) (hr : IsRow .i64 w a' len' c' zs) (hl : hs.length + (lens hs).sum + len' ≤ 1048576) (hmq : IsMatL w b hq) (hrq : IsRow .i64 w b' lenq d' zq) (hlq : (hq.length : Int) + ((lens hq).sum : Nat) + (lenq : Int) ≤ 1048576 - hs.length - ((lens hs).sum : Nat) - len')
    (hS : ∀ w' B T C U p n q p' n' q' r1 m s r1' m' s' B2 v2, OwnP w' B T (.agg #[.slice p n q, .slice p' n' q']) hs (zs.take len') → OwnP w' C U (.agg #[.slice r1 m s, .slice r1' m' s']) hq (zq.take lenq) → Own w' B2 v2 (xs.take len2) → Calls Try.prog 19 #[.agg #[.slice p n q, .slice p' n' q', .slice r1 m s, .slice r1' m' s', .int .i64 md], v2] w' (ResLWW ys ts r w'))
    (hI : ∀ w' B T C U p n q p' n' q' r1 m s r1' m' s' B2 v2, OwnP w' B T (.agg #[.slice p n q, .slice p' n' q']) hs (zs.take len') → OwnP w' C U (.agg #[.slice r1 m s, .slice r1' m' s']) hq (zq.take lenq) → Own w' B2 v2 (xs.take len2) → Calls Try.prog 20 #[.agg #[.slice p n q, .slice p' n' q', .slice r1 m s, .slice r1' m' s', .int .i64 md], v2] w' (ResLWW ys ts r w')) :
    Calls Try.prog 5 #[.agg #[.slice a hs.length c, .slice a' len' c', .slice b hq.length d, .slice b' lenq d', .int .i64 md], .slice a2 len2 c2] w fun e w' => e = .returned (.bool true) ∧ Below w.heap.size w w' := by
  have b0 := (Below.refl w.heap.size w).alloc (Nat.le_refl _) (.cells #[.slice a hs.length c, .slice a' len' c', .slice b hq.length d, .slice b' lenq d', .int .i64 md] 27)
  have HSZ := Lib.hid (szL_yes a a' b b' c c' len' d d' lenq hs hq md _ (hm.below b0) (hmq.below b0) hl hlq)
  have hz0 : ¬ ((1048576 : Int) - (hs.length : Int) - ((lens hs).sum : Nat) - (len' : Int) - (hq.length : Int) - ((lens hq).sum : Nat) - (lenq : Int)) < 0 := by omega
  have HTO := Lib.hid (fun (w' : World) (hb : Below w.heap.size w w') => toL_any a a' b b' c c' len' d d' lenq hs hq zs zq md w' (hm.below hb) (isRow_below hr hb) hl (hmq.below hb) (isRow_below hrq hb) (by omega))
  have HT2 := Lib.hid (fun (w' : World) (hb : Below w.heap.size w w') => to_any a2 len2 c2 xs w' (isRow_below hx hb) hl2)
  have HMK := Lib.hid (fun (w' : World) (B T1 T2 : Nat) (p : Option Addr) (n q : Nat) (p' : Option Addr) (n' q' : Nat) (r1 : Option Addr) (m s : Nat) (r1' : Option Addr) (m' s' : Nat) (h1 : OwnP w' B T1 (.agg #[.slice p n q, .slice p' n' q']) hs (zs.take len')) (h2 : OwnP w' T1 T2 (.agg #[.slice r1 m s, .slice r1' m' s']) hq (zq.take lenq)) (hB : B ≤ T1 ∧ T1 ≤ T2 ∧ T2 ≤ w'.heap.size) =>
    markL_own (md := md) h1 h2 (by have : (hs.map List.length).sum = (lens hs).sum := rfl; omega) (by rw [List.length_take]; omega) (by have : (hq.map List.length).sum = (lens hq).sum := rfl; omega) (by rw [List.length_take]; omega) hB)
  have HMG := Lib.hid (fun (w' : World) (B : Nat) (v : Value) (h : OwnW w' B v ys) => (show Calls Try.prog 17 #[v, .int .i64 1] w' (fun e w2 => e = .returned (.int .i64 (1 + (ys.length : Int))) ∧ OwnW w2 B v (marks 1 ys.length) ∧ w'.grownBy w2 v.ownBlock) from mark_ownW 1 h (by omega)))
  have HHG := Lib.hid (fun (w' : World) (B : Nat) (v : Value) (h : OwnW w' B v (marks 1 ys.length)) => (show Calls Try.prog 18 #[v, .int .i64 1] w' (Count (1 + (ys.length : Int)) w') from held_ownW 1 ys.length h (by omega)))
  have hyl : (ys.length : Int) ≤ 1000000 := by omega
  have hnn : ((1 + ys.length : Nat) : Int) = 1 + (ys.length : Int) := by omega
  have HMG2 := Lib.hid (fun (w' : World) (B : Nat) (v : Value) (h : OwnW w' B v ts) => (show Calls Try.prog 17 #[v, .int .i64 (1 + (ys.length : Int))] w' (fun e w2 => e = .returned (.int .i64 (1 + (ys.length : Int) + (ts.length : Int))) ∧ OwnW w2 B v (marks (1 + ys.length) ts.length) ∧ w'.grownBy w2 v.ownBlock) from by
    have h2 := mark_ownW (1 + ys.length) h (by omega)
    unfold MarkedW at h2
    rw [hnn] at h2
    exact h2))
  have HHG2 := Lib.hid (fun (w' : World) (B : Nat) (v : Value) (h : OwnW w' B v (marks (1 + ys.length) ts.length)) => (show Calls Try.prog 18 #[v, .int .i64 (1 + (ys.length : Int))] w' (Count (1 + (ys.length : Int) + (ts.length : Int)) w') from by
    have h2 := held_ownW (1 + ys.length) ts.length h (by omega)
    rw [hnn] at h2
    exact h2))
  have hyl2 : (ts.length : Int) ≤ 1000000 := by omega
  clear hnn
  have hl3 : (len2 : Int) ≤ 1048576 := by omega
  have hkl : (xs.take len2).length ≤ 1048576 := by rw [List.length_take]; omega
  have HKL := Lib.hid hkl
  have HS := Lib.hid hS
  have HI := Lib.hid hI
  clear hS hI hm hr hl hmq hrq hlq hx hkl
  generalize xs.take len2 = ks at *
  generalize zs.take len' = ms at *
  generalize zq.take lenq = mq at *
  generalize (lens hs).sum = T at *
  generalize hs.length = N at *
  generalize (lens hq).sum = T2 at *
  generalize hq.length = M at *
  generalize ys.length = Y at *
  generalize ts.length = Y2 at *
  unfold lvV at HSZ HTO HMK
  unfold CopL lvV at HTO
  go_enter Try.func5, Try.ntmps5
  go_wp2_with fail
  have BZ := Blk.newAt w w.heap.size [.slice a N c, .slice a' len' c', .slice b M d, .slice b' lenq d', .int .i64 md] 27 rfl
  have hsz : (w.alloc (.cells #[.slice a N c, .slice a' len' c', .slice b M d, .slice b' lenq d', .int .i64 md] 27)).heap.size = w.heap.size + 1 := Array.size_push _
  have eL : (w.alloc (.cells #[.slice a N c, .slice a' len' c', .slice b M d, .slice b' lenq d', .int .i64 md] 27)) = w.alloc (.cells [.slice a N c, .slice a' len' c', .slice b M d, .slice b' lenq d', .int .i64 md].toArray 27) := rfl
  rw [eL] at b0 HSZ hsz ⊢
  clear eL
  generalize w.alloc (.cells [.slice a N c, .slice a' len' c', .slice b M d, .slice b' lenq d', .int .i64 md].toArray 27) = W0 at *
  have HZ := Lib.hid (fun (w' : World) (hb : Below W0.heap.size W0 w') => (show w'.cell? ⟨w.heap.size, 0, none⟩ = some (.slice a N c) ∧ w'.cell? ⟨w.heap.size, 1, none⟩ = some (.slice a' len' c') ∧ w'.cell? ⟨w.heap.size, 2, none⟩ = some (.slice b M d) ∧ w'.cell? ⟨w.heap.size, 3, none⟩ = some (.slice b' lenq d') ∧ w'.cell? ⟨w.heap.size, 4, none⟩ = some (.int .i64 md) from
    ⟨(BZ.below hb (by omega)).cell 0, (BZ.below hb (by omega)).cell 1, (BZ.below hb (by omega)).cell 2, (BZ.below hb (by omega)).cell 3, (BZ.below hb (by omega)).cell 4⟩))
  clear BZ
  refine HSZ.out.mono ?_; rintro e w1 ⟨rfl, b1⟩
  obtain ⟨z0, z1, z2, z3, z4⟩ := HZ.out w1 b1
  have B1 := Lib.hid (bt b0 b1)
  have B01 := Lib.hid b1
  clear b1
  go_wp2_with fail
  refine (HTO.out w1 B1.out).mono ?_; rintro e w2 ⟨p1, n1, q1, p1', n1', q1', p2, n2, q2, p2', n2', q2', U2, rfl, o1, o2, b2, _⟩
  have B2 := Lib.hid (bt B1.out b2)
  have B02 := Lib.hid (bt B01.out b2)
  clear b2 B1 B01
  go_wp2_with fail
  refine (HT2.out w2 B2.out).mono ?_; rintro e w2' ⟨u1, rfl, p1_, b2⟩
  have o1' := o1.below b2 (Nat.le_refl _)
  have o2' := o2.below b2 (Nat.le_refl _)
  have B2' := Lib.hid (bt B2.out b2)
  have B02' := Lib.hid (bt B02.out b2)
  clear b2 B2 B02 o1 o2
  go_wp2_with fail
  refine (HS.out w2' _ _ _ _ p1 n1 q1 p1' n1' q1' p2 n2 q2 p2' n2' q2' _ u1 o1' o2' p1_).mono ?_; rintro e w3 ⟨vw, vw2, rfl, ow, ow2, _, b3⟩
  have B3 := Lib.hid (bt B2'.out b3)
  have B03 := Lib.hid (bt B02'.out b3)
  have HOW := Lib.hid (fun (w' : World) (hb : Below w3.heap.size w3 w') => OwnW.below ow hb (Nat.le_refl _))
  clear ow
  have HOW2 := Lib.hid (fun (w' : World) (hb : Below w3.heap.size w3 w') => OwnW.below ow2 hb (Nat.le_refl _))
  clear ow2
  clear o1' o2' p1_ b3 z0 z1 z2 z3 z4 B2' B02'
  obtain ⟨z0, z1, z2, z3, z4⟩ := HZ.out w3 B03.out
  go_wp2_with fail
  refine (HTO.out w3 B3.out).mono ?_; rintro e w4 ⟨xa, xn, xc, xa', xn', xc', xb, xm, xd, xb', xm', xd', UX, rfl, ox, oy, b4, s4, s4'⟩
  have B34 := Lib.hid b4
  clear b4 z0 z1 z2 z3 z4
  go_wp2_with fail
  have BX := Blk.newAt w4 w4.heap.size [.slice xa xn xc, .slice xa' xn' xc', .slice xb xm xd, .slice xb' xm' xd', .int .i64 md] 32 rfl
  have b5 := (Below.refl w4.heap.size w4).alloc (Nat.le_refl _) (.cells [.slice xa xn xc, .slice xa' xn' xc', .slice xb xm xd, .slice xb' xm' xd', .int .i64 md].toArray 32)
  have ox5 : OwnP (w4.alloc (.cells [.slice xa xn xc, .slice xa' xn' xc', .slice xb xm xd, .slice xb' xm' xd', .int .i64 md].toArray 32)) (w3.heap.size + 6) UX (.agg #[.slice xa xn xc, .slice xa' xn' xc']) hs ms := ox.below b5 (Nat.le_refl _)
  have oy5 : OwnP (w4.alloc (.cells [.slice xa xn xc, .slice xa' xn' xc', .slice xb xm xd, .slice xb' xm' xd', .int .i64 md].toArray 32)) UX w4.heap.size (.agg #[.slice xb xm xd, .slice xb' xm' xd']) hq mq := oy.below b5 (Nat.le_refl _)
  have B35 := Lib.hid (bt B34.out b5)
  have s5 := b5.size
  have eL2 : (w4.alloc (.cells #[.slice xa xn xc, .slice xa' xn' xc', .slice xb xm xd, .slice xb' xm' xd', .int .i64 md] 32)) = w4.alloc (.cells [.slice xa xn xc, .slice xa' xn' xc', .slice xb xm xd, .slice xb' xm' xd', .int .i64 md].toArray 32) := rfl
  rw [eL2]
  clear eL2 ox oy b5 B34
  generalize w4.alloc (.cells [.slice xa xn xc, .slice xa' xn' xc', .slice xb xm xd, .slice xb' xm' xd', .int .i64 md].toArray 32) = W5 at *
  have HX := Lib.hid (fun (w' : World) (hb : Below W5.heap.size W5 w') => (show (w'.cell? ⟨w4.heap.size, 0, none⟩ = some (.slice xa xn xc) ∧ w'.cell? ⟨w4.heap.size, 1, none⟩ = some (.slice xa' xn' xc') ∧ w'.cell? ⟨w4.heap.size, 2, none⟩ = some (.slice xb xm xd) ∧ w'.cell? ⟨w4.heap.size, 3, none⟩ = some (.slice xb' xm' xd') ∧ w'.cell? ⟨w4.heap.size, 4, none⟩ = some (.int .i64 md) ∧ w'.cell? ⟨w.heap.size, 0, none⟩ = some (.slice a N c) ∧ w'.cell? ⟨w.heap.size, 1, none⟩ = some (.slice a' len' c') ∧ w'.cell? ⟨w.heap.size, 2, none⟩ = some (.slice b M d) ∧ w'.cell? ⟨w.heap.size, 3, none⟩ = some (.slice b' lenq d') ∧ w'.cell? ⟨w.heap.size, 4, none⟩ = some (.int .i64 md)) ∧
      (OwnP w' (w3.heap.size + 6) UX (.agg #[.slice xa xn xc, .slice xa' xn' xc']) hs ms ∧ OwnP w' UX w4.heap.size (.agg #[.slice xb xm xd, .slice xb' xm' xd']) hq mq) from
    ⟨⟨(BX.below hb BX.lt).cell 0, (BX.below hb BX.lt).cell 1, (BX.below hb BX.lt).cell 2, (BX.below hb BX.lt).cell 3, (BX.below hb BX.lt).cell 4, HZ.out w' (bt (bt B03.out B35.out) hb)⟩, ox5.below hb (Nat.le_refl _), oy5.below hb (Nat.le_refl _)⟩))
  have B5 := Lib.hid (bt B3.out B35.out)
  clear BX ox5 oy5
  refine (HT2.out W5 B5.out).mono ?_; rintro e w5' ⟨u5, rfl, p5, b5⟩
  obtain ⟨⟨x0, x1, x2, x3, x4, _⟩, ox5', oy5'⟩ := HX.out w5' b5
  have hpb := p5.block
  have s5' := b5.size
  go_wp2_with fail
  refine (HI.out w5' _ _ _ _ _ _ _ _ _ _ _ _ _ _ _ _ _ u5 ox5' oy5' p5).mono ?_; rintro e w6 ⟨vg, vg2, rfl, og, og2, hgg, b6⟩
  have hgb := og.block
  have hgb2 := og2.block
  have b56 := Lib.hid (bt b5 b6)
  have B36 := Lib.hid (bt B35.out (bt b5 b6))
  have P6 := Lib.hid (fun (w' : World) (hb : Below w6.heap.size w6 w') => (Own.below p5 b6 (Nat.le_refl _)).below hb (Nat.le_refl _))
  have s6 := b6.size
  clear x0 x1 x2 x3 x4 b5 b6 ox5' oy5' p5
  go_wp2_with fail
  refine (eqW_below og (HOW.out w6 B36.out)).mono ?_; rintro e w7a ⟨rfl, b7a⟩
  have ha := og2.below b7a (Nat.le_refl _)
  have B37a := bt B36.out b7a
  have s7a := b7a.size
  go_wp2_with fail
  refine (eqW_below ha (HOW2.out w7a B37a)).mono ?_; rintro e w7 ⟨rfl, b7b⟩
  have b7 := bt b7a b7b
  have b57 := Lib.hid (bt b56.out b7)
  have B37 := Lib.hid (bt B36.out b7)
  have OG := Lib.hid (fun (w' : World) (hb : Below w7.heap.size w7 w') => (OwnW.below og b7 (Nat.le_refl _)).below hb (Nat.le_refl _))
  have OG2 := Lib.hid (fun (w' : World) (hb : Below w7.heap.size w7 w') => (OwnW.below og2 b7 (Nat.le_refl _)).below hb (Nat.le_refl _))
  have P7 := Lib.hid (fun (w' : World) (hb : Below w7.heap.size w7 w') => P6.out w' (bt b7 hb))
  have s7 := b7.size
  clear og b7 b7a b56 B36 P6 og2 ha b7b B37a
  obtain ⟨⟨x0, x1, x2, x3, x4, z0, z1, z2, z3, z4⟩, _⟩ := HX.out w7 b57.out
  have HCT := Lib.hid (HTO.out w7.drew (bt B3.out B37.out).drew)
  have HEQ := Lib.hid (fun (w8 : World) (u : Option Addr) (un uc : Nat) (u' : Option Addr) (un' uc' : Nat) (v : Option Addr) (vn vc : Nat) (v' : Option Addr) (vn' vc' U7 : Nat) (b8 : Below w7.drew.heap.size w7.drew w8) (ou : OwnP w8 (w7.drew.heap.size + 6) U7 (.agg #[.slice u un uc, .slice u' un' uc']) hs ms) (ov : OwnP w8 U7 w8.heap.size (.agg #[.slice v vn vc, .slice v' vn' vc']) hq mq) => eqL_own (md := md) (HX.out w8 (bt b57.out (drewBB b8))).2.1 (HX.out w8 (bt b57.out (drewBB b8))).2.2 ou ov)
  unfold lvV at HEQ
  have HX8 := Lib.hid (fun (w8 : World) (b8 : Below w7.drew.heap.size w7.drew w8) => (HX.out w8 (bt b57.out (drewBB b8))).1)
  go_wp2
  go_region_held3 (fun w' => w'.cell? ⟨w4.heap.size, 0, none⟩ = some (.slice xa xn xc) ∧ w'.cell? ⟨w4.heap.size, 1, none⟩ = some (.slice xa' xn' xc') ∧ w'.cell? ⟨w4.heap.size, 2, none⟩ = some (.slice xb xm xd) ∧ w'.cell? ⟨w4.heap.size, 3, none⟩ = some (.slice xb' xm' xd') ∧ w'.cell? ⟨w4.heap.size, 4, none⟩ = some (.int .i64 md) ∧ w'.cell? ⟨w.heap.size, 0, none⟩ = some (.slice a N c) ∧ w'.cell? ⟨w.heap.size, 1, none⟩ = some (.slice a' len' c') ∧ w'.cell? ⟨w.heap.size, 2, none⟩ = some (.slice b M d) ∧ w'.cell? ⟨w.heap.size, 3, none⟩ = some (.slice b' lenq d') ∧ w'.cell? ⟨w.heap.size, 4, none⟩ = some (.int .i64 md)) (first | exact ⟨x0, x1, x2, x3, x4, z0, z1, z2, z3, z4⟩ | exact HX8.out _ (by assumption) | exact HX8.out _ (bt b8 b9)) (first | (go_at_call 9; (with_reducible refine HCT.out.mono ?_); rintro e w8 ⟨u, un, uc, u', un', uc', v, vn, vc, v', vn', vc', U7, rfl, ou, ov, b8, _⟩) | (go_at_call 11; (with_reducible refine (HEQ.out _ _ _ _ _ _ _ _ _ _ _ _ _ _ b8 ou ov).mono ?_); rintro e w9 ⟨rfl, b9⟩))
  have b79 : Below w7.heap.size w7 w9 := drewBB (bt b8 b9)
  have b59 := Lib.hid (bt b57.out b79)
  have B39 := Lib.hid (bt B37.out b79)
  have P9 := Lib.hid (P7.out w9 b79)
  have OG9 := Lib.hid (OG.out w9 b79)
  have OH9 := Lib.hid (OG2.out w9 b79)
  have s9 := b79.size
  clear b8 b9 b79 ou ov z0 z1 z2 z3 z4 x0 x1 x2 x3 x4 HCT HEQ HX8 B37 P7 OG OG2
  go_wp2_with fail
  refine (HT2.out w9 (bt B3.out B39.out)).mono ?_; rintro e wa ⟨u9, rfl, p9, ba⟩
  have Pa := Lib.hid (P9.out.below ba (Nat.le_refl _))
  have OGa := Lib.hid (OG9.out.below ba (Nat.le_refl _))
  have OHa := Lib.hid (OH9.out.below ba (Nat.le_refl _))
  have B3a := Lib.hid (bt B39.out ba)
  have b5a := Lib.hid (bt b59.out ba)
  have sa := ba.size
  clear ba P9 OG9 OH9
  go_wp2_with fail
  refine (eq_below Pa.out p9).mono ?_; rintro e wb ⟨rfl, bb⟩
  have Pb := Lib.hid (Pa.out.below bb (Nat.le_refl _))
  have OGb := Lib.hid (OGa.out.below bb (Nat.le_refl _))
  have OHb := Lib.hid (OHa.out.below bb (Nat.le_refl _))
  have B3b := Lib.hid (bt B3a.out bb)
  obtain ⟨⟨x0, x1, x2, x3, x4, _⟩, oxb, oyb⟩ := HX.out wb (bt b5a.out bb)
  have sb := bb.size
  have HMK9 := Lib.hid (HMK.out wb _ _ _ _ _ _ _ _ _ _ _ _ _ _ _ oxb oyb (by omega))
  clear bb p9 Pa OGa B3a b5a oxb oyb HX HMK b57 b59 B39 OHa
  go_wp2_with fail
  refine HMK9.out.mono ?_; rintro e wc ⟨kc, rfl, hkc, wrc⟩
  have sc := wrc.size
  have B3c := Lib.hid (wrc.belowT B3b.out (by omega) B3b.out.size)
  have Pc : OwnW wc W5.heap.size u5 ks := OwnW.wr Pb.out.weak wrc (U := wb.heap.size) (fun k hk => by have := hpb k hk; omega) (.inr (by omega))
  have OGc := OGb.out.wr wrc (U := wb.heap.size) (fun k hk => by have := hgb k hk; omega) (.inr (by omega))
  have OHc := OHb.out.wr wrc (U := wb.heap.size) (fun k hk => by have := hgb2 k hk; omega) (.inr (by omega))
  have hkc1 := hkc.1
  clear wrc OGb Pb HMK9 B3b x0 x1 x2 x3 x4 OHb
  go_wp2_with fail
  refine (mark_intW kc hkc.1 hkc.2 Pc HKL.out).mono ?_; rintro e wd ⟨kd, rfl, hkd, gd⟩
  have sd := gd.size
  have B3d := Lib.hid (show Below w3.heap.size w3 wd from B3c.out.grown gd B3c.out.size (fun k hk => by have := (hpb k hk).1; omega))
  have OGd := OGc.kept gd (fun k hk h => by have h1 := (hgb k hk).1; have h2 := (hpb k h.symm).2; omega)
  have OHd := OHc.kept gd (fun k hk h => by have h1 := (hgb2 k hk).1; have h2 := (hpb k h.symm).2; omega)
  have hkd0 : ¬ kd < 0 := by omega
  clear OGc gd B3c Pc OHc
  go_wp2_with fail
  refine (eqW_below OGd (HOW.out wd B3d.out)).mono ?_; rintro e we1 ⟨rfl, be1⟩
  have B3e1 := Lib.hid (bt B3d.out be1)
  have OGe1 := OGd.below be1 (Nat.le_refl _)
  have se1 := be1.size
  have OHe1 := OHd.below be1 (Nat.le_refl _)
  clear OGd OHd be1 B3d
  go_wp2_with fail
  refine (eqW_below OHe1 (HOW2.out we1 B3e1.out)).mono ?_; rintro e w11 ⟨rfl, b11⟩
  have B311 := Lib.hid (bt B3e1.out b11)
  have og11 := OGe1.below b11 (Nat.le_refl _)
  have oh11 := OHe1.below b11 (Nat.le_refl _)
  have s11 := b11.size
  clear OGe1 OHe1 b11 B3e1
  go_wp2_with fail
  refine (HMG.out w11 _ vg og11).mono ?_; rintro e w12a ⟨rfl, oma, gma⟩
  have B312a : Below w3.heap.size w3 w12a := B311.out.grown gma B311.out.size (fun k hk => by have := (hgb k hk).1; omega)
  have oh12 := oh11.kept gma (fun k hk h => hgg k hk h.symm)
  have s12a := gma.size
  clear og11 oh11 gma B311
  go_wp2_with fail
  refine (HMG2.out w12a _ vg2 oh12).mono ?_; rintro e w12 ⟨rfl, om2, gm2⟩
  have B312 : Below w3.heap.size w3 w12 := B312a.grown gm2 B312a.size (fun k hk => by have := (hgb2 k hk).1; omega)
  have om := oma.kept gm2 (fun k hk h => hgg k h.symm hk)
  have s12 := gm2.size
  have BH12 := Lib.hid B312
  clear oma oh12 gm2 B312 B312a
  go_wp2_with fail
  refine (HHG.out w12 _ vg om).mono ?_; rintro e w13 ⟨rfl, rfl⟩
  have hq1 : ¬ (1 + (Y : Int)) < 0 := by omega
  go_wp2_with fail
  refine (HHG2.out w12 _ vg2 om2).mono ?_; rintro e w13 ⟨rfl, rfl⟩
  have hq2 : ¬ (1 + (Y : Int) + (Y2 : Int)) < 0 := by omega
  obtain ⟨z0, z1, z2, z3, z4⟩ := HZ.out w12 (bt B03.out BH12.out)
  go_wp2_with fail
  refine (HTO.out w12 (bt B3.out BH12.out)).mono ?_; rintro e w14 ⟨p3, n3, q3, p3', n3', q3', p4, n4, q4, p4', n4', q4', U4, rfl, o14, o15, b14, _⟩
  have om14 := om.below b14 (Nat.le_refl _)
  have on14 := om2.below b14 (Nat.le_refl _)
  have B314 := Lib.hid (bt BH12.out b14)
  clear om b14 BH12 z0 z1 z2 z3 z4 om2
  go_wp2_with fail
  refine (HT2.out w14 (bt B3.out B314.out)).mono ?_; rintro e we ⟨ue, rfl, pe, be⟩
  have ome := om14.below be (Nat.le_refl _)
  have one := on14.below be (Nat.le_refl _)
  have oe := o14.below be (Nat.le_refl _)
  have of := o15.below be (Nat.le_refl _)
  have B3e := Lib.hid (bt B314.out be)
  clear om14 o14 o15 be B314 on14
  go_wp2_with fail
  refine (HI.out we _ _ _ _ _ _ _ _ _ _ _ _ _ _ _ _ _ ue oe of pe).mono ?_; rintro e w15 ⟨vh, vh2, rfl, oh, oh2, _, b15⟩
  have om15 := ome.below b15 (Nat.le_refl _)
  have on15 := one.below b15 (Nat.le_refl _)
  have B315 := Lib.hid (bt B3e.out b15)
  clear ome b15 B3e oe of pe one
  go_wp2_with fail
  refine (eqW_below oh (HOW.out w15 B315.out)).mono ?_; rintro e w16a ⟨rfl, b16a⟩
  have om16a := om15.below b16a (Nat.le_refl _)
  have on16a := on15.below b16a (Nat.le_refl _)
  have oh16 := oh2.below b16a (Nat.le_refl _)
  have B316a := Lib.hid (bt B315.out b16a)
  clear om15 on15 b16a B315 oh oh2
  go_wp2_with fail
  refine (eqW_below oh16 (HOW2.out w16a B316a.out)).mono ?_; rintro e w16 ⟨rfl, b16⟩
  have om16 := om16a.below b16 (Nat.le_refl _)
  have on16 := on16a.below b16 (Nat.le_refl _)
  have B316 := Lib.hid (bt B3.out (bt B316a.out b16))
  clear om16a on16a b16 B316a oh16
  go_wp2_with fail
  refine (HHG.out w16 _ vg om16).mono ?_; rintro e w17 ⟨rfl, rfl⟩
  go_wp2_with fail
  refine (HHG2.out w16 _ vg2 on16).mono ?_; rintro e w18 ⟨rfl, rfl⟩
  go_wp2
  go_ret
  exact ⟨rfl, B316.out⟩
theorem longX (y0 y1 y2 y3 y4 : Value) (a2 : Option Addr) (len2 c2 : Nat) (w : World) (hl2 : ¬ len2 ≤ 1048576) :
    Calls Try.prog 5 #[.agg #[y0, y1, y2, y3, y4], .slice a2 len2 c2] w fun e w' => e = .returned (.bool true) ∧ Below w.heap.size w w' := by
  have hl3 : (1048576 : Int) < len2 := by omega
  have b0 := (Below.refl w.heap.size w).alloc (Nat.le_refl _) (.cells #[y0, y1, y2, y3, y4] 27)
  clear hl2
  go_enter Try.func5, Try.ntmps5
  go_wp2
  go_ret
  exact ⟨rfl, b0⟩
theorem long1 (a a' b b' a2 : Option Addr) (c c' len' d d' lenq m len2 c2 : Nat) (hs : List (List Int)) (md : Int) (w : World) (hl2 : len2 ≤ 1048576) (hm : IsMatL w a hs) (hl' : len' ≤ 9223372036854775807) (hl : ¬ hs.length + (lens hs).sum + len' ≤ 1048576) :
    Calls Try.prog 5 #[.agg #[.slice a hs.length c, .slice a' len' c', .slice b m d, .slice b' lenq d', .int .i64 md], .slice a2 len2 c2] w fun e w' => e = .returned (.bool true) ∧ Below w.heap.size w w' := by
  have b0 := (Below.refl w.heap.size w).alloc (Nat.le_refl _) (.cells #[.slice a hs.length c, .slice a' len' c', .slice b m d, .slice b' lenq d', .int .i64 md] 27)
  have HSZ := Lib.hid (szL_no1 a a' b b' c c' len' d d' lenq m hs md _ (hm.below b0) hl' hl)
  have hl3 : (len2 : Int) ≤ 1048576 := by omega
  unfold lvV at HSZ
  clear hm hl
  generalize hs.length = N at *
  go_enter Try.func5, Try.ntmps5
  go_wp2_with fail
  refine HSZ.out.mono ?_; rintro e w1 ⟨rfl, b1⟩
  have B1 := Lib.hid (bt b0 b1)
  clear b0 b1
  go_wp2
  go_ret
  exact ⟨rfl, B1.out⟩
theorem long2 (a a' b b' a2 : Option Addr) (c c' len' d d' lenq len2 c2 : Nat) (hs hq : List (List Int)) (md : Int) (w : World) (hl2 : len2 ≤ 1048576) (hm : IsMatL w a hs) (hmq : IsMatL w b hq) (h : hs.length + (lens hs).sum + len' ≤ 1048576) (hl' : lenq ≤ 9223372036854775807) (hlq : ¬ (hq.length : Int) + ((lens hq).sum : Nat) + (lenq : Int) ≤ 1048576 - hs.length - ((lens hs).sum : Nat) - len') :
    Calls Try.prog 5 #[.agg #[.slice a hs.length c, .slice a' len' c', .slice b hq.length d, .slice b' lenq d', .int .i64 md], .slice a2 len2 c2] w fun e w' => e = .returned (.bool true) ∧ Below w.heap.size w w' := by
  have b0 := (Below.refl w.heap.size w).alloc (Nat.le_refl _) (.cells #[.slice a hs.length c, .slice a' len' c', .slice b hq.length d, .slice b' lenq d', .int .i64 md] 27)
  have HSZ := Lib.hid (szL_no2 a a' b b' c c' len' d d' lenq hs hq md _ (hm.below b0) (hmq.below b0) h hl' hlq)
  have hl3 : (len2 : Int) ≤ 1048576 := by omega
  unfold lvV at HSZ
  clear hm hmq h hlq
  generalize hs.length = N at *
  generalize hq.length = M at *
  go_enter Try.func5, Try.ntmps5
  go_wp2_with fail
  refine HSZ.out.mono ?_; rintro e w1 ⟨rfl, b1⟩
  have B1 := Lib.hid (bt b0 b1)
  clear b0 b1
  go_wp2
  go_ret
  exact ⟨rfl, B1.out⟩
theorem row_max {k : IntKind} {w : World} {a : Option Addr} {len cap : Nat} {zs : List Int} (h : IsRow k w a len cap zs) : len ≤ 9223372036854775807 := by
  rcases h with ⟨_, h1, _⟩ | ⟨x, rfl, h1, h2, _⟩
  · omega
  · unfold maxLen at h2; omega
theorem mat_short {hs : List (List Int)} {n : Nat} (hl : hs.length + (lens hs).sum + n ≤ 1048576) : ∀ i, i < hs.length → (hs.getD i []).length ≤ 1048576 := fun i hi => by
  have h1 := lens_get hs i hi
  have h2 := sum_step (lens hs) i (by rw [lens_length]; exact hi)
  have h3 := sum_take_le (lens hs) (i + 1)
  omega
theorem walk (a : Option Addr) (len cap : Nat) (a' : Option Addr) (len' cap' : Nat) (zs' : List Int) (b : Option Addr) (lem cam : Nat) (b' : Option Addr) (lem' cam' : Nat) (zq : List Int) (md : Int) (a2 : Option Addr) (len2 cap2 : Nat) (xs : List Int) (w : World) (w0 : IsMat w a len) (u0 : IsRow .i64 w a' len' cap' zs') (x0 : IsMat w b lem) (t0 : IsRow .i64 w b' lem' cam' zq) (_ : (Lit.int .i64 md).wf = true) (w1 : IsRow .i64 w a2 len2 cap2 xs) :
    Calls Try.prog 5 #[.agg #[.slice a len cap, .slice a' len' cap', .slice b lem cam, .slice b' lem' cam', .int .i64 md], .slice a2 len2 cap2] w fun e w' => e = .returned (.bool true) ∧ Below w.heap.size w w' := by
  obtain ⟨hs, rfl, hm⟩ := w0.list
  obtain ⟨hq, rfl, hmq⟩ := x0.list
  have hl' := row_max u0
  have hl2' := row_max t0
  by_cases hl2 : len2 ≤ 1048576
  · by_cases hl : hs.length + (lens hs).sum + len' ≤ 1048576
    · by_cases hlq : (hq.length : Int) + ((lens hq).sum : Nat) + (lem' : Int) ≤ 1048576 - hs.length - ((lens hs).sum : Nat) - len'
      · have hms : (zs'.take len').length ≤ 1048576 := by rw [List.length_take]; omega
        have hmq' : (zq.take lem').length ≤ 1048576 := by rw [List.length_take]; omega
        have hks : (xs.take len2).length ≤ 1048576 := by rw [List.length_take]; omega
        have hxs := mat_short hl
        have hxq := mat_short (hs := hq) (n := lem') (by omega)
        refine core a a' b b' a2 cap cap' len' cam cam' lem' len2 cap2 hs hq zs' zq xs md (lvL1 hs hq (zs'.take len') (zq.take lem') md (xs.take len2)) (lvL2 hs hq (zs'.take len') (zq.take lem') md (xs.take len2)) (lvO hs hq (zs'.take len') (zq.take lem') md (xs.take len2)) (lvL1_len _ _ _ _ _ _) (lvL2_len _ _ _ _ _ _) w w1 hl2 hm u0 hl hmq t0 hlq
          (fun w' B T C U p n q p' n' q' r1 m s r1' m' s' B2 v2 h k h2 => ?_) (fun w' B T C U p n q p' n' q' r1 m s r1' m' s' B2 v2 h k h2 => ?_)
        · obtain ⟨A, C9, rfl, e1, e2, hr⟩ := h2.rd
          exact LevelContents_s (RdP.of h (by omega) hxs hms) (RdP.of k (by omega) hxq hmq') hr hks
        · obtain ⟨A, C9, rfl, e1, e2, hr⟩ := h2.rd
          exact LevelContents_i (RdP.of h (by omega) hxs hms) (RdP.of k (by omega) hxq hmq') hr hks
      · exact long2 a a' b b' a2 cap cap' len' cam cam' lem' len2 cap2 hs hq md w hl2 hm hmq hl hl2' hlq
    · exact long1 a a' b b' a2 cap cap' len' cam cam' lem' hq.length len2 cap2 hs md w hl2 hm hl' hl
  · exact longX _ _ _ _ _ a2 len2 cap2 w hl2
end Go.Proofs.Ytimfekedpgllhaa.fnExactLevelContents
