/- The walk of laws.FnExactValidProtocol: the call returns true and writes nothing that was there. -/
import Derived.Test.YtmmjdmgnmlhjeaaCptx
namespace Go.Proofs.Ytmmjdmgnmlhjeaa.fnExactValidProtocol
open Go.RowKit Pt
theorem drewBB {w w' : World} {B : Nat} (h : Below B w.drew w') : Below B w w' := (Below.refl _ w).drew.trans h
set_option maxHeartbeats 4000000 in
set_option maxRecDepth 100000 in
theorem core (a0 a1 a2 a3 a4 : Option Addr) (c0 c1 c2 c3 c4 : Nat) (xs0 : List Ru.R) (xs1 : List Ru.R) (xs2 : List Ru.R) (xs3 : List Ru.R) (xs4 : List Ru.R) (b : Bool) (w : World) (h0 : Ru.RdR w a0 xs0) (h1 : Ru.RdR w a1 xs1) (h2 : Ru.RdR w a2 xs2) (h3 : Ru.RdR w a3 xs3) (h4 : Ru.RdR w a4 xs4) (hl : xs0.length + xs1.length + xs2.length + xs3.length + xs4.length ≤ 1048576)
    (hS : ∀ w' v, RdX w' v xs0 xs1 xs2 xs3 xs4 → Calls Try.prog 17 #[v] w' (BbX b w'))
    (hI : ∀ w' v, RdX w' v xs0 xs1 xs2 xs3 xs4 → Calls Try.prog 19 #[v] w' (BbX b w')) :
    Calls Try.prog 5 #[.agg #[.slice a0 xs0.length c0, .slice a1 xs1.length c1, .slice a2 xs2.length c2, .slice a3 xs3.length c3, .slice a4 xs4.length c4]] w fun e w' => e = .returned (.bool true) ∧ Below w.heap.size w w' := by
  have b0 := (Below.refl w.heap.size w).alloc (Nat.le_refl _) (.cells #[.slice a0 xs0.length c0, .slice a1 xs1.length c1, .slice a2 xs2.length c2, .slice a3 xs3.length c3, .slice a4 xs4.length c4] 31)
  have HSZ := Lib.hid (szX_yes a0 a1 a2 a3 a4 c0 c1 c2 c3 c4 (xs0.length) (xs1.length) (xs2.length) (xs3.length) (xs4.length) (w.alloc (.cells #[.slice a0 xs0.length c0, .slice a1 xs1.length c1, .slice a2 xs2.length c2, .slice a3 xs3.length c3, .slice a4 xs4.length c4] 31)) hl)
  have hz0 : ¬ ((1048576 : Int) - ((xs0.length + xs1.length + xs2.length + xs3.length + xs4.length : Nat) : Int)) < 0 := by omega
  have HTO := Lib.hid (fun (w' : World) (hb : Below w.heap.size w w') => toX_any a0 a1 a2 a3 a4 c0 c1 c2 c3 c4 xs0 xs1 xs2 xs3 xs4 w' (Ru.RdR.below h0 hb) (Ru.RdR.below h1 hb) (Ru.RdR.below h2 hb) (Ru.RdR.below h3 hb) (Ru.RdR.below h4 hb) hl)
  have HS := Lib.hid hS
  have HI := Lib.hid hI
  have hlr : xs0.length + xs1.length + xs2.length + xs3.length + xs4.length ≤ 1048576 := by omega
  have HEQ := Lib.hid (fun (w' : World) (v1 v2 : Value) (o1 : RdX w' v1 xs0 xs1 xs2 xs3 xs4) (o2 : RdX w' v2 xs0 xs1 xs2 xs3 xs4) => eqX_rd hlr o1 o2)
  have HF := Lib.hid (fun (w' : World) (B T : Nat) (v : Value) (o : OwnX w' B T v xs0 xs1 xs2 xs3 xs4) => o.form)
  clear hS hI h0 h1 h2 h3 h4
  generalize 1048576 - ((xs0.length + xs1.length + xs2.length + xs3.length + xs4.length : Nat) : Int) = ZZ at *
  clear hl hlr
  generalize xs0.length = N0 at *
  generalize xs1.length = N1 at *
  generalize xs2.length = N2 at *
  generalize xs3.length = N3 at *
  generalize xs4.length = N4 at *
  go_enter Try.func5, Try.ntmps5
  go_wp2_with fail
  have BZ := Blk.newAt w w.heap.size [.slice a0 N0 c0, .slice a1 N1 c1, .slice a2 N2 c2, .slice a3 N3 c3, .slice a4 N4 c4] 31 rfl
  have hsz : (w.alloc (.cells #[.slice a0 N0 c0, .slice a1 N1 c1, .slice a2 N2 c2, .slice a3 N3 c3, .slice a4 N4 c4] 31)).heap.size = w.heap.size + 1 := Array.size_push _
  have eL : (w.alloc (.cells #[.slice a0 N0 c0, .slice a1 N1 c1, .slice a2 N2 c2, .slice a3 N3 c3, .slice a4 N4 c4] 31)) = w.alloc (.cells [.slice a0 N0 c0, .slice a1 N1 c1, .slice a2 N2 c2, .slice a3 N3 c3, .slice a4 N4 c4].toArray 31) := rfl
  rw [eL] at b0 HSZ hsz ⊢
  clear eL
  generalize w.alloc (.cells [.slice a0 N0 c0, .slice a1 N1 c1, .slice a2 N2 c2, .slice a3 N3 c3, .slice a4 N4 c4].toArray 31) = W0 at *
  have HZ := Lib.hid (fun (w' : World) (hb : Below W0.heap.size W0 w') => (show w'.cell? ⟨w.heap.size, 0, none⟩ = some (.slice a0 N0 c0) ∧ w'.cell? ⟨w.heap.size, 1, none⟩ = some (.slice a1 N1 c1) ∧ w'.cell? ⟨w.heap.size, 2, none⟩ = some (.slice a2 N2 c2) ∧ w'.cell? ⟨w.heap.size, 3, none⟩ = some (.slice a3 N3 c3) ∧ w'.cell? ⟨w.heap.size, 4, none⟩ = some (.slice a4 N4 c4) from by
    have k := BZ.below hb (by omega)
    exact ⟨k.cell 0, k.cell 1, k.cell 2, k.cell 3, k.cell 4⟩))
  clear BZ
  refine HSZ.out.mono ?_; rintro e w1 ⟨rfl, b1⟩
  obtain ⟨z0, z1, z2, z3, z4⟩ := HZ.out w1 b1
  have B1 := Lib.hid (bt b0 b1)
  have B01 := Lib.hid b1
  clear b1
  go_wp2_with fail
  refine (HTO.out w1 B1.out).mono ?_; rintro e w2 ⟨v2, rfl, o1, b2⟩
  have r1 := Lib.hid o1.rd
  obtain ⟨p0, q0, p1, q1, p2, q2, p3, q3, p4, q4, fv⟩ := HF.out _ _ _ _ o1
  subst fv
  go_wp2_with fail
  refine (HS.out w2 _ r1.out).mono ?_; rintro e w3 ⟨rfl, b3⟩
  have B3 := Lib.hid (bt (bt B1.out b2) b3)
  have B03 := Lib.hid (bt (bt B01.out b2) b3)
  clear o1 r1 b2 b3 z0 z1 z2 z3 z4 B1 B01
  obtain ⟨z0, z1, z2, z3, z4⟩ := HZ.out w3 B03.out
  go_wp2_with fail
  refine (HTO.out w3 B3.out).mono ?_; rintro e w4 ⟨v4, rfl, ox, b4⟩
  obtain ⟨x0, y0, x1, y1, x2, y2, x3, y3, x4, y4, fv⟩ := HF.out _ _ _ _ ox
  subst fv
  have B4 := Lib.hid (bt B3.out b4)
  have B04 := Lib.hid (bt B03.out b4)
  clear b4 z0 z1 z2 z3 z4 B3 B03
  have OX := Lib.hid ox
  clear ox
  go_wp2_with fail
  have BX := Blk.newAt w4 w4.heap.size [.slice x0 N0 y0, .slice x1 N1 y1, .slice x2 N2 y2, .slice x3 N3 y3, .slice x4 N4 y4] 24 rfl
  have b5 := (Below.refl w4.heap.size w4).alloc (Nat.le_refl _) (.cells [.slice x0 N0 y0, .slice x1 N1 y1, .slice x2 N2 y2, .slice x3 N3 y3, .slice x4 N4 y4].toArray 24)
  have ox5 := OwnX.below OX.out b5 (Nat.le_refl _)
  have B5 := Lib.hid (bt B4.out b5)
  have B05 := Lib.hid (bt B04.out b5)
  have eL2 : (w4.alloc (.cells #[.slice x0 N0 y0, .slice x1 N1 y1, .slice x2 N2 y2, .slice x3 N3 y3, .slice x4 N4 y4] 24)) = w4.alloc (.cells [.slice x0 N0 y0, .slice x1 N1 y1, .slice x2 N2 y2, .slice x3 N3 y3, .slice x4 N4 y4].toArray 24) := rfl
  rw [eL2]
  clear eL2 OX b5 B4 B04
  generalize w4.alloc (.cells [.slice x0 N0 y0, .slice x1 N1 y1, .slice x2 N2 y2, .slice x3 N3 y3, .slice x4 N4 y4].toArray 24) = W5 at *
  have HX := Lib.hid (fun (w' : World) (hb : Below W5.heap.size W5 w') => (show (w'.cell? ⟨w4.heap.size, 0, none⟩ = some (.slice x0 N0 y0) ∧ w'.cell? ⟨w4.heap.size, 1, none⟩ = some (.slice x1 N1 y1) ∧ w'.cell? ⟨w4.heap.size, 2, none⟩ = some (.slice x2 N2 y2) ∧ w'.cell? ⟨w4.heap.size, 3, none⟩ = some (.slice x3 N3 y3) ∧ w'.cell? ⟨w4.heap.size, 4, none⟩ = some (.slice x4 N4 y4) ∧ w'.cell? ⟨w.heap.size, 0, none⟩ = some (.slice a0 N0 c0) ∧ w'.cell? ⟨w.heap.size, 1, none⟩ = some (.slice a1 N1 c1) ∧ w'.cell? ⟨w.heap.size, 2, none⟩ = some (.slice a2 N2 c2) ∧ w'.cell? ⟨w.heap.size, 3, none⟩ = some (.slice a3 N3 c3) ∧ w'.cell? ⟨w.heap.size, 4, none⟩ = some (.slice a4 N4 c4)) from by
    have k := BX.below hb BX.lt
    obtain ⟨z0, z1, z2, z3, z4⟩ := HZ.out w' (bt B05.out hb)
    exact ⟨k.cell 0, k.cell 1, k.cell 2, k.cell 3, k.cell 4, z0, z1, z2, z3, z4⟩))
  have HO := Lib.hid (fun (w' : World) (hb : Below W5.heap.size W5 w') => OwnX.below ox5 hb (Nat.le_refl _))
  have HI5 := Lib.hid (HI.out W5 _ ox5.rd)
  clear BX ox5 HZ HI
  refine HI5.out.mono ?_; rintro e w6 ⟨rfl, b6⟩
  have B6 := Lib.hid (bt B5.out b6)
  have b56 := Lib.hid b6
  obtain ⟨t0, t1, t2, t3, t4, z0, z1, z2, z3, z4⟩ := HX.out w6 b6
  have HCT := Lib.hid (HTO.out w6.drew B6.out.drew)
  have HE := Lib.hid (fun (w7 : World) (v7 : Value) (b7 : Below w6.drew.heap.size w6.drew w7) (ou : OwnX w7 w6.drew.heap.size w7.heap.size v7 xs0 xs1 xs2 xs3 xs4) => HEQ.out w7 _ v7 (HO.out w7 (bt b56.out (drewBB b7))).rd ou.rd)
  have HX7 := Lib.hid (fun (w7 : World) (b7 : Below w6.drew.heap.size w6.drew w7) => HX.out w7 (bt b56.out (drewBB b7)))
  clear b6 HX HTO HS HI5 HSZ B05 B5 HO HEQ
  go_wp2
  go_region_held3 (fun w' => w'.cell? ⟨w4.heap.size, 0, none⟩ = some (.slice x0 N0 y0) ∧ w'.cell? ⟨w4.heap.size, 1, none⟩ = some (.slice x1 N1 y1) ∧ w'.cell? ⟨w4.heap.size, 2, none⟩ = some (.slice x2 N2 y2) ∧ w'.cell? ⟨w4.heap.size, 3, none⟩ = some (.slice x3 N3 y3) ∧ w'.cell? ⟨w4.heap.size, 4, none⟩ = some (.slice x4 N4 y4) ∧ w'.cell? ⟨w.heap.size, 0, none⟩ = some (.slice a0 N0 c0) ∧ w'.cell? ⟨w.heap.size, 1, none⟩ = some (.slice a1 N1 c1) ∧ w'.cell? ⟨w.heap.size, 2, none⟩ = some (.slice a2 N2 c2) ∧ w'.cell? ⟨w.heap.size, 3, none⟩ = some (.slice a3 N3 c3) ∧ w'.cell? ⟨w.heap.size, 4, none⟩ = some (.slice a4 N4 c4)) (first | exact ⟨t0, t1, t2, t3, t4, z0, z1, z2, z3, z4⟩ | exact HX7.out _ (by assumption) | exact HX7.out _ (bt b7 b8)) (first | (go_at_call 18; (with_reducible refine HCT.out.mono ?_); rintro e w7 ⟨v7, rfl, ou, b7⟩; obtain ⟨r0, s0, r1, s1, r2, s2, r3, s3, r4, s4, fv⟩ := HF.out _ _ _ _ ou; subst fv) | (go_at_call 11; (with_reducible refine (HE.out _ _ b7 ou).mono ?_); rintro e w8 ⟨rfl, b8⟩))
  all_goals
    have HBE := Lib.hid (bt B6.out (drewBB (bt b7 b8)))
    clear b7 b8
    go_wp2
    go_ret
    exact ⟨rfl, HBE.out⟩
theorem long (a0 a1 a2 a3 a4 : Option Addr) (c0 c1 c2 c3 c4 : Nat) (xs0 : List Ru.R) (xs1 : List Ru.R) (xs2 : List Ru.R) (xs3 : List Ru.R) (xs4 : List Ru.R) (w : World) (g0 : xs0.length ≤ 9223372036854775807) (g1 : xs1.length ≤ 9223372036854775807) (g2 : xs2.length ≤ 9223372036854775807) (g3 : xs3.length ≤ 9223372036854775807) (g4 : xs4.length ≤ 9223372036854775807) (hl : ¬ xs0.length + xs1.length + xs2.length + xs3.length + xs4.length ≤ 1048576) :
    Calls Try.prog 5 #[.agg #[.slice a0 xs0.length c0, .slice a1 xs1.length c1, .slice a2 xs2.length c2, .slice a3 xs3.length c3, .slice a4 xs4.length c4]] w fun e w' => e = .returned (.bool true) ∧ Below w.heap.size w w' := by
  have b0 := (Below.refl w.heap.size w).alloc (Nat.le_refl _) (.cells #[.slice a0 xs0.length c0, .slice a1 xs1.length c1, .slice a2 xs2.length c2, .slice a3 xs3.length c3, .slice a4 xs4.length c4] 31)
  have HSZ := Lib.hid (szX_no a0 a1 a2 a3 a4 c0 c1 c2 c3 c4 (xs0.length) (xs1.length) (xs2.length) (xs3.length) (xs4.length) (w.alloc (.cells #[.slice a0 xs0.length c0, .slice a1 xs1.length c1, .slice a2 xs2.length c2, .slice a3 xs3.length c3, .slice a4 xs4.length c4] 31)) g0 g1 g2 g3 g4 hl)
  clear hl g0 g1 g2 g3 g4
  generalize xs0.length = N0 at *
  generalize xs1.length = N1 at *
  generalize xs2.length = N2 at *
  generalize xs3.length = N3 at *
  generalize xs4.length = N4 at *
  go_enter Try.func5, Try.ntmps5
  go_wp2_with fail
  refine HSZ.out.mono ?_; rintro e w1 ⟨rfl, b1⟩
  have B1 := Lib.hid (bt b0 b1)
  clear b0 b1
  go_wp2
  go_ret
  exact ⟨rfl, B1.out⟩
theorem walk (a0 : Option Addr) (c0 : Nat) (xs0 : List Ru.R) (a1 : Option Addr) (c1 : Nat) (xs1 : List Ru.R) (a2 : Option Addr) (c2 : Nat) (xs2 : List Ru.R) (a3 : Option Addr) (c3 : Nat) (xs3 : List Ru.R) (a4 : Option Addr) (c4 : Nat) (xs4 : List Ru.R) (w : World) (h0 : Ru.RdR w a0 xs0) (g0 : xs0.length ≤ 9223372036854775807) (h1 : Ru.RdR w a1 xs1) (g1 : xs1.length ≤ 9223372036854775807) (h2 : Ru.RdR w a2 xs2) (g2 : xs2.length ≤ 9223372036854775807) (h3 : Ru.RdR w a3 xs3) (g3 : xs3.length ≤ 9223372036854775807) (h4 : Ru.RdR w a4 xs4) (g4 : xs4.length ≤ 9223372036854775807) :
    Calls Try.prog 5 #[.agg #[.slice a0 xs0.length c0, .slice a1 xs1.length c1, .slice a2 xs2.length c2, .slice a3 xs3.length c3, .slice a4 xs4.length c4]] w fun e w' => e = .returned (.bool true) ∧ Below w.heap.size w w' := by
  by_cases hl : xs0.length + xs1.length + xs2.length + xs3.length + xs4.length ≤ 1048576
  · skip
    have hb : (@decide (okX xs0 xs1 xs2 xs3 xs4) (Classical.propDecidable _)) = true ↔ okX xs0 xs1 xs2 xs3 xs4 := @decide_eq_true_iff _ (Classical.propDecidable _)
    exact core a0 a1 a2 a3 a4 c0 c1 c2 c3 c4 xs0 xs1 xs2 xs3 xs4 _ w h0 h1 h2 h3 h4 hl (fun w' v h => valid_s _ hb h (by omega)) (fun w' v h => valid_i _ hb h (by omega))
  · exact long a0 a1 a2 a3 a4 c0 c1 c2 c3 c4 xs0 xs1 xs2 xs3 xs4 w g0 g1 g2 g3 g4 hl
end Go.Proofs.Ytmmjdmgnmlhjeaa.fnExactValidProtocol
