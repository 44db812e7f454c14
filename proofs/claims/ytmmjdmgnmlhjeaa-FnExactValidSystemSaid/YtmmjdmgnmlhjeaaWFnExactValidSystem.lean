/- The walk of laws.FnExactValidSystem: the call returns true and writes nothing that was there. -/
import Derived.Test.YtmmjdmgnmlhjeaaCsyx
namespace Go.Proofs.Ytmmjdmgnmlhjeaa.fnExactValidSystem
open Go.RowKit Sy
theorem drewBB {w w' : World} {B : Nat} (h : Below B w.drew w') : Below B w w' := (Below.refl _ w).drew.trans h
set_option maxHeartbeats 4000000 in
set_option maxRecDepth 100000 in
theorem core (a0 a1 : Option Addr) (c0 c1 : Nat) (n0 : Nat) (zs0 : List Int) (xs1 : List Bo.R) (m2 : Bool) (b : Bool) (w : World) (h0 : IsRow .i64 w a0 n0 c0 zs0) (h1 : Bo.RdR w a1 xs1) (hl : n0 + xs1.length ≤ 1048576)
    (hS : ∀ w' v, RdX w' v (zs0.take n0) xs1 m2 → Calls Try.prog 24 #[v] w' (BbX b w'))
    (hI : ∀ w' v, RdX w' v (zs0.take n0) xs1 m2 → Calls Try.prog 26 #[v] w' (BbX b w')) :
    Calls Try.prog 7 #[.agg #[.slice a0 n0 c0, .slice a1 xs1.length c1, .bool m2]] w fun e w' => e = .returned (.bool true) ∧ Below w.heap.size w w' := by
  have b0 := (Below.refl w.heap.size w).alloc (Nat.le_refl _) (.cells #[.slice a0 n0 c0, .slice a1 xs1.length c1, .bool m2] 46)
  have HSZ := Lib.hid (szX_yes a0 a1 c0 c1 n0 (xs1.length) m2 (w.alloc (.cells #[.slice a0 n0 c0, .slice a1 xs1.length c1, .bool m2] 46)) hl)
  have hz0 : ¬ ((1048576 : Int) - ((n0 + xs1.length : Nat) : Int)) < 0 := by omega
  have HTO := Lib.hid (fun (w' : World) (hb : Below w.heap.size w w') => toX_any a0 a1 c0 c1 n0 zs0 xs1 m2 w' (isRow_below h0 hb) (Bo.RdR.below h1 hb) hl)
  have HS := Lib.hid hS
  have HI := Lib.hid hI
  have hlt0 : (zs0.take n0).length ≤ n0 := by rw [List.length_take]; omega
  have hlr : (zs0.take n0).length + xs1.length ≤ 1048576 := by omega
  have HEQ := Lib.hid (fun (w' : World) (v1 v2 : Value) (B1 T1 B2 T2 : Nat) (o1 : OwnX w' B1 T1 v1 (zs0.take n0) xs1 m2) (o2 : OwnX w' B2 T2 v2 (zs0.take n0) xs1 m2) => eqX_rd hlr o1 o2)
  have HF := Lib.hid (fun (w' : World) (B T : Nat) (v : Value) (o : OwnX w' B T v (zs0.take n0) xs1 m2) => o.form)
  clear hS hI h0 h1
  generalize hxs0 : zs0.take n0 = xs0 at *
  clear hxs0
  generalize 1048576 - ((n0 + xs1.length : Nat) : Int) = ZZ at *
  clear hl hlr hlt0
  generalize xs1.length = N1 at *
  generalize xs0.length = N0 at *
  go_enter Try.func7, Try.ntmps7
  go_wp2_with fail
  have BZ := Blk.newAt w w.heap.size [.slice a0 n0 c0, .slice a1 N1 c1, .bool m2] 46 rfl
  have hsz : (w.alloc (.cells #[.slice a0 n0 c0, .slice a1 N1 c1, .bool m2] 46)).heap.size = w.heap.size + 1 := Array.size_push _
  have eL : (w.alloc (.cells #[.slice a0 n0 c0, .slice a1 N1 c1, .bool m2] 46)) = w.alloc (.cells [.slice a0 n0 c0, .slice a1 N1 c1, .bool m2].toArray 46) := rfl
  rw [eL] at b0 HSZ hsz ⊢
  clear eL
  generalize w.alloc (.cells [.slice a0 n0 c0, .slice a1 N1 c1, .bool m2].toArray 46) = W0 at *
  have HZ := Lib.hid (fun (w' : World) (hb : Below W0.heap.size W0 w') => (show w'.cell? ⟨w.heap.size, 0, none⟩ = some (.slice a0 n0 c0) ∧ w'.cell? ⟨w.heap.size, 1, none⟩ = some (.slice a1 N1 c1) ∧ w'.cell? ⟨w.heap.size, 2, none⟩ = some (.bool m2) from by
    have k := BZ.below hb (by omega)
    exact ⟨k.cell 0, k.cell 1, k.cell 2⟩))
  clear BZ
  refine HSZ.out.mono ?_; rintro e w1 ⟨rfl, b1⟩
  obtain ⟨z0, z1, z2⟩ := HZ.out w1 b1
  have B1 := Lib.hid (bt b0 b1)
  have B01 := Lib.hid b1
  clear b1
  go_wp2_with fail
  refine (HTO.out w1 B1.out).mono ?_; rintro e w2 ⟨v2, rfl, o1, b2⟩
  have r1 := Lib.hid o1.rd
  obtain ⟨p0, q0, p1, q1, fv⟩ := HF.out _ _ _ _ o1
  subst fv
  go_wp2_with fail
  refine (HS.out w2 _ r1.out).mono ?_; rintro e w3 ⟨rfl, b3⟩
  have B3 := Lib.hid (bt (bt B1.out b2) b3)
  have B03 := Lib.hid (bt (bt B01.out b2) b3)
  clear o1 r1 b2 b3 z0 z1 z2 B1 B01
  obtain ⟨z0, z1, z2⟩ := HZ.out w3 B03.out
  go_wp2_with fail
  refine (HTO.out w3 B3.out).mono ?_; rintro e w4 ⟨v4, rfl, ox, b4⟩
  obtain ⟨x0, y0, x1, y1, fv⟩ := HF.out _ _ _ _ ox
  subst fv
  have B4 := Lib.hid (bt B3.out b4)
  have B04 := Lib.hid (bt B03.out b4)
  clear b4 z0 z1 z2 B3 B03
  have OX := Lib.hid ox
  clear ox
  go_wp2_with fail
  have BX := Blk.newAt w4 w4.heap.size [.slice x0 N0 y0, .slice x1 N1 y1, .bool m2] 49 rfl
  have b5 := (Below.refl w4.heap.size w4).alloc (Nat.le_refl _) (.cells [.slice x0 N0 y0, .slice x1 N1 y1, .bool m2].toArray 49)
  have ox5 := OwnX.below OX.out b5 (Nat.le_refl _)
  have B5 := Lib.hid (bt B4.out b5)
  have B05 := Lib.hid (bt B04.out b5)
  have eL2 : (w4.alloc (.cells #[.slice x0 N0 y0, .slice x1 N1 y1, .bool m2] 49)) = w4.alloc (.cells [.slice x0 N0 y0, .slice x1 N1 y1, .bool m2].toArray 49) := rfl
  rw [eL2]
  clear eL2 OX b5 B4 B04
  generalize w4.alloc (.cells [.slice x0 N0 y0, .slice x1 N1 y1, .bool m2].toArray 49) = W5 at *
  have HX := Lib.hid (fun (w' : World) (hb : Below W5.heap.size W5 w') => (show (w'.cell? ⟨w4.heap.size, 0, none⟩ = some (.slice x0 N0 y0) ∧ w'.cell? ⟨w4.heap.size, 1, none⟩ = some (.slice x1 N1 y1) ∧ w'.cell? ⟨w4.heap.size, 2, none⟩ = some (.bool m2) ∧ w'.cell? ⟨w.heap.size, 0, none⟩ = some (.slice a0 n0 c0) ∧ w'.cell? ⟨w.heap.size, 1, none⟩ = some (.slice a1 N1 c1) ∧ w'.cell? ⟨w.heap.size, 2, none⟩ = some (.bool m2)) from by
    have k := BX.below hb BX.lt
    obtain ⟨z0, z1, z2⟩ := HZ.out w' (bt B05.out hb)
    exact ⟨k.cell 0, k.cell 1, k.cell 2, z0, z1, z2⟩))
  have HO := Lib.hid (fun (w' : World) (hb : Below W5.heap.size W5 w') => OwnX.below ox5 hb (Nat.le_refl _))
  have HI5 := Lib.hid (HI.out W5 _ ox5.rd)
  clear BX ox5 HZ HI
  refine HI5.out.mono ?_; rintro e w6 ⟨rfl, b6⟩
  have B6 := Lib.hid (bt B5.out b6)
  have b56 := Lib.hid b6
  obtain ⟨t0, t1, t2, z0, z1, z2⟩ := HX.out w6 b6
  have HCT := Lib.hid (HTO.out w6.drew B6.out.drew)
  have HE := Lib.hid (fun (w7 : World) (v7 : Value) (b7 : Below w6.drew.heap.size w6.drew w7) (ou : OwnX w7 w6.drew.heap.size w7.heap.size v7 xs0 xs1 m2) => HEQ.out w7 _ v7 _ _ _ _ (HO.out w7 (bt b56.out (drewBB b7))) ou)
  have HX7 := Lib.hid (fun (w7 : World) (b7 : Below w6.drew.heap.size w6.drew w7) => HX.out w7 (bt b56.out (drewBB b7)))
  clear b6 HX HTO HS HI5 HSZ B05 B5 HO HEQ
  go_wp2
  go_region_held3 (fun w' => w'.cell? ⟨w4.heap.size, 0, none⟩ = some (.slice x0 N0 y0) ∧ w'.cell? ⟨w4.heap.size, 1, none⟩ = some (.slice x1 N1 y1) ∧ w'.cell? ⟨w4.heap.size, 2, none⟩ = some (.bool m2) ∧ w'.cell? ⟨w.heap.size, 0, none⟩ = some (.slice a0 n0 c0) ∧ w'.cell? ⟨w.heap.size, 1, none⟩ = some (.slice a1 N1 c1) ∧ w'.cell? ⟨w.heap.size, 2, none⟩ = some (.bool m2)) (first | exact ⟨t0, t1, t2, z0, z1, z2⟩ | exact HX7.out _ (by assumption) | exact HX7.out _ (bt b7 b8)) (first | (go_at_call 25; (with_reducible refine HCT.out.mono ?_); rintro e w7 ⟨v7, rfl, ou, b7⟩; obtain ⟨r0, s0, r1, s1, fv⟩ := HF.out _ _ _ _ ou; subst fv) | (go_at_call 27; (with_reducible refine (HE.out _ _ b7 ou).mono ?_); rintro e w8 ⟨rfl, b8⟩))
  all_goals
    have HBE := Lib.hid (bt B6.out (drewBB (bt b7 b8)))
    clear b7 b8
    go_wp2
    go_ret
    exact ⟨rfl, HBE.out⟩
theorem long (a0 a1 : Option Addr) (c0 c1 : Nat) (n0 : Nat) (zs0 : List Int) (xs1 : List Bo.R) (m2 : Bool) (w : World) (g0 : n0 ≤ 9223372036854775807) (g1 : xs1.length ≤ 9223372036854775807) (hl : ¬ n0 + xs1.length ≤ 1048576) :
    Calls Try.prog 7 #[.agg #[.slice a0 n0 c0, .slice a1 xs1.length c1, .bool m2]] w fun e w' => e = .returned (.bool true) ∧ Below w.heap.size w w' := by
  have b0 := (Below.refl w.heap.size w).alloc (Nat.le_refl _) (.cells #[.slice a0 n0 c0, .slice a1 xs1.length c1, .bool m2] 46)
  have HSZ := Lib.hid (szX_no a0 a1 c0 c1 n0 (xs1.length) m2 (w.alloc (.cells #[.slice a0 n0 c0, .slice a1 xs1.length c1, .bool m2] 46)) g0 g1 hl)
  clear hl g0 g1
  generalize xs1.length = N1 at *
  go_enter Try.func7, Try.ntmps7
  go_wp2_with fail
  refine HSZ.out.mono ?_; rintro e w1 ⟨rfl, b1⟩
  have B1 := Lib.hid (bt b0 b1)
  clear b0 b1
  go_wp2
  go_ret
  exact ⟨rfl, B1.out⟩
theorem walk (a0 : Option Addr) (n0 c0 : Nat) (zs0 : List Int) (a1 : Option Addr) (c1 : Nat) (xs1 : List Bo.R) (m2 : Bool) (w : World) (h0 : IsRow .i64 w a0 n0 c0 zs0) (h1 : Bo.RdR w a1 xs1) (g1 : xs1.length ≤ 9223372036854775807) :
    Calls Try.prog 7 #[.agg #[.slice a0 n0 c0, .slice a1 xs1.length c1, .bool m2]] w fun e w' => e = .returned (.bool true) ∧ Below w.heap.size w w' := by
  have g0 : n0 ≤ 9223372036854775807 := by
    rcases h0 with ⟨_, h1, _⟩ | ⟨x, rfl, h1, h2, _⟩
    · omega
    · unfold maxLen at h2; omega
  by_cases hl : n0 + xs1.length ≤ 1048576
  · have hlt0 : (zs0.take n0).length ≤ n0 := by rw [List.length_take]; omega
    have hb : (@decide (okX (zs0.take n0) xs1 m2) (Classical.propDecidable _)) = true ↔ okX (zs0.take n0) xs1 m2 := @decide_eq_true_iff _ (Classical.propDecidable _)
    exact core a0 a1 c0 c1 n0 zs0 xs1 m2 _ w h0 h1 hl (fun w' v h => valid_s _ hb h (by omega)) (fun w' v h => valid_i _ hb h (by omega))
  · exact long a0 a1 c0 c1 n0 zs0 xs1 m2 w g0 g1 hl
end Go.Proofs.Ytmmjdmgnmlhjeaa.fnExactValidSystem
