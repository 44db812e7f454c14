/- The walk of laws.FnExactNestTrace: the call returns true and writes nothing that was there. -/
import Derived.Test.YtefhjgcgkbpnkaaCnestV
import Derived.Deep.RegionHeld3
namespace Go.Proofs.Ytefhjgcgkbpnkaa.fnExactNestTrace
open Go.RowKit Tr Ac Nst
theorem drewBB {w w' : World} {B : Nat} (h : Below B w.drew w') : Below B w w' := (Below.refl _ w).drew.trans h
set_option maxHeartbeats 8000000 in
theorem core (kind base : Int) (a a' : Option Addr) (n n' cap cap' : Nat) (zs zs' : List Int) (rs : List (Int × Int)) (ok : Bool) (hrs : rs.length ≤ 1000000) (w : World) (hr : IsRow .i64 w a n cap zs) (hr' : IsRow .i64 w a' n' cap' zs') (hl : n + n' ≤ 1048576)
    (hS : ∀ w' v, RdN w' v kind base (zs.take n) (zs'.take n') → Calls Try.prog 6 #[v] w' (ResN rs ok w'))
    (hI : ∀ w' v, RdN w' v kind base (zs.take n) (zs'.take n') → Calls Try.prog 8 #[v] w' (ResN rs ok w')) :
    Calls Try.prog 3 #[.agg #[.int .i64 kind, .int .i64 base, .slice a n cap, .slice a' n' cap']] w fun e w' => e = .returned (.bool true) ∧ Below w.heap.size w w' := by
  have b0 := (Below.refl w.heap.size w).alloc (Nat.le_refl _) (.cells #[.int .i64 kind, .int .i64 base, .slice a n cap, .slice a' n' cap'] 24)
  have HSZ := Lib.hid (fun w9 => szN kind base a a' n n' cap cap' w9 hl)
  have hz0 : ¬ ((1048576 : Int) - (n : Int) - (n' : Int)) < 0 := by omega
  have HTO := Lib.hid (fun (w' : World) (hb : Below w.heap.size w w') => tonest_any kind base a a' n n' cap cap' zs zs' w' (isRow_below hr hb) (isRow_below hr' hb) (by omega) (by omega))
  have HRD := Lib.hid (fun (w' : World) (B T : Nat) (v : Value) (h : OwnN w' B T v kind base (zs.take n) (zs'.take n')) => h.rd (by rw [List.length_take]; omega) (by rw [List.length_take]; omega))
  have HMK := Lib.hid (fun (w' : World) (B T : Nat) (v : Value) (h : OwnN w' B T v kind base (zs.take n) (zs'.take n')) (hB : B ≤ w'.heap.size) (hT : T ≤ w'.heap.size) => markN h (by rw [List.length_take]; omega) (by rw [List.length_take]; omega) hB hT)
  have HER := Lib.hid (fun (w' : World) (B1 B2 : Nat) (v1 v2 : Value) (h1 : OwnA w' B1 v1 rs) (h2 : OwnA w' B2 v2 rs) => (show Calls Try.prog 9 #[v1, v2] w' (BbA true w') by
    obtain ⟨a1, c1, rfl, r1⟩ := h1.row
    obtain ⟨a2, c2, rfl, r2⟩ := h2.row
    exact eq_any a1 a2 c1 c2 rs w' (by omega) r1 r2))
  have HMR := Lib.hid (fun (w' : World) (B : Nat) (v : Value) (h : OwnA w' B v rs) => Ac.markG 1 (by omega) (by omega) h (by omega))
  have HHR := Lib.hid (fun (w' : World) (B : Nat) (v : Value) (h : OwnA w' B v (mkG 1 rs.length)) => Ac.held_own h (by omega))
  have hr0 : ¬ (1 + 2 * (rs.length : Int)) < 0 := by omega
  have hrl : (rs.length : Int) ≤ 1000000 := by omega
  have HS := Lib.hid hS
  have HI := Lib.hid hI
  clear hS hI hr hr' hl
  generalize zs.take n = cs at *
  generalize zs'.take n' = ss at *
  generalize rs.length = R at *
  go_enter Try.func3, Try.ntmps3
  go_wp2_with fail
  have BZ := Bk.new w w.heap.size [.int .i64 kind, .int .i64 base, .slice a n cap, .slice a' n' cap'] 24 rfl
  have hsz : (w.alloc (.cells #[.int .i64 kind, .int .i64 base, .slice a n cap, .slice a' n' cap'] 24)).heap.size = w.heap.size + 1 := Array.size_push _
  have eL : (w.alloc (.cells #[.int .i64 kind, .int .i64 base, .slice a n cap, .slice a' n' cap'] 24)) = w.alloc (.cells [.int .i64 kind, .int .i64 base, .slice a n cap, .slice a' n' cap'].toArray 24) := rfl
  rw [eL] at b0 hsz ⊢
  clear eL
  generalize w.alloc (.cells [.int .i64 kind, .int .i64 base, .slice a n cap, .slice a' n' cap'].toArray 24) = W0 at *
  have HZ := Lib.hid (fun (w' : World) (hb : Below W0.heap.size W0 w') => (show w'.cell? ⟨w.heap.size, 0, none⟩ = some (.int .i64 kind) ∧ w'.cell? ⟨w.heap.size, 1, none⟩ = some (.int .i64 base) ∧ w'.cell? ⟨w.heap.size, 2, none⟩ = some (.slice a n cap) ∧ w'.cell? ⟨w.heap.size, 3, none⟩ = some (.slice a' n' cap') from
    ⟨(BZ.below hb (by omega)).cell 0, (BZ.below hb (by omega)).cell 1, (BZ.below hb (by omega)).cell 2, (BZ.below hb (by omega)).cell 3⟩))
  clear BZ
  refine (HSZ.out W0).mono ?_; rintro e w1 ⟨rfl, b1⟩
  obtain ⟨z0, z1, z2, z3⟩ := HZ.out w1 b1
  have B1 := Lib.hid (bt b0 b1)
  have B01 := Lib.hid b1
  clear b1
  go_wp2_with fail
  refine (HTO.out w1 B1.out).mono ?_; rintro e w2 ⟨v1, rfl, o1, b2⟩
  go_wp2_with fail
  refine (HS.out w2 v1 (HRD.out w2 _ _ v1 o1)).mono ?_; rintro e w3 ⟨vw, rfl, ow, b3⟩
  have B3 := Lib.hid (bt (bt B1.out b2) b3)
  have B03 := Lib.hid (bt (bt B01.out b2) b3)
  have HOW := Lib.hid (fun (w' : World) (hb : Below w3.heap.size w3 w') => OwnA.below ow hb (Nat.le_refl _))
  clear o1 ow b2 b3 z0 z1 z2 z3 B1 B01
  obtain ⟨z0, z1, z2, z3⟩ := HZ.out w3 B03.out
  go_wp2_with fail
  refine (HTO.out w3 B3.out).mono ?_; rintro e w4 ⟨x0, rfl, ox, b4⟩
  have B34 := Lib.hid b4
  have s34 := b4.size
  obtain ⟨xu, xu', rfl, oxu, oxu', oxd⟩ := ox
  obtain ⟨xa, xc, rfl⟩ := oxu.form
  obtain ⟨xa', xc', rfl⟩ := oxu'.form
  have ox : OwnN w4 w3.heap.size w4.heap.size (.agg #[.int .i64 kind, .int .i64 base, .slice xa cs.length xc, .slice xa' ss.length xc']) kind base cs ss := ⟨_, _, rfl, oxu, oxu', oxd⟩
  clear b4 z0 z1 z2 z3 oxu oxu' oxd
  generalize cs.length = xn at *
  generalize ss.length = xn' at *
  go_wp2_with fail
  have BX := Bk.new w4 w4.heap.size [.int .i64 kind, .int .i64 base, .slice xa xn xc, .slice xa' xn' xc'] 29 rfl
  have b5 := (Below.refl w4.heap.size w4).alloc (Nat.le_refl _) (.cells [.int .i64 kind, .int .i64 base, .slice xa xn xc, .slice xa' xn' xc'].toArray 29)
  have ox5 := ox.below b5 (Nat.le_refl _)
  have B35 := Lib.hid (bt B34.out b5)
  have s5 := b5.size
  have eL2 : (w4.alloc (.cells #[.int .i64 kind, .int .i64 base, .slice xa xn xc, .slice xa' xn' xc'] 29)) = w4.alloc (.cells [.int .i64 kind, .int .i64 base, .slice xa xn xc, .slice xa' xn' xc'].toArray 29) := rfl
  rw [eL2]
  clear eL2 ox b5 B34
  generalize w4.alloc (.cells [.int .i64 kind, .int .i64 base, .slice xa xn xc, .slice xa' xn' xc'].toArray 29) = W5 at *
  have HX := Lib.hid (fun (w' : World) (hb : Below W5.heap.size W5 w') => (show (w'.cell? ⟨w4.heap.size, 0, none⟩ = some (.int .i64 kind) ∧ w'.cell? ⟨w4.heap.size, 1, none⟩ = some (.int .i64 base) ∧ w'.cell? ⟨w4.heap.size, 2, none⟩ = some (.slice xa xn xc) ∧ w'.cell? ⟨w4.heap.size, 3, none⟩ = some (.slice xa' xn' xc') ∧
      w'.cell? ⟨w.heap.size, 0, none⟩ = some (.int .i64 kind) ∧ w'.cell? ⟨w.heap.size, 1, none⟩ = some (.int .i64 base) ∧ w'.cell? ⟨w.heap.size, 2, none⟩ = some (.slice a n cap) ∧ w'.cell? ⟨w.heap.size, 3, none⟩ = some (.slice a' n' cap')) ∧
      OwnN w' w3.heap.size w4.heap.size (.agg #[.int .i64 kind, .int .i64 base, .slice xa xn xc, .slice xa' xn' xc']) kind base cs ss from
    ⟨⟨(BX.below hb BX.lt).cell 0, (BX.below hb BX.lt).cell 1, (BX.below hb BX.lt).cell 2, (BX.below hb BX.lt).cell 3, HZ.out w' (bt (bt B03.out B35.out) hb)⟩, ox5.below hb (Nat.le_refl _)⟩))
  have HI5 := Lib.hid (HI.out W5 _ (HRD.out W5 _ _ _ ox5))
  clear BX ox5
  refine HI5.out.mono ?_; rintro e w6 ⟨vg, rfl, og, b6⟩
  have hgb := og.block
  have b56 := Lib.hid b6
  have B36 := Lib.hid (bt B35.out b6)
  have s6 := b6.size
  clear b6
  go_wp2_with fail
  refine (HER.out w6 _ _ vg vw og (HOW.out w6 B36.out)).mono ?_; rintro e w7 ⟨rfl, b7⟩
  have b57 := Lib.hid (bt b56.out b7)
  have B37 := Lib.hid (bt B36.out b7)
  have OG := Lib.hid (fun (w' : World) (hb : Below w7.heap.size w7 w') => OwnA.below (OwnA.below og b7 (Nat.le_refl _)) hb (Nat.le_refl _))
  have s7 := b7.size
  clear og b7 b56 B36 HI5
  obtain ⟨⟨x0, x1, x2, x3, z0, z1, z2, z3⟩, _⟩ := HX.out w7 b57.out
  have HCT := Lib.hid (HTO.out w7.drew (bt B3.out B37.out).drew)
  have HEQ := Lib.hid (fun (w8 : World) (u : Value) (b8 : Below w7.drew.heap.size w7.drew w8) (ou : OwnN w8 w7.drew.heap.size w8.heap.size u kind base cs ss) => eqN (HX.out w8 (bt b57.out (drewBB b8))).2 ou)
  have HX8 := Lib.hid (fun (w8 : World) (b8 : Below w7.drew.heap.size w7.drew w8) => (HX.out w8 (bt b57.out (drewBB b8))).1)
  go_wp2
  go_region_held3 (fun w' => w'.cell? ⟨w4.heap.size, 0, none⟩ = some (.int .i64 kind) ∧ w'.cell? ⟨w4.heap.size, 1, none⟩ = some (.int .i64 base) ∧ w'.cell? ⟨w4.heap.size, 2, none⟩ = some (.slice xa xn xc) ∧ w'.cell? ⟨w4.heap.size, 3, none⟩ = some (.slice xa' xn' xc') ∧ w'.cell? ⟨w.heap.size, 0, none⟩ = some (.int .i64 kind) ∧ w'.cell? ⟨w.heap.size, 1, none⟩ = some (.int .i64 base) ∧ w'.cell? ⟨w.heap.size, 2, none⟩ = some (.slice a n cap) ∧ w'.cell? ⟨w.heap.size, 3, none⟩ = some (.slice a' n' cap')) (first | exact ⟨x0, x1, x2, x3, z0, z1, z2, z3⟩ | exact HX8.out _ (by assumption) | exact HX8.out _ (bt b8 b9)) (first | (go_at_call 7; (with_reducible refine HCT.out.mono ?_); rintro e w8 ⟨u, rfl, ou, b8⟩) | (go_at_call 10; (with_reducible refine (HEQ.out _ _ b8 ou).mono ?_); rintro e w9 ⟨rfl, b9⟩))
  have b79 : Below w7.heap.size w7 w9 := drewBB (bt b8 b9)
  have b59 := Lib.hid (bt b57.out b79)
  have B39 := Lib.hid (bt B37.out b79)
  have OG9 := Lib.hid (OG.out w9 b79)
  have s9 := b79.size
  obtain ⟨⟨x0, x1, x2, x3, _, _, _, _⟩, ox9⟩ := HX.out w9 b59.out
  have HMK9 := Lib.hid (HMK.out w9 _ _ _ ox9 (by omega) (by omega))
  clear b8 b9 b79 ou ox9 z0 z1 z2 z3 HCT HEQ HX8 HX OG b57 B37 HMK
  go_wp2_with fail
  refine HMK9.out.mono ?_; rintro e w10 ⟨k10, rfl, hk10, b10, keep10⟩
  have s10 := b10.size
  have B310 := Lib.hid (B39.out.trans b10)
  have og10 : OwnA w10 W5.heap.size vg rs := by
    have h := OG9.out
    refine ⟨h.1, ?_⟩
    rcases h.2 with hn | ⟨g, cp, cur, hv, hg, hh, r⟩
    · exact .inl hn
    · exact .inr ⟨g, cp, cur, hv, hg, by rw [keep10 g (by omega) (Array.getElem?_eq_some_iff.1 hh).1]; exact hh, r⟩
  clear b10 keep10 OG9 HMK9 b59 B39
  go_wp2_with fail
  refine (HER.out w10 _ _ vg vw og10 (HOW.out w10 B310.out)).mono ?_; rintro e w11 ⟨rfl, b11⟩
  have b11 : Below w10.heap.size w10 w11 := b11
  have B311 := Lib.hid (bt B310.out b11)
  have og11 := OwnA.below og10 b11 (Nat.le_refl _)
  have s11 := b11.size
  clear og10 b11 B310
  go_wp2_with fail
  refine (HMR.out w11 _ vg og11).mono ?_; rintro e w12 ⟨rfl, om, gm⟩
  have B312 : Below w3.heap.size w3 w12 := B311.out.grown gm B311.out.size (fun k hk => by have := (hgb k hk).1; omega)
  have s12 := gm.size
  have BH12 := Lib.hid B312
  clear og11 gm B312 B311
  go_wp2_with fail
  refine (HHR.out w12 _ vg om).mono ?_; rintro e w13 ⟨rfl, rfl⟩
  obtain ⟨z0, z1, z2, z3⟩ := HZ.out w12 (bt B03.out BH12.out)
  go_wp2_with fail
  refine (HTO.out w12 (bt B3.out BH12.out)).mono ?_; rintro e w14 ⟨u14, rfl, o14, b14⟩
  have om14 := OwnA.below om b14 (Nat.le_refl _)
  have B314 := Lib.hid (bt BH12.out b14)
  have rd14 := HRD.out w14 _ _ u14 o14
  clear om b14 BH12 z0 z1 z2 z3 o14
  go_wp2_with fail
  refine (HI.out w14 u14 rd14).mono ?_; rintro e w15 ⟨vh, rfl, oh, b15⟩
  have om15 := OwnA.below om14 b15 (Nat.le_refl _)
  have B315 := Lib.hid (bt B314.out b15)
  clear om14 b15 B314 rd14
  go_wp2_with fail
  refine (HER.out w15 _ _ vh vw oh (HOW.out w15 B315.out)).mono ?_; rintro e w16 ⟨rfl, b16⟩
  have b16 : Below w15.heap.size w15 w16 := b16
  have om16 := OwnA.below om15 b16 (Nat.le_refl _)
  have B316 := Lib.hid (bt B3.out (bt B315.out b16))
  clear om15 b16 B315 oh
  go_wp2_with fail
  refine (HHR.out w16 _ vg om16).mono ?_; rintro e w17 ⟨rfl, rfl⟩
  go_wp2
  go_ret
  exact ⟨rfl, B316.out⟩
theorem long (kind base : Int) (a a' : Option Addr) (n n' cap cap' : Nat) (w : World) (hm : n ≤ 9223372036854775807) (hm' : n' ≤ 9223372036854775807) (hl : ¬ n + n' ≤ 1048576) :
    Calls Try.prog 3 #[.agg #[.int .i64 kind, .int .i64 base, .slice a n cap, .slice a' n' cap']] w fun e w' => e = .returned (.bool true) ∧ Below w.heap.size w w' := by
  have b0 := (Below.refl w.heap.size w).alloc (Nat.le_refl _) (.cells #[.int .i64 kind, .int .i64 base, .slice a n cap, .slice a' n' cap'] 24)
  have HSZ := Lib.hid (fun w9 => szN_no kind base a a' n n' cap cap' w9 hm hm' hl)
  clear hl
  go_enter Try.func3, Try.ntmps3
  go_wp2_with fail
  refine (HSZ.out _).mono ?_; rintro e w1 ⟨rfl, b1⟩
  have B1 := Lib.hid (bt b0 b1)
  clear b0 b1
  go_wp2
  go_ret
  exact ⟨rfl, B1.out⟩
theorem walk (kind base : Int) (a : Option Addr) (n cap : Nat) (zs : List Int) (a' : Option Addr) (n' cap' : Nat) (zs' : List Int) (w : World) (_k0 : (Lit.int .i64 kind).wf = true) (_k1 : (Lit.int .i64 base).wf = true) (w0 : IsRow .i64 w a n cap zs) (u0 : IsRow .i64 w a' n' cap' zs') :
    Calls Try.prog 3 #[.agg #[.int .i64 kind, .int .i64 base, .slice a n cap, .slice a' n' cap']] w fun e w' => e = .returned (.bool true) ∧ Below w.heap.size w w' := by
  by_cases hl : n + n' ≤ 1048576
  · refine core kind base a a' n n' cap cap' zs zs' (nestV kind base (zs.take n) (zs'.take n')) (nestY kind base (zs.take n) (zs'.take n')) ?_ w w0 u0 hl (fun w' v h => nest_s h) (fun w' v h => nest_i h)
    unfold nestV
    split
    · rename_i h
      rw [nestL_len]
      have := (many_yes h).2
      omega
    · simp
  · exact long kind base a a' n n' cap cap' w (w0.le).1 (u0.le).1 hl
end Go.Proofs.Ytefhjgcgkbpnkaa.fnExactNestTrace
