/- The walk of laws.FnExactSetMisses: the call returns true and writes nothing that was there. -/
import Derived.Test.YtbigielgkkijoaaCsmi
import Derived.Test.YtbigielgkkijoaaCto
import Derived.Test.YtbigielgkkijoaaCrd
import Derived.Deep.RegionHeld3
namespace Go.Proofs.Ytbigielgkkijoaa.fnExactSetMisses
open Go.RowKit Tr Ix
theorem drewBB {w w' : World} {B : Nat} (h : Below B w.drew w') : Below B w w' := (Below.refl _ w).drew.trans h
set_option maxHeartbeats 4000000 in
theorem core (a : Option Addr) (n cap : Nat) (zs : List Int) (p : Int) (b : Option Addr) (m d : Nat) (zu : List Int) (q : Int) (ok : Bool) (w : World) (hr : IsRow .i64 w a n cap zs) (hl : n ≤ 1048576) (hr2 : IsRow .i64 w b m d zu) (hl2 : m ≤ 1048576)
    (hS : ∀ w' v vu, RdX w' v (zs.take n) → Rd w' vu (zu.take m) → Calls Try.prog 6 #[v, .int .i64 p, vu] w' (IbX q ok w'))
    (hI : ∀ w' v vu, RdX w' v (zs.take n) → Rd w' vu (zu.take m) → Calls Try.prog 9 #[v, .int .i64 p, vu] w' (IbX q ok w')) :
    Calls Try.prog 3 #[.agg #[.slice a n cap], .int .i64 p, .slice b m d] w fun e w' => e = .returned (.bool true) ∧ Below w.heap.size w w' := by
  have b0 := (Below.refl w.heap.size w).alloc (Nat.le_refl _) (.cells #[.slice a n cap] 24)
  have HSZ := Lib.hid (fun w9 => szX a n cap w9 hl)
  have hz0 : ¬ ((1048576 : Int) - (n : Int)) < 0 := by omega
  have HTO := Lib.hid (fun (w' : World) (hb : Below w.heap.size w w') => toindex_any a n cap zs w' (isRow_below hr hb) hl)
  have HRD := Lib.hid (fun (w' : World) (B : Nat) (v : Value) (h : OwnX w' B v (zs.take n)) => h.rd (by rw [List.length_take]; omega))
  have HTU := Lib.hid (fun (w' : World) (hb : Below w.heap.size w w') => to_any b m d zu w' (isRow_below hr2 hb) hl2)
  have hm3 : (m : Int) ≤ 1048576 := by omega
  have HS := Lib.hid hS
  have HI := Lib.hid hI
  clear hS hI hr hl hr2 hl2
  generalize zs.take n = xs at *
  generalize zu.take m = ys at *
  go_enter Try.func3, Try.ntmps3
  go_wp2_with fail
  have BZ := Kb.new w w.heap.size [.slice a n cap] 24 rfl
  have hsz : (w.alloc (.cells #[.slice a n cap] 24)).heap.size = w.heap.size + 1 := Array.size_push _
  have eL : (w.alloc (.cells #[.slice a n cap] 24)) = w.alloc (.cells [.slice a n cap].toArray 24) := rfl
  rw [eL] at b0 hsz ⊢
  clear eL
  generalize w.alloc (.cells [.slice a n cap].toArray 24) = W0 at *
  have HZ := Lib.hid (fun (w' : World) (hb : Below W0.heap.size W0 w') => (show w'.cell? ⟨w.heap.size, 0, none⟩ = some (.slice a n cap) from (BZ.below hb (by omega)).cell 0))
  clear BZ
  refine (HSZ.out W0).mono ?_; rintro e w1 ⟨rfl, b1⟩
  have z0 := HZ.out w1 b1
  have B1 := Lib.hid (bt b0 b1)
  have B01 := Lib.hid b1
  clear b1
  go_wp2_with fail
  refine (HTO.out w1 B1.out).mono ?_; rintro e w2 ⟨v1, rfl, o1, b2⟩
  go_wp2_with fail
  refine (HTU.out w2 (bt B1.out b2)).mono ?_; rintro e wu ⟨vu, rfl, ou, bu⟩
  have o1u := o1.below bu (Nat.le_refl _)
  go_wp2_with fail
  refine (HS.out wu v1 vu (HRD.out wu _ v1 o1u) ou.rd).mono ?_; rintro e w3 ⟨rfl, b3⟩
  have B3 := Lib.hid (bt (bt (bt B1.out b2) bu) b3)
  have B03 := Lib.hid (bt (bt (bt B01.out b2) bu) b3)
  clear o1 o1u ou b2 bu b3 z0 B1 B01
  have z0 := HZ.out w3 B03.out
  go_wp2_with fail
  refine (HTO.out w3 B3.out).mono ?_; rintro e w4 ⟨x0, rfl, ox, b4⟩
  have B34 := Lib.hid b4
  have s34 := b4.size
  obtain ⟨xu, rfl, oxu⟩ := ox
  obtain ⟨xa, xc, rfl⟩ := oxu.formx
  have ox : OwnX w4 w3.heap.size (.agg #[.slice xa xs.length xc]) xs := ⟨_, rfl, oxu⟩
  clear b4 z0 oxu
  generalize xs.length = xn at *
  go_wp2_with fail
  have BX := Kb.new w4 w4.heap.size [.slice xa xn xc] 28 rfl
  have b5 := (Below.refl w4.heap.size w4).alloc (Nat.le_refl _) (.cells [.slice xa xn xc].toArray 28)
  have ox5 := ox.below b5 (Nat.le_refl _)
  have hx4 := ox.blockX
  have B35 := Lib.hid (bt B34.out b5)
  have s5 := b5.size
  have eL2 : (w4.alloc (.cells #[.slice xa xn xc] 28)) = w4.alloc (.cells [.slice xa xn xc].toArray 28) := rfl
  rw [eL2]
  clear eL2 ox b5 B34
  generalize w4.alloc (.cells [.slice xa xn xc].toArray 28) = W5 at *
  have HX := Lib.hid (fun (w' : World) (hb : Below W5.heap.size W5 w') => (show (w'.cell? ⟨w4.heap.size, 0, none⟩ = some (.slice xa xn xc) ∧ w'.cell? ⟨w.heap.size, 0, none⟩ = some (.slice a n cap)) ∧ OwnX w' w3.heap.size (.agg #[.slice xa xn xc]) xs from
    ⟨⟨(BX.below hb BX.lt).cell 0, HZ.out w' (bt (bt B03.out B35.out) hb)⟩, ox5.below hb (Nat.le_refl _)⟩))
  clear BX
  have HXB := Lib.hid hx4
  clear hx4
  go_wp2_with fail
  refine (HTU.out W5 (bt B3.out B35.out)).mono ?_; rintro e w6 ⟨x2, rfl, ol, b6⟩
  have ox6 := ox5.below b6 (Nat.le_refl _)
  obtain ⟨⟨x0, z0⟩, _⟩ := HX.out w6 b6
  have B56 := Lib.hid b6
  have B36 := Lib.hid (bt B35.out b6)
  have HI6 := Lib.hid (HI.out w6 _ x2 (HRD.out w6 _ _ ox6) ol.rd)
  have HXL := Lib.hid (fun (w' : World) (hb : Below w6.heap.size w6 w') => ol.below hb (Nat.le_refl _))
  clear b6 ox5 ox6 ol
  go_wp2_with fail
  refine HI6.out.mono ?_; rintro e w7 ⟨rfl, b7⟩
  have s7 := b7.size
  have B67 := Lib.hid b7
  have b57 := Lib.hid (bt B56.out b7)
  have B37 := Lib.hid (bt B36.out b7)
  clear b7 HI6 x0 z0
  obtain ⟨⟨x0, z0⟩, _⟩ := HX.out w7 b57.out
  have HCT := Lib.hid (HTO.out w7.drew (bt B3.out B37.out).drew)
  have HEQ := Lib.hid (fun (w8 : World) (u : Value) (b8 : Below w7.drew.heap.size w7.drew w8) (ou : OwnX w8 w7.drew.heap.size u xs) => eqX (HX.out w8 (bt b57.out (drewBB b8))).2 ou)
  have HX8 := Lib.hid (fun (w8 : World) (b8 : Below w7.drew.heap.size w7.drew w8) => (HX.out w8 (bt b57.out (drewBB b8))).1)
  go_wp2
  go_region_held3 (fun w' => w'.cell? ⟨w4.heap.size, 0, none⟩ = some (.slice xa xn xc) ∧ w'.cell? ⟨w.heap.size, 0, none⟩ = some (.slice a n cap)) (first | exact ⟨x0, z0⟩ | exact HX8.out _ (by assumption) | exact HX8.out _ (bt b8 b9)) (first | (go_at_call 7; (with_reducible refine HCT.out.mono ?_); rintro e w8 ⟨u, rfl, ou, b8⟩) | (go_at_call 10; (with_reducible refine (HEQ.out _ _ b8 ou).mono ?_); rintro e w9 ⟨rfl, b9⟩))
  have b79 : Below w7.heap.size w7 w9 := drewBB (bt b8 b9)
  have B39 := Lib.hid (bt B37.out b79)
  have B69 := Lib.hid (bt B67.out b79)
  clear b8 ou x0 z0 HCT HEQ HX8 HX b57 B37
  go_wp2_with fail
  refine (HTU.out w9 (bt B3.out B39.out)).mono ?_; rintro e w10 ⟨u2, rfl, o2, b10⟩
  have B310 := Lib.hid (bt B39.out b10)
  have ol10 := HXL.out w10 (bt B69.out b10)
  clear b10
  go_wp2_with fail
  refine (eq_below ol10 o2).mono ?_; rintro e w11 ⟨rfl, b11⟩
  have B311 := Lib.hid (bt B310.out b11)
  go_wp2
  go_ret
  exact ⟨rfl, bt B3.out B311.out⟩
theorem long (a : Option Addr) (n cap : Nat) (p : Int) (b : Option Addr) (m d : Nat) (w : World) (hm : n ≤ 9223372036854775807) (hl : ¬ n ≤ 1048576) (hl2 : m ≤ 1048576) :
    Calls Try.prog 3 #[.agg #[.slice a n cap], .int .i64 p, .slice b m d] w fun e w' => e = .returned (.bool true) ∧ Below w.heap.size w w' := by
  have b0 := (Below.refl w.heap.size w).alloc (Nat.le_refl _) (.cells #[.slice a n cap] 24)
  have HSZ := Lib.hid (fun w9 => szX_no a n cap w9 hm hl)
  have hm3 : (m : Int) ≤ 1048576 := by omega
  clear hl hl2
  go_enter Try.func3, Try.ntmps3
  go_wp2_with fail
  refine (HSZ.out _).mono ?_; rintro e w1 ⟨rfl, b1⟩
  have B1 := Lib.hid (bt b0 b1)
  clear b0 b1
  go_wp2
  go_ret
  exact ⟨rfl, B1.out⟩
theorem long2 (a : Option Addr) (n cap : Nat) (p : Int) (b : Option Addr) (m d : Nat) (w : World) (hl : ¬ m ≤ 1048576) :
    Calls Try.prog 3 #[.agg #[.slice a n cap], .int .i64 p, .slice b m d] w fun e w' => e = .returned (.bool true) ∧ Below w.heap.size w w' := by
  have b0 := (Below.refl w.heap.size w).alloc (Nat.le_refl _) (.cells #[.slice a n cap] 24)
  have B0 := Lib.hid b0
  have hm3 : (1048576 : Int) < m := by omega
  clear hl b0
  go_enter Try.func3, Try.ntmps3
  go_wp2
  go_ret
  exact ⟨rfl, B0.out⟩
theorem walk (a : Option Addr) (n cap : Nat) (zs : List Int) (p : Int) (b : Option Addr) (m d : Nat) (zu : List Int) (w : World) (w0 : IsRow .i64 w a n cap zs) (_w1 : (Lit.int .i64 p).wf = true) (w2 : IsRow .i64 w b m d zu) :
    Calls Try.prog 3 #[.agg #[.slice a n cap], .int .i64 p, .slice b m d] w fun e w' => e = .returned (.bool true) ∧ Below w.heap.size w w' := by
  by_cases hl2 : m ≤ 1048576
  · by_cases hl : n ≤ 1048576
    · have hx : (zu.take m).length ≤ 1048576 := by rw [List.length_take]; omega
      exact core a n cap zs p b m d zu (misV (zs.take n) p (zu.take m)) (okX (zs.take n) && (okPl p && okU (zu.take m))) w w0 hl w2 hl2 (fun w' v vu h hu => smis_s h hu hx p) (fun w' v vu h hu => smis_i h hu hx p)
    · exact long a n cap p b m d w (w0.le).1 hl hl2
  · exact long2 a n cap p b m d w hl2
end Go.Proofs.Ytbigielgkkijoaa.fnExactSetMisses
