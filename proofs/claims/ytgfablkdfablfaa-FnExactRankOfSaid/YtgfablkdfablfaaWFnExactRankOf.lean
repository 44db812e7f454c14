/- The walk of laws.FnExactRankOf: the call returns true and writes nothing that was there. -/
import Derived.Test.YtgfablkdfablfaaCixq
import Derived.Deep.RegionHeld3
namespace Go.Proofs.Ytgfablkdfablfaa.fnExactRankOf
open Go.RowKit Tr Ix
theorem drewBB {w w' : World} {B : Nat} (h : Below B w.drew w') : Below B w w' := (Below.refl _ w).drew.trans h
set_option maxHeartbeats 4000000 in
theorem core (a : Option Addr) (n cap : Nat) (zs : List Int) (q : Int) (ok : Bool) (w : World) (hr : IsRow .i64 w a n cap zs) (hl : n ≤ 1048576)
    (hS : ∀ w' v, RdX w' v (zs.take n) → Calls Try.prog 21 #[v] w' (IbX q ok w'))
    (hI : ∀ w' v, RdX w' v (zs.take n) → Calls Try.prog 22 #[v] w' (IbX q ok w')) :
    Calls Try.prog 6 #[.agg #[.slice a n cap]] w fun e w' => e = .returned (.bool true) ∧ Below w.heap.size w w' := by
  have b0 := (Below.refl w.heap.size w).alloc (Nat.le_refl _) (.cells #[.slice a n cap] 24)
  have HSZ := Lib.hid (fun w9 => szX a n cap w9 hl)
  have hz0 : ¬ ((1048576 : Int) - (n : Int)) < 0 := by omega
  have HTO := Lib.hid (fun (w' : World) (hb : Below w.heap.size w w') => toindex_any a n cap zs w' (isRow_below hr hb) hl)
  have HRD := Lib.hid (fun (w' : World) (B : Nat) (v : Value) (h : OwnX w' B v (zs.take n)) => h.rd (by rw [List.length_take]; omega))
  have HS := Lib.hid hS
  have HI := Lib.hid hI
  clear hS hI hr hl
  generalize zs.take n = xs at *
  go_enter Try.func6, Try.ntmps6
  go_wp2_with fail
  have BZ := Kb.new w w.heap.size [.slice a n cap] 24 rfl
  have hsz : (w.alloc (.cells #[.slice a n cap] 24)).heap.size = w.heap.size + 1 := Array.size_push _
  have eL : (w.alloc (.cells #[.slice a n cap] 24)) = w.alloc (.cells [.slice a n cap].toArray 24) := rfl
  rw [eL] at b0 hsz ⊢
  clear eL
  generalize w.alloc (.cells [.slice a n cap].toArray 24) = W0 at *
  have HZ := Lib.hid (fun (w' : World) (hb : Below W0.heap.size W0 w') => (show w'.cell? ⟨w.heap.size, 0, none⟩ = some (.slice a n cap) from (BZ.below hb (by omega)).cell 0))
  clear BZ
  refine (HSZ.out W0).mono ?_; rintro e w1 ⟨rfl, b1⟩
  have z0 := HZ.out w1 b1
  have B1 := Lib.hid (bt b0 b1)
  have B01 := Lib.hid b1
  clear b1
  go_wp2_with fail
  refine (HTO.out w1 B1.out).mono ?_; rintro e w2 ⟨v1, rfl, o1, b2⟩
  go_wp2_with fail
  refine (HS.out w2 v1 (HRD.out w2 _ v1 o1)).mono ?_; rintro e w3 ⟨rfl, b3⟩
  have B3 := Lib.hid (bt (bt B1.out b2) b3)
  have B03 := Lib.hid (bt (bt B01.out b2) b3)
  clear o1 b2 b3 z0 B1 B01
  have z0 := HZ.out w3 B03.out
  go_wp2_with fail
  refine (HTO.out w3 B3.out).mono ?_; rintro e w4 ⟨x0, rfl, ox, b4⟩
  have B34 := Lib.hid b4
  have s34 := b4.size
  obtain ⟨xu, rfl, oxu⟩ := ox
  obtain ⟨xa, xc, rfl⟩ := oxu.formx
  have ox : OwnX w4 w3.heap.size (.agg #[.slice xa xs.length xc]) xs := ⟨_, rfl, oxu⟩
  clear b4 z0 oxu
  generalize xs.length = xn at *
  go_wp2_with fail
  have BX := Kb.new w4 w4.heap.size [.slice xa xn xc] 27 rfl
  have b5 := (Below.refl w4.heap.size w4).alloc (Nat.le_refl _) (.cells [.slice xa xn xc].toArray 27)
  have ox5 := ox.below b5 (Nat.le_refl _)
  have hx4 := ox.blockX
  have B35 := Lib.hid (bt B34.out b5)
  have s5 := b5.size
  have eL2 : (w4.alloc (.cells #[.slice xa xn xc] 27)) = w4.alloc (.cells [.slice xa xn xc].toArray 27) := rfl
  rw [eL2]
  clear eL2 ox b5 B34
  generalize w4.alloc (.cells [.slice xa xn xc].toArray 27) = W5 at *
  have HX := Lib.hid (fun (w' : World) (hb : Below W5.heap.size W5 w') => (show (w'.cell? ⟨w4.heap.size, 0, none⟩ = some (.slice xa xn xc) ∧ w'.cell? ⟨w.heap.size, 0, none⟩ = some (.slice a n cap)) ∧ OwnX w' w3.heap.size (.agg #[.slice xa xn xc]) xs from
    ⟨⟨(BX.below hb BX.lt).cell 0, HZ.out w' (bt (bt B03.out B35.out) hb)⟩, ox5.below hb (Nat.le_refl _)⟩))
  have HI5 := Lib.hid (HI.out W5 _ (HRD.out W5 _ _ ox5))
  clear BX ox5
  have HXB := Lib.hid hx4
  clear hx4
  refine HI5.out.mono ?_; rintro e w7 ⟨rfl, b7⟩
  have s7 := b7.size
  have b57 := Lib.hid b7
  have B37 := Lib.hid (bt B35.out b7)
  clear b7 HI5
  obtain ⟨⟨x0, z0⟩, _⟩ := HX.out w7 b57.out
  have HCT := Lib.hid (HTO.out w7.drew (bt B3.out B37.out).drew)
  have HEQ := Lib.hid (fun (w8 : World) (u : Value) (b8 : Below w7.drew.heap.size w7.drew w8) (ou : OwnX w8 w7.drew.heap.size u xs) => eqX (HX.out w8 (bt b57.out (drewBB b8))).2 ou)
  have HX8 := Lib.hid (fun (w8 : World) (b8 : Below w7.drew.heap.size w7.drew w8) => (HX.out w8 (bt b57.out (drewBB b8))).1)
  go_wp2
  go_region_held3 (fun w' => w'.cell? ⟨w4.heap.size, 0, none⟩ = some (.slice xa xn xc) ∧ w'.cell? ⟨w.heap.size, 0, none⟩ = some (.slice a n cap)) (first | exact ⟨x0, z0⟩ | exact HX8.out _ (by assumption) | exact HX8.out _ (bt b8 b9)) (first | (go_at_call 10; (with_reducible refine HCT.out.mono ?_); rintro e w8 ⟨u, rfl, ou, b8⟩) | (go_at_call 12; (with_reducible refine (HEQ.out _ _ b8 ou).mono ?_); rintro e w9 ⟨rfl, b9⟩))
  have b79 : Below w7.heap.size w7 w9 := drewBB (bt b8 b9)
  have B39 := Lib.hid (bt B37.out b79)
  clear b8 ou x0 z0 HCT HEQ HX8 HX b57 B37
  go_wp2
  go_ret
  exact ⟨rfl, bt B3.out B39.out⟩
theorem long (a : Option Addr) (n cap : Nat) (w : World) (hm : n ≤ 9223372036854775807) (hl : ¬ n ≤ 1048576) :
    Calls Try.prog 6 #[.agg #[.slice a n cap]] w fun e w' => e = .returned (.bool true) ∧ Below w.heap.size w w' := by
  have b0 := (Below.refl w.heap.size w).alloc (Nat.le_refl _) (.cells #[.slice a n cap] 24)
  have HSZ := Lib.hid (fun w9 => szX_no a n cap w9 hm hl)
  clear hl
  go_enter Try.func6, Try.ntmps6
  go_wp2_with fail
  refine (HSZ.out _).mono ?_; rintro e w1 ⟨rfl, b1⟩
  have B1 := Lib.hid (bt b0 b1)
  clear b0 b1
  go_wp2
  go_ret
  exact ⟨rfl, B1.out⟩
theorem walk (a : Option Addr) (n cap : Nat) (zs : List Int) (w : World) (w0 : IsRow .i64 w a n cap zs) :
    Calls Try.prog 6 #[.agg #[.slice a n cap]] w fun e w' => e = .returned (.bool true) ∧ Below w.heap.size w w' := by
  by_cases hl : n ≤ 1048576
  · exact core a n cap zs (rankV (zs.take n)) (okX (zs.take n)) w w0 hl (fun w' v h => rank_sL h) (fun w' v h => rank_iL h)
  · exact long a n cap w (w0.le).1 hl
end Go.Proofs.Ytgfablkdfablfaa.fnExactRankOf
