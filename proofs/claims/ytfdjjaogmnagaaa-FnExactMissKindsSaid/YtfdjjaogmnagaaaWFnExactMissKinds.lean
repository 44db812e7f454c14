/- The walk of laws.FnExactMissKinds: the call returns true and writes nothing that was there. -/
import Derived.Test.YtfdjjaogmnagaaaCmki
import Derived.Test.YtfdjjaogmnagaaaCto
import Derived.Test.YtfdjjaogmnagaaaCbt
import Derived.Deep.RegionHeld3
namespace Go.Proofs.Ytfdjjaogmnagaaa.fnExactMissKinds
open Go.RowKit Tr Ix
theorem drewBB {w w' : World} {B : Nat} (h : Below B w.drew w') : Below B w w' := (Below.refl _ w).drew.trans h
set_option maxHeartbeats 4000000 in
theorem core (a : Option Addr) (n cap : Nat) (zs : List Int) (p : Int) (b : Option Addr) (m d : Nat) (zu : List Int) (ys : List Int) (ok : Bool) (hy : ys.length ≤ 1000000) (w : World) (hr : IsRow .i64 w a n cap zs) (hl : n ≤ 1048576) (hr2 : IsRow .i64 w b m d zu) (hl2 : m ≤ 1048576)
    (hS : ∀ w' v vu, RdX w' v (zs.take n) → Rd w' vu (zu.take m) → Calls Try.prog 5 #[v, .int .i64 p, vu] w' (Res ys ok w'))
    (hI : ∀ w' v vu, RdX w' v (zs.take n) → Rd w' vu (zu.take m) → Calls Try.prog 8 #[v, .int .i64 p, vu] w' (Res ys ok w')) :
    Calls Try.prog 3 #[.agg #[.slice a n cap], .int .i64 p, .slice b m d] w fun e w' => e = .returned (.bool true) ∧ Below w.heap.size w w' := by
  have b0 := (Below.refl w.heap.size w).alloc (Nat.le_refl _) (.cells #[.slice a n cap] 24)
  have HSZ := Lib.hid (fun w9 => szX a n cap w9 hl)
  have hz0 : ¬ ((1048576 : Int) - (n : Int)) < 0 := by omega
  have HTO := Lib.hid (fun (w' : World) (hb : Below w.heap.size w w') => toindex_any a n cap zs w' (isRow_below hr hb) hl)
  have HRD := Lib.hid (fun (w' : World) (B : Nat) (v : Value) (h : OwnX w' B v (zs.take n)) => h.rd (by rw [List.length_take]; omega))
  have HMK := Lib.hid (fun (w' : World) (B : Nat) (v : Value) (h : OwnX w' B v (zs.take n)) => markX h (by rw [List.length_take]; omega))
  have hb1 : ys.length + 1 ≤ 9223372036854775807 := by omega
  have HTU := Lib.hid (fun (w' : World) (hb : Below w.heap.size w w') => to_any b m d zu w' (isRow_below hr2 hb) hl2)
  have hm3 : (m : Int) ≤ 1048576 := by omega
  have hxl : (zs.take n).length ≤ 1048576 := by rw [List.length_take]; omega
  have hul : (zu.take m).length ≤ 1048576 := by rw [List.length_take]; omega
  have HS := Lib.hid hS
  have HI := Lib.hid hI
  clear hS hI hr hl hr2 hl2
  generalize zs.take n = xs at *
  generalize zu.take m = us at *
  go_enter Try.func3, Try.ntmps3
  go_wp2_with fail
  have BZ := Kb.new w w.heap.size [.slice a n cap] 24 rfl
  have hsz : (w.alloc (.cells #[.slice a n cap] 24)).heap.size = w.heap.size + 1 := Array.size_push _
  have eL : (w.alloc (.cells #[.slice a n cap] 24)) = w.alloc (.cells [.slice a n cap].toArray 24) := rfl
  rw [eL] at b0 hsz ⊢
  clear eL
  generalize w.alloc (.cells [.slice a n cap].toArray 24) = W0 at *
  have HZ := Lib.hid (fun (w' : World) (hb : Below W0.heap.size W0 w') => (show w'.cell? ⟨w.heap.size, 0, none⟩ = some (.slice a n cap) from (BZ.below hb (by omega)).cell 0))
  clear BZ
  refine (HSZ.out W0).mono ?_; rintro e w1 ⟨rfl, b1⟩
  have z0 := HZ.out w1 b1
  have B1 := Lib.hid (bt b0 b1)
  have B01 := Lib.hid b1
  clear b1
  go_wp2_with fail
  refine (HTO.out w1 B1.out).mono ?_; rintro e w2 ⟨v1, rfl, o1, b2⟩
  go_wp2_with fail
  refine (HTU.out w2 (bt B1.out b2)).mono ?_; rintro e wu ⟨vu, rfl, ou, bu⟩
  have o1u := o1.below bu (Nat.le_refl _)
  go_wp2_with fail
  refine (HS.out wu v1 vu (HRD.out wu _ v1 o1u) ou.rd).mono ?_; rintro e w3 ⟨vw, rfl, ow, b3⟩
  have B3 := Lib.hid (bt (bt (bt B1.out b2) bu) b3)
  have B03 := Lib.hid (bt (bt (bt B01.out b2) bu) b3)
  have HOW := Lib.hid (fun (w' : World) (hb : Below w3.heap.size w3 w') => Own.below ow hb (Nat.le_refl _))
  have kw := Lib.hid (ow.block)
  clear o1 o1u ou ow b2 bu b3 z0 B1 B01
  have z0 := HZ.out w3 B03.out
  go_wp2_with fail
  refine (HTO.out w3 B3.out).mono ?_; rintro e w4 ⟨x0, rfl, ox, b4⟩
  have B34 := Lib.hid b4
  have s34 := b4.size
  obtain ⟨xu, rfl, oxu⟩ := ox
  obtain ⟨xa, xc, rfl⟩ := oxu.formx
  have ox : OwnX w4 w3.heap.size (.agg #[.slice xa xs.length xc]) xs := ⟨_, rfl, oxu⟩
  clear b4 z0 oxu
  generalize xs.length = xn at *
  go_wp2_with fail
  have BX := Kb.new w4 w4.heap.size [.slice xa xn xc] 28 rfl
  have b5 := (Below.refl w4.heap.size w4).alloc (Nat.le_refl _) (.cells [.slice xa xn xc].toArray 28)
  have ox5 := ox.below b5 (Nat.le_refl _)
  have hx4 := ox.blockX
  have B35 := Lib.hid (bt B34.out b5)
  have s5 := b5.size
  have eL2 : (w4.alloc (.cells #[.slice xa xn xc] 28)) = w4.alloc (.cells [.slice xa xn xc].toArray 28) := rfl
  rw [eL2]
  clear eL2 ox b5 B34
  generalize w4.alloc (.cells [.slice xa xn xc].toArray 28) = W5 at *
  have HX := Lib.hid (fun (w' : World) (hb : Below W5.heap.size W5 w') => (show (w'.cell? ⟨w4.heap.size, 0, none⟩ = some (.slice xa xn xc) ∧ w'.cell? ⟨w.heap.size, 0, none⟩ = some (.slice a n cap)) ∧ OwnX w' w3.heap.size (.agg #[.slice xa xn xc]) xs from
    ⟨⟨(BX.below hb BX.lt).cell 0, HZ.out w' (bt (bt B03.out B35.out) hb)⟩, ox5.below hb (Nat.le_refl _)⟩))
  clear BX
  have HXB := Lib.hid hx4
  clear hx4
  go_wp2_with fail
  refine (HTU.out W5 (bt B3.out B35.out)).mono ?_; rintro e wt ⟨x2, rfl, ol, b5t⟩
  have oxt := ox5.below b5t (Nat.le_refl _)
  obtain ⟨⟨x0, z0⟩, _⟩ := HX.out wt b5t
  have B3t := Lib.hid (bt B35.out b5t)
  have B5t := Lib.hid b5t
  have klx := Lib.hid (Own.block ol)
  have st := b5t.size
  have HIt := Lib.hid (HI.out wt _ x2 (HRD.out wt _ _ oxt) ol.rd)
  have HXL := Lib.hid (fun (w' : World) (hb : Below wt.heap.size wt w') => Own.below ol hb (Nat.le_refl _))
  clear b5t ox5 oxt ol
  go_wp2_with fail
  refine HIt.out.mono ?_; rintro e w6 ⟨vg, rfl, og, b6⟩
  have kg := Lib.hid (og.block)
  have bt6 := Lib.hid b6
  have b56 := Lib.hid (bt B5t.out b6)
  have B36 := Lib.hid (bt B3t.out b6)
  have s6 := b6.size
  clear b6 x0 z0 HIt
  go_wp2_with fail
  refine (eq_below og (HOW.out w6 B36.out)).mono ?_; rintro e w7 ⟨rfl, b7⟩
  have b57 := Lib.hid (bt b56.out b7)
  have Bt7 := Lib.hid (bt bt6.out b7)
  have B37 := Lib.hid (bt B36.out b7)
  have OG := Lib.hid (fun (w' : World) (hb : Below w7.heap.size w7 w') => Own.below (Own.below og b7 (Nat.le_refl _)) hb (Nat.le_refl _))
  have s7 := b7.size
  clear og b7 b56 B36
  obtain ⟨⟨x0, z0⟩, _⟩ := HX.out w7 b57.out
  have HCT := Lib.hid (HTO.out w7.drew (bt B3.out B37.out).drew)
  have HEQ := Lib.hid (fun (w8 : World) (u : Value) (b8 : Below w7.drew.heap.size w7.drew w8) (ou : OwnX w8 w7.drew.heap.size u xs) => eqX (HX.out w8 (bt b57.out (drewBB b8))).2 ou)
  have HX8 := Lib.hid (fun (w8 : World) (b8 : Below w7.drew.heap.size w7.drew w8) => (HX.out w8 (bt b57.out (drewBB b8))).1)
  go_wp2
  go_region_held3 (fun w' => w'.cell? ⟨w4.heap.size, 0, none⟩ = some (.slice xa xn xc) ∧ w'.cell? ⟨w.heap.size, 0, none⟩ = some (.slice a n cap)) (first | exact ⟨x0, z0⟩ | exact HX8.out _ (by assumption) | exact HX8.out _ (bt b8 b9)) (first | (go_at_call 6; (with_reducible refine HCT.out.mono ?_); rintro e w8 ⟨u, rfl, ou, b8⟩) | (go_at_call 10; (with_reducible refine (HEQ.out _ _ b8 ou).mono ?_); rintro e w9 ⟨rfl, b9⟩))
  have b79 : Below w7.heap.size w7 w9 := drewBB (bt b8 b9)
  have B39 := Lib.hid (bt B37.out b79)
  have Bt9 := Lib.hid (bt Bt7.out b79)
  go_wp2_with fail
  refine (HTU.out w9 (bt B3.out B39.out)).mono ?_; rintro e wa ⟨u9, rfl, o9, ba⟩
  have ola := HXL.out wa (bt Bt9.out ba)
  go_wp2_with fail
  refine (eq_below ola o9).mono ?_; rintro e wb ⟨rfl, bb⟩
  have b7b : Below w7.heap.size w7 wb := bt (bt b79 ba) bb
  have B3b := Lib.hid (bt (bt B39.out ba) bb)
  clear ola o9 ba bb Bt9
  have b59 := Lib.hid (bt b57.out b7b)
  have OG9 := Lib.hid (OG.out wb b7b)
  have s9 := b7b.size
  obtain ⟨⟨x0, _⟩, ox9⟩ := HX.out wb b59.out
  have HMK9 := Lib.hid (HMK.out wb _ _ ox9)
  have olb := Lib.hid (HXL.out wb (bt Bt7.out b7b))
  clear b8 b9 b79 ou ox9 z0 HCT HEQ HX8 HX OG b57 B37 HMK b7b
  go_wp2_with fail
  refine HMK9.out.mono ?_; rintro e w10 ⟨rfl, _, mu, W1, emu, bm1, sm1, gm1⟩
  have s10 := gm1.size
  have hxb : ∀ k, mu.ownBlock = some k → w3.heap.size ≤ k ∧ k < w4.heap.size := fun k hk => HXB.out mu emu k hk
  have hgr : Below w3.heap.size w3 w10 := (B3b.out.trans (bm1.mono (by have := B3b.out.size; omega))).grown gm1 (by have := B3b.out.size; omega) (fun k hk => (hxb k hk).1)
  have B310 := Lib.hid hgr
  have hMB : ∀ b, b < wb.heap.size → (b < w3.heap.size ∨ w4.heap.size ≤ b) → w10.heap[b]? = wb.heap[b]? := fun b h1 h2 => (gm1.block b (by omega) (fun e => by have := hxb b e.symm; omega)).trans (bm1.block b h1)
  have ow10 := HOW.out w10 hgr
  have og10 : Own w10 wt.heap.size vg ys := Own.keepB OG9.out (fun b h1 h2 => hMB b h2 (.inr (by omega)))
  have ol10 : Own w10 W5.heap.size x2 us := Own.keepB olb.out (fun b h1 h2 => hMB b h2 (.inr (by omega)))
  clear hMB bm1 gm1 OG9 HMK9 b59 B39 B3b olb
  have hmk0 : ¬ (1 + (xn : Int)) < 0 := by omega
  go_wp2_with fail
  refine (mark_int (1 + (xn : Int)) (by omega) (by omega) ol10 hul).mono ?_; rintro e wc ⟨kk, rfl, hkk, gmc⟩
  have sc := gmc.size
  have B3c : Below w3.heap.size w3 wc := hgr.grown gmc (by have := hgr.size; omega) (fun k hk => by have := (klx.out k hk).1; omega)
  have HB3c := Lib.hid B3c
  have owc := HOW.out wc B3c
  have ogc : Own wc wt.heap.size vg ys := og10.kept gmc (fun k hk e => by have h1 := (klx.out k e.symm).2; have h2 := (kg.out k hk).1; omega)
  have hmk1 : ¬ kk < 0 := by omega
  clear hgr B3c ol10 og10 ow10 gmc hkk
  go_wp2_with fail
  refine (eq_below ogc owc).mono ?_; rintro e w11 ⟨rfl, b11⟩
  have b11 : Below wc.heap.size wc w11 := b11
  have B311 := Lib.hid (bt HB3c.out b11)
  have og11 := Own.below ogc b11 (Nat.le_refl _)
  have s11 := b11.size
  clear ogc owc b11 B310
  go_wp2_with fail
  refine (mark1 og11 hb1).mono ?_; rintro e w12 ⟨rfl, om, gm⟩
  have B312 : Below w3.heap.size w3 w12 := B311.out.grown gm B311.out.size (fun k hk => by have := (kg.out k hk).1; omega)
  have s12 := gm.size
  have BH12 := Lib.hid B312
  clear og11 gm B312 B311
  go_wp2_with fail
  refine (held1 om hb1).mono ?_; rintro e w13 ⟨rfl, rfl⟩
  have z0 := HZ.out w12 (bt B03.out BH12.out)
  go_wp2_with fail
  refine (HTO.out w12 (bt B3.out BH12.out)).mono ?_; rintro e w14 ⟨u14, rfl, o14, b14⟩
  have B314 := Lib.hid (bt BH12.out b14)
  go_wp2_with fail
  refine (HTU.out w14 (bt B3.out B314.out)).mono ?_; rintro e wv ⟨u2, rfl, o2, bv⟩
  have omv := (om.below b14 (Nat.le_refl _)).below bv (Nat.le_refl _)
  have B3v := Lib.hid (bt B314.out bv)
  have rdv := HRD.out wv _ u14 (o14.below bv (Nat.le_refl _))
  clear om b14 BH12 z0 o14 bv
  go_wp2_with fail
  refine (HI.out wv u14 u2 rdv o2.rd).mono ?_; rintro e w15 ⟨vh, rfl, oh, b15⟩
  have om15 := omv.below b15 (Nat.le_refl _)
  have B315 := Lib.hid (bt B3v.out b15)
  clear omv b15 B314 rdv o2
  go_wp2_with fail
  refine (eq_below oh (HOW.out w15 B315.out)).mono ?_; rintro e w16 ⟨rfl, b16⟩
  have b16 : Below w15.heap.size w15 w16 := b16
  have om16 := om15.below b16 (Nat.le_refl _)
  have B316 := Lib.hid (bt B3.out (bt B315.out b16))
  clear om15 b16 B315 oh
  go_wp2_with fail
  refine (held1 om16 hb1).mono ?_; rintro e w17 ⟨rfl, rfl⟩
  go_wp2
  go_ret
  exact ⟨rfl, B316.out⟩
theorem long (a : Option Addr) (n cap : Nat) (p : Int) (b : Option Addr) (m d : Nat) (w : World) (hm : n ≤ 9223372036854775807) (hl : ¬ n ≤ 1048576) (hl2 : m ≤ 1048576) :
    Calls Try.prog 3 #[.agg #[.slice a n cap], .int .i64 p, .slice b m d] w fun e w' => e = .returned (.bool true) ∧ Below w.heap.size w w' := by
  have b0 := (Below.refl w.heap.size w).alloc (Nat.le_refl _) (.cells #[.slice a n cap] 24)
  have HSZ := Lib.hid (fun w9 => szX_no a n cap w9 hm hl)
  have hm3 : (m : Int) ≤ 1048576 := by omega
  clear hl hl2
  go_enter Try.func3, Try.ntmps3
  go_wp2_with fail
  refine (HSZ.out _).mono ?_; rintro e w1 ⟨rfl, b1⟩
  have B1 := Lib.hid (bt b0 b1)
  clear b0 b1
  go_wp2
  go_ret
  exact ⟨rfl, B1.out⟩
theorem long2 (a : Option Addr) (n cap : Nat) (p : Int) (b : Option Addr) (m d : Nat) (w : World) (hl : ¬ m ≤ 1048576) :
    Calls Try.prog 3 #[.agg #[.slice a n cap], .int .i64 p, .slice b m d] w fun e w' => e = .returned (.bool true) ∧ Below w.heap.size w w' := by
  have b0 := (Below.refl w.heap.size w).alloc (Nat.le_refl _) (.cells #[.slice a n cap] 24)
  have B0 := Lib.hid b0
  have hm3 : (1048576 : Int) < m := by omega
  clear hl b0
  go_enter Try.func3, Try.ntmps3
  go_wp2
  go_ret
  exact ⟨rfl, B0.out⟩
theorem walk (a : Option Addr) (n cap : Nat) (zs : List Int) (p : Int) (b : Option Addr) (m d : Nat) (zu : List Int) (w : World) (w0 : IsRow .i64 w a n cap zs) (_w1 : (Lit.int .i64 p).wf = true) (w2 : IsRow .i64 w b m d zu) :
    Calls Try.prog 3 #[.agg #[.slice a n cap], .int .i64 p, .slice b m d] w fun e w' => e = .returned (.bool true) ∧ Below w.heap.size w w' := by
  by_cases hl2 : m ≤ 1048576
  · by_cases hl : n ≤ 1048576
    · have hx : (zu.take m).length ≤ 1048576 := by rw [List.length_take]; omega
      exact core a n cap zs p b m d zu (kindV (zs.take n) p (zu.take m)) (okX (zs.take n) && (okPl p && okU (zu.take m))) (by unfold kindV; split <;> simp [kindN]) w w0 hl w2 hl2 (fun w' v vu h hu => kind_s h hu hx p) (fun w' v vu h hu => kind_i h hu hx p)
    · exact long a n cap p b m d w (w0.le).1 hl hl2
  · exact long2 a n cap p b m d w hl2
end Go.Proofs.Ytfdjjaogmnagaaa.fnExactMissKinds
