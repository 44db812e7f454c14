/- The walk of laws.FnExactReducedIndex: the call returns true and writes nothing that was there. -/
import Derived.Test.YtgfablkdfablfaaCixe
import Derived.Deep.RegionHeld3
namespace Go.Proofs.Ytgfablkdfablfaa.fnExactReducedIndex
open Go.RowKit Tr Ix
theorem drewBB {w w' : World} {B : Nat} (h : Below B w.drew w') : Below B w w' := (Below.refl _ w).drew.trans h
/-- What lies in memory once the three indices are there: the argument's box, the model's index and its box, the argument's copy and its box, the program's index and its box. -/
structure St (a : Option Addr) (n cap : Nat) (wa xa ga : Option Addr) (wc xc gc Y xn A X G L1 L2 L3 : Nat) (w : World) (ys xs : List Int) (w' : World) : Prop where
  z : Kb w' w.heap.size [.slice a n cap] 24
  a : Kb w' A [.slice wa Y wc] 27
  x : Kb w' X [.slice xa xn xc] 27
  g : Kb w' G [.slice ga Y gc] 27
  ow : Own w' L1 (.slice wa Y wc) ys
  ox : Own w' L2 (.slice xa xn xc) xs
  og : Own w' L3 (.slice ga Y gc) ys
theorem St.below {a : Option Addr} {n cap : Nat} {wa xa ga : Option Addr} {wc xc gc Y xn A X G L1 L2 L3 : Nat} {w : World} {ys xs : List Int} {w' w2 : World}
    (h : St a n cap wa xa ga wc xc gc Y xn A X G L1 L2 L3 w ys xs w') (hb : Below w'.heap.size w' w2) : St a n cap wa xa ga wc xc gc Y xn A X G L1 L2 L3 w ys xs w2 :=
  ⟨h.z.below hb h.z.lt, h.a.below hb h.a.lt, h.x.below hb h.x.lt, h.g.below hb h.g.lt, h.ow.below hb (Nat.le_refl _), h.ox.below hb (Nat.le_refl _), h.og.below hb (Nat.le_refl _)⟩
set_option maxHeartbeats 4000000 in
theorem core (a : Option Addr) (n cap : Nat) (zs : List Int) (ys : List Int) (ok : Bool) (hy : ys.length ≤ 1000000) (w : World) (hr : IsRow .i64 w a n cap zs) (hl : n ≤ 1048576)
    (hS : ∀ w' v, RdX w' v (zs.take n) → Calls Try.prog 23 #[v] w' (ResX ys ok w'))
    (hI : ∀ w' v, RdX w' v (zs.take n) → Calls Try.prog 24 #[v] w' (ResX ys ok w')) :
    Calls Try.prog 7 #[.agg #[.slice a n cap]] w fun e w' => e = .returned (.bool true) ∧ Below w.heap.size w w' := by
  have b0 := (Below.refl w.heap.size w).alloc (Nat.le_refl _) (.cells #[.slice a n cap] 24)
  have HSZ := Lib.hid (fun w9 => szX a n cap w9 hl)
  have hz0 : ¬ ((1048576 : Int) - (n : Int)) < 0 := by omega
  have HTO := Lib.hid (fun (w' : World) (hb : Below w.heap.size w w') => toindex_any a n cap zs w' (isRow_below hr hb) hl)
  have HRD := Lib.hid (fun (w' : World) (B : Nat) (v : Value) (h : OwnX w' B v (zs.take n)) => h.rd (by rw [List.length_take]; omega))
  have HMK := Lib.hid (fun (w' : World) (B : Nat) (v : Value) (h : OwnX w' B v (zs.take n)) => markX h (by rw [List.length_take]; omega))
  have hb2 : ys.length ≤ 1048576 := by omega
  have hb3 : ¬ (1 + (ys.length : Int)) < 0 := by omega
  have HMG := Lib.hid (fun (w' : World) (B : Nat) (v : Value) (h : OwnX w' B v ys) => markX h hb2)
  have HHG := Lib.hid (fun (w' : World) (B : Nat) (v : Value) (h : OwnX w' B v (marks 1 ys.length)) => heldX h hb2)
  have HS := Lib.hid hS
  have HI := Lib.hid hI
  clear hS hI hr hl
  generalize zs.take n = xs at *
  go_enter Try.func7, Try.ntmps7
  go_wp2_with fail
  have BZ := Kb.new w w.heap.size [.slice a n cap] 24 rfl
  have hsz : (w.alloc (.cells #[.slice a n cap] 24)).heap.size = w.heap.size + 1 := Array.size_push _
  have eL : (w.alloc (.cells #[.slice a n cap] 24)) = w.alloc (.cells [.slice a n cap].toArray 24) := rfl
  rw [eL] at b0 hsz ⊢
  clear eL
  generalize w.alloc (.cells [.slice a n cap].toArray 24) = W0 at *
  have HZ := Lib.hid (fun (w' : World) (hb : Below W0.heap.size W0 w') => (show Kb w' w.heap.size [.slice a n cap] 24 from BZ.below hb (by omega)))
  clear BZ
  refine (HSZ.out W0).mono ?_; rintro e w1 ⟨rfl, b1⟩
  have z0 : w1.cell? ⟨w.heap.size, 0, none⟩ = some (.slice a n cap) := (HZ.out w1 b1).cell 0
  have B1 := Lib.hid (bt b0 b1)
  have B01 := Lib.hid b1
  clear b1
  go_wp2_with fail
  refine (HTO.out w1 B1.out).mono ?_; rintro e w2 ⟨v1, rfl, o1, b2⟩
  go_wp2_with fail
  refine (HS.out w2 v1 (HRD.out w2 _ v1 o1)).mono ?_; rintro e w3 ⟨vw, rfl, ow, b3⟩
  obtain ⟨wu, rfl, owu⟩ := ow
  obtain ⟨wa, wc, rfl⟩ := owu.formx
  have B3 := Lib.hid (bt (bt B1.out b2) b3)
  have B03 := Lib.hid (bt (bt B01.out b2) b3)
  have OW := Lib.hid owu
  clear o1 owu b2 b3 z0 B1 B01
  generalize hYY : ys.length = Y at *
  have HY := Lib.hid hYY
  clear hYY
  have za : (w3.alloc (.cells #[.slice wa Y wc] 27)).cell? ⟨w.heap.size, 0, none⟩ = some (.slice a n cap) := ((HZ.out w3 B03.out).alloc _).cell 0
  go_wp2_with fail
  clear za
  have BA := Kb.new w3 w3.heap.size [.slice wa Y wc] 27 rfl
  have ba := (Below.refl w3.heap.size w3).alloc (Nat.le_refl _) (.cells [.slice wa Y wc].toArray 27)
  have eA : (w3.alloc (.cells #[.slice wa Y wc] 27)) = w3.alloc (.cells [.slice wa Y wc].toArray 27) := rfl
  have sA : (w3.alloc (.cells [.slice wa Y wc].toArray 27)).heap.size = w3.heap.size + 1 := Array.size_push _
  rw [eA]
  clear eA
  have OW3 := Lib.hid (own_allocx OW.out (.cells [.slice wa Y wc].toArray 27))
  have kw := Lib.hid OW.out.block
  generalize w3.alloc (.cells [.slice wa Y wc].toArray 27) = W3 at *
  have B33 := Lib.hid ba
  have BW3 := Lib.hid (bt B3.out ba)
  have B0W3 := Lib.hid (bt B03.out ba)
  have BAX := Lib.hid BA
  clear ba BA OW
  refine (HTO.out W3 BW3.out).mono ?_; rintro e w4 ⟨x0, rfl, ox, b4⟩
  obtain ⟨xu, rfl, oxu⟩ := ox
  obtain ⟨xa, xc, rfl⟩ := oxu.formx
  have B34 := Lib.hid b4
  have s34 := b4.size
  have OX4 := Lib.hid oxu
  clear b4 oxu
  generalize hXL : xs.length = xn at *
  have HXL := Lib.hid hXL
  clear hXL
  go_wp2_with fail
  have BX := Kb.new w4 w4.heap.size [.slice xa xn xc] 27 rfl
  have b5 := (Below.refl w4.heap.size w4).alloc (Nat.le_refl _) (.cells [.slice xa xn xc].toArray 27)
  have eX : (w4.alloc (.cells #[.slice xa xn xc] 27)) = w4.alloc (.cells [.slice xa xn xc].toArray 27) := rfl
  have sX : (w4.alloc (.cells [.slice xa xn xc].toArray 27)).heap.size = w4.heap.size + 1 := Array.size_push _
  rw [eX]
  clear eX
  have OX5 := Lib.hid (own_allocx OX4.out (.cells [.slice xa xn xc].toArray 27))
  have kx := Lib.hid OX4.out.block
  generalize w4.alloc (.cells [.slice xa xn xc].toArray 27) = W5 at *
  have B35 := Lib.hid (bt B34.out b5)
  have BXX := Lib.hid BX
  clear BX b5 OX4 B34
  have HI5 := Lib.hid (HI.out W5 _ (HRD.out W5 _ _ ⟨_, rfl, OX5.out⟩))
  refine HI5.out.mono ?_; rintro e w6 ⟨vg, rfl, og, b6⟩
  obtain ⟨gu, rfl, ogu⟩ := og
  obtain ⟨ga, gc, rfl⟩ := ogu.formx
  have s6 := b6.size
  have B56 := Lib.hid b6
  have kg := Lib.hid ogu.block
  have OG6 := Lib.hid ogu
  rw [HY.out] at OG6 kg
  rw [HY.out]
  clear ogu b6 HI5
  have za : (w6.alloc (.cells #[.slice ga Y gc] 27)).cell? ⟨w3.heap.size, 0, none⟩ = some (.slice wa Y wc) := ((BAX.out.below (bt B35.out B56.out) BAX.out.lt).alloc _).cell 0
  go_wp2_with fail
  clear za
  have BG := Kb.new w6 w6.heap.size [.slice ga Y gc] 27 rfl
  have b66 := (Below.refl w6.heap.size w6).alloc (Nat.le_refl _) (.cells [.slice ga Y gc].toArray 27)
  have eG : (w6.alloc (.cells #[.slice ga Y gc] 27)) = w6.alloc (.cells [.slice ga Y gc].toArray 27) := rfl
  have sG : (w6.alloc (.cells [.slice ga Y gc].toArray 27)).heap.size = w6.heap.size + 1 := Array.size_push _
  have ST0 : St a n cap wa xa ga wc xc gc Y xn w3.heap.size w4.heap.size w6.heap.size w2.heap.size W3.heap.size W5.heap.size w ys xs (w6.alloc (.cells [.slice ga Y gc].toArray 27)) :=
    { z := HZ.out _ (bt B0W3.out (bt (bt B35.out B56.out) b66)), a := (BAX.out.below (bt (bt B35.out B56.out) b66) BAX.out.lt), x := (BXX.out.below (bt B56.out b66) BXX.out.lt), g := BG
      ow := OW3.out.below (bt (bt B35.out B56.out) b66) (Nat.le_refl _), ox := OX5.out.below (bt B56.out b66) (Nat.le_refl _), og := own_allocx OG6.out _ }
  rw [eG]
  clear eG
  generalize w6.alloc (.cells [.slice ga Y gc].toArray 27) = W6 at *
  have B36 := Lib.hid (bt (bt B35.out B56.out) b66)
  have ST6 := Lib.hid ST0
  have sW5 : w4.heap.size < W5.heap.size := BXX.out.lt
  clear b66 BG ST0 OG6 OX5 OW3 BAX BXX B35 B56 B0W3 B33 B03 HZ
  refine (eqX (xs := ys) ⟨_, rfl, ST6.out.og⟩ ⟨_, rfl, ST6.out.ow⟩).mono ?_; rintro e w7 ⟨rfl, b7⟩
  have ST7 := Lib.hid (ST6.out.below b7)
  have B37 := Lib.hid (bt B36.out b7)
  have s7 := b7.size
  clear b7 ST6 B36
  have x0 : w7.cell? ⟨w4.heap.size, 0, none⟩ = some (.slice xa xn xc) := ST7.out.x.cell 0
  have z0 : w7.cell? ⟨w.heap.size, 0, none⟩ = some (.slice a n cap) := ST7.out.z.cell 0
  have HCT := Lib.hid (HTO.out w7.drew (bt BW3.out B37.out).drew)
  have HEQ := Lib.hid (fun (w8 : World) (u : Value) (b8 : Below w7.drew.heap.size w7.drew w8) (ou : OwnX w8 w7.drew.heap.size u xs) => eqX (xs := xs) ⟨_, rfl, (ST7.out.below (drewBB b8)).ox⟩ ou)
  have HX8 := Lib.hid (fun (w8 : World) (b8 : Below w7.drew.heap.size w7.drew w8) => (show w8.cell? ⟨w4.heap.size, 0, none⟩ = some (.slice xa xn xc) ∧ w8.cell? ⟨w.heap.size, 0, none⟩ = some (.slice a n cap) from ⟨(ST7.out.below (drewBB b8)).x.cell 0, (ST7.out.below (drewBB b8)).z.cell 0⟩))
  go_wp2
  go_region_held3 (fun w' => w'.cell? ⟨w4.heap.size, 0, none⟩ = some (.slice xa xn xc) ∧ w'.cell? ⟨w.heap.size, 0, none⟩ = some (.slice a n cap)) (first | exact ⟨x0, z0⟩ | exact HX8.out _ (by assumption) | exact HX8.out _ (bt b8 b9)) (first | (go_at_call 10; (with_reducible refine HCT.out.mono ?_); rintro e w8 ⟨u, rfl, ou, b8⟩) | (go_at_call 12; (with_reducible refine (HEQ.out _ _ b8 ou).mono ?_); rintro e w9 ⟨rfl, b9⟩))
  have b79 : Below w7.heap.size w7 w9 := drewBB (bt b8 b9)
  have B39 := Lib.hid (bt B37.out b79)
  have ST9 := Lib.hid (ST7.out.below b79)
  have s9 := b79.size
  clear b8 b9 b79 ou x0 z0 HCT HEQ HX8 B37 ST7
  have x0 : w9.cell? ⟨w4.heap.size, 0, none⟩ = some (.slice xa xn xc) := ST9.out.x.cell 0
  go_wp2_with fail
  have HM9 := Lib.hid (HMK.out w9 _ _ ⟨_, rfl, ST9.out.ox⟩)
  refine HM9.out.mono ?_; rintro e w10 ⟨rfl, _, mu, W1, emu, bm1, sm1, gm1⟩
  have s10 := gm1.size
  injection emu with emu
  injection emu with emu
  injection emu with emu _
  subst emu
  have hxb : ∀ k, (Value.slice xa xn xc).ownBlock = some k → W3.heap.size ≤ k ∧ k < w4.heap.size := kx.out
  have hgr : Below W3.heap.size W3 w10 := (B39.out.trans (bm1.mono (by have := B39.out.size; omega))).grown gm1 (by have := B39.out.size; omega) (fun k hk => (hxb k hk).1)
  have B310 := Lib.hid hgr
  have hMB : ∀ b, b < w9.heap.size → (b < W3.heap.size ∨ w4.heap.size ≤ b) → w10.heap[b]? = w9.heap[b]? := fun b h1 h2 => (gm1.block b (by omega) (fun e => by have := hxb b e.symm; omega)).trans (bm1.block b h1)
  have HOB := Lib.hid (show Own w10 w2.heap.size (.slice wa Y wc) ys ∧ Own w10 W5.heap.size (.slice ga Y gc) ys from
    ⟨ST9.out.ow.keepX (fun b hb h1 => hMB b h1 (.inl (by have := (kw.out b hb).2; omega))), ST9.out.og.keepB (fun b h1 h2 => hMB b h2 (.inr (by omega)))⟩)
  have ca : w10.cell? ⟨w3.heap.size, 0, none⟩ = some (.slice wa Y wc) := (Kb.cell (show Kb w10 w3.heap.size [.slice wa Y wc] 27 from (hMB _ ST9.out.a.lt (.inl (by omega))).trans ST9.out.a) 0)
  have HG10 := Lib.hid (show Kb w10 w6.heap.size [.slice ga Y gc] 27 from (hMB _ ST9.out.g.lt (.inr (by omega))).trans ST9.out.g)
  have HA10 := Lib.hid (show Kb w10 w3.heap.size [.slice wa Y wc] 27 from (hMB _ ST9.out.a.lt (.inl (by omega))).trans ST9.out.a)
  have HZ10 := Lib.hid (show Kb w10 w.heap.size [.slice a n cap] 24 from (hMB _ ST9.out.z.lt (.inl (by have := B3.out.size; omega))).trans ST9.out.z)
  have cg : w10.cell? ⟨w6.heap.size, 0, none⟩ = some (.slice ga Y gc) := HG10.out.cell 0
  clear hMB hgr bm1 gm1 HM9 B39 x0 ST9 hxb
  have hmk0 : ¬ (1 + (xn : Int)) < 0 := by omega
  go_wp2_with fail
  refine (eqX (xs := ys) ⟨_, rfl, HOB.out.2⟩ ⟨_, rfl, HOB.out.1⟩).mono ?_; rintro e w11 ⟨rfl, b11⟩
  have b11 : Below w10.heap.size w10 w11 := b11
  have B311 := Lib.hid (bt B310.out b11)
  have OG11 := Lib.hid (HOB.out.2.below b11 (Nat.le_refl _))
  have OW11 := Lib.hid (HOB.out.1.below b11 (Nat.le_refl _))
  have HG11 := Lib.hid (HG10.out.below b11 HG10.out.lt)
  have HA11 := Lib.hid (HA10.out.below b11 HA10.out.lt)
  have HZ11 := Lib.hid (HZ10.out.below b11 HZ10.out.lt)
  have s11 := b11.size
  clear b11 B310 HOB HG10 HA10 HZ10 ca cg
  have cg : w11.cell? ⟨w6.heap.size, 0, none⟩ = some (.slice ga Y gc) := HG11.out.cell 0
  go_wp2_with fail
  have HM11 := Lib.hid (HMG.out w11 _ _ ⟨_, rfl, OG11.out⟩)
  refine HM11.out.mono ?_; rintro e w12 ⟨rfl, om, mu, W1, emu, bm1, sm1, gm1⟩
  have s12 := gm1.size
  injection emu with emu
  injection emu with emu
  injection emu with emu _
  subst emu
  have hgb : ∀ k, (Value.slice ga Y gc).ownBlock = some k → W5.heap.size ≤ k ∧ k < w6.heap.size := kg.out
  have hgr : Below W3.heap.size W3 w12 := (B311.out.trans (bm1.mono (by have := B311.out.size; omega))).grown gm1 (by have := B311.out.size; omega) (fun k hk => by have := (hgb k hk).1; omega)
  have B312 := Lib.hid hgr
  have hMB : ∀ b, b < w11.heap.size → (b < W5.heap.size ∨ w6.heap.size ≤ b) → w12.heap[b]? = w11.heap[b]? := fun b h1 h2 => (gm1.block b (by omega) (fun e => by have := hgb b e.symm; omega)).trans (bm1.block b h1)
  have HOW12 := Lib.hid (OW11.out.keepX (fun b hb h1 => hMB b h1 (.inl (by have := (kw.out b hb).2; omega))))
  have HG12 := Lib.hid (show Kb w12 w6.heap.size [.slice ga Y gc] 27 from (hMB _ HG11.out.lt (.inr (by omega))).trans HG11.out)
  have HA12 := Lib.hid (show Kb w12 w3.heap.size [.slice wa Y wc] 27 from (hMB _ HA11.out.lt (.inl (by omega))).trans HA11.out)
  have HZ12 := Lib.hid (show Kb w12 w.heap.size [.slice a n cap] 24 from (hMB _ HZ11.out.lt (.inl (by have := B3.out.size; omega))).trans HZ11.out)
  have OM12 := Lib.hid om
  clear hMB hgr bm1 gm1 HM11 B311 om HG11 HA11 HZ11 OW11 OG11 cg hgb
  have cg : w12.cell? ⟨w6.heap.size, 0, none⟩ = some (.slice ga Y gc) := HG12.out.cell 0
  go_wp2_with fail
  refine (HHG.out w12 _ _ OM12.out).mono ?_; rintro e w13 ⟨rfl, b13⟩
  have OM13 := Lib.hid (OM12.out.below b13 (Nat.le_refl _))
  have HOW13 := Lib.hid (HOW12.out.below b13 (Nat.le_refl _))
  have HG13 := Lib.hid (HG12.out.below b13 HG12.out.lt)
  have HA13 := Lib.hid (HA12.out.below b13 HA12.out.lt)
  have B313 := Lib.hid (bt B312.out b13)
  have z0 : w13.cell? ⟨w.heap.size, 0, none⟩ = some (.slice a n cap) := (HZ12.out.below b13 HZ12.out.lt).cell 0
  clear b13 OM12 HOW12 HG12 HA12 HZ12 B312 cg
  go_wp2_with fail
  refine (HTO.out w13 (bt BW3.out B313.out)).mono ?_; rintro e w14 ⟨u14, rfl, o14, b14⟩
  have B314 := Lib.hid (bt B313.out b14)
  have rd14 := Lib.hid (HRD.out w14 _ u14 o14)
  have B1314 := Lib.hid b14
  clear z0 o14 b14 B313
  go_wp2_with fail
  refine (HI.out w14 u14 rd14.out).mono ?_; rintro e w15 ⟨vh, rfl, oh, b15⟩
  obtain ⟨hu, rfl, ohu⟩ := oh
  obtain ⟨ha, hc, rfl⟩ := ohu.formx
  have B1315 := Lib.hid (bt B1314.out b15)
  have B315 := Lib.hid (bt B314.out b15)
  have OH15 := Lib.hid ohu
  rw [HY.out] at OH15
  rw [HY.out]
  clear ohu b15 B314 rd14 B1314
  have za : (w15.alloc (.cells #[.slice ha Y hc] 27)).cell? ⟨w3.heap.size, 0, none⟩ = some (.slice wa Y wc) := ((HA13.out.below B1315.out HA13.out.lt).alloc _).cell 0
  go_wp2_with fail
  clear za
  have BH := Kb.new w15 w15.heap.size [.slice ha Y hc] 27 rfl
  have bh := (Below.refl w15.heap.size w15).alloc (Nat.le_refl _) (.cells [.slice ha Y hc].toArray 27)
  have eH : (w15.alloc (.cells #[.slice ha Y hc] 27)) = w15.alloc (.cells [.slice ha Y hc].toArray 27) := rfl
  rw [eH]
  clear eH
  have B13H := Lib.hid (bt B1315.out bh)
  have B3H := Lib.hid (bt B315.out bh)
  have OHH := Lib.hid (own_allocx OH15.out (.cells [.slice ha Y hc].toArray 27))
  clear bh BH B1315 B315 OH15
  generalize w15.alloc (.cells [.slice ha Y hc].toArray 27) = WH at *
  refine (eqX (xs := ys) ⟨_, rfl, OHH.out⟩ ⟨_, rfl, HOW13.out.below B13H.out (Nat.le_refl _)⟩).mono ?_; rintro e w16 ⟨rfl, b16⟩
  have b16 : Below WH.heap.size WH w16 := b16
  have B1316 := Lib.hid (bt B13H.out b16)
  have B316 := Lib.hid (bt B3H.out b16)
  clear b16 OHH B3H B13H HA13 HOW13
  have cg : w16.cell? ⟨w6.heap.size, 0, none⟩ = some (.slice ga Y gc) := (HG13.out.below B1316.out HG13.out.lt).cell 0
  go_wp2_with fail
  refine (HHG.out w16 _ _ (OM13.out.below B1316.out (Nat.le_refl _))).mono ?_; rintro e w17 ⟨rfl, b17⟩
  have BE := Lib.hid (bt BW3.out (bt B316.out b17))
  clear b17 cg B316 B1316
  go_wp2
  go_ret
  exact ⟨rfl, BE.out⟩
theorem long (a : Option Addr) (n cap : Nat) (w : World) (hm : n ≤ 9223372036854775807) (hl : ¬ n ≤ 1048576) :
    Calls Try.prog 7 #[.agg #[.slice a n cap]] w fun e w' => e = .returned (.bool true) ∧ Below w.heap.size w w' := by
  have b0 := (Below.refl w.heap.size w).alloc (Nat.le_refl _) (.cells #[.slice a n cap] 24)
  have HSZ := Lib.hid (fun w9 => szX_no a n cap w9 hm hl)
  clear hl
  go_enter Try.func7, Try.ntmps7
  go_wp2_with fail
  refine (HSZ.out _).mono ?_; rintro e w1 ⟨rfl, b1⟩
  have B1 := Lib.hid (bt b0 b1)
  clear b0 b1
  go_wp2
  go_ret
  exact ⟨rfl, B1.out⟩
theorem walk (a : Option Addr) (n cap : Nat) (zs : List Int) (w : World) (w0 : IsRow .i64 w a n cap zs) :
    Calls Try.prog 7 #[.agg #[.slice a n cap]] w fun e w' => e = .returned (.bool true) ∧ Below w.heap.size w w' := by
  by_cases hl : n ≤ 1048576
  · exact core a n cap zs (redV (zs.take n)) (okX (zs.take n)) (redV_len _) w w0 hl (fun w' v h => red_sL h) (fun w' v h => red_iL h)
  · exact long a n cap w (w0.le).1 hl
end Go.Proofs.Ytgfablkdfablfaa.fnExactReducedIndex
