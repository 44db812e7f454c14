/- The walk of laws.FnExactRunPebbling: the call returns true and writes nothing that was there. -/
import Derived.Test.YtepobkflahjldaaCrp
import Derived.Deep.RegionHeld3
namespace Go.Proofs.Ytepobkflahjldaa.fnExactRunPebbling
open Go.RowKit Pv Pb
theorem drewBB {w w' : World} {B : Nat} (h : Below B w.drew w') : Below B w w' := (Below.refl _ w).drew.trans h
set_option maxHeartbeats 8000000 in
set_option maxRecDepth 100000 in
theorem core (a : Option Addr) (c : Nat) (bs : List (List Int)) (p : Int) (a2 : Option Addr) (c2 : Nat) (ms : List Mo.R) (y1 y2 : List Int) (hy1 : y1.length ≤ 6) (hy2 : y2.length ≤ 6) (n : Int) (r : Bool) (w : World) (hm : IsMatL w a bs) (hm2 : Mo.RdR w a2 ms) (hl : bs.length + (lens bs).sum + ms.length ≤ 1048576)
    (hS : ∀ w' B T v am cm, OwnG w' B T v bs → Mo.RdR w' am ms → Calls Try.prog 7 #[v, .int .i64 p, .slice am ms.length cm] w' (RpP y1 y2 n r w'))
    (hI : ∀ w' B T v am cm, OwnG w' B T v bs → Mo.RdR w' am ms → Calls Try.prog 10 #[v, .int .i64 p, .slice am ms.length cm] w' (RpP y1 y2 n r w')) :
    Calls Try.prog 3 #[.agg #[.slice a bs.length c], .int .i64 p, .slice a2 ms.length c2] w fun e w' => e = .returned (.bool true) ∧ Below w.heap.size w w' := by
  have b0 := (Below.refl w.heap.size w).alloc (Nat.le_refl _) (.cells #[.slice a bs.length c] 24)
  have HSZ := Lib.hid (szG_yes a c bs _ (hm.below b0) (by omega))
  have hz0 : ¬ ((1048576 : Int) - (bs.length : Int) - ((lens bs).sum : Nat)) < 0 := by omega
  have HSM := Lib.hid (fun w9 => Mo.sz_yes a2 ms.length c2 ((1048576 : Int) - (bs.length : Int) - ((lens bs).sum : Nat)) w9 (by omega) (by omega))
  have hz1 : ¬ ((1048576 : Int) - (bs.length : Int) - ((lens bs).sum : Nat) - (ms.length : Int)) < 0 := by omega
  have HTO := Lib.hid (fun (w' : World) (hb : Below w.heap.size w w') => toG_any a c bs w' (hm.below hb) (by omega))
  have HTM := Lib.hid (fun (w' : World) (hb : Below w.heap.size w w') => Mo.to_any a2 c2 ms w' (hm2.below hb) (by omega))
  have HEM := Lib.hid (fun (w' : World) a1 a3 c1 c3 h1 h3 => Mo.eq_any a1 a3 c1 c3 ms w' (by omega) h1 h3)
  have HMK := Lib.hid (fun (w' : World) (B T : Nat) (v : Value) (h : OwnG w' B T v bs) (hB : B ≤ w'.heap.size) => (show Calls Try.prog 14 #[v, .int .i64 1] w' fun e w2 => ∃ k : Int, e = .returned (.int .i64 k) ∧ (0 ≤ k ∧ k ≤ 1048577) ∧ Wr B T w' w2 from
    (markG_own h (by have : (bs.map List.length).sum = (lens bs).sum := rfl; omega) hB).mono fun e w2 ⟨h1, h3⟩ => ⟨_, h1, by have : (bs.map List.length).sum = (lens bs).sum := rfl; omega, h3⟩))
  have HMM := Lib.hid (fun (w' : World) (B : Nat) (v : Value) (K : Int) (h0 : 0 ≤ K) (h1 : K ≤ 1048577) (h : Mo.OwnR w' B v ms) => (show Calls Try.prog 15 #[v, .int .i64 K] w' fun e w2 => ∃ k : Int, e = .returned (.int .i64 k) ∧ 0 ≤ k ∧ w'.grownBy w2 v.ownBlock from
    (Mo.markG K h0 (by omega) h (by omega)).mono fun e w2 ⟨h1, _, h3⟩ => ⟨_, h1, by omega, h3⟩))
  have HMG := Lib.hid (fun (w' : World) (B k : Nat) (v : Value) (ys : List Int) (hk : k ≤ 100) (hy : ys.length ≤ 6) (h : OwnW w' B v ys) => (show Calls Try.prog 16 #[v, .int .i64 (k : Nat)] w' (MarkedW B v k ys.length w') from mark_ownW k h (by omega)))
  have HHG := Lib.hid (fun (w' : World) (B k : Nat) (v : Value) (n : Nat) (hk : k ≤ 100) (hn : n ≤ 6) (h : OwnW w' B v (marks k n)) => (show Calls Try.prog 17 #[v, .int .i64 (k : Nat)] w' (Count (((k : Nat) : Int) + (n : Nat)) w') from held_ownW k n h (by omega)))
  have HS := Lib.hid hS
  have HI := Lib.hid hI
  have HFM := Lib.hid (fun (w' : World) (B T : Nat) (v : Value) (h : OwnG w' B T v bs) => h.form)
  have HRW := Lib.hid (fun (w' : World) (B : Nat) (v : Value) (h : Mo.OwnR w' B v ms) => h.row)
  clear hS hI hm hm2 hl
  generalize (lens bs).sum = T at *
  generalize bs.length = N at *
  generalize ms.length = M at *
  go_enter Try.func3, Try.ntmps3
  go_wp2_with fail
  have BZ := Blk.newAt w w.heap.size [.slice a N c] 24 rfl
  have hsz : (w.alloc (.cells #[.slice a N c] 24)).heap.size = w.heap.size + 1 := Array.size_push _
  have eL : (w.alloc (.cells #[.slice a N c] 24)) = w.alloc (.cells [.slice a N c].toArray 24) := rfl
  rw [eL] at b0 HSZ hsz ⊢
  clear eL
  generalize w.alloc (.cells [.slice a N c].toArray 24) = W0 at *
  have HZ := Lib.hid (fun (w' : World) (hb : Below W0.heap.size W0 w') => (show w'.cell? ⟨w.heap.size, 0, none⟩ = some (.slice a N c) from (BZ.below hb (by omega)).cell 0))
  clear BZ
  refine HSZ.out.mono ?_; rintro e w1 ⟨rfl, b1⟩
  have z0 := HZ.out w1 b1
  have B1 := Lib.hid (bt b0 b1)
  have B01 := Lib.hid b1
  clear b1
  go_wp2_with fail
  refine (HSM.out w1).mono ?_; rintro e w1' ⟨rfl, rfl⟩
  go_wp2_with fail
  refine (HTO.out w1 B1.out).mono ?_; rintro e w2 ⟨v1, rfl, o1, b2, _⟩
  have B2 := Lib.hid (bt B1.out b2)
  go_wp2_with fail
  refine (HTM.out w2 B2.out).mono ?_; rintro e w2' ⟨vm, rfl, om, b2'⟩
  obtain ⟨am, cm, rfl, hrm⟩ := HRW.out _ _ _ om
  go_wp2_with fail
  refine (HS.out w2' _ _ v1 am cm (o1.below b2' (Nat.le_refl _)) hrm).mono ?_; rintro e w3 ⟨vw1, vw2, rfl, ow1, ow2, _, b3⟩
  have B3 := Lib.hid (bt (bt B2.out b2') b3)
  have B03 := Lib.hid (bt (bt (bt B01.out b2) b2') b3)
  have HOW1 := Lib.hid (fun (w' : World) (hb : Below w3.heap.size w3 w') => OwnW.below ow1 hb (Nat.le_refl _))
  have HOW2 := Lib.hid (fun (w' : World) (hb : Below w3.heap.size w3 w') => OwnW.below ow2 hb (Nat.le_refl _))
  obtain ⟨aw1, nw1, cw1, ew1⟩ : ∃ a n c, vw1 = .slice a n c := by
    rcases ow1.cases with ⟨rfl, _⟩ | ⟨g, cap, rfl, _⟩ <;> exact ⟨_, _, _, rfl⟩
  obtain ⟨aw2, nw2, cw2, ew2⟩ : ∃ a n c, vw2 = .slice a n c := by
    rcases ow2.cases with ⟨rfl, _⟩ | ⟨g, cap, rfl, _⟩ <;> exact ⟨_, _, _, rfl⟩
  subst ew1 ew2
  clear ow1 ow2
  clear o1 b2 b2' b3 z0 B1 B01 B2 om hrm
  have z0 := HZ.out w3 B03.out
  go_wp2_with fail
  refine (HTO.out w3 B3.out).mono ?_; rintro e w4 ⟨x0, rfl, ox, b4, s4⟩
  have B34 := Lib.hid b4
  obtain ⟨xa, xc, ex⟩ := HFM.out _ _ _ _ ox
  subst ex
  clear b4 z0
  go_wp2_with fail
  have BX := Blk.newAt w4 w4.heap.size [.slice xa N xc] 31 rfl
  have b5 := (Below.refl w4.heap.size w4).alloc (Nat.le_refl _) (.cells [.slice xa N xc].toArray 31)
  have ox5 : OwnG (w4.alloc (.cells [.slice xa N xc].toArray 31)) (w3.heap.size + 3) w4.heap.size (.agg #[.slice xa N xc]) bs := ox.below b5 (Nat.le_refl _)
  have B35 := Lib.hid (bt B34.out b5)
  have s5 := b5.size
  have eL2 : (w4.alloc (.cells #[.slice xa N xc] 31)) = w4.alloc (.cells [.slice xa N xc].toArray 31) := rfl
  rw [eL2]
  clear eL2 ox b5 B34
  have hs5 : w4.heap.size < (w4.alloc (.cells [.slice xa N xc].toArray 31)).heap.size := by simp
  generalize w4.alloc (.cells [.slice xa N xc].toArray 31) = W5 at *
  have HX := Lib.hid (fun (w' : World) (hb : Below W5.heap.size W5 w') => (show (w'.cell? ⟨w4.heap.size, 0, none⟩ = some (.slice xa N xc) ∧ w'.cell? ⟨w.heap.size, 0, none⟩ = some (.slice a N c)) ∧
      OwnG w' (w3.heap.size + 3) w4.heap.size (.agg #[.slice xa N xc]) bs from
    ⟨⟨(BX.below hb BX.lt).cell 0, HZ.out w' (bt (bt B03.out B35.out) hb)⟩, ox5.below hb (Nat.le_refl _)⟩))
  clear BX ox5
  refine (HTM.out W5 (bt B3.out B35.out)).mono ?_; rintro e w5 ⟨vx, rfl, oxm, b5⟩
  obtain ⟨xm, cxm, rfl, hrx⟩ := HRW.out _ _ _ oxm
  have B55 := Lib.hid b5
  have s55 := b5.size
  clear b5
  obtain ⟨⟨x0, z0⟩, ox5⟩ := HX.out w5 B55.out
  have HI5 := Lib.hid (HI.out w5 _ _ _ xm cxm ox5 hrx)
  have OXB := Lib.hid oxm.block
  clear ox5
  go_wp2_with fail
  refine HI5.out.mono ?_; rintro e w6 ⟨vg1, vg2, rfl, og1, og2, hne, b6⟩
  clear x0 z0
  obtain ⟨ag1, ng1, cg1, eg1⟩ : ∃ a n c, vg1 = .slice a n c := by
    rcases og1.cases with ⟨rfl, _⟩ | ⟨g, cap, rfl, _⟩ <;> exact ⟨_, _, _, rfl⟩
  obtain ⟨ag2, ng2, cg2, eg2⟩ : ∃ a n c, vg2 = .slice a n c := by
    rcases og2.cases with ⟨rfl, _⟩ | ⟨g, cap, rfl, _⟩ <;> exact ⟨_, _, _, rfl⟩
  subst eg1 eg2
  have hgb1 := og1.block
  have hgb2 := og2.block
  have s6 := b6.size
  have B36 := Lib.hid (bt (bt B35.out B55.out) b6)
  go_wp2_with fail
  refine (eqW_below og1 (HOW1.out w6 B36.out)).mono ?_; rintro e w6a ⟨rfl, b6a⟩
  have B36a := Lib.hid (bt B36.out b6a)
  have og2a := og2.below b6a (Nat.le_refl _)
  go_wp2_with fail
  refine (eqW_below og2a (HOW2.out w6a B36a.out)).mono ?_; rintro e w7 ⟨rfl, b7⟩
  have b57 := Lib.hid (bt (bt (bt B55.out b6) b6a) b7)
  have B37 := Lib.hid (bt B36a.out b7)
  have OXM := Lib.hid (((oxm.below b6 (Nat.le_refl _)).below b6a (Nat.le_refl _)).below b7 (Nat.le_refl _))
  have OG1 := Lib.hid (fun (w' : World) (hb : Below w7.heap.size w7 w') => ((og1.below b6a (Nat.le_refl _)).below b7 (Nat.le_refl _)).below hb (Nat.le_refl _))
  have OG2 := Lib.hid (fun (w' : World) (hb : Below w7.heap.size w7 w') => (og2a.below b7 (Nat.le_refl _)).below hb (Nat.le_refl _))
  have s6a := b6a.size
  have s7 := b7.size
  clear og1 og2 og2a b6 b6a b7 B36 B36a HI5
  obtain ⟨⟨x0, z0⟩, _⟩ := HX.out w7 b57.out
  have HCT := Lib.hid (HTO.out w7.drew (bt B3.out B37.out).drew)
  have HEQ := Lib.hid (fun (w8 : World) (u : Value) (b8 : Below w7.drew.heap.size w7.drew w8) (ou : OwnG w8 (w7.drew.heap.size + 3) w8.heap.size u bs) => eqG_own (HX.out w8 (bt b57.out (drewBB b8))).2 ou)
  have HX8 := Lib.hid (fun (w8 : World) (b8 : Below w7.drew.heap.size w7.drew w8) => (HX.out w8 (bt b57.out (drewBB b8))).1)
  go_wp2
  go_region_held3 (fun w' => w'.cell? ⟨w4.heap.size, 0, none⟩ = some (.slice xa N xc) ∧ w'.cell? ⟨w.heap.size, 0, none⟩ = some (.slice a N c)) (first | exact ⟨x0, z0⟩ | exact HX8.out _ (by assumption) | exact HX8.out _ (bt b8 b9)) (first | (go_at_call 8; (with_reducible refine HCT.out.mono ?_); rintro e w8 ⟨u, rfl, ou, b8, _⟩) | (go_at_call 12; (with_reducible refine (HEQ.out _ _ b8 ou).mono ?_); rintro e w9 ⟨rfl, b9⟩))
  have b79 : Below w7.heap.size w7 w9 := drewBB (bt b8 b9)
  have b59 := Lib.hid (bt b57.out b79)
  have B39 := Lib.hid (bt B37.out b79)
  have OXM9 := Lib.hid (OXM.out.below b79 (Nat.le_refl _))
  have s9 := b79.size
  have OG19 := Lib.hid (OG1.out w9 b79)
  have OG29 := Lib.hid (OG2.out w9 b79)
  clear OG1 OG2
  clear b8 b9 b79 ou z0 HCT HEQ HX8 OXM b57 B37
  go_wp2_with fail
  refine (HTM.out w9 (bt B3.out B39.out)).mono ?_; rintro e wa ⟨va, rfl, oa, ba⟩
  obtain ⟨aa, ca, rfl, hra⟩ := HRW.out _ _ _ oa
  have oxa := OXM9.out.below ba (Nat.le_refl _)
  obtain ⟨am', cm', hve, hrma⟩ := HRW.out _ _ _ oxa
  injection hve with hv1 hv2 hv3
  subst hv1 hv3
  go_wp2_with fail
  refine (HEM.out wa _ _ _ _ hrma hra).mono ?_; rintro e wb ⟨rfl, bb⟩
  have b9b := bt ba bb
  have B3b := Lib.hid (bt B39.out b9b)
  have b5b := Lib.hid (bt b59.out b9b)
  have OG1b := Lib.hid (OG19.out.below b9b (Nat.le_refl _))
  have OG2b := Lib.hid (OG29.out.below b9b (Nat.le_refl _))
  have OXMb := Lib.hid (oxa.below bb (Nat.le_refl _))
  have sb := b9b.size
  clear OG19 OG29 OXM9 oa ba bb hra oxa hrma b9b b59 B39
  obtain ⟨⟨x0, _⟩, oxb⟩ := HX.out wb b5b.out
  have HMKb := Lib.hid (HMK.out wb _ _ _ oxb (by omega))
  clear oxb HX HMK
  go_wp2_with fail
  refine HMKb.out.mono ?_; rintro e wc ⟨kc, rfl, ⟨hkc, hkc2⟩, wrc⟩
  have sc := wrc.size
  have B3c := Lib.hid (wrc.belowT B3b.out (by omega) B3b.out.size)
  have og1c := OG1b.out.wr wrc (U := wb.heap.size) (fun k hk => (OG1b.out.block k hk).2) (.inr (by omega))
  have og2c := OG2b.out.wr wrc (U := wb.heap.size) (fun k hk => (OG2b.out.block k hk).2) (.inr (by omega))
  have oxc : Mo.OwnR wc W5.heap.size (.slice xm M cxm) ms := OXMb.out.same fun b hb hlt => wrc.block b hlt (by have := (OXMb.out.block b hb).1; omega)
  clear wrc OG1b OG2b OXMb HMKb b5b B3b
  go_wp2_with fail
  refine (HMM.out wc _ _ kc hkc hkc2 oxc).mono ?_; rintro e wd ⟨kd, rfl, hkd, gd⟩
  have sd := gd.size
  have B3d : Hid (Below w3.heap.size w3 wd) := B3c.out.grown gd B3c.out.size (fun k hk => by have := (oxc.block k hk).1; omega)
  have og1d : OwnW wd w5.heap.size _ y1 := og1c.kept gd (fun k hk e => by have h1 := (hgb1 k hk).1; have h2 := (OXB.out k e.symm).2; omega)
  have og2d : OwnW wd w5.heap.size _ y2 := og2c.kept gd (fun k hk e => by have h1 := (hgb2 k hk).1; have h2 := (OXB.out k e.symm).2; omega)
  clear gd og1c og2c oxc B3c
  go_wp2_with fail
  refine (eqW_below og1d (HOW1.out wd B3d.out)).mono ?_; rintro e we ⟨rfl, be⟩
  have B3e := Lib.hid (bt B3d.out be)
  have og1e := og1d.below be (Nat.le_refl _)
  have og2e := og2d.below be (Nat.le_refl _)
  clear og1d og2d be B3d
  go_wp2_with fail
  refine (eqW_below og2e (HOW2.out we B3e.out)).mono ?_; rintro e wf ⟨rfl, bf⟩
  have B3f := Lib.hid (bt B3e.out bf)
  have og1f := og1e.below bf (Nat.le_refl _)
  have og2f := og2e.below bf (Nat.le_refl _)
  clear og1e og2e bf B3e
  go_wp2_with fail
  refine (HMG.out wf _ 1 _ y1 (by omega) hy1 og1f).mono ?_; rintro e wg ⟨rfl, om1, gm1⟩
  have B3g : Hid (Below w3.heap.size w3 wg) := B3f.out.grown gm1 B3f.out.size (fun k hk => by have := (hgb1 k hk).1; omega)
  have og2g := og2f.kept gm1 (fun k hk e => hne k e.symm hk)
  clear gm1 og1f og2f B3f
  go_wp2_with fail
  refine (HMG.out wg _ (1 + y1.length) _ y2 (by omega) hy2 og2g).mono ?_; rintro e wh ⟨rfl, om2, gm2⟩
  have B3h : Hid (Below w3.heap.size w3 wh) := B3g.out.grown gm2 B3g.out.size (fun k hk => by have := (hgb2 k hk).1; omega)
  have om1h := om1.kept gm2 (fun k hk e => hne k hk e.symm)
  clear gm2 om1 og2g B3g
  go_wp2_with fail
  refine (HHG.out wh _ 1 _ y1.length (by omega) hy1 om1h).mono ?_; rintro e w' ⟨rfl, rfl⟩
  go_wp2_with fail
  refine (HHG.out wh _ (1 + y1.length) _ y2.length (by omega) hy2 om2).mono ?_; rintro e w' ⟨rfl, rfl⟩
  have z0 := HZ.out wh (bt B03.out B3h.out)
  go_wp2_with fail
  refine (HTO.out wh (bt B3.out B3h.out)).mono ?_; rintro e wi ⟨ui, rfl, oi, bi, _⟩
  have Bi := Lib.hid (bt B3h.out bi)
  go_wp2_with fail
  refine (HTM.out wi (bt B3.out Bi.out)).mono ?_; rintro e wj ⟨uj, rfl, oj, bj⟩
  obtain ⟨aj, cj, rfl, hrj⟩ := HRW.out _ _ _ oj
  go_wp2_with fail
  refine (HI.out wj _ _ ui aj cj (oi.below bj (Nat.le_refl _)) hrj).mono ?_; rintro e wk ⟨vh1, vh2, rfl, oh1, oh2, _, bk⟩
  obtain ⟨ah1, nh1, ch1, eh1⟩ : ∃ a n c, vh1 = .slice a n c := by
    rcases oh1.cases with ⟨rfl, _⟩ | ⟨g, cap, rfl, _⟩ <;> exact ⟨_, _, _, rfl⟩
  obtain ⟨ah2, nh2, ch2, eh2⟩ : ∃ a n c, vh2 = .slice a n c := by
    rcases oh2.cases with ⟨rfl, _⟩ | ⟨g, cap, rfl, _⟩ <;> exact ⟨_, _, _, rfl⟩
  subst eh1 eh2
  have bhk := bt (bt bi bj) bk
  have B3k := Lib.hid (bt B3h.out bhk)
  have om1k := om1h.below bhk (Nat.le_refl _)
  have om2k := om2.below bhk (Nat.le_refl _)
  clear om1h om2 oi oj hrj bi bj bk bhk Bi z0 B3h
  go_wp2_with fail
  refine (eqW_below oh1 (HOW1.out wk B3k.out)).mono ?_; rintro e wl ⟨rfl, bl⟩
  have B3l := Lib.hid (bt B3k.out bl)
  have oh2l := oh2.below bl (Nat.le_refl _)
  have om1l := om1k.below bl (Nat.le_refl _)
  have om2l := om2k.below bl (Nat.le_refl _)
  clear om1k om2k oh1 oh2 bl B3k
  go_wp2_with fail
  refine (eqW_below oh2l (HOW2.out wl B3l.out)).mono ?_; rintro e wm ⟨rfl, bm⟩
  have HBE := Lib.hid (bt B3.out (bt B3l.out bm))
  have om1m := om1l.below bm (Nat.le_refl _)
  have om2m := om2l.below bm (Nat.le_refl _)
  clear om1l om2l oh2l bm B3l
  go_wp2_with fail
  refine (HHG.out wm _ 1 _ y1.length (by omega) hy1 om1m).mono ?_; rintro e w' ⟨rfl, rfl⟩
  go_wp2_with fail
  refine (HHG.out wm _ (1 + y1.length) _ y2.length (by omega) hy2 om2m).mono ?_; rintro e w' ⟨rfl, rfl⟩
  go_wp2
  go_ret
  exact ⟨rfl, HBE.out⟩
set_option maxRecDepth 100000 in
theorem walk (a : Option Addr) (len cap : Nat) (p : Int) (a2 : Option Addr) (c2 : Nat) (ms : List Mo.R) (w : World) (w0 : IsMat w a len) (_wp : (Lit.int .i64 p).wf = true) (w2 : Mo.RdR w a2 ms) (hm2 : ms.length ≤ 9223372036854775807) :
    Calls Try.prog 3 #[.agg #[.slice a len cap], .int .i64 p, .slice a2 ms.length c2] w fun e w' => e = .returned (.bool true) ∧ Below w.heap.size w w' := by
  obtain ⟨bs, rfl, hm⟩ := w0.list
  have b0 := (Below.refl w.heap.size w).alloc (Nat.le_refl _) (.cells #[.slice a bs.length cap] 24)
  by_cases hl : bs.length + (lens bs).sum ≤ 1048576
  · by_cases hl2 : bs.length + (lens bs).sum + ms.length ≤ 1048576
    · have hxs : ∀ i, i < bs.length → (bs.getD i []).length ≤ 1048576 := fun i hi => by
        have h1 := lens_get bs i hi
        have h2 := sum_step (lens bs) i (by rw [lens_length]; exact hi)
        have h3 := sum_take_le (lens bs) (i + 1)
        omega
      exact core a cap bs p a2 c2 ms (bitL (gF (pbQ bs p ms)) 6) (bitL (gS (pbQ bs p ms)) 6) (bitL_len _ 6) (bitL_len _ 6) ((gT (pbQ bs p ms) : Nat) : Int) (pbQ bs p ms).isSome w hm w2 hl2 (fun w' B T v am cm h hr => rp_s (h.rd (by omega) hxs) p am cm ms hr (by omega)) (fun w' B T v am cm h hr => rp_i (h.rd (by omega) hxs) p am cm ms hr (by omega))
    · have HSZ := Lib.hid (szG_yes a cap bs _ (hm.below b0) hl)
      have hz0 : ¬ ((1048576 : Int) - (bs.length : Int) - ((lens bs).sum : Nat)) < 0 := by omega
      have HSM := Lib.hid (fun w9 => Mo.sz_no a2 ms.length c2 ((1048576 : Int) - (bs.length : Int) - ((lens bs).sum : Nat)) w9 (by omega) (by omega) (by omega) hm2)
      clear hm hl hl2 w2
      generalize (lens bs).sum = T at *
      generalize bs.length = N at *
      generalize ms.length = M at *
      go_enter Try.func3, Try.ntmps3
      go_wp2_with fail
      refine HSZ.out.mono ?_; rintro e w1 ⟨rfl, b1⟩
      have B1 := Lib.hid (bt b0 b1)
      clear b0 b1
      go_wp2_with fail
      refine (HSM.out w1).mono ?_; rintro e w1' ⟨rfl, rfl⟩
      go_wp2
      go_ret
      exact ⟨rfl, B1.out⟩
  · have HSZ := Lib.hid (szG_no a cap bs _ (hm.below b0) hl)
    clear hm hl w2
    generalize bs.length = N at *
    generalize ms.length = M at *
    go_enter Try.func3, Try.ntmps3
    go_wp2_with fail
    refine HSZ.out.mono ?_; rintro e w1 ⟨rfl, b1⟩
    have B1 := Lib.hid (bt b0 b1)
    clear b0 b1
    go_wp2
    go_ret
    exact ⟨rfl, B1.out⟩
end Go.Proofs.Ytepobkflahjldaa.fnExactRunPebbling
