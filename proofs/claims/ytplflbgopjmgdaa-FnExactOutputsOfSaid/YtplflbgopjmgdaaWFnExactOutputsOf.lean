/- The walk of laws.FnExactOutputsOf: the call returns true and writes nothing that was there. -/
import Derived.Test.YtplflbgopjmgdaaCgmf
import Derived.Deep.RegionHeld3
namespace Go.Proofs.Ytplflbgopjmgdaa.fnExactOutputsOf
open Go.RowKit Pv Pb
theorem drewBB {w w' : World} {B : Nat} (h : Below B w.drew w') : Below B w w' := (Below.refl _ w).drew.trans h
set_option maxHeartbeats 8000000 in
theorem core (a : Option Addr) (c : Nat) (bs : List (List Int)) (ys : List Int) (r : Bool) (hy : ys.length ≤ 1000000) (w : World) (hm : IsMatL w a bs) (hl : bs.length + (lens bs).sum ≤ 1048576)
    (hS : ∀ w' B T v, OwnG w' B T v bs → Calls Try.prog 19 #[v] w' (ResG ys r w'))
    (hI : ∀ w' B T v, OwnG w' B T v bs → Calls Try.prog 20 #[v] w' (ResG ys r w')) :
    Calls Try.prog 5 #[.agg #[.slice a bs.length c]] w fun e w' => e = .returned (.bool true) ∧ Below w.heap.size w w' := by
  have b0 := (Below.refl w.heap.size w).alloc (Nat.le_refl _) (.cells #[.slice a bs.length c] 24)
  have HSZ := Lib.hid (szG_yes a c bs _ (hm.below b0) hl)
  have hz0 : ¬ ((1048576 : Int) - (bs.length : Int) - ((lens bs).sum : Nat)) < 0 := by omega
  have HTO := Lib.hid (fun (w' : World) (hb : Below w.heap.size w w') => toG_any a c bs w' (hm.below hb) hl)
  have HMK := Lib.hid (fun (w' : World) (B T : Nat) (v : Value) (h : OwnG w' B T v bs) (hB : B ≤ w'.heap.size) => (show Calls Try.prog 16 #[v, .int .i64 1] w' fun e w2 => ∃ k : Int, e = .returned (.int .i64 k) ∧ 0 ≤ k ∧ Wr B T w' w2 from
    (markG_own h (by have : (bs.map List.length).sum = (lens bs).sum := rfl; omega) hB).mono fun e w2 ⟨h1, h3⟩ => ⟨_, h1, by omega, h3⟩))
  have HMG := Lib.hid (fun (w' : World) (B : Nat) (v : Value) (h : OwnW w' B v ys) => (show Calls Try.prog 17 #[v, .int .i64 1] w' (MarkedW B v 1 ys.length w') from mark_ownW 1 h (by omega)))
  have HHG := Lib.hid (fun (w' : World) (B : Nat) (v : Value) (h : OwnW w' B v (marks 1 ys.length)) => (show Calls Try.prog 18 #[v, .int .i64 1] w' (Count (((1 : Nat) : Int) + (ys.length : Nat)) w') from held_ownW 1 ys.length h (by omega)))
  have hyl : (ys.length : Int) ≤ 1000000 := by omega
  have HS := Lib.hid hS
  have HI := Lib.hid hI
  have HFM := Lib.hid (fun (w' : World) (B T : Nat) (v : Value) (h : OwnG w' B T v bs) => h.form)
  clear hS hI hm hl
  generalize (lens bs).sum = T at *
  generalize bs.length = N at *
  generalize ys.length = Y at *
  go_enter Try.func5, Try.ntmps5
  go_wp2_with fail
  have BZ := Blk.newAt w w.heap.size [.slice a N c] 24 rfl
  have hsz : (w.alloc (.cells #[.slice a N c] 24)).heap.size = w.heap.size + 1 := Array.size_push _
  have eL : (w.alloc (.cells #[.slice a N c] 24)) = w.alloc (.cells [.slice a N c].toArray 24) := rfl
  rw [eL] at b0 HSZ hsz ⊢
  clear eL
  generalize w.alloc (.cells [.slice a N c].toArray 24) = W0 at *
  have HZ := Lib.hid (fun (w' : World) (hb : Below W0.heap.size W0 w') => (show w'.cell? ⟨w.heap.size, 0, none⟩ = some (.slice a N c) from (BZ.below hb (by omega)).cell 0))
  clear BZ
  refine HSZ.out.mono ?_; rintro e w1 ⟨rfl, b1⟩
  have z0 := HZ.out w1 b1
  have B1 := Lib.hid (bt b0 b1)
  have B01 := Lib.hid b1
  clear b1
  go_wp2_with fail
  refine (HTO.out w1 B1.out).mono ?_; rintro e w2 ⟨v1, rfl, o1, b2, _⟩
  go_wp2_with fail
  refine (HS.out w2 _ _ v1 o1).mono ?_; rintro e w3 ⟨vw, rfl, ow, b3⟩
  have B3 := Lib.hid (bt (bt B1.out b2) b3)
  have B03 := Lib.hid (bt (bt B01.out b2) b3)
  have hwb := ow.block
  have HOW := Lib.hid (fun (w' : World) (hb : Below w3.heap.size w3 w') => OwnW.below ow hb (Nat.le_refl _))
  clear o1 ow b2 b3 z0 B1 B01
  have z0 := HZ.out w3 B03.out
  go_wp2_with fail
  refine (HTO.out w3 B3.out).mono ?_; rintro e w4 ⟨x0, rfl, ox, b4, s4⟩
  have B34 := Lib.hid b4
  obtain ⟨xa, xc, ex⟩ := HFM.out _ _ _ _ ox
  subst ex
  clear b4 z0
  go_wp2_with fail
  have BX := Blk.newAt w4 w4.heap.size [.slice xa N xc] 27 rfl
  have b5 := (Below.refl w4.heap.size w4).alloc (Nat.le_refl _) (.cells [.slice xa N xc].toArray 27)
  have ox5 : OwnG (w4.alloc (.cells [.slice xa N xc].toArray 27)) (w3.heap.size + 3) w4.heap.size (.agg #[.slice xa N xc]) bs := ox.below b5 (Nat.le_refl _)
  have B35 := Lib.hid (bt B34.out b5)
  have s5 := b5.size
  have eL2 : (w4.alloc (.cells #[.slice xa N xc] 27)) = w4.alloc (.cells [.slice xa N xc].toArray 27) := rfl
  rw [eL2]
  clear eL2 ox b5 B34
  generalize w4.alloc (.cells [.slice xa N xc].toArray 27) = W5 at *
  have HX := Lib.hid (fun (w' : World) (hb : Below W5.heap.size W5 w') => (show (w'.cell? ⟨w4.heap.size, 0, none⟩ = some (.slice xa N xc) ∧ w'.cell? ⟨w.heap.size, 0, none⟩ = some (.slice a N c)) ∧
      OwnG w' (w3.heap.size + 3) w4.heap.size (.agg #[.slice xa N xc]) bs from
    ⟨⟨(BX.below hb BX.lt).cell 0, HZ.out w' (bt (bt B03.out B35.out) hb)⟩, ox5.below hb (Nat.le_refl _)⟩))
  have HI5 := Lib.hid (HI.out W5 _ _ _ ox5)
  clear BX ox5
  refine HI5.out.mono ?_; rintro e w6 ⟨vg, rfl, og, b6⟩
  have hgb := og.block
  have b56 := Lib.hid b6
  have B36 := Lib.hid (bt B35.out b6)
  have s6 := b6.size
  clear b6
  go_wp2_with fail
  refine (eqW_below og (HOW.out w6 B36.out)).mono ?_; rintro e w7 ⟨rfl, b7⟩
  have b57 := Lib.hid (bt b56.out b7)
  have B37 := Lib.hid (bt B36.out b7)
  have OG := Lib.hid (fun (w' : World) (hb : Below w7.heap.size w7 w') => (OwnW.below og b7 (Nat.le_refl _)).below hb (Nat.le_refl _))
  have s7 := b7.size
  clear og b7 b56 B36 HI5
  obtain ⟨⟨x0, z0⟩, _⟩ := HX.out w7 b57.out
  have HCT := Lib.hid (HTO.out w7.drew (bt B3.out B37.out).drew)
  have HEQ := Lib.hid (fun (w8 : World) (u : Value) (b8 : Below w7.drew.heap.size w7.drew w8) (ou : OwnG w8 (w7.drew.heap.size + 3) w8.heap.size u bs) => eqG_own (HX.out w8 (bt b57.out (drewBB b8))).2 ou)
  have HX8 := Lib.hid (fun (w8 : World) (b8 : Below w7.drew.heap.size w7.drew w8) => (HX.out w8 (bt b57.out (drewBB b8))).1)
  go_wp2
  go_region_held3 (fun w' => w'.cell? ⟨w4.heap.size, 0, none⟩ = some (.slice xa N xc) ∧ w'.cell? ⟨w.heap.size, 0, none⟩ = some (.slice a N c)) (first | exact ⟨x0, z0⟩ | exact HX8.out _ (by assumption) | exact HX8.out _ (bt b8 b9)) (first | (go_at_call 10; (with_reducible refine HCT.out.mono ?_); rintro e w8 ⟨u, rfl, ou, b8, _⟩) | (go_at_call 12; (with_reducible refine (HEQ.out _ _ b8 ou).mono ?_); rintro e w9 ⟨rfl, b9⟩))
  have b79 : Below w7.heap.size w7 w9 := drewBB (bt b8 b9)
  have b59 := Lib.hid (bt b57.out b79)
  have B39 := Lib.hid (bt B37.out b79)
  have OG9 := Lib.hid (OG.out w9 b79)
  have s9 := b79.size
  obtain ⟨⟨x0, _⟩, ox9⟩ := HX.out w9 b59.out
  have HMK9 := Lib.hid (HMK.out w9 _ _ _ ox9 (by omega))
  clear b8 b9 b79 ou ox9 z0 HCT HEQ HX8 HX OG b57 B37 HMK
  go_wp2_with fail
  refine HMK9.out.mono ?_; rintro e w10 ⟨k10, rfl, hk10, wr10⟩
  have s10 := wr10.size
  have B310 := Lib.hid (wr10.belowT B39.out (by omega) B39.out.size)
  have og10 := OG9.out.wr wr10 (U := w9.heap.size) (fun k hk => (OG9.out.block k hk).2) (.inr (by omega))
  clear wr10 OG9 HMK9 b59 B39
  go_wp2_with fail
  refine (eqW_below og10 (HOW.out w10 B310.out)).mono ?_; rintro e w11 ⟨rfl, b11⟩
  have B311 := Lib.hid (bt B310.out b11)
  have og11 := og10.below b11 (Nat.le_refl _)
  have s11 := b11.size
  clear og10 b11 B310
  go_wp2_with fail
  refine (HMG.out w11 _ vg og11).mono ?_; rintro e w12 ⟨rfl, om, gm⟩
  have B312 : Below w3.heap.size w3 w12 := B311.out.grown gm B311.out.size (fun k hk => by have := (hgb k hk).1; omega)
  have s12 := gm.size
  have BH12 := Lib.hid B312
  clear og11 gm B312 B311
  go_wp2_with fail
  refine (HHG.out w12 _ vg om).mono ?_; rintro e w13 ⟨rfl, rfl⟩
  have z0 := HZ.out w12 (bt B03.out BH12.out)
  go_wp2_with fail
  refine (HTO.out w12 (bt B3.out BH12.out)).mono ?_; rintro e w14 ⟨u14, rfl, o14, b14, _⟩
  have om14 := om.below b14 (Nat.le_refl _)
  have B314 := Lib.hid (bt BH12.out b14)
  clear om b14 BH12 z0
  go_wp2_with fail
  refine (HI.out w14 _ _ u14 o14).mono ?_; rintro e w15 ⟨vh, rfl, oh, b15⟩
  have om15 := om14.below b15 (Nat.le_refl _)
  have B315 := Lib.hid (bt B314.out b15)
  clear om14 b15 B314 o14
  go_wp2_with fail
  refine (eqW_below oh (HOW.out w15 B315.out)).mono ?_; rintro e w16 ⟨rfl, b16⟩
  have om16 := om15.below b16 (Nat.le_refl _)
  have B316 := Lib.hid (bt B3.out (bt B315.out b16))
  clear om15 b16 B315 oh
  go_wp2_with fail
  refine (HHG.out w16 _ vg om16).mono ?_; rintro e w17 ⟨rfl, rfl⟩
  go_wp2
  go_ret
  exact ⟨rfl, B316.out⟩
theorem walk (a : Option Addr) (len cap : Nat) (w : World) (w0 : IsMat w a len) :
    Calls Try.prog 5 #[.agg #[.slice a len cap]] w fun e w' => e = .returned (.bool true) ∧ Below w.heap.size w w' := by
  obtain ⟨bs, rfl, hm⟩ := w0.list
  by_cases hl : bs.length + (lens bs).sum ≤ 1048576
  · have hxs : ∀ i, i < bs.length → (bs.getD i []).length ≤ 1048576 := fun i hi => by
      have h1 := lens_get bs i hi
      have h2 := sum_step (lens bs) i (by rw [lens_length]; exact hi)
      have h3 := sum_take_le (lens bs) (i + 1)
      omega
    exact core a cap bs (bitL (outV bs) 6) (okG bs) (by have := bitL_len (outV bs) 6; omega) w hm hl (fun w' B T v h => ou_s (h.rd (by omega) hxs)) (fun w' B T v h => ou_i (h.rd (by omega) hxs))
  · have b0 := (Below.refl w.heap.size w).alloc (Nat.le_refl _) (.cells #[.slice a bs.length cap] 24)
    have HSZ := Lib.hid (szG_no a cap bs _ (hm.below b0) hl)
    clear hm hl
    generalize bs.length = N at *
    go_enter Try.func5, Try.ntmps5
    go_wp2_with fail
    refine HSZ.out.mono ?_; rintro e w1 ⟨rfl, b1⟩
    have B1 := Lib.hid (bt b0 b1)
    clear b0 b1
    go_wp2
    go_ret
    exact ⟨rfl, B1.out⟩
end Go.Proofs.Ytplflbgopjmgdaa.fnExactOutputsOf
