/- The walk of laws.FnExactIsPebbling: the call returns true and writes nothing that was there. -/
import Derived.Test.YtepobkflahjldaaCisp
import Derived.Deep.RegionHeld3
namespace Go.Proofs.Ytepobkflahjldaa.fnExactIsPebbling
open Go.RowKit Pv Pb
theorem drewBB {w w' : World} {B : Nat} (h : Below B w.drew w') : Below B w w' := (Below.refl _ w).drew.trans h
set_option maxHeartbeats 8000000 in
theorem core (a : Option Addr) (c : Nat) (bs : List (List Int)) (p : Int) (a2 : Option Addr) (c2 : Nat) (ms : List Mo.R) (r : Bool) (w : World) (hm : IsMatL w a bs) (hm2 : Mo.RdR w a2 ms) (hl : bs.length + (lens bs).sum + ms.length ≤ 1048576)
    (hS : ∀ w' B T v am cm, OwnG w' B T v bs → Mo.RdR w' am ms → Calls Try.prog 18 #[v, .int .i64 p, .slice am ms.length cm] w' (Bb r w'))
    (hI : ∀ w' B T v am cm, OwnG w' B T v bs → Mo.RdR w' am ms → Calls Try.prog 19 #[v, .int .i64 p, .slice am ms.length cm] w' (Bb r w')) :
    Calls Try.prog 4 #[.agg #[.slice a bs.length c], .int .i64 p, .slice a2 ms.length c2] w fun e w' => e = .returned (.bool true) ∧ Below w.heap.size w w' := by
  have b0 := (Below.refl w.heap.size w).alloc (Nat.le_refl _) (.cells #[.slice a bs.length c] 24)
  have HSZ := Lib.hid (szG_yes a c bs _ (hm.below b0) (by omega))
  have hz0 : ¬ ((1048576 : Int) - (bs.length : Int) - ((lens bs).sum : Nat)) < 0 := by omega
  have HSM := Lib.hid (fun w9 => Mo.sz_yes a2 ms.length c2 ((1048576 : Int) - (bs.length : Int) - ((lens bs).sum : Nat)) w9 (by omega) (by omega))
  have hz1 : ¬ ((1048576 : Int) - (bs.length : Int) - ((lens bs).sum : Nat) - (ms.length : Int)) < 0 := by omega
  have HTO := Lib.hid (fun (w' : World) (hb : Below w.heap.size w w') => toG_any a c bs w' (hm.below hb) (by omega))
  have HTM := Lib.hid (fun (w' : World) (hb : Below w.heap.size w w') => Mo.to_any a2 c2 ms w' (hm2.below hb) (by omega))
  have HEM := Lib.hid (fun (w' : World) a1 a3 c1 c3 h1 h3 => Mo.eq_any a1 a3 c1 c3 ms w' (by omega) h1 h3)
  have HS := Lib.hid hS
  have HI := Lib.hid hI
  have HFM := Lib.hid (fun (w' : World) (B T : Nat) (v : Value) (h : OwnG w' B T v bs) => h.form)
  have HRW := Lib.hid (fun (w' : World) (B : Nat) (v : Value) (h : Mo.OwnR w' B v ms) => h.row)
  clear hS hI hm hm2 hl
  generalize (lens bs).sum = T at *
  generalize bs.length = N at *
  generalize ms.length = M at *
  go_enter Try.func4, Try.ntmps4
  go_wp2_with fail
  have BZ := Blk.newAt w w.heap.size [.slice a N c] 24 rfl
  have hsz : (w.alloc (.cells #[.slice a N c] 24)).heap.size = w.heap.size + 1 := Array.size_push _
  have eL : (w.alloc (.cells #[.slice a N c] 24)) = w.alloc (.cells [.slice a N c].toArray 24) := rfl
  rw [eL] at b0 HSZ hsz ⊢
  clear eL
  generalize w.alloc (.cells [.slice a N c].toArray 24) = W0 at *
  have HZ := Lib.hid (fun (w' : World) (hb : Below W0.heap.size W0 w') => (show w'.cell? ⟨w.heap.size, 0, none⟩ = some (.slice a N c) from (BZ.below hb (by omega)).cell 0))
  clear BZ
  refine HSZ.out.mono ?_; rintro e w1 ⟨rfl, b1⟩
  have z0 := HZ.out w1 b1
  have B1 := Lib.hid (bt b0 b1)
  have B01 := Lib.hid b1
  clear b1
  go_wp2_with fail
  refine (HSM.out w1).mono ?_; rintro e w1' ⟨rfl, rfl⟩
  go_wp2_with fail
  refine (HTO.out w1 B1.out).mono ?_; rintro e w2 ⟨v1, rfl, o1, b2, _⟩
  have B2 := Lib.hid (bt B1.out b2)
  go_wp2_with fail
  refine (HTM.out w2 B2.out).mono ?_; rintro e w2' ⟨vm, rfl, om, b2'⟩
  obtain ⟨am, cm, rfl, hrm⟩ := HRW.out _ _ _ om
  go_wp2_with fail
  refine (HS.out w2' _ _ v1 am cm (o1.below b2' (Nat.le_refl _)) hrm).mono ?_; rintro e w3 ⟨rfl, b3⟩
  have B3 := Lib.hid (bt (bt B2.out b2') b3)
  have B03 := Lib.hid (bt (bt (bt B01.out b2) b2') b3)
  clear o1 b2 b2' b3 z0 B1 B01 B2 om hrm
  have z0 := HZ.out w3 B03.out
  go_wp2_with fail
  refine (HTO.out w3 B3.out).mono ?_; rintro e w4 ⟨x0, rfl, ox, b4, s4⟩
  have B34 := Lib.hid b4
  obtain ⟨xa, xc, ex⟩ := HFM.out _ _ _ _ ox
  subst ex
  clear b4 z0
  go_wp2_with fail
  have BX := Blk.newAt w4 w4.heap.size [.slice xa N xc] 31 rfl
  have b5 := (Below.refl w4.heap.size w4).alloc (Nat.le_refl _) (.cells [.slice xa N xc].toArray 31)
  have ox5 : OwnG (w4.alloc (.cells [.slice xa N xc].toArray 31)) (w3.heap.size + 3) w4.heap.size (.agg #[.slice xa N xc]) bs := ox.below b5 (Nat.le_refl _)
  have B35 := Lib.hid (bt B34.out b5)
  have s5 := b5.size
  have eL2 : (w4.alloc (.cells #[.slice xa N xc] 31)) = w4.alloc (.cells [.slice xa N xc].toArray 31) := rfl
  rw [eL2]
  clear eL2 ox b5 B34
  have hs5 : w4.heap.size < (w4.alloc (.cells [.slice xa N xc].toArray 31)).heap.size := by simp
  generalize w4.alloc (.cells [.slice xa N xc].toArray 31) = W5 at *
  have HX := Lib.hid (fun (w' : World) (hb : Below W5.heap.size W5 w') => (show (w'.cell? ⟨w4.heap.size, 0, none⟩ = some (.slice xa N xc) ∧ w'.cell? ⟨w.heap.size, 0, none⟩ = some (.slice a N c)) ∧
      OwnG w' (w3.heap.size + 3) w4.heap.size (.agg #[.slice xa N xc]) bs from
    ⟨⟨(BX.below hb BX.lt).cell 0, HZ.out w' (bt (bt B03.out B35.out) hb)⟩, ox5.below hb (Nat.le_refl _)⟩))
  clear BX ox5
  refine (HTM.out W5 (bt B3.out B35.out)).mono ?_; rintro e w5 ⟨vx, rfl, oxm, b5⟩
  obtain ⟨xm, cxm, rfl, hrx⟩ := HRW.out _ _ _ oxm
  have B55 := Lib.hid b5
  have s55 := b5.size
  clear b5
  obtain ⟨⟨x0, z0⟩, ox5⟩ := HX.out w5 B55.out
  have HI5 := Lib.hid (HI.out w5 _ _ _ xm cxm ox5 hrx)
  clear ox5
  go_wp2_with fail
  refine HI5.out.mono ?_; rintro e w6 ⟨rfl, b6⟩
  clear x0 z0
  have b57 := Lib.hid (bt B55.out b6)
  have B37 := Lib.hid (bt (bt B35.out B55.out) b6)
  have OXM := Lib.hid (oxm.below b6 (Nat.le_refl _))
  have s7 := b6.size
  clear b6 HI5
  obtain ⟨⟨x0, z0⟩, _⟩ := HX.out w6 b57.out
  have HCT := Lib.hid (HTO.out w6.drew (bt B3.out B37.out).drew)
  have HEQ := Lib.hid (fun (w8 : World) (u : Value) (b8 : Below w6.drew.heap.size w6.drew w8) (ou : OwnG w8 (w6.drew.heap.size + 3) w8.heap.size u bs) => eqG_own (HX.out w8 (bt b57.out (drewBB b8))).2 ou)
  have HX8 := Lib.hid (fun (w8 : World) (b8 : Below w6.drew.heap.size w6.drew w8) => (HX.out w8 (bt b57.out (drewBB b8))).1)
  go_wp2
  go_region_held3 (fun w' => w'.cell? ⟨w4.heap.size, 0, none⟩ = some (.slice xa N xc) ∧ w'.cell? ⟨w.heap.size, 0, none⟩ = some (.slice a N c)) (first | exact ⟨x0, z0⟩ | exact HX8.out _ (by assumption) | exact HX8.out _ (bt b8 b9)) (first | (go_at_call 8; (with_reducible refine HCT.out.mono ?_); rintro e w8 ⟨u, rfl, ou, b8, _⟩) | (go_at_call 12; (with_reducible refine (HEQ.out _ _ b8 ou).mono ?_); rintro e w9 ⟨rfl, b9⟩))
  have b79 : Below w6.heap.size w6 w9 := drewBB (bt b8 b9)
  have b59 := Lib.hid (bt b57.out b79)
  have B39 := Lib.hid (bt B37.out b79)
  have OXM9 := Lib.hid (OXM.out.below b79 (Nat.le_refl _))
  have s9 := b79.size
  clear b8 b9 b79 ou z0 HCT HEQ HX8 OXM b57 B37
  go_wp2_with fail
  refine (HTM.out w9 (bt B3.out B39.out)).mono ?_; rintro e wa ⟨va, rfl, oa, ba⟩
  obtain ⟨aa, ca, rfl, hra⟩ := HRW.out _ _ _ oa
  have oxa := OXM9.out.below ba (Nat.le_refl _)
  obtain ⟨am', cm', hve, hrma⟩ := HRW.out _ _ _ oxa
  injection hve with hv1 hv2 hv3
  subst hv1 hv3
  go_wp2_with fail
  refine (HEM.out wa _ _ _ _ hrma hra).mono ?_; rintro e wb ⟨rfl, bb⟩
  have HBE := Lib.hid (bt (bt (bt B3.out B39.out) ba) bb)
  clear ba bb
  go_wp2
  go_ret
  exact ⟨rfl, HBE.out⟩
theorem walk (a : Option Addr) (len cap : Nat) (p : Int) (a2 : Option Addr) (c2 : Nat) (ms : List Mo.R) (w : World) (w0 : IsMat w a len) (_wp : (Lit.int .i64 p).wf = true) (w2 : Mo.RdR w a2 ms) (hm2 : ms.length ≤ 9223372036854775807) :
    Calls Try.prog 4 #[.agg #[.slice a len cap], .int .i64 p, .slice a2 ms.length c2] w fun e w' => e = .returned (.bool true) ∧ Below w.heap.size w w' := by
  obtain ⟨bs, rfl, hm⟩ := w0.list
  have b0 := (Below.refl w.heap.size w).alloc (Nat.le_refl _) (.cells #[.slice a bs.length cap] 24)
  by_cases hl : bs.length + (lens bs).sum ≤ 1048576
  · by_cases hl2 : bs.length + (lens bs).sum + ms.length ≤ 1048576
    · have hxs : ∀ i, i < bs.length → (bs.getD i []).length ≤ 1048576 := fun i hi => by
        have h1 := lens_get bs i hi
        have h2 := sum_step (lens bs) i (by rw [lens_length]; exact hi)
        have h3 := sum_take_le (lens bs) (i + 1)
        omega
      exact core a cap bs p a2 c2 ms (ispV bs p ms) w hm w2 hl2 (fun w' B T v am cm h hr => isp_s (h.rd (by omega) hxs) p am cm ms hr (by omega)) (fun w' B T v am cm h hr => isp_i (h.rd (by omega) hxs) p am cm ms hr (by omega))
    · have HSZ := Lib.hid (szG_yes a cap bs _ (hm.below b0) hl)
      have hz0 : ¬ ((1048576 : Int) - (bs.length : Int) - ((lens bs).sum : Nat)) < 0 := by omega
      have HSM := Lib.hid (fun w9 => Mo.sz_no a2 ms.length c2 ((1048576 : Int) - (bs.length : Int) - ((lens bs).sum : Nat)) w9 (by omega) (by omega) (by omega) hm2)
      clear hm hl hl2 w2
      generalize (lens bs).sum = T at *
      generalize bs.length = N at *
      generalize ms.length = M at *
      go_enter Try.func4, Try.ntmps4
      go_wp2_with fail
      refine HSZ.out.mono ?_; rintro e w1 ⟨rfl, b1⟩
      have B1 := Lib.hid (bt b0 b1)
      clear b0 b1
      go_wp2_with fail
      refine (HSM.out w1).mono ?_; rintro e w1' ⟨rfl, rfl⟩
      go_wp2
      go_ret
      exact ⟨rfl, B1.out⟩
  · have HSZ := Lib.hid (szG_no a cap bs _ (hm.below b0) hl)
    clear hm hl w2
    generalize bs.length = N at *
    generalize ms.length = M at *
    go_enter Try.func4, Try.ntmps4
    go_wp2_with fail
    refine HSZ.out.mono ?_; rintro e w1 ⟨rfl, b1⟩
    have B1 := Lib.hid (bt b0 b1)
    clear b0 b1
    go_wp2
    go_ret
    exact ⟨rfl, B1.out⟩
end Go.Proofs.Ytepobkflahjldaa.fnExactIsPebbling
