/- The walk of laws.FnExactLeastPlaces: the call returns true and writes nothing that was there. -/
import Derived.Test.YtplflbgopjmgdaaCgmt
import Derived.Deep.RegionHeld3
namespace Go.Proofs.Ytplflbgopjmgdaa.fnExactLeastPlaces
open Go.RowKit Pv Pb
theorem drewBB {w w' : World} {B : Nat} (h : Below B w.drew w') : Below B w w' := (Below.refl _ w).drew.trans h
set_option maxHeartbeats 8000000 in
theorem core (a : Option Addr) (c : Nat) (bs : List (List Int)) (ys : Int) (r : Bool) (w : World) (hm : IsMatL w a bs) (hl : bs.length + (lens bs).sum ≤ 1048576)
    (hS : ∀ w' B T v, OwnG w' B T v bs → Calls Try.prog 21 #[v] w' (IbG ys r w'))
    (hI : ∀ w' B T v, OwnG w' B T v bs → Calls Try.prog 22 #[v] w' (IbG ys r w')) :
    Calls Try.prog 6 #[.agg #[.slice a bs.length c]] w fun e w' => e = .returned (.bool true) ∧ Below w.heap.size w w' := by
  have b0 := (Below.refl w.heap.size w).alloc (Nat.le_refl _) (.cells #[.slice a bs.length c] 24)
  have HSZ := Lib.hid (szG_yes a c bs _ (hm.below b0) hl)
  have hz0 : ¬ ((1048576 : Int) - (bs.length : Int) - ((lens bs).sum : Nat)) < 0 := by omega
  have HTO := Lib.hid (fun (w' : World) (hb : Below w.heap.size w w') => toG_any a c bs w' (hm.below hb) hl)
  have HS := Lib.hid hS
  have HI := Lib.hid hI
  have HFM := Lib.hid (fun (w' : World) (B T : Nat) (v : Value) (h : OwnG w' B T v bs) => h.form)
  clear hS hI hm hl
  generalize (lens bs).sum = T at *
  generalize bs.length = N at *
  go_enter Try.func6, Try.ntmps6
  go_wp2_with fail
  have BZ := Blk.newAt w w.heap.size [.slice a N c] 24 rfl
  have hsz : (w.alloc (.cells #[.slice a N c] 24)).heap.size = w.heap.size + 1 := Array.size_push _
  have eL : (w.alloc (.cells #[.slice a N c] 24)) = w.alloc (.cells [.slice a N c].toArray 24) := rfl
  rw [eL] at b0 HSZ hsz ⊢
  clear eL
  generalize w.alloc (.cells [.slice a N c].toArray 24) = W0 at *
  have HZ := Lib.hid (fun (w' : World) (hb : Below W0.heap.size W0 w') => (show w'.cell? ⟨w.heap.size, 0, none⟩ = some (.slice a N c) from (BZ.below hb (by omega)).cell 0))
  clear BZ
  refine HSZ.out.mono ?_; rintro e w1 ⟨rfl, b1⟩
  have z0 := HZ.out w1 b1
  have B1 := Lib.hid (bt b0 b1)
  have B01 := Lib.hid b1
  clear b1
  go_wp2_with fail
  refine (HTO.out w1 B1.out).mono ?_; rintro e w2 ⟨v1, rfl, o1, b2, _⟩
  go_wp2_with fail
  refine (HS.out w2 _ _ v1 o1).mono ?_; rintro e w3 ⟨rfl, b3⟩
  have B3 := Lib.hid (bt (bt B1.out b2) b3)
  have B03 := Lib.hid (bt (bt B01.out b2) b3)
  clear o1 b2 b3 z0 B1 B01
  have z0 := HZ.out w3 B03.out
  go_wp2_with fail
  refine (HTO.out w3 B3.out).mono ?_; rintro e w4 ⟨x0, rfl, ox, b4, s4⟩
  have B34 := Lib.hid b4
  obtain ⟨xa, xc, ex⟩ := HFM.out _ _ _ _ ox
  subst ex
  clear b4 z0
  go_wp2_with fail
  have BX := Blk.newAt w4 w4.heap.size [.slice xa N xc] 27 rfl
  have b5 := (Below.refl w4.heap.size w4).alloc (Nat.le_refl _) (.cells [.slice xa N xc].toArray 27)
  have ox5 : OwnG (w4.alloc (.cells [.slice xa N xc].toArray 27)) (w3.heap.size + 3) w4.heap.size (.agg #[.slice xa N xc]) bs := ox.below b5 (Nat.le_refl _)
  have B35 := Lib.hid (bt B34.out b5)
  have s5 := b5.size
  have eL2 : (w4.alloc (.cells #[.slice xa N xc] 27)) = w4.alloc (.cells [.slice xa N xc].toArray 27) := rfl
  rw [eL2]
  clear eL2 ox b5 B34
  generalize w4.alloc (.cells [.slice xa N xc].toArray 27) = W5 at *
  have HX := Lib.hid (fun (w' : World) (hb : Below W5.heap.size W5 w') => (show (w'.cell? ⟨w4.heap.size, 0, none⟩ = some (.slice xa N xc) ∧ w'.cell? ⟨w.heap.size, 0, none⟩ = some (.slice a N c)) ∧
      OwnG w' (w3.heap.size + 3) w4.heap.size (.agg #[.slice xa N xc]) bs from
    ⟨⟨(BX.below hb BX.lt).cell 0, HZ.out w' (bt (bt B03.out B35.out) hb)⟩, ox5.below hb (Nat.le_refl _)⟩))
  have HI5 := Lib.hid (HI.out W5 _ _ _ ox5)
  clear BX ox5
  refine HI5.out.mono ?_; rintro e w7 ⟨rfl, b7⟩
  have b57 := Lib.hid b7
  have B37 := Lib.hid (bt B35.out b7)
  have s7 := b7.size
  clear b7 HI5
  obtain ⟨⟨x0, z0⟩, _⟩ := HX.out w7 b57.out
  have HCT := Lib.hid (HTO.out w7.drew (bt B3.out B37.out).drew)
  have HEQ := Lib.hid (fun (w8 : World) (u : Value) (b8 : Below w7.drew.heap.size w7.drew w8) (ou : OwnG w8 (w7.drew.heap.size + 3) w8.heap.size u bs) => eqG_own (HX.out w8 (bt b57.out (drewBB b8))).2 ou)
  have HX8 := Lib.hid (fun (w8 : World) (b8 : Below w7.drew.heap.size w7.drew w8) => (HX.out w8 (bt b57.out (drewBB b8))).1)
  go_wp2
  go_region_held3 (fun w' => w'.cell? ⟨w4.heap.size, 0, none⟩ = some (.slice xa N xc) ∧ w'.cell? ⟨w.heap.size, 0, none⟩ = some (.slice a N c)) (first | exact ⟨x0, z0⟩ | exact HX8.out _ (by assumption) | exact HX8.out _ (bt b8 b9)) (first | (go_at_call 10; (with_reducible refine HCT.out.mono ?_); rintro e w8 ⟨u, rfl, ou, b8, _⟩) | (go_at_call 12; (with_reducible refine (HEQ.out _ _ b8 ou).mono ?_); rintro e w9 ⟨rfl, b9⟩))
  all_goals
    have HBE := Lib.hid (bt (bt B3.out B37.out) (drewBB (bt b8 b9)))
    clear b8 b9
    go_wp2
    go_ret
    exact ⟨rfl, HBE.out⟩
theorem walk (a : Option Addr) (len cap : Nat) (w : World) (w0 : IsMat w a len) :
    Calls Try.prog 6 #[.agg #[.slice a len cap]] w fun e w' => e = .returned (.bool true) ∧ Below w.heap.size w w' := by
  obtain ⟨bs, rfl, hm⟩ := w0.list
  by_cases hl : bs.length + (lens bs).sum ≤ 1048576
  · have hxs : ∀ i, i < bs.length → (bs.getD i []).length ≤ 1048576 := fun i hi => by
      have h1 := lens_get bs i hi
      have h2 := sum_step (lens bs) i (by rw [lens_length]; exact hi)
      have h3 := sum_take_le (lens bs) (i + 1)
      omega
    exact core a cap bs (((lpV bs : Nat) : Int)) (okG bs) w hm hl (fun w' B T v h => lp_s (h.rd (by omega) hxs)) (fun w' B T v h => lp_i (h.rd (by omega) hxs))
  · have b0 := (Below.refl w.heap.size w).alloc (Nat.le_refl _) (.cells #[.slice a bs.length cap] 24)
    have HSZ := Lib.hid (szG_no a cap bs _ (hm.below b0) hl)
    clear hm hl
    generalize bs.length = N at *
    go_enter Try.func6, Try.ntmps6
    go_wp2_with fail
    refine HSZ.out.mono ?_; rintro e w1 ⟨rfl, b1⟩
    have B1 := Lib.hid (bt b0 b1)
    clear b0 b1
    go_wp2
    go_ret
    exact ⟨rfl, B1.out⟩
end Go.Proofs.Ytplflbgopjmgdaa.fnExactLeastPlaces
