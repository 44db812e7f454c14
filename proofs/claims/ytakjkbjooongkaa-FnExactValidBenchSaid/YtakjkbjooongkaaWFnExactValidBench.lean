/- The walk of laws.FnExactValidBench: the call returns true and writes nothing that was there. -/
import Derived.Test.YtakjkbjooongkaaCben
import Derived.Deep.RegionHeld3
namespace Go.Proofs.Ytakjkbjooongkaa.fnExactValidBench
open Go.RowKit Pv Be
theorem drewBB {w w' : World} {B : Nat} (h : Below B w.drew w') : Below B w w' := (Below.refl _ w).drew.trans h
set_option maxHeartbeats 4000000 in
theorem core (at_ a a' : Option Addr) (ct c c' len' : Nat) (xs : List (Int × Int)) (hs : List (List Int)) (zs : List Int) (r : Bool) (w : World) (hx : Ac.RowA w at_ xs) (hm : IsMatL w a hs) (hr : IsRow .i64 w a' len' c' zs) (hl : xs.length + hs.length + (lens hs).sum + len' ≤ 1048576)
    (hS : ∀ w' B v, OwnE w' B v xs hs (zs.take len') → Calls Try.prog 5 #[v] w' (Bb r w'))
    (hI : ∀ w' B v, OwnE w' B v xs hs (zs.take len') → Calls Try.prog 7 #[v] w' (Bb r w')) :
    Calls Try.prog 3 #[.agg #[.slice at_ xs.length ct, .slice a hs.length c, .slice a' len' c']] w fun e w' => e = .returned (.bool true) ∧ Below w.heap.size w w' := by
  have b0 := (Below.refl w.heap.size w).alloc (Nat.le_refl _) (.cells #[.slice at_ xs.length ct, .slice a hs.length c, .slice a' len' c'] 28)
  have HSZ := Lib.hid (szB_yes at_ a a' ct c c' len' xs.length hs _ (hm.below b0) hl)
  have HTO := Lib.hid (fun (w' : World) (hb : Below w.heap.size w w') => toB_any at_ a a' ct c c' len' xs hs zs w' (hx.below hb) (hm.below hb) (isRow_below hr hb) hl)
  have HFM := Lib.hid (fun (w' : World) (B : Nat) (v : Value) (h : OwnE w' B v xs hs (zs.take len')) => h.form)
  have HEB := Lib.hid (fun (w' : World) (B1 B2 : Nat) (v1 v2 : Value) (h1 : OwnE w' B1 v1 xs hs (zs.take len')) (h2 : OwnE w' B2 v2 xs hs (zs.take len')) => eqB_own h1 h2 (by omega))
  have HS := Lib.hid hS
  have HI := Lib.hid hI
  clear hS hI hm hr hl hx
  generalize zs.take len' = ms at *
  generalize (lens hs).sum = T at *
  generalize hs.length = N at *
  generalize xs.length = L at *
  go_enter Try.func3, Try.ntmps3
  go_wp2_with fail
  have BZ := Blk.newAt w w.heap.size [.slice at_ L ct, .slice a N c, .slice a' len' c'] 28 rfl
  have hsz : (w.alloc (.cells #[.slice at_ L ct, .slice a N c, .slice a' len' c'] 28)).heap.size = w.heap.size + 1 := Array.size_push _
  have eL : (w.alloc (.cells #[.slice at_ L ct, .slice a N c, .slice a' len' c'] 28)) = w.alloc (.cells [.slice at_ L ct, .slice a N c, .slice a' len' c'].toArray 28) := rfl
  rw [eL] at b0 HSZ hsz ⊢
  clear eL
  generalize w.alloc (.cells [.slice at_ L ct, .slice a N c, .slice a' len' c'].toArray 28) = W0 at *
  have HZ := Lib.hid (fun (w' : World) (hb : Below W0.heap.size W0 w') => (show w'.cell? ⟨w.heap.size, 0, none⟩ = some (.slice at_ L ct) ∧ w'.cell? ⟨w.heap.size, 1, none⟩ = some (.slice a N c) ∧ w'.cell? ⟨w.heap.size, 2, none⟩ = some (.slice a' len' c') from
    ⟨(BZ.below hb (by omega)).cell 0, (BZ.below hb (by omega)).cell 1, (BZ.below hb (by omega)).cell 2⟩))
  clear BZ
  refine HSZ.out.mono ?_; rintro e w1 ⟨n9, hn9, rfl, b1⟩
  have hn9' : ¬ n9 < 0 := by omega
  obtain ⟨z0, z1, z2⟩ := HZ.out w1 b1
  have B1 := Lib.hid (bt b0 b1)
  have B01 := Lib.hid b1
  clear b1
  go_wp2_with fail
  refine (HTO.out w1 B1.out).mono ?_; rintro e w2 ⟨v1, rfl, o1, b2⟩
  go_wp2_with fail
  refine (HS.out w2 _ v1 o1).mono ?_; rintro e w3 ⟨rfl, b3⟩
  have B3 := Lib.hid (bt (bt B1.out b2) b3)
  have B03 := Lib.hid (bt (bt B01.out b2) b3)
  clear o1 b2 b3 z0 z1 z2 B1 B01
  obtain ⟨z0, z1, z2⟩ := HZ.out w3 B03.out
  go_wp2_with fail
  refine (HTO.out w3 B3.out).mono ?_; rintro e w4 ⟨x0, rfl, ox, b4⟩
  have B4 := Lib.hid (bt B3.out b4)
  have B04 := Lib.hid (bt B03.out b4)
  obtain ⟨xt, ct4, xa, xn, xc, xa', xn', xc', ex⟩ := HFM.out _ _ _ ox
  subst ex
  clear b4 z0 z1 z2 B3 B03
  go_wp2_with fail
  have BX := Blk.newAt w4 w4.heap.size [.slice xt L ct4, .slice xa xn xc, .slice xa' xn' xc'] 34 rfl
  have b5 := (Below.refl w4.heap.size w4).alloc (Nat.le_refl _) (.cells [.slice xt L ct4, .slice xa xn xc, .slice xa' xn' xc'].toArray 34)
  have ox5 : OwnE (w4.alloc (.cells [.slice xt L ct4, .slice xa xn xc, .slice xa' xn' xc'].toArray 34)) w3.heap.size (.agg #[.slice xt L ct4, .slice xa xn xc, .slice xa' xn' xc']) xs hs ms := ox.below b5 (Nat.le_refl _)
  have B5 := Lib.hid (bt B4.out b5)
  have B05 := Lib.hid (bt B04.out b5)
  have eL2 : (w4.alloc (.cells #[.slice xt L ct4, .slice xa xn xc, .slice xa' xn' xc'] 34)) = w4.alloc (.cells [.slice xt L ct4, .slice xa xn xc, .slice xa' xn' xc'].toArray 34) := rfl
  rw [eL2]
  clear eL2 ox b5 B4 B04
  generalize w4.alloc (.cells [.slice xt L ct4, .slice xa xn xc, .slice xa' xn' xc'].toArray 34) = W5 at *
  have HX := Lib.hid (fun (w' : World) (hb : Below W5.heap.size W5 w') => (show (w'.cell? ⟨w4.heap.size, 0, none⟩ = some (.slice xt L ct4) ∧ w'.cell? ⟨w4.heap.size, 1, none⟩ = some (.slice xa xn xc) ∧ w'.cell? ⟨w4.heap.size, 2, none⟩ = some (.slice xa' xn' xc') ∧ w'.cell? ⟨w.heap.size, 0, none⟩ = some (.slice at_ L ct) ∧ w'.cell? ⟨w.heap.size, 1, none⟩ = some (.slice a N c) ∧ w'.cell? ⟨w.heap.size, 2, none⟩ = some (.slice a' len' c')) ∧
      OwnE w' w3.heap.size (.agg #[.slice xt L ct4, .slice xa xn xc, .slice xa' xn' xc']) xs hs ms from
    ⟨⟨(BX.below hb BX.lt).cell 0, (BX.below hb BX.lt).cell 1, (BX.below hb BX.lt).cell 2, HZ.out w' (bt B05.out hb)⟩, ox5.below hb (Nat.le_refl _)⟩))
  have HI5 := Lib.hid (HI.out W5 _ _ ox5)
  clear BX ox5 HZ HI
  refine HI5.out.mono ?_; rintro e w6 ⟨rfl, b6⟩
  have B6 := Lib.hid (bt B5.out b6)
  have b56 := Lib.hid b6
  obtain ⟨⟨x0, x1, x2, z0, z1, z2⟩, _⟩ := HX.out w6 b6
  have HCT := Lib.hid (HTO.out w6.drew B6.out.drew)
  have HEQ := Lib.hid (fun (w7 : World) (u : Value) (b7 : Below w6.drew.heap.size w6.drew w7) (ou : OwnE w7 w6.drew.heap.size u xs hs ms) => HEB.out w7 _ _ _ _ (HX.out w7 (bt b56.out (drewBB b7))).2 ou)
  have HX7 := Lib.hid (fun (w7 : World) (b7 : Below w6.drew.heap.size w6.drew w7) => (HX.out w7 (bt b56.out (drewBB b7))).1)
  clear b6 HX HTO HS HI5 HSZ B05 B5
  go_wp2
  go_region_held3 (fun w' => w'.cell? ⟨w4.heap.size, 0, none⟩ = some (.slice xt L ct4) ∧ w'.cell? ⟨w4.heap.size, 1, none⟩ = some (.slice xa xn xc) ∧ w'.cell? ⟨w4.heap.size, 2, none⟩ = some (.slice xa' xn' xc') ∧ w'.cell? ⟨w.heap.size, 0, none⟩ = some (.slice at_ L ct) ∧ w'.cell? ⟨w.heap.size, 1, none⟩ = some (.slice a N c) ∧ w'.cell? ⟨w.heap.size, 2, none⟩ = some (.slice a' len' c')) (first | exact ⟨x0, x1, x2, z0, z1, z2⟩ | exact HX7.out _ (by assumption) | exact HX7.out _ (bt b7 b8)) (first | (go_at_call 6; (with_reducible refine HCT.out.mono ?_); rintro e w7 ⟨u, rfl, ou, b7⟩) | (go_at_call 8; (with_reducible refine (HEQ.out _ _ b7 ou).mono ?_); rintro e w8 ⟨rfl, b8⟩))
  all_goals
    have HBE := Lib.hid (bt B6.out (drewBB (bt b7 b8)))
    clear b7 b8
    go_wp2
    go_ret
    exact ⟨rfl, HBE.out⟩
theorem walk (at_ : Option Addr) (ct : Nat) (xs : List (Int × Int)) (a : Option Addr) (len cap : Nat) (a' : Option Addr) (len' cap' : Nat) (zs' : List Int) (w : World) (hx : Ac.RowA w at_ xs) (hxl : xs.length ≤ 9223372036854775807) (w0 : IsMat w a len) (u0 : IsRow .i64 w a' len' cap' zs') :
    Calls Try.prog 3 #[.agg #[.slice at_ xs.length ct, .slice a len cap, .slice a' len' cap']] w fun e w' => e = .returned (.bool true) ∧ Below w.heap.size w w' := by
  obtain ⟨hs, rfl, hm⟩ := w0.list
  have hl' : len' ≤ 9223372036854775807 := by
    rcases u0 with ⟨_, h1, _⟩ | ⟨x, rfl, h1, h2, _⟩
    · omega
    · unfold maxLen at h2; omega
  by_cases hl : xs.length + hs.length + (lens hs).sum + len' ≤ 1048576
  · have hms : (zs'.take len').length ≤ 1048576 := by rw [List.length_take]; omega
    have hxs : ∀ i, i < hs.length → (hs.getD i []).length ≤ 1048576 := fun i hi => by
      have h1 := lens_get hs i hi
      have h2 := sum_step (lens hs) i (by rw [lens_length]; exact hi)
      have h3 := sum_take_le (lens hs) (i + 1)
      omega
    exact core at_ a a' ct cap cap' len' xs hs zs' (okE xs hs (zs'.take len')) w hx hm u0 hl (fun w' B v h => valid_s (h.rd (by omega) hxs hms) (by omega)) (fun w' B v h => valid_i (h.rd (by omega) hxs hms) (by omega))
  · have b0 := (Below.refl w.heap.size w).alloc (Nat.le_refl _) (.cells #[.slice at_ xs.length ct, .slice a hs.length cap, .slice a' len' cap'] 28)
    have HSZ := Lib.hid (szB_no at_ a a' ct cap cap' len' xs.length hs _ (hm.below b0) hxl hl' hl)
    clear hm hl hx u0
    generalize hs.length = N at *
    generalize xs.length = L at *
    go_enter Try.func3, Try.ntmps3
    go_wp2_with fail
    refine HSZ.out.mono ?_; rintro e w1 ⟨rfl, b1⟩
    have B1 := Lib.hid (bt b0 b1)
    clear b0 b1
    go_wp2
    go_ret
    exact ⟨rfl, B1.out⟩
end Go.Proofs.Ytakjkbjooongkaa.fnExactValidBench
