/- The walk of laws.FnExactValidCache: the call returns true and writes nothing that was there. -/
import Derived.Test.YtcbchkblobpdiaaCcac
import Derived.Deep.RegionHeld3
namespace Go.Proofs.Ytcbchkblobpdiaa.fnExactValidCache
open Go.RowKit Pv
theorem drewBB {w w' : World} {B : Nat} (h : Below B w.drew w') : Below B w w' := (Below.refl _ w).drew.trans h
set_option maxHeartbeats 4000000 in
theorem core (a a' : Option Addr) (c c' len' : Nat) (hs : List (List Int)) (zs : List Int) (bk al : Bool) (r : Bool) (w : World) (hm : IsMatL w a hs) (hr : IsRow .i64 w a' len' c' zs) (hl : hs.length + (lens hs).sum + len' ≤ 1048576)
    (hS : ∀ w' B T p n q p' n' q', OwnP w' B T (.agg #[.slice p n q, .slice p' n' q']) hs (zs.take len') → Calls Try.prog 7 #[.agg #[.slice p n q, .slice p' n' q', .bool bk, .bool al]] w' (Bb r w'))
    (hI : ∀ w' B T p n q p' n' q', OwnP w' B T (.agg #[.slice p n q, .slice p' n' q']) hs (zs.take len') → Calls Try.prog 9 #[.agg #[.slice p n q, .slice p' n' q', .bool bk, .bool al]] w' (Bb r w')) :
    Calls Try.prog 3 #[.agg #[.slice a hs.length c, .slice a' len' c', .bool bk, .bool al]] w fun e w' => e = .returned (.bool true) ∧ Below w.heap.size w w' := by
  have b0 := (Below.refl w.heap.size w).alloc (Nat.le_refl _) (.cells #[.slice a hs.length c, .slice a' len' c', .bool bk, .bool al] 27)
  have HSZ := Lib.hid (szC_yes a a' c c' len' hs bk al _ (hm.below b0) hl)
  have hz0 : ¬ ((1048576 : Int) - (hs.length : Int) - ((lens hs).sum : Nat) - (len' : Int)) < 0 := by omega
  have HTO := Lib.hid (fun (w' : World) (hb : Below w.heap.size w w') => toC_any a a' c c' len' hs zs bk al w' (hm.below hb) (isRow_below hr hb) hl)
  have HS := Lib.hid hS
  have HI := Lib.hid hI
  clear hS hI hm hr hl
  generalize zs.take len' = ms at *
  generalize (lens hs).sum = T at *
  generalize hs.length = N at *
  go_enter Try.func3, Try.ntmps3
  go_wp2_with fail
  have BZ := Blk.newAt w w.heap.size [.slice a N c, .slice a' len' c', .bool bk, .bool al] 27 rfl
  have hsz : (w.alloc (.cells #[.slice a N c, .slice a' len' c', .bool bk, .bool al] 27)).heap.size = w.heap.size + 1 := Array.size_push _
  have eL : (w.alloc (.cells #[.slice a N c, .slice a' len' c', .bool bk, .bool al] 27)) = w.alloc (.cells [.slice a N c, .slice a' len' c', .bool bk, .bool al].toArray 27) := rfl
  rw [eL] at b0 HSZ hsz ⊢
  clear eL
  generalize w.alloc (.cells [.slice a N c, .slice a' len' c', .bool bk, .bool al].toArray 27) = W0 at *
  have HZ := Lib.hid (fun (w' : World) (hb : Below W0.heap.size W0 w') => (show w'.cell? ⟨w.heap.size, 0, none⟩ = some (.slice a N c) ∧ w'.cell? ⟨w.heap.size, 1, none⟩ = some (.slice a' len' c') ∧ w'.cell? ⟨w.heap.size, 2, none⟩ = some (.bool bk) ∧ w'.cell? ⟨w.heap.size, 3, none⟩ = some (.bool al) from
    ⟨(BZ.below hb (by omega)).cell 0, (BZ.below hb (by omega)).cell 1, (BZ.below hb (by omega)).cell 2, (BZ.below hb (by omega)).cell 3⟩))
  clear BZ
  refine HSZ.out.mono ?_; rintro e w1 ⟨rfl, b1⟩
  obtain ⟨z0, z1, z2, z3⟩ := HZ.out w1 b1
  have B1 := Lib.hid (bt b0 b1)
  have B01 := Lib.hid b1
  clear b1
  go_wp2_with fail
  refine (HTO.out w1 B1.out).mono ?_; rintro e w2 ⟨p1, n1, q1, p1', n1', q1', rfl, o1, b2, _⟩
  go_wp2_with fail
  refine (HS.out w2 _ _ p1 n1 q1 p1' n1' q1' o1).mono ?_; rintro e w3 ⟨rfl, b3⟩
  have B3 := Lib.hid (bt (bt B1.out b2) b3)
  have B03 := Lib.hid (bt (bt B01.out b2) b3)
  clear o1 b2 b3 z0 z1 z2 z3 B1 B01
  obtain ⟨z0, z1, z2, z3⟩ := HZ.out w3 B03.out
  go_wp2_with fail
  refine (HTO.out w3 B3.out).mono ?_; rintro e w4 ⟨xa, xn, xc, xa', xn', xc', rfl, ox, b4, _⟩
  have B4 := Lib.hid (bt B3.out b4)
  have B04 := Lib.hid (bt B03.out b4)
  clear b4 z0 z1 z2 z3 B3 B03
  go_wp2_with fail
  have BX := Blk.newAt w4 w4.heap.size [.slice xa xn xc, .slice xa' xn' xc', .bool bk, .bool al] 32 rfl
  have b5 := (Below.refl w4.heap.size w4).alloc (Nat.le_refl _) (.cells [.slice xa xn xc, .slice xa' xn' xc', .bool bk, .bool al].toArray 32)
  have ox5 : OwnP (w4.alloc (.cells [.slice xa xn xc, .slice xa' xn' xc', .bool bk, .bool al].toArray 32)) (w3.heap.size + 6) w4.heap.size (.agg #[.slice xa xn xc, .slice xa' xn' xc']) hs ms := ox.below b5 (Nat.le_refl _)
  have B5 := Lib.hid (bt B4.out b5)
  have B05 := Lib.hid (bt B04.out b5)
  have eL2 : (w4.alloc (.cells #[.slice xa xn xc, .slice xa' xn' xc', .bool bk, .bool al] 32)) = w4.alloc (.cells [.slice xa xn xc, .slice xa' xn' xc', .bool bk, .bool al].toArray 32) := rfl
  rw [eL2]
  clear eL2 ox b5 B4 B04
  generalize w4.alloc (.cells [.slice xa xn xc, .slice xa' xn' xc', .bool bk, .bool al].toArray 32) = W5 at *
  have HX := Lib.hid (fun (w' : World) (hb : Below W5.heap.size W5 w') => (show (w'.cell? ⟨w4.heap.size, 0, none⟩ = some (.slice xa xn xc) ∧ w'.cell? ⟨w4.heap.size, 1, none⟩ = some (.slice xa' xn' xc') ∧ w'.cell? ⟨w4.heap.size, 2, none⟩ = some (.bool bk) ∧ w'.cell? ⟨w4.heap.size, 3, none⟩ = some (.bool al) ∧ w'.cell? ⟨w.heap.size, 0, none⟩ = some (.slice a N c) ∧ w'.cell? ⟨w.heap.size, 1, none⟩ = some (.slice a' len' c') ∧ w'.cell? ⟨w.heap.size, 2, none⟩ = some (.bool bk) ∧ w'.cell? ⟨w.heap.size, 3, none⟩ = some (.bool al)) ∧
      OwnP w' (w3.heap.size + 6) w4.heap.size (.agg #[.slice xa xn xc, .slice xa' xn' xc']) hs ms from
    ⟨⟨(BX.below hb BX.lt).cell 0, (BX.below hb BX.lt).cell 1, (BX.below hb BX.lt).cell 2, (BX.below hb BX.lt).cell 3, HZ.out w' (bt B05.out hb)⟩, ox5.below hb (Nat.le_refl _)⟩))
  have HI5 := Lib.hid (HI.out W5 _ _ _ _ _ _ _ _ ox5)
  clear BX ox5 HZ HI
  refine HI5.out.mono ?_; rintro e w6 ⟨rfl, b6⟩
  have B6 := Lib.hid (bt B5.out b6)
  have b56 := Lib.hid b6
  obtain ⟨⟨x0, x1, x2, x3, z0, z1, z2, z3⟩, _⟩ := HX.out w6 b6
  have HCT := Lib.hid (HTO.out w6.drew B6.out.drew)
  have HEQ := Lib.hid (fun (w7 : World) (u : Option Addr) (un uc : Nat) (u' : Option Addr) (un' uc' : Nat) (b7 : Below w6.drew.heap.size w6.drew w7) (ou : OwnP w7 (w6.drew.heap.size + 6) w7.heap.size (.agg #[.slice u un uc, .slice u' un' uc']) hs ms) => eqC_own (bk := bk) (al := al) (HX.out w7 (bt b56.out (drewBB b7))).2 ou)
  have HX7 := Lib.hid (fun (w7 : World) (b7 : Below w6.drew.heap.size w6.drew w7) => (HX.out w7 (bt b56.out (drewBB b7))).1)
  clear b6 HX HTO HS HI5 HSZ B05 B5
  go_wp2
  go_region_held3 (fun w' => w'.cell? ⟨w4.heap.size, 0, none⟩ = some (.slice xa xn xc) ∧ w'.cell? ⟨w4.heap.size, 1, none⟩ = some (.slice xa' xn' xc') ∧ w'.cell? ⟨w4.heap.size, 2, none⟩ = some (.bool bk) ∧ w'.cell? ⟨w4.heap.size, 3, none⟩ = some (.bool al) ∧ w'.cell? ⟨w.heap.size, 0, none⟩ = some (.slice a N c) ∧ w'.cell? ⟨w.heap.size, 1, none⟩ = some (.slice a' len' c') ∧ w'.cell? ⟨w.heap.size, 2, none⟩ = some (.bool bk) ∧ w'.cell? ⟨w.heap.size, 3, none⟩ = some (.bool al)) (first | exact ⟨x0, x1, x2, x3, z0, z1, z2, z3⟩ | exact HX7.out _ (by assumption) | exact HX7.out _ (bt b7 b8)) (first | (go_at_call 8; (with_reducible refine HCT.out.mono ?_); rintro e w7 ⟨u, un, uc, u', un', uc', rfl, ou, b7, _⟩) | (go_at_call 10; (with_reducible refine (HEQ.out _ _ _ _ _ _ _ b7 ou).mono ?_); rintro e w8 ⟨rfl, b8⟩))
  all_goals
    have HBE := Lib.hid (bt B6.out (drewBB (bt b7 b8)))
    clear b7 b8
    go_wp2
    go_ret
    exact ⟨rfl, HBE.out⟩
theorem long (a a' : Option Addr) (c c' len' : Nat) (hs : List (List Int)) (bk al : Bool) (w : World) (hm : IsMatL w a hs) (hl' : len' ≤ 9223372036854775807) (hl : ¬ hs.length + (lens hs).sum + len' ≤ 1048576) :
    Calls Try.prog 3 #[.agg #[.slice a hs.length c, .slice a' len' c', .bool bk, .bool al]] w fun e w' => e = .returned (.bool true) ∧ Below w.heap.size w w' := by
  have b0 := (Below.refl w.heap.size w).alloc (Nat.le_refl _) (.cells #[.slice a hs.length c, .slice a' len' c', .bool bk, .bool al] 27)
  have HSZ := Lib.hid (szC_no a a' c c' len' hs bk al _ (hm.below b0) hl' hl)
  clear hm hl
  generalize hs.length = N at *
  go_enter Try.func3, Try.ntmps3
  go_wp2_with fail
  refine HSZ.out.mono ?_; rintro e w1 ⟨rfl, b1⟩
  have B1 := Lib.hid (bt b0 b1)
  clear b0 b1
  go_wp2
  go_ret
  exact ⟨rfl, B1.out⟩
theorem walk (a : Option Addr) (len cap : Nat) (a' : Option Addr) (len' cap' : Nat) (zs' : List Int) (bk al : Bool) (w : World) (w0 : IsMat w a len) (u0 : IsRow .i64 w a' len' cap' zs') :
    Calls Try.prog 3 #[.agg #[.slice a len cap, .slice a' len' cap', .bool bk, .bool al]] w fun e w' => e = .returned (.bool true) ∧ Below w.heap.size w w' := by
  obtain ⟨hs, rfl, hm⟩ := w0.list
  have hl' : len' ≤ 9223372036854775807 := by
    rcases u0 with ⟨_, h1, _⟩ | ⟨x, rfl, h1, h2, _⟩
    · omega
    · unfold maxLen at h2; omega
  by_cases hl : hs.length + (lens hs).sum + len' ≤ 1048576
  · have hms : (zs'.take len').length ≤ 1048576 := by rw [List.length_take]; omega
    have hxs : ∀ i, i < hs.length → (hs.getD i []).length ≤ 1048576 := fun i hi => by
      have h1 := lens_get hs i hi
      have h2 := sum_step (lens hs) i (by rw [lens_length]; exact hi)
      have h3 := sum_take_le (lens hs) (i + 1)
      omega
    exact core a a' cap cap' len' hs zs' bk al (isP hs (zs'.take len')) w hm u0 hl (fun w' B T _ _ _ _ _ _ h => validC_s (RdP.of h (by omega) hxs hms)) (fun w' B T _ _ _ _ _ _ h => validC_i (RdP.of h (by omega) hxs hms))
  · exact long a a' cap cap' len' hs bk al w hm hl' hl
end Go.Proofs.Ytcbchkblobpdiaa.fnExactValidCache
