/- The walk of laws.FnExactBufferAgrees: the call returns true and writes nothing that was there. -/
import Derived.Test.YtifjkjcgpghmhaaDoorCspzz
import Derived.Test.YtifjkjcgpghmhaaDoorCspv
import Derived.Deep.RegionHeld3
namespace Go.Proofs.YtifjkjcgpghmhaaDoor.fnExactBufferAgrees
open Go.RowKit Sp
theorem drewBB {w w' : World} {B : Nat} (h : Below B w.drew w') : Below B w w' := (Below.refl _ w).drew.trans h
set_option maxHeartbeats 4000000 in
theorem core (a1 a2 a3 : Option Addr) (n1 c1 c2 c3 : Nat) (zs : List Int) (tss : List (List RE)) (buf : List RC) (r : Bool) (w : World) (h1 : IsRow .i64 w a1 n1 c1 zs) (h2 : En.RdT w a2 tss) (h3 : Ch.RdR w a3 buf) (hl : tot n1 tss buf.length ≤ 1048576) (hn : (zs.take n1).length = n1)
    (hS : ∀ w' B v, Below w.heap.size w w' → OwnS w' B v (zs.take n1) tss buf → Calls Tryd.prog 9 #[v] w' (Bb r w'))
    (hI : ∀ w' B v, Below w.heap.size w w' → OwnS w' B v (zs.take n1) tss buf → Calls Tryd.prog 11 #[v] w' (Bb r w')) :
    Calls Tryd.prog 3 #[.agg #[.slice a1 n1 c1, .slice a2 tss.length c2, .slice a3 buf.length c3]] w fun e w' => e = .returned (.bool true) ∧ Below w.heap.size w w' := by
  have b0 := (Below.refl w.heap.size w).alloc (Nat.le_refl _) (.cells #[.slice a1 n1 c1, .slice a2 tss.length c2, .slice a3 buf.length c3] 26)
  have HSZ := Lib.hid (szS_yes a1 a2 a3 n1 c1 c2 buf.length c3 tss _ (h2.below b0) hl)
  have hz0 : ¬ ((1048576 : Int) - (tot n1 tss buf.length : Nat)) < 0 := by omega
  have HTO := Lib.hid (fun (w' : World) (hb : Below w.heap.size w w') => toS_any a1 a2 a3 n1 c1 c2 c3 zs tss buf w' (isRow_below h1 hb) (h2.below hb) (h3.below hb) hl)
  have HS := Lib.hid hS
  have HI := Lib.hid hI
  have HEQ0 := Lib.hid (fun (w7 : World) (u v : Value) (B1 B2 : Nat) (o1 : OwnS w7 B1 u (zs.take n1) tss buf) (o2 : OwnS w7 B2 v (zs.take n1) tss buf) => eqS_any (by rw [hn]; exact hl) o1 o2)
  clear hS hI h1 h2 h3 hl hn
  generalize zs.take n1 = root at *
  generalize tot n1 tss buf.length = TT at *
  generalize tss.length = N2 at *
  generalize buf.length = N3 at *
  go_enter Tryd.func3, Tryd.ntmps3
  go_wp2_with fail
  have BZ := Blk.newAt w w.heap.size [.slice a1 n1 c1, .slice a2 N2 c2, .slice a3 N3 c3] 26 rfl
  have hsz : (w.alloc (.cells #[.slice a1 n1 c1, .slice a2 N2 c2, .slice a3 N3 c3] 26)).heap.size = w.heap.size + 1 := Array.size_push _
  have eL : (w.alloc (.cells #[.slice a1 n1 c1, .slice a2 N2 c2, .slice a3 N3 c3] 26)) = w.alloc (.cells [.slice a1 n1 c1, .slice a2 N2 c2, .slice a3 N3 c3].toArray 26) := rfl
  rw [eL] at b0 HSZ hsz ⊢
  clear eL
  generalize w.alloc (.cells [.slice a1 n1 c1, .slice a2 N2 c2, .slice a3 N3 c3].toArray 26) = W0 at *
  have HZ := Lib.hid (fun (w' : World) (hb : Below W0.heap.size W0 w') => (show w'.cell? ⟨w.heap.size, 0, none⟩ = some (.slice a1 n1 c1) ∧ w'.cell? ⟨w.heap.size, 1, none⟩ = some (.slice a2 N2 c2) ∧ w'.cell? ⟨w.heap.size, 2, none⟩ = some (.slice a3 N3 c3) from
    ⟨(BZ.below hb (by omega)).cell 0, (BZ.below hb (by omega)).cell 1, (BZ.below hb (by omega)).cell 2⟩))
  clear BZ
  refine HSZ.out.mono ?_; rintro e w1 ⟨rfl, b1⟩
  obtain ⟨z0, z1, z2⟩ := HZ.out w1 b1
  have B1 := Lib.hid (bt b0 b1)
  have B01 := Lib.hid b1
  clear b1
  go_wp2_with fail
  refine (HTO.out w1 B1.out).mono ?_; rintro e w2 ⟨v1, rfl, o1, b2⟩
  obtain ⟨_, _, _, _, _, _, _, _, _, rfl⟩ := o1.form
  go_wp2_with fail
  refine (HS.out w2 _ _ (bt B1.out b2) o1).mono ?_; rintro e w3 ⟨rfl, b3⟩
  have B3 := Lib.hid (bt (bt B1.out b2) b3)
  have B03 := Lib.hid (bt (bt B01.out b2) b3)
  clear o1 b2 b3 z0 z1 z2 B1 B01
  obtain ⟨z0, z1, z2⟩ := HZ.out w3 B03.out
  go_wp2_with fail
  refine (HTO.out w3 B3.out).mono ?_; rintro e w4 ⟨v4, rfl, ox, b4⟩
  have B4 := Lib.hid (bt B3.out b4)
  have B04 := Lib.hid (bt B03.out b4)
  clear B3 B03
  obtain ⟨xa, xn, xc, ya, yn, yc, ua, un, uc, rfl⟩ := ox.form
  clear b4 z0 z1 z2
  go_wp2_with fail
  have BX := Blk.newAt w4 w4.heap.size [.slice xa xn xc, .slice ya yn yc, .slice ua un uc] 32 rfl
  have b5 := (Below.refl w4.heap.size w4).alloc (Nat.le_refl _) (.cells [.slice xa xn xc, .slice ya yn yc, .slice ua un uc].toArray 32)
  have ox5 := ox.below b5 (Nat.le_refl _)
  have B5 := Lib.hid (bt B4.out b5)
  have B05 := Lib.hid (bt B04.out b5)
  have eL2 : (w4.alloc (.cells #[.slice xa xn xc, .slice ya yn yc, .slice ua un uc] 32)) = w4.alloc (.cells [.slice xa xn xc, .slice ya yn yc, .slice ua un uc].toArray 32) := rfl
  rw [eL2]
  clear eL2 ox b5 B4 B04
  generalize w4.alloc (.cells [.slice xa xn xc, .slice ya yn yc, .slice ua un uc].toArray 32) = W5 at *
  have HX := Lib.hid (fun (w' : World) (hb : Below W5.heap.size W5 w') => (show (w'.cell? ⟨w4.heap.size, 0, none⟩ = some (.slice xa xn xc) ∧ w'.cell? ⟨w4.heap.size, 1, none⟩ = some (.slice ya yn yc) ∧ w'.cell? ⟨w4.heap.size, 2, none⟩ = some (.slice ua un uc) ∧ w'.cell? ⟨w.heap.size, 0, none⟩ = some (.slice a1 n1 c1) ∧ w'.cell? ⟨w.heap.size, 1, none⟩ = some (.slice a2 N2 c2) ∧ w'.cell? ⟨w.heap.size, 2, none⟩ = some (.slice a3 N3 c3)) ∧ OwnS w' w3.heap.size (.agg #[.slice xa xn xc, .slice ya yn yc, .slice ua un uc]) root tss buf from
    ⟨⟨(BX.below hb BX.lt).cell 0, (BX.below hb BX.lt).cell 1, (BX.below hb BX.lt).cell 2, HZ.out w' (bt B05.out hb)⟩, ox5.below hb (Nat.le_refl _)⟩))
  have HI5 := Lib.hid (HI.out W5 _ _ B5.out ox5)
  clear BX ox5 HZ HI
  refine HI5.out.mono ?_; rintro e w6 ⟨rfl, b6⟩
  have B6 := Lib.hid (bt B5.out b6)
  have b56 := Lib.hid b6
  obtain ⟨⟨x0, x1, x2, z0, z1, z2⟩, _⟩ := HX.out w6 b6
  have HCT := Lib.hid (HTO.out w6.drew B6.out.drew)
  have HEQ := Lib.hid (fun (w7 : World) (v : Value) (b7 : Below w6.drew.heap.size w6.drew w7) (ou : OwnS w7 w6.drew.heap.size v root tss buf) => HEQ0.out w7 _ _ _ _ (HX.out w7 (bt b56.out (drewBB b7))).2 ou)
  have HX7 := Lib.hid (fun (w7 : World) (b7 : Below w6.drew.heap.size w6.drew w7) => (HX.out w7 (bt b56.out (drewBB b7))).1)
  clear b6 HX HTO HS HI5 HSZ B05 B5 HEQ0
  go_wp2
  go_region_held3 (fun w' => w'.cell? ⟨w4.heap.size, 0, none⟩ = some (.slice xa xn xc) ∧ w'.cell? ⟨w4.heap.size, 1, none⟩ = some (.slice ya yn yc) ∧ w'.cell? ⟨w4.heap.size, 2, none⟩ = some (.slice ua un uc) ∧ w'.cell? ⟨w.heap.size, 0, none⟩ = some (.slice a1 n1 c1) ∧ w'.cell? ⟨w.heap.size, 1, none⟩ = some (.slice a2 N2 c2) ∧ w'.cell? ⟨w.heap.size, 2, none⟩ = some (.slice a3 N3 c3)) (first | exact ⟨x0, x1, x2, z0, z1, z2⟩ | exact HX7.out _ b7 | exact HX7.out _ (bt b7 b8)) (first | (go_at_call 10; (with_reducible refine HCT.out.mono ?_); rintro e w7 ⟨v7, rfl, o7, b7⟩; obtain ⟨_, _, _, _, _, _, _, _, _, rfl⟩ := o7.form) | (go_at_call 12; (with_reducible refine (HEQ.out _ _ b7 o7).mono ?_); rintro e w8 ⟨rfl, b8⟩))
  all_goals
    have HBE := Lib.hid (bt B6.out (drewBB (bt b7 b8)))
    clear b7 b8
    go_wp2
    go_ret
    exact ⟨rfl, HBE.out⟩
theorem long (a1 a2 a3 : Option Addr) (n1 c1 c2 n3 c3 : Nat) (tss : List (List RE)) (w : World) (hm : En.RdT w a2 tss) (l1 : n1 ≤ 9223372036854775807) (l3 : n3 ≤ 9223372036854775807) (hl : ¬ tot n1 tss n3 ≤ 1048576) :
    Calls Tryd.prog 3 #[.agg #[.slice a1 n1 c1, .slice a2 tss.length c2, .slice a3 n3 c3]] w fun e w' => e = .returned (.bool true) ∧ Below w.heap.size w w' := by
  have b0 := (Below.refl w.heap.size w).alloc (Nat.le_refl _) (.cells #[.slice a1 n1 c1, .slice a2 tss.length c2, .slice a3 n3 c3] 26)
  have HSZ := Lib.hid (szS_no a1 a2 a3 n1 c1 c2 n3 c3 tss _ (hm.below b0) l1 l3 hl)
  clear hm hl
  generalize tss.length = N at *
  go_enter Tryd.func3, Tryd.ntmps3
  go_wp2_with fail
  refine HSZ.out.mono ?_; rintro e w1 ⟨rfl, b1⟩
  have B1 := Lib.hid (bt b0 b1)
  clear b0 b1
  go_wp2
  go_ret
  exact ⟨rfl, B1.out⟩
theorem walk (a1 : Option Addr) (n1 c1 : Nat) (zs : List Int) (a2 : Option Addr) (n2 c2 : Nat) (a3 : Option Addr) (n3 c3 : Nat) (w : World) (h1 : IsRow .i64 w a1 n1 c1 zs) (h2 : ∃ tss : List (List RE), tss.length = n2 ∧ En.RdT w a2 tss) (h3 : n3 ≤ 9223372036854775807 ∧ ∃ buf : List RC, buf.length = n3 ∧ Ch.RdR w a3 buf) (her : Er w) :
    Calls Tryd.prog 3 #[.agg #[.slice a1 n1 c1, .slice a2 n2 c2, .slice a3 n3 c3]] w fun e w' => e = .returned (.bool true) ∧ Below w.heap.size w w' := by
  obtain ⟨tss, rfl, ht⟩ := h2
  obtain ⟨l3, buf, rfl, hb⟩ := h3
  have l1 : n1 ≤ 9223372036854775807 ∧ n1 ≤ zs.length := by
    rcases h1 with ⟨_, h1, _, h4⟩ | ⟨x, rfl, h1, h2, h3, _⟩
    · exact ⟨by omega, by omega⟩
    · unfold maxLen at h2; exact ⟨by omega, by omega⟩
  have hn : (zs.take n1).length = n1 := by rw [List.length_take]; omega
  by_cases hl : tot n1 tss buf.length ≤ 1048576
  · have hl' : tot (zs.take n1).length tss buf.length ≤ 1048576 := by rw [hn]; exact hl
    exact core a1 a2 a3 n1 c1 c2 c3 zs tss buf (agS (zs.take n1) tss buf) w h1 ht hb hl hn (fun w' B v _ o => ag_s o.rd hl') (fun w' B v bb o => ag_i o.rd hl' (her.below bb))
  · exact long a1 a2 a3 n1 c1 c2 buf.length c3 tss w ht l1.1 l3 hl
end Go.Proofs.YtifjkjcgpghmhaaDoor.fnExactBufferAgrees
