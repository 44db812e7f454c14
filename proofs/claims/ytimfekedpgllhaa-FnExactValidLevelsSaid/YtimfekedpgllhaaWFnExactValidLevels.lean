/- The walk of laws.FnExactValidLevels: the call returns true and writes nothing that was there. -/
import Derived.Test.YtimfekedpgllhaaLv1
import Derived.Deep.RegionHeld3
namespace Go.Proofs.Ytimfekedpgllhaa.fnExactValidLevels
open Go.RowKit Pv
theorem drewBB {w w' : World} {B : Nat} (h : Below B w.drew w') : Below B w w' := (Below.refl _ w).drew.trans h
set_option maxHeartbeats 4000000 in
theorem core (a a' b b' : Option Addr) (c c' len' d d' lenq : Nat) (hs hq : List (List Int)) (zs zq : List Int) (md : Int) (ok : Bool) (w : World) (hm : IsMatL w a hs) (hr : IsRow .i64 w a' len' c' zs) (hl : hs.length + (lens hs).sum + len' ≤ 1048576) (hmq : IsMatL w b hq) (hrq : IsRow .i64 w b' lenq d' zq) (hlq : (hq.length : Int) + ((lens hq).sum : Nat) + (lenq : Int) ≤ 1048576 - hs.length - ((lens hs).sum : Nat) - len')
    (hS : ∀ w' B T C U p n q p' n' q' r m s r' m' s', OwnP w' B T (.agg #[.slice p n q, .slice p' n' q']) hs (zs.take len') → OwnP w' C U (.agg #[.slice r m s, .slice r' m' s']) hq (zq.take lenq) → Calls Try.prog 8 #[.agg #[.slice p n q, .slice p' n' q', .slice r m s, .slice r' m' s', .int .i64 md]] w' (Bb ok w'))
    (hI : ∀ w' B T C U p n q p' n' q' r m s r' m' s', OwnP w' B T (.agg #[.slice p n q, .slice p' n' q']) hs (zs.take len') → OwnP w' C U (.agg #[.slice r m s, .slice r' m' s']) hq (zq.take lenq) → Calls Try.prog 10 #[.agg #[.slice p n q, .slice p' n' q', .slice r m s, .slice r' m' s', .int .i64 md]] w' (Bb ok w')) :
    Calls Try.prog 3 #[.agg #[.slice a hs.length c, .slice a' len' c', .slice b hq.length d, .slice b' lenq d', .int .i64 md]] w fun e w' => e = .returned (.bool true) ∧ Below w.heap.size w w' := by
  have b0 := (Below.refl w.heap.size w).alloc (Nat.le_refl _) (.cells #[.slice a hs.length c, .slice a' len' c', .slice b hq.length d, .slice b' lenq d', .int .i64 md] 27)
  have HSZ := Lib.hid (szL_yes a a' b b' c c' len' d d' lenq hs hq md _ (hm.below b0) (hmq.below b0) hl hlq)
  have hz0 : ¬ ((1048576 : Int) - (hs.length : Int) - ((lens hs).sum : Nat) - (len' : Int) - (hq.length : Int) - ((lens hq).sum : Nat) - (lenq : Int)) < 0 := by omega
  have HTO := Lib.hid (fun (w' : World) (hb : Below w.heap.size w w') => toL_any a a' b b' c c' len' d d' lenq hs hq zs zq md w' (hm.below hb) (isRow_below hr hb) hl (hmq.below hb) (isRow_below hrq hb) (by omega))
  have HS := Lib.hid hS
  have HI := Lib.hid hI
  clear hS hI hm hr hl hmq hrq hlq
  generalize zs.take len' = ms at *
  generalize zq.take lenq = mq at *
  generalize (lens hs).sum = T at *
  generalize hs.length = N at *
  generalize (lens hq).sum = T2 at *
  generalize hq.length = M at *
  unfold lvV at HSZ HTO
  unfold CopL lvV at HTO
  go_enter Try.func3, Try.ntmps3
  go_wp2_with fail
  have BZ := Blk.newAt w w.heap.size [.slice a N c, .slice a' len' c', .slice b M d, .slice b' lenq d', .int .i64 md] 27 rfl
  have hsz : (w.alloc (.cells #[.slice a N c, .slice a' len' c', .slice b M d, .slice b' lenq d', .int .i64 md] 27)).heap.size = w.heap.size + 1 := Array.size_push _
  have eL : (w.alloc (.cells #[.slice a N c, .slice a' len' c', .slice b M d, .slice b' lenq d', .int .i64 md] 27)) = w.alloc (.cells [.slice a N c, .slice a' len' c', .slice b M d, .slice b' lenq d', .int .i64 md].toArray 27) := rfl
  rw [eL] at b0 HSZ hsz ⊢
  clear eL
  generalize w.alloc (.cells [.slice a N c, .slice a' len' c', .slice b M d, .slice b' lenq d', .int .i64 md].toArray 27) = W0 at *
  have HZ := Lib.hid (fun (w' : World) (hb : Below W0.heap.size W0 w') => (show w'.cell? ⟨w.heap.size, 0, none⟩ = some (.slice a N c) ∧ w'.cell? ⟨w.heap.size, 1, none⟩ = some (.slice a' len' c') ∧ w'.cell? ⟨w.heap.size, 2, none⟩ = some (.slice b M d) ∧ w'.cell? ⟨w.heap.size, 3, none⟩ = some (.slice b' lenq d') ∧ w'.cell? ⟨w.heap.size, 4, none⟩ = some (.int .i64 md) from
    ⟨(BZ.below hb (by omega)).cell 0, (BZ.below hb (by omega)).cell 1, (BZ.below hb (by omega)).cell 2, (BZ.below hb (by omega)).cell 3, (BZ.below hb (by omega)).cell 4⟩))
  clear BZ
  refine HSZ.out.mono ?_; rintro e w1 ⟨rfl, b1⟩
  obtain ⟨z0, z1, z2, z3, z4⟩ := HZ.out w1 b1
  have B1 := Lib.hid (bt b0 b1)
  have B01 := Lib.hid b1
  clear b1
  go_wp2_with fail
  refine (HTO.out w1 B1.out).mono ?_; rintro e w2 ⟨p1, n1, q1, p1', n1', q1', p2, n2, q2, p2', n2', q2', U2, rfl, o1, o2, b2, _⟩
  go_wp2_with fail
  refine (HS.out w2 _ _ _ _ p1 n1 q1 p1' n1' q1' p2 n2 q2 p2' n2' q2' o1 o2).mono ?_; rintro e w3 ⟨rfl, b3⟩
  have B3 := Lib.hid (bt (bt B1.out b2) b3)
  have B03 := Lib.hid (bt (bt B01.out b2) b3)
  clear o1 o2 b2 b3 z0 z1 z2 z3 z4 B1 B01
  obtain ⟨z0, z1, z2, z3, z4⟩ := HZ.out w3 B03.out
  go_wp2_with fail
  refine (HTO.out w3 B3.out).mono ?_; rintro e w4 ⟨xa, xn, xc, xa', xn', xc', xb, xm, xd, xb', xm', xd', UX, rfl, ox, oy, b4, _⟩
  have B4 := Lib.hid (bt B3.out b4)
  have B04 := Lib.hid (bt B03.out b4)
  clear b4 z0 z1 z2 z3 z4 B3 B03
  go_wp2_with fail
  have BX := Blk.newAt w4 w4.heap.size [.slice xa xn xc, .slice xa' xn' xc', .slice xb xm xd, .slice xb' xm' xd', .int .i64 md] 32 rfl
  have b5 := (Below.refl w4.heap.size w4).alloc (Nat.le_refl _) (.cells [.slice xa xn xc, .slice xa' xn' xc', .slice xb xm xd, .slice xb' xm' xd', .int .i64 md].toArray 32)
  have ox5 : OwnP (w4.alloc (.cells [.slice xa xn xc, .slice xa' xn' xc', .slice xb xm xd, .slice xb' xm' xd', .int .i64 md].toArray 32)) (w3.heap.size + 6) UX (.agg #[.slice xa xn xc, .slice xa' xn' xc']) hs ms := ox.below b5 (Nat.le_refl _)
  have oy5 : OwnP (w4.alloc (.cells [.slice xa xn xc, .slice xa' xn' xc', .slice xb xm xd, .slice xb' xm' xd', .int .i64 md].toArray 32)) UX w4.heap.size (.agg #[.slice xb xm xd, .slice xb' xm' xd']) hq mq := oy.below b5 (Nat.le_refl _)
  have B5 := Lib.hid (bt B4.out b5)
  have B05 := Lib.hid (bt B04.out b5)
  have eL2 : (w4.alloc (.cells #[.slice xa xn xc, .slice xa' xn' xc', .slice xb xm xd, .slice xb' xm' xd', .int .i64 md] 32)) = w4.alloc (.cells [.slice xa xn xc, .slice xa' xn' xc', .slice xb xm xd, .slice xb' xm' xd', .int .i64 md].toArray 32) := rfl
  rw [eL2]
  clear eL2 ox oy b5 B4 B04
  generalize w4.alloc (.cells [.slice xa xn xc, .slice xa' xn' xc', .slice xb xm xd, .slice xb' xm' xd', .int .i64 md].toArray 32) = W5 at *
  have HX := Lib.hid (fun (w' : World) (hb : Below W5.heap.size W5 w') => (show (w'.cell? ⟨w4.heap.size, 0, none⟩ = some (.slice xa xn xc) ∧ w'.cell? ⟨w4.heap.size, 1, none⟩ = some (.slice xa' xn' xc') ∧ w'.cell? ⟨w4.heap.size, 2, none⟩ = some (.slice xb xm xd) ∧ w'.cell? ⟨w4.heap.size, 3, none⟩ = some (.slice xb' xm' xd') ∧ w'.cell? ⟨w4.heap.size, 4, none⟩ = some (.int .i64 md) ∧ w'.cell? ⟨w.heap.size, 0, none⟩ = some (.slice a N c) ∧ w'.cell? ⟨w.heap.size, 1, none⟩ = some (.slice a' len' c') ∧ w'.cell? ⟨w.heap.size, 2, none⟩ = some (.slice b M d) ∧ w'.cell? ⟨w.heap.size, 3, none⟩ = some (.slice b' lenq d') ∧ w'.cell? ⟨w.heap.size, 4, none⟩ = some (.int .i64 md)) ∧
      (OwnP w' (w3.heap.size + 6) UX (.agg #[.slice xa xn xc, .slice xa' xn' xc']) hs ms ∧ OwnP w' UX w4.heap.size (.agg #[.slice xb xm xd, .slice xb' xm' xd']) hq mq) from
    ⟨⟨(BX.below hb BX.lt).cell 0, (BX.below hb BX.lt).cell 1, (BX.below hb BX.lt).cell 2, (BX.below hb BX.lt).cell 3, (BX.below hb BX.lt).cell 4, HZ.out w' (bt B05.out hb)⟩, ox5.below hb (Nat.le_refl _), oy5.below hb (Nat.le_refl _)⟩))
  have HI5 := Lib.hid (HI.out W5 _ _ _ _ _ _ _ _ _ _ _ _ _ _ _ _ ox5 oy5)
  clear BX ox5 oy5 HZ HI
  refine HI5.out.mono ?_; rintro e w6 ⟨rfl, b6⟩
  have B6 := Lib.hid (bt B5.out b6)
  have b56 := Lib.hid b6
  obtain ⟨⟨x0, x1, x2, x3, x4, z0, z1, z2, z3, z4⟩, _⟩ := HX.out w6 b6
  have HCT := Lib.hid (HTO.out w6.drew B6.out.drew)
  have HEQ := Lib.hid (fun (w7 : World) (u : Option Addr) (un uc : Nat) (u' : Option Addr) (un' uc' : Nat) (v : Option Addr) (vn vc : Nat) (v' : Option Addr) (vn' vc' U7 : Nat) (b7 : Below w6.drew.heap.size w6.drew w7) (ou : OwnP w7 (w6.drew.heap.size + 6) U7 (.agg #[.slice u un uc, .slice u' un' uc']) hs ms) (ov : OwnP w7 U7 w7.heap.size (.agg #[.slice v vn vc, .slice v' vn' vc']) hq mq) => eqL_own (md := md) (HX.out w7 (bt b56.out (drewBB b7))).2.1 (HX.out w7 (bt b56.out (drewBB b7))).2.2 ou ov)
  unfold lvV at HEQ
  have HX7 := Lib.hid (fun (w7 : World) (b7 : Below w6.drew.heap.size w6.drew w7) => (HX.out w7 (bt b56.out (drewBB b7))).1)
  clear b6 HX HTO HS HI5 HSZ B05 B5
  go_wp2
  go_region_held3 (fun w' => w'.cell? ⟨w4.heap.size, 0, none⟩ = some (.slice xa xn xc) ∧ w'.cell? ⟨w4.heap.size, 1, none⟩ = some (.slice xa' xn' xc') ∧ w'.cell? ⟨w4.heap.size, 2, none⟩ = some (.slice xb xm xd) ∧ w'.cell? ⟨w4.heap.size, 3, none⟩ = some (.slice xb' xm' xd') ∧ w'.cell? ⟨w4.heap.size, 4, none⟩ = some (.int .i64 md) ∧ w'.cell? ⟨w.heap.size, 0, none⟩ = some (.slice a N c) ∧ w'.cell? ⟨w.heap.size, 1, none⟩ = some (.slice a' len' c') ∧ w'.cell? ⟨w.heap.size, 2, none⟩ = some (.slice b M d) ∧ w'.cell? ⟨w.heap.size, 3, none⟩ = some (.slice b' lenq d') ∧ w'.cell? ⟨w.heap.size, 4, none⟩ = some (.int .i64 md)) (first | exact ⟨x0, x1, x2, x3, x4, z0, z1, z2, z3, z4⟩ | exact HX7.out _ (by assumption) | exact HX7.out _ (bt b7 b8)) (first | (go_at_call 9; (with_reducible refine HCT.out.mono ?_); rintro e w7 ⟨u, un, uc, u', un', uc', v, vn, vc, v', vn', vc', U7, rfl, ou, ov, b7, _⟩) | (go_at_call 11; (with_reducible refine (HEQ.out _ _ _ _ _ _ _ _ _ _ _ _ _ _ b7 ou ov).mono ?_); rintro e w8 ⟨rfl, b8⟩))
  all_goals
    have HBE := Lib.hid (bt B6.out (drewBB (bt b7 b8)))
    clear b7 b8
    go_wp2
    go_ret
    exact ⟨rfl, HBE.out⟩
theorem long1 (a a' b b' : Option Addr) (c c' len' d d' lenq m : Nat) (hs : List (List Int)) (md : Int) (w : World) (hm : IsMatL w a hs) (hl' : len' ≤ 9223372036854775807) (hl : ¬ hs.length + (lens hs).sum + len' ≤ 1048576) :
    Calls Try.prog 3 #[.agg #[.slice a hs.length c, .slice a' len' c', .slice b m d, .slice b' lenq d', .int .i64 md]] w fun e w' => e = .returned (.bool true) ∧ Below w.heap.size w w' := by
  have b0 := (Below.refl w.heap.size w).alloc (Nat.le_refl _) (.cells #[.slice a hs.length c, .slice a' len' c', .slice b m d, .slice b' lenq d', .int .i64 md] 27)
  have HSZ := Lib.hid (szL_no1 a a' b b' c c' len' d d' lenq m hs md _ (hm.below b0) hl' hl)
  unfold lvV at HSZ
  clear hm hl
  generalize hs.length = N at *
  go_enter Try.func3, Try.ntmps3
  go_wp2_with fail
  refine HSZ.out.mono ?_; rintro e w1 ⟨rfl, b1⟩
  have B1 := Lib.hid (bt b0 b1)
  clear b0 b1
  go_wp2
  go_ret
  exact ⟨rfl, B1.out⟩
theorem long2 (a a' b b' : Option Addr) (c c' len' d d' lenq : Nat) (hs hq : List (List Int)) (md : Int) (w : World) (hm : IsMatL w a hs) (hmq : IsMatL w b hq) (h : hs.length + (lens hs).sum + len' ≤ 1048576) (hl' : lenq ≤ 9223372036854775807) (hlq : ¬ (hq.length : Int) + ((lens hq).sum : Nat) + (lenq : Int) ≤ 1048576 - hs.length - ((lens hs).sum : Nat) - len') :
    Calls Try.prog 3 #[.agg #[.slice a hs.length c, .slice a' len' c', .slice b hq.length d, .slice b' lenq d', .int .i64 md]] w fun e w' => e = .returned (.bool true) ∧ Below w.heap.size w w' := by
  have b0 := (Below.refl w.heap.size w).alloc (Nat.le_refl _) (.cells #[.slice a hs.length c, .slice a' len' c', .slice b hq.length d, .slice b' lenq d', .int .i64 md] 27)
  have HSZ := Lib.hid (szL_no2 a a' b b' c c' len' d d' lenq hs hq md _ (hm.below b0) (hmq.below b0) h hl' hlq)
  unfold lvV at HSZ
  clear hm hmq h hlq
  generalize hs.length = N at *
  generalize hq.length = M at *
  go_enter Try.func3, Try.ntmps3
  go_wp2_with fail
  refine HSZ.out.mono ?_; rintro e w1 ⟨rfl, b1⟩
  have B1 := Lib.hid (bt b0 b1)
  clear b0 b1
  go_wp2
  go_ret
  exact ⟨rfl, B1.out⟩
theorem row_max {k : IntKind} {w : World} {a : Option Addr} {len cap : Nat} {zs : List Int} (h : IsRow k w a len cap zs) : len ≤ 9223372036854775807 := by
  rcases h with ⟨_, h1, _⟩ | ⟨x, rfl, h1, h2, _⟩
  · omega
  · unfold maxLen at h2; omega
theorem mat_short {hs : List (List Int)} {n : Nat} (hl : hs.length + (lens hs).sum + n ≤ 1048576) : ∀ i, i < hs.length → (hs.getD i []).length ≤ 1048576 := fun i hi => by
  have h1 := lens_get hs i hi
  have h2 := sum_step (lens hs) i (by rw [lens_length]; exact hi)
  have h3 := sum_take_le (lens hs) (i + 1)
  omega
theorem walk (a : Option Addr) (len cap : Nat) (a' : Option Addr) (len' cap' : Nat) (zs' : List Int) (b : Option Addr) (lem cam : Nat) (b' : Option Addr) (lem' cam' : Nat) (zq : List Int) (md : Int) (w : World) (w0 : IsMat w a len) (u0 : IsRow .i64 w a' len' cap' zs') (x0 : IsMat w b lem) (t0 : IsRow .i64 w b' lem' cam' zq) (_ : (Lit.int .i64 md).wf = true) :
    Calls Try.prog 3 #[.agg #[.slice a len cap, .slice a' len' cap', .slice b lem cam, .slice b' lem' cam', .int .i64 md]] w fun e w' => e = .returned (.bool true) ∧ Below w.heap.size w w' := by
  obtain ⟨hs, rfl, hm⟩ := w0.list
  obtain ⟨hq, rfl, hmq⟩ := x0.list
  have hl' := row_max u0
  have hl2 := row_max t0
  by_cases hl : hs.length + (lens hs).sum + len' ≤ 1048576
  · by_cases hlq : (hq.length : Int) + ((lens hq).sum : Nat) + (lem' : Int) ≤ 1048576 - hs.length - ((lens hs).sum : Nat) - len'
    · have hms : (zs'.take len').length ≤ 1048576 := by rw [List.length_take]; omega
      have hmq' : (zq.take lem').length ≤ 1048576 := by rw [List.length_take]; omega
      have hxs := mat_short hl
      have hxq := mat_short (hs := hq) (n := lem') (by omega)
      exact core a a' b b' cap cap' len' cam cam' lem' hs hq zs' zq md (okL hs hq (zs'.take len') (zq.take lem') md) w hm u0 hl hmq t0 hlq
        (fun w' B T C U p n q p' n' q' r m s r' m' s' h k => validL_s (RdP.of h (by omega) hxs hms) (RdP.of k (by omega) hxq hmq'))
        (fun w' B T C U p n q p' n' q' r m s r' m' s' h k => validL_i (RdP.of h (by omega) hxs hms) (RdP.of k (by omega) hxq hmq'))
    · exact long2 a a' b b' cap cap' len' cam cam' lem' hs hq md w hm hmq hl hl2 hlq
  · exact long1 a a' b b' cap cap' len' cam cam' lem' hq.length hs md w hm hl' hl
end Go.Proofs.Ytimfekedpgllhaa.fnExactValidLevels
