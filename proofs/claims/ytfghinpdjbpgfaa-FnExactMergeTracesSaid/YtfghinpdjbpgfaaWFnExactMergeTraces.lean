/- The walk of laws.FnExactMergeTraces: the call returns true and writes nothing that was there. -/
import Derived.Test.YtfghinpdjbpgfaaCmgI
import Derived.Test.YtfghinpdjbpgfaaCto
import Derived.Test.YtfghinpdjbpgfaaCmark1
import Derived.Test.YtfghinpdjbpgfaaCbt
namespace Go.Proofs.Ytfghinpdjbpgfaa.fnExactMergeTraces
open Go.RowKit Ac Tr
theorem sz_i (a : Option Addr) (len cap : Nat) (left : Int) (w : World) (h0 : 0 ≤ left) (h : (len : Int) ≤ left) (hl : left ≤ 1048576) :
    Calls Try.prog 6 #[.slice a len cap, .int .i64 left] w fun e w' => e = .returned (.int .i64 (left - (len : Int))) ∧ w = w' := by
  have h1 : ¬ (left - (len : Int)) < 0 := by omega
  go_enter Try.func6, Try.ntmps6
  go_wp2
  go_ret
  exact ⟨rfl, rfl⟩
theorem sz_no (a : Option Addr) (len cap : Nat) (left : Int) (w : World) (h0 : 0 ≤ left) (h : left < (len : Int)) (hl : left ≤ 1048576) (hm : len ≤ 9223372036854775807) :
    Calls Try.prog 6 #[.slice a len cap, .int .i64 left] w fun e w' => e = .returned (.int .i64 (-1)) ∧ w = w' := by
  have h1 : (left - (len : Int)) < 0 := by omega
  go_enter Try.func6, Try.ntmps6
  go_wp2
  go_ret
  exact ⟨rfl, rfl⟩
set_option maxHeartbeats 4000000 in
theorem core (a b tt : Option Addr) (ca cb ct lt : Nat) (xs ys : List (Int × Int)) (zs : List Int) (rs : List (Int × Int)) (ok : Bool) (hrs : rs.length ≤ 1000000) (w : World)
    (ra : RowA w a xs) (rb : RowA w b ys) (rt : IsRow .i64 w tt lt ct zs) (hsum : xs.length + ys.length ≤ 1048576) (hlt : lt ≤ 1048576)
    (hS : ∀ w' B1 B2 B3 v1 v2 v3, OwnA w' B1 v1 xs → OwnA w' B2 v2 ys → Own w' B3 v3 (zs.take lt) → Calls Try.prog 7 #[v1, v2, v3] w' (ResA rs ok w'))
    (hI : ∀ w' B1 B2 B3 v1 v2 v3, OwnA w' B1 v1 xs → OwnA w' B2 v2 ys → Own w' B3 v3 (zs.take lt) → Calls Try.prog 10 #[v1, v2, v3] w' (ResA rs ok w')) :
    Calls Try.prog 3 #[.slice a xs.length ca, .slice b ys.length cb, .slice tt lt ct] w fun e w' => e = .returned (.bool true) ∧ Below w.heap.size w w' := by
  have HZ1 := Lib.hid (fun w => sz_i a xs.length ca 1048576 w (by omega) (by omega) (by omega))
  have HZ2 := Lib.hid (fun w => sz_i b ys.length cb (1048576 - (xs.length : Int)) w (by omega) (by omega) (by omega))
  have HTA := Lib.hid (fun (w' : World) (hb : Below w.heap.size w w') => Ac.to_any a ca xs w' (ra.below hb) (by omega))
  have HTB := Lib.hid (fun (w' : World) (hb : Below w.heap.size w w') => Ac.to_any b cb ys w' (rb.below hb) (by omega))
  have HTT := Lib.hid (fun (w' : World) (hb : Below w.heap.size w w') => Go.Proofs.Ytfghinpdjbpgfaa.to_any tt lt ct zs w' (isRow_below rt hb) hlt)
  have HEQ := Lib.hid (fun (xs : List (Int × Int)) (hl : xs.length ≤ 1048576) (w' : World) (B1 B2 : Nat) (v1 v2 : Value) (h1 : OwnA w' B1 v1 xs) (h2 : OwnA w' B2 v2 xs) => (show Calls Try.prog 11 #[v1, v2] w' (BbA true w') by
    obtain ⟨a1, c1, rfl, r1⟩ := h1.row
    obtain ⟨a2, c2, rfl, r2⟩ := h2.row
    exact eq_any a1 a2 c1 c2 xs w' hl r1 r2))
  have HEA := Lib.hid (HEQ.out xs (by omega))
  have HEB := Lib.hid (HEQ.out ys (by omega))
  have HER := Lib.hid (HEQ.out rs (by omega))
  have HMA := Lib.hid (fun (w' : World) (B : Nat) (v : Value) (h : OwnA w' B v xs) => (show Calls Try.prog 13 #[v, .int .i64 1] w' (MarkI 3000000 v w') from
    (Ac.markG 1 (by omega) (by omega) h (by omega)).mono fun e w' ⟨he, _, hg⟩ => ⟨_, he, by omega, hg⟩))
  have HMB := Lib.hid (fun (w' : World) (B : Nat) (v : Value) (K : Int) (h0 : 0 ≤ K ∧ K ≤ 3000000) (h : OwnA w' B v ys) => (show Calls Try.prog 13 #[v, .int .i64 K] w' (MarkI 6000000 v w') from
    (Ac.markG K (by omega) (by omega) h (by omega)).mono fun e w' ⟨he, _, hg⟩ => ⟨_, he, by omega, hg⟩))
  have HMT := Lib.hid (fun (w' : World) (B : Nat) (v : Value) (K : Int) (h0 : 0 ≤ K ∧ K ≤ 6000000) (h : Own w' B v (zs.take lt)) => (show Calls Try.prog 14 #[v, .int .i64 K] w' (MarkI 200000000 v w') from
    mark_int K (by omega) (by omega) h (by rw [List.length_take]; omega)))
  have HMR := Lib.hid (fun (w' : World) (B : Nat) (v : Value) (h : OwnA w' B v rs) => Ac.markG 1 (by omega) (by omega) h (by omega))
  have HHR := Lib.hid (fun (w' : World) (B : Nat) (v : Value) (h : OwnA w' B v (mkG 1 rs.length)) => Ac.held_own h (by omega))
  have HS := Lib.hid hS
  have HI := Lib.hid hI
  have hlt2 : ¬ (1048576 : Int) < (lt : Int) := by omega
  have hz1 : ¬ ((1048576 : Int) - (xs.length : Int)) < 0 := by omega
  have hz2 : ¬ ((1048576 : Int) - (xs.length : Int) - (ys.length : Int)) < 0 := by omega
  have hr0 : ¬ (1 + 2 * (rs.length : Int)) < 0 := by omega
  have hrl : (rs.length : Int) ≤ 1000000 := by omega
  clear ra rb rt hS hI hsum hlt HEQ
  generalize zs.take lt = ts at *
  generalize rs.length = R at *
  generalize xs.length = X at *
  generalize ys.length = Y at *
  go_enter Try.func3, Try.ntmps3
  go_wp2_with fail
  refine (HZ1.out _).mono ?_; rintro e w' ⟨rfl, rfl⟩
  go_wp2_with fail
  refine (HZ2.out _).mono ?_; rintro e w' ⟨rfl, rfl⟩
  go_wp2_with fail
  refine (HTA.out w (Below.refl _ _)).mono ?_; rintro e w1 ⟨v1, rfl, o1, b1⟩
  go_wp2_with fail
  refine (HTB.out w1 b1).mono ?_; rintro e w2 ⟨v2, rfl, o2, b2⟩
  have B2 := bt b1 b2
  go_wp2_with fail
  refine (HTT.out w2 B2).mono ?_; rintro e w3 ⟨v3, rfl, o3, b3⟩
  have B3 := bt B2 b3
  go_wp2_with fail
  refine (HS.out w3 _ _ _ v1 v2 v3 (OwnA.below (OwnA.below o1 b2 (Nat.le_refl _)) b3 (Nat.le_refl _)) (OwnA.below o2 b3 (Nat.le_refl _)) o3).mono ?_; rintro e w4 ⟨vw, rfl, ow, b4⟩
  have B4 := bt B3 b4
  have HOW := Lib.hid (fun (w' : World) (hb : Below w4.heap.size w4 w') => OwnA.below ow hb (Nat.le_refl _))
  clear o1 o2 o3 b1 b2 b3 b4 B2 B3 ow
  go_wp2_with fail
  refine (HTA.out w4 B4).mono ?_; rintro e w5 ⟨x0, rfl, p0, b5⟩
  have B5 := bt B4 b5
  go_wp2_with fail
  refine (HTB.out w5 B5).mono ?_; rintro e w6 ⟨x1, rfl, p1, b6⟩
  have B6 := bt B5 b6
  go_wp2_with fail
  refine (HTT.out w6 B6).mono ?_; rintro e w7 ⟨x2, rfl, p2, b7⟩
  have B7 := bt B6 b7
  have b57 := bt b6 b7
  have p07 := OwnA.below p0 b57 (Nat.le_refl _)
  have p17 := OwnA.below p1 b7 (Nat.le_refl _)
  go_wp2_with fail
  refine (HI.out w7 _ _ _ x0 x1 x2 p07 p17 p2).mono ?_; rintro e w8 ⟨vg, rfl, og, b8⟩
  have B8 := bt B7 b8
  have b47 := bt b5 b57
  have b48 := bt b47 b8
  have k0 : ∀ k, x0.ownBlock = some k → w4.heap.size ≤ k ∧ k < w7.heap.size := fun k hk => by
    have h1 := OwnA.block p0 k hk; have h2 := b57.size; omega
  have k1 : ∀ k, x1.ownBlock = some k → w4.heap.size ≤ k ∧ k < w7.heap.size := fun k hk => by
    have h1 := OwnA.block p1 k hk; have h2 := b7.size; have h3 := b5.size; omega
  have k2 : ∀ k, x2.ownBlock = some k → w4.heap.size ≤ k ∧ k < w7.heap.size := fun k hk => by
    have h1 := p2.block k hk; have h2 := b6.size; have h3 := b5.size; omega
  have d01 : ∀ k, x0.ownBlock = some k → k < w5.heap.size := fun k hk => (OwnA.block p0 k hk).2
  have d1 : ∀ k, x1.ownBlock = some k → w5.heap.size ≤ k ∧ k < w6.heap.size := OwnA.block p1
  have d2 : ∀ k, x2.ownBlock = some k → w6.heap.size ≤ k := fun k hk => (p2.block k hk).1
  have q0 := OwnA.below p07 b8 (Nat.le_refl _)
  have q1 := OwnA.below p17 b8 (Nat.le_refl _)
  have q2 := p2.below b8 (Nat.le_refl _)
  have sg := og.block
  have s56 := b6.size
  have s48 := b48.size
  have s78 := b8.size
  have s47 := b47.size
  have s04 := B4.size
  clear p0 p1 p2 p07 p17 b5 b6 b7 b57
  go_wp2_with fail
  refine (HER.out w8 _ _ vg vw og (HOW.out w8 b48)).mono ?_; rintro e w9 ⟨rfl, b9⟩
  have b9 : Below w8.heap.size w8 w9 := b9
  have B9 := bt B8 b9
  have b49 := bt b48 b9
  go_wp2_with fail
  refine (HTA.out w9 B9).mono ?_; rintro e w10 ⟨y0, rfl, o10, b10⟩
  have B10 := bt B9 b10
  have b810 := bt b9 b10
  go_wp2_with fail
  refine (HEA.out w10 _ _ x0 y0 (OwnA.below q0 b810 (Nat.le_refl _)) o10).mono ?_; rintro e w11 ⟨rfl, b11⟩
  have b11 : Below w10.heap.size w10 w11 := b11
  have B11 := bt B10 b11
  have b811 := bt b810 b11
  go_wp2_with fail
  refine (HTB.out w11 B11).mono ?_; rintro e w12 ⟨y1, rfl, o12, b12⟩
  have B12 := bt B11 b12
  have b812 := bt b811 b12
  go_wp2_with fail
  refine (HEB.out w12 _ _ x1 y1 (OwnA.below q1 b812 (Nat.le_refl _)) o12).mono ?_; rintro e w13 ⟨rfl, b13⟩
  have b13 : Below w12.heap.size w12 w13 := b13
  have B13 := bt B12 b13
  have b813 := bt b812 b13
  go_wp2_with fail
  refine (HTT.out w13 B13).mono ?_; rintro e w14 ⟨y2, rfl, o14, b14⟩
  have B14 := bt B13 b14
  have b814 := bt b813 b14
  go_wp2_with fail
  refine (eq_below (q2.below b814 (Nat.le_refl _)) o14).mono ?_; rintro e w15 ⟨rfl, b15⟩
  have B15 := bt B14 b15
  have b815 := bt b814 b15
  have b415 := bt b48 b815
  have s815 := b815.size
  have r0 := OwnA.below q0 b815 (Nat.le_refl _)
  have r1 := OwnA.below q1 b815 (Nat.le_refl _)
  have r2 := q2.below b815 (Nat.le_refl _)
  have rg := OwnA.below og b815 (Nat.le_refl _)
  clear q0 q1 q2 og o10 o12 o14 b9 b10 b11 b12 b13 b14 b15 B9 B10 B11 B12 B13 B14 b810 b811 b812 b813 b814 b49 b815
  go_wp2_with fail
  refine (HMA.out w15 _ x0 r0).mono ?_; rintro e w16 ⟨ka, rfl, hka, g16⟩
  have s16 : w15.heap.size ≤ w16.heap.size := g16.size
  have B16 : Below w.heap.size w w16 := B15.grown g16 (by omega) (fun k hk => by have := (k0 k hk).1; omega)
  have b416 : Below w4.heap.size w4 w16 := b415.grown g16 (by omega) (fun k hk => (k0 k hk).1)
  have t1 := OwnA.kept r1 g16 (fun k hk e => by have h1 := d1 k hk; have h2 := d01 k e.symm; omega)
  have t2 := r2.kept g16 (fun k hk e => by have h1 := d2 k hk; have h2 := d01 k e.symm; omega)
  have tg := OwnA.kept rg g16 (fun k hk e => by have h1 := sg k hk; have h2 := k0 k e.symm; omega)
  clear r0 r1 r2 rg
  go_wp2_with fail
  refine (HMB.out w16 _ x1 ka hka t1).mono ?_; rintro e w17 ⟨kb, rfl, hkb, g17⟩
  have s17 : w16.heap.size ≤ w17.heap.size := g17.size
  have B17 : Below w.heap.size w w17 := B16.grown g17 (by omega) (fun k hk => by have := (k1 k hk).1; omega)
  have b417 : Below w4.heap.size w4 w17 := b416.grown g17 (by omega) (fun k hk => (k1 k hk).1)
  have u2 := t2.kept g17 (fun k hk e => by have h1 := d2 k hk; have h2 := d1 k e.symm; omega)
  have ug := OwnA.kept tg g17 (fun k hk e => by have h1 := sg k hk; have h2 := k1 k e.symm; omega)
  clear t1 t2 tg
  go_wp2_with fail
  refine (HMT.out w17 _ x2 kb hkb u2).mono ?_; rintro e w18 ⟨kc, rfl, hkc, g18⟩
  have s18 : w17.heap.size ≤ w18.heap.size := g18.size
  have B18 : Below w.heap.size w w18 := B17.grown g18 (by omega) (fun k hk => by have := (k2 k hk).1; omega)
  have b418 : Below w4.heap.size w4 w18 := b417.grown g18 (by omega) (fun k hk => (k2 k hk).1)
  have vg18 := OwnA.kept ug g18 (fun k hk e => by have h1 := sg k hk; have h2 := k2 k e.symm; omega)
  have hkc0 : ¬ kc < 0 := by omega
  clear u2 ug
  go_wp2_with fail
  refine (HER.out w18 _ _ vg vw vg18 (HOW.out w18 b418)).mono ?_; rintro e w19 ⟨rfl, b19⟩
  have b19 : Below w18.heap.size w18 w19 := b19
  have B19 := bt B18 b19
  have b419 := bt b418 b19
  have vg19 := OwnA.below vg18 b19 (Nat.le_refl _)
  have s19 := b19.size
  clear vg18 b19
  go_wp2_with fail
  refine (HMR.out w19 _ vg vg19).mono ?_; rintro e w20 ⟨rfl, om, gm⟩
  have s20 : w19.heap.size ≤ w20.heap.size := gm.size
  have B20 : Below w.heap.size w w20 := B19.grown gm (by omega) (fun k hk => by have := (sg k hk).1; omega)
  have b420 : Below w4.heap.size w4 w20 := b419.grown gm (by omega) (fun k hk => by have := (sg k hk).1; omega)
  have HH := Lib.hid (fun (w' : World) (hb : Below w20.heap.size w20 w') => HHR.out w' _ vg (OwnA.below om hb (Nat.le_refl _)))
  clear vg19 om gm g16 g17 g18
  go_wp2_with fail
  refine (HH.out w20 (Below.refl _ _)).mono ?_; rintro e w21 ⟨rfl, rfl⟩
  go_wp2_with fail
  refine (HTA.out w20 B20).mono ?_; rintro e w22 ⟨z0, rfl, o22, b22⟩
  have B22 := bt B20 b22
  go_wp2_with fail
  refine (HTB.out w22 B22).mono ?_; rintro e w23 ⟨z1, rfl, o23, b23⟩
  have B23 := bt B22 b23
  go_wp2_with fail
  refine (HTT.out w23 B23).mono ?_; rintro e w24 ⟨z2, rfl, o24, b24⟩
  have B24 := bt B23 b24
  have b2024 := bt (bt b22 b23) b24
  go_wp2_with fail
  refine (HI.out w24 _ _ _ z0 z1 z2 (OwnA.below (OwnA.below o22 b23 (Nat.le_refl _)) b24 (Nat.le_refl _)) (OwnA.below o23 b24 (Nat.le_refl _)) o24).mono ?_; rintro e w25 ⟨vh, rfl, oh, b25⟩
  have B25 := bt B24 b25
  have b2025 := bt b2024 b25
  go_wp2_with fail
  refine (HER.out w25 _ _ vh vw oh (HOW.out w25 (btB b420 (by omega) b2025))).mono ?_; rintro e w26 ⟨rfl, b26⟩
  have b26 : Below w25.heap.size w25 w26 := b26
  go_wp2_with fail
  refine (HH.out w26 (bt b2025 b26)).mono ?_; rintro e w27 ⟨rfl, rfl⟩
  go_wp2
  go_ret
  exact ⟨rfl, bt B25 b26⟩
theorem walk (a : Option Addr) (ca : Nat) (xs : List (Int × Int)) (b : Option Addr) (cb : Nat) (ys : List (Int × Int)) (tt : Option Addr) (lt ct : Nat) (zs : List Int) (w : World)
    (ra : RowA w a xs) (hma : xs.length ≤ 9223372036854775807) (rb : RowA w b ys) (hmb : ys.length ≤ 9223372036854775807) (rt : IsRow .i64 w tt lt ct zs) :
    Calls Try.prog 3 #[.slice a xs.length ca, .slice b ys.length cb, .slice tt lt ct] w fun e w' => e = .returned (.bool true) ∧ Below w.heap.size w w' := by
  have hle := (rt.le).1
  by_cases hlt : lt ≤ 1048576
  · by_cases hx : xs.length ≤ 1048576
    · by_cases hs : xs.length + ys.length ≤ 1048576
      · refine core a b tt ca cb ct lt xs ys zs (mgR xs ys (zs.take lt)).1 (mgR xs ys (zs.take lt)).2 (by have := mgR_len xs ys (zs.take lt); omega) w ra rb rt hs hlt (fun w' B1 B2 B3 v1 v2 v3 h1 h2 h3 => ?_) (fun w' B1 B2 B3 v1 v2 v3 h1 h2 h3 => ?_)
        · obtain ⟨a1, c1, rfl, r1⟩ := h1.row
          obtain ⟨a2, c2, rfl, r2⟩ := h2.row
          obtain ⟨a3, c3, rfl, _, _, r3⟩ := h3.rd
          exact merge_s a1 a2 a3 c1 c2 c3 xs ys _ w' (by omega) (by omega) (by rw [List.length_take]; omega) r1 r2 r3
        · obtain ⟨a1, c1, rfl, m1, n1, r1⟩ := h1.row2
          obtain ⟨a2, c2, rfl, m2, n2, r2⟩ := h2.row2
          obtain ⟨a3, c3, rfl, _, _, r3⟩ := h3.rd
          exact merge_i a1 a2 a3 c1 c2 c3 xs ys _ w' (by omega) (by omega) (by rw [List.length_take]; omega) r1 r2 r3 m1 n1 m2 n2
      · have HZ1 := Lib.hid (fun w => sz_i a xs.length ca 1048576 w (by omega) (by omega) (by omega))
        have HZ2 := Lib.hid (fun w => sz_no b ys.length cb (1048576 - (xs.length : Int)) w (by omega) (by omega) (by omega) hmb)
        have hlt2 : ¬ (1048576 : Int) < (lt : Int) := by omega
        have hz1 : ¬ ((1048576 : Int) - (xs.length : Int)) < 0 := by omega
        clear ra rb rt hs hlt
        generalize xs.length = X at *
        generalize ys.length = Y at *
        go_enter Try.func3, Try.ntmps3
        go_wp2_with fail
        refine (HZ1.out _).mono ?_; rintro e w' ⟨rfl, rfl⟩
        go_wp2_with fail
        refine (HZ2.out _).mono ?_; rintro e w' ⟨rfl, rfl⟩
        go_wp2
        go_ret
        exact ⟨rfl, Below.refl _ _⟩
    · have HZ1 := Lib.hid (fun w => sz_no a xs.length ca 1048576 w (by omega) (by omega) (by omega) hma)
      have hlt2 : ¬ (1048576 : Int) < (lt : Int) := by omega
      clear ra rb rt hlt hx
      generalize xs.length = X at *
      generalize ys.length = Y at *
      go_enter Try.func3, Try.ntmps3
      go_wp2_with fail
      refine (HZ1.out _).mono ?_; rintro e w' ⟨rfl, rfl⟩
      go_wp2
      go_ret
      exact ⟨rfl, Below.refl _ _⟩
  · have hlt2 : (1048576 : Int) < (lt : Int) := by omega
    clear ra rb rt hlt
    generalize xs.length = X at *
    generalize ys.length = Y at *
    go_enter Try.func3, Try.ntmps3
    go_wp2
    go_ret
    exact ⟨rfl, Below.refl _ _⟩
end Go.Proofs.Ytfghinpdjbpgfaa.fnExactMergeTraces
