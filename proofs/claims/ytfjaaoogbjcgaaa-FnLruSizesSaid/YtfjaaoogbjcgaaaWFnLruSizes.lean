/- The walk of laws.FnLruSizes: the call returns true and writes nothing that was there. -/
import Derived.Test.YtfjaaoogbjcgaaaClz
import Derived.WalkMore
namespace Go.Proofs.Ytfjaaoogbjcgaaa.fnLruSizes
open Go.RowKit Tr Pv
theorem rd_at {w : World} {a : Option Addr} {n c : Nat} {xs : List Int} (h : Rd w (.slice a n c) xs) (i : Nat) (hi : i < n) :
    ∃ b off, a = some ⟨b, off, none⟩ ∧ w.cell? ⟨b, off + i, none⟩ = some (.int .i64 (xs.getD i 0)) := by
  obtain ⟨a', c', e, _, _, hr⟩ := h
  injection e with e1 e2 e3
  subst e1
  obtain ⟨b, off, ha, hc, _⟩ := hr i (by omega)
  exact ⟨b, off, ha, hc⟩
theorem rd_row {w : World} {a : Option Addr} {n c : Nat} {xs : List Int} (h : Rd w (.slice a n c) xs) : Row w a xs := by
  obtain ⟨a', c', e, _, _, hr⟩ := h
  injection e with e1 e2 e3
  subst e1
  exact hr
theorem psum_take (xs : List Int) : ∀ j, j ≤ xs.length → psum xs j = (xs.take j).sum
  | 0, _ => by simp [psum]
  | j + 1, h => by rw [psum, psum_take xs j (by omega), List.take_succ_eq_append_getElem (by omega), List.sum_append, getD_get xs j (by omega)]; simp
theorem psum_rng (xs : List Int) (h : ∀ j, 0 ≤ xs.getD j 0 ∧ xs.getD j 0 ≤ 13) : ∀ j, 0 ≤ psum xs j ∧ psum xs j ≤ 13 * j
  | 0 => ⟨Int.le_refl _, Int.le_refl _⟩
  | j + 1 => by
    obtain ⟨h1, h2⟩ := psum_rng xs h j
    have h3 := h j
    rw [psum]
    omega
set_option maxHeartbeats 8000000 in
set_option maxRecDepth 100000 in
theorem walk (a0 : Option Addr) (len0 cap0 : Nat) (z0 : List Int) (a1 : Option Addr) (len1 cap1 : Nat) (z1 : List Int) (w : World) (w0 : IsRow .u8 w a0 len0 cap0 z0) (w1 : IsRow .u8 w a1 len1 cap1 z1) :
    Calls Try.prog 3 #[.slice a0 len0 cap0, .slice a1 len1 cap1] w fun e w' => e = .returned (.bool true) ∧ Below w.heap.size w w' := by
  by_cases hl : 48 < len0 ∨ 48 < len1
  · go_enter Try.func3, Try.ntmps3
    go_wp2_with (go_at_call 4; refine (R8.long_yes _ _ _ _ _ _ _ hl).mono ?_; rintro e w' ⟨rfl, rfl⟩)
    go_ret
    exact ⟨rfl, Below.refl _ _⟩
  · have l0 : len0 ≤ 48 := by omega
    have l1 : len1 ≤ 48 := by omega
    clear hl
    have HU := Lib.hid (R8.uses_any a0 len0 cap0 z0 w l0 w0)
    have HAT := Lib.hid (fun (w' : World) (hb : Below w.heap.size w w') => R8.at_any a1 len1 cap1 z1 w' (isRow_below w1 hb) 0 14 (by omega) (by omega) (by omega) (by omega))
    clear w0 w1
    go_enter Try.func3, Try.ntmps3
    go_wp2_with (go_at_call 4; refine (R8.long_no _ _ _ _ _ _ _ l0 l1).mono ?_; rintro e w' ⟨rfl, rfl⟩)
    refine HU.out.mono ?_
    rintro e wu ⟨v, l, rfl, hok, hl13, o1, b1⟩
    obtain ⟨av, cv, hvv⟩ := o1.form
    subst hvv
    have HRU := Lib.hid (fun (w' : World) (hb : Below wu.heap.size wu w') => (o1.below hb (Nat.le_refl _)).rd)
    have HB1 := Lib.hid b1
    have HL : Hid (∀ w', Below wu.heap.size wu w' → Calls Try.prog 6 #[.slice av l.length cv, .int .i64 20] w' (Res (curveP (distP l) 20) true w')) := fun w' hb => lru_yes_i 20 (by omega) (HRU.out w' hb) hok
    have HA := Lib.hid (fun (w' : World) (hb : Below wu.heap.size wu w') => addr_yes_i (HRU.out w' hb) hok)
    have HD := Lib.hid (fun (w' : World) (hb : Below wu.heap.size wu w') => dcnt_yes_i (HRU.out w' hb) hok)
    have HM := Lib.hid (fun (w' : World) (n : Nat) (v : Value) (hb : Below wu.heap.size wu w') (h1 : 1 ≤ n) (h6 : n ≤ 6) (h : RdP w' v (polP n yng n) (rowL n (yng (n - 1)))) => mis_lru n h1 h6 l hok h (HRU.out w' hb))
    have HZ := Lib.hid (fun (w' : World) (m : Int) (hb : Below wu.heap.size wu w') => size_for_i m (HRU.out w' hb) (by omega))
    have HZN := Lib.hid (fun m (h : ¬ (((setP l).length : Nat) : Int) ≤ m) => sz_no l m hl13 h)
    have HZY := Lib.hid (fun m (hm : okS m = true) (h : (((setP l).length : Nat) : Int) ≤ m) => sz_yes l m hok hm hl13 h)
    have HCL := Lib.hid (curve_len (distP l) 20)
    have HCG := Lib.hid (fun n (h : n ≤ 20) => curve_get (distP l) 20 n h)
    have HST := Lib.hid (fun n => miss_step (distP l) n)
    have HDL := Lib.hid (dcnt_len l (by omega))
    have hm0 : missP (distP l) 0 = l.length := by rw [miss_zero, distP_len]
    have hm20 : missP (distP l) 20 = (setP l).length := miss_all l 20 (by omega)
    have hmle := fun n => miss_le (distP l) n
    rw [distP_len] at hmle
    have HSM : Hid ((bumps (distP l) (distP l).length).sum = (l.length : Int) - ((setP l).length : Nat)) := counts_total l 20 (by omega)
    have HBR := Lib.hid (fun q => (show 0 ≤ (bumps (distP l) (distP l).length).getD q 0 ∧ (bumps (distP l) (distP l).length).getD q 0 ≤ 13 from by have := bumps_rng (distP l) (distP l).length q (Nat.le_refl _); rw [distP_len] at this ⊢; omega))
    have HME := Lib.hid hmle
    have H0 := Lib.hid hm0
    have H20 := Lib.hid hm20
    have hsl := setP_length l
    clear hok HU o1 b1 hm0 hm20 hmle
    generalize curveP (distP l) 20 = Cv at *
    generalize bumps (distP l) (distP l).length = D at *
    generalize missP (distP l) = F at *
    generalize hL : l.length = L at *
    clear hL
    go_wp2_with fail
    refine (HL.out wu (Below.refl _ _)).mono ?_
    rintro e w2 ⟨v2, rfl, o2, b2⟩
    obtain ⟨ca, cc, hv2⟩ := o2.form
    rw [HCL.out] at hv2
    subst hv2
    go_wp2_with fail
    refine (HA.out w2 b2).mono ?_
    rintro e w3 ⟨v3, rfl, o3, b3⟩
    obtain ⟨sa, sc, hv3⟩ := o3.form
    subst hv3
    have b13 := bt b2 b3
    go_wp2_with fail
    refine (HD.out w3 b13).mono ?_
    rintro e w4 ⟨v4, rfl, o4, b4⟩
    obtain ⟨da, dc, hv4⟩ := o4.form
    subst hv4
    have b14 := bt b13 b4
    have HRC := Lib.hid (fun (w' : World) (hb : Below w4.heap.size w4 w') => ((o2.below (bt b3 b4) (Nat.le_refl _)).below hb (Nat.le_refl _)).rd)
    have HRD := Lib.hid (fun (w' : World) (hb : Below w4.heap.size w4 w') => (o4.below hb (Nat.le_refl _)).rd)
    have HBU := Lib.hid (fun (w' : World) (hb : Below w4.heap.size w4 w') => bt b14 hb)
    have h8 := sum8 da dc D w4 (by have := HDL.out; omega) (fun j hj => by have := psum_rng D HBR.out j; have := HDL.out; omega) (rd_row (HRD.out w4 (Below.refl _ _)))
    rw [psum_take D _ (Nat.le_refl _), List.take_length, HSM.out] at h8
    have H8 := Lib.hid h8
    have HDLi := HDL.out
    clear h8 o2 o3 o4 b2 b3 b4 b13 b14 HL HA HD HSM HDL
    obtain ⟨cb, coff, rfl, k0⟩ := rd_at (HRC.out w4 (Below.refl _ _)) 0 (by omega)
    obtain ⟨cb', coff', e, k20⟩ := rd_at (HRC.out w4 (Below.refl _ _)) 20 (by omega)
    injection e with e
    injection e with e2 e3
    subst e2 e3
    rw [HCG.out 0 (by omega), H0.out, Nat.add_zero] at k0
    rw [HCG.out 20 (by omega), H20.out] at k20
    have HK := Lib.hid (fun (w' : World) (hb : Below w4.heap.size w4 w') (p : Nat) (hp : p ≤ 20) => (show w'.cell? ⟨cb, coff + p, none⟩ = some (.int .i64 ((F p : Nat) : Int)) from by
      obtain ⟨b', off', e, h⟩ := rd_at (HRC.out w' hb) p (by omega)
      injection e with e
      injection e with e2 e3
      subst e2 e3
      rw [HCG.out p hp] at h
      exact h))
    generalize (setP l).length = M at *
    go_wp2_with (go_at_call 9; (with_reducible refine H8.out.mono ?_); rintro e wh ⟨rfl, rfl⟩)
    go_loopw [12, 13] (fun i _ wr => ∃ k q : Nat, 1 ≤ k ∧ k ≤ 21 ∧ i = .int .i64 (k : Nat) ∧ wr = w4.drewN q) (fun i _ _ => 21 - (intOf i).toNat)
    case atStart => exact ⟨1, 0, by omega, by omega, by simp, rfl⟩
    case round =>
      obtain ⟨k, q, hk1, hk, rfl, rfl⟩ := hrel
      by_cases hlt : k < 21
      · have hlti : (k : Int) < 21 := by omega
        have kA := HK.out w4 (Below.refl _ _) (k - 1) (by omega)
        have kB := HK.out w4 (Below.refl _ _) k (by omega)
        have hm1 : ((k : Int) - 1).toNat = k - 1 := by omega
        have hm2 : (0 : Int) ≤ (k : Int) - 1 := by omega
        have hm3 : (k : Int) - 1 < 21 := by omega
        have hst := HST.out (k - 1)
        rw [Nat.sub_add_cancel hk1] at hst
        have r1 := HME.out (k - 1)
        have r2 := HME.out k
        by_cases hd : k ≤ D.length
        · obtain ⟨db, doff, rfl, kD⟩ := rd_at (HRD.out w4 (Below.refl _ _)) (k - 1) (by omega)
          have hdi : (k : Int) ≤ D.length := by omega
          have hm4 : (k : Int) - 1 < D.length := by omega
          generalize D.getD (k - 1) 0 = d at *
          generalize F (k - 1) = fa at *
          generalize F k = fb at *
          have e9 : IntKind.i64.wrap ((fa : Int) - (fb : Int)) = d := by rw [show (fa : Int) - (fb : Int) = d by omega]; exact IntWalk.i64_in _ (by omega)
          clear hst
          go_wp2
          go_quiet (fail)
          go_wp2
          go_roundw
          case rel => exact ⟨k + 1, _, by omega, by omega, by go_num, rfl⟩
          case measure => simp [intOf] <;> omega
        · have hdi : ¬ (k : Int) ≤ D.length := by omega
          have hz : D.getD (k - 1) 0 = 0 := by rw [List.getD_eq_getElem?_getD, List.getElem?_eq_none (by omega)]; rfl
          rw [hz] at hst
          clear hz
          generalize F (k - 1) = fa at *
          generalize F k = fb at *
          have e9 : IntKind.i64.wrap ((fa : Int) - (fb : Int)) = 0 := by rw [show (fa : Int) - (fb : Int) = 0 by omega]; exact IntWalk.i64_in _ (by omega)
          clear hst
          go_wp2
          go_quiet (fail)
          go_wp2
          go_roundw
          case rel => exact ⟨k + 1, _, by omega, by omega, by go_num, rfl⟩
          case measure => simp [intOf] <;> omega
      · have hneg : ¬ (k : Int) < 21 := by omega
        have HW := Lib.hid (show Below w4.heap.size w4 (w4.drewN q) from below_drewN q (Below.refl _ _))
        go_wp2
        go_loopw [14, 15, 16, 17, 18] (fun i _ _ _ _ wr => ∃ k : Nat, 1 ≤ k ∧ k ≤ 7 ∧ i = .int .i64 (k : Nat) ∧ Hid (Below w4.heap.size w4 wr)) (fun i _ _ _ _ _ => 7 - (intOf i).toNat)
        case atStart => exact ⟨1, by omega, by omega, by simp, HW⟩
        case round =>
          clear hk1 hk hneg
          obtain ⟨k, hk1, hk, rfl, hb⟩ := hrel
          by_cases hlt : k ≤ 6
          · have hlti : (k : Int) ≤ 6 := by omega
            go_wp2_with fail
            refine (lru_yes k hk1 hlt _).mono ?_
            rintro e w5 ⟨v5, rfl, ov, b5⟩
            obtain ⟨xa, xn, xc, xa', xn', xc', ex⟩ := ov.form
            subst ex
            have BX := Blk.newAt w5 w5.heap.size [.slice xa xn xc, .slice xa' xn' xc'] 32 rfl
            have b6 := (Below.refl w5.heap.size w5).alloc (Nat.le_refl _) (.cells [.slice xa xn xc, .slice xa' xn' xc'].toArray 32)
            have hX := rdP_lru k hlt (ov.below b6 (Nat.le_refl _))
            have z0 := BX.cell 0
            have z1 := BX.cell 1
            have hb6 := btB hb.out (Nat.le_refl _) (bt b5 b6)
            have HM6 := Lib.hid (HM.out _ k _ (HBU.out _ hb6) hk1 hlt hX)
            have HB6 := Lib.hid hb6
            clear ov b5 b6 hX hb hb6 BX
            go_wp2_with fail
            refine HM6.out.mono ?_
            rintro e w7 ⟨rfl, b7⟩
            have hb7 := btB HB6.out (Nat.le_refl _) b7
            have kC := HK.out w7 hb7 k (by omega)
            clear b7 HM6 HB6 z0 z1
            go_wp2
            go_roundw
            case rel => exact ⟨k + 1, by omega, by omega, by go_num, hb7⟩
            case measure => simp [intOf] <;> omega
          · have hneg : ¬ (k : Int) ≤ 6 := by omega
            have hbu := HBU.out _ hb.out
            go_wp2_with fail
            refine (HAT.out _ (bt HB1.out hbu)).mono ?_
            rintro e w8 ⟨r, hr0, hr1, rfl, rfl⟩
            have hoS : okS r = true := by unfold okS; exact decide_eq_true ⟨hr0, by omega⟩
            have hz := HZ.out _ r hbu
            by_cases hM : ((M : Nat) : Int) ≤ r
            · obtain ⟨e1, s, e2, hs20, hs1, hs2⟩ := HZY.out r hoS hM
              rw [e1, e2] at hz
              have HZ2 := Lib.hid hz
              clear hz e1 e2 hoS
              go_wp2_with fail
              refine HZ2.out.mono ?_
              rintro e w9 ⟨rfl, b9⟩
              have hb9 := btB hb.out (Nat.le_refl _) b9
              have HEND := Lib.hid (bt HB1.out (HBU.out _ hb9))
              have kS := HK.out w9 hb9 s hs20
              have hsi : (s : Int) ≤ 20 := by omega
              have hsi2 : (s : Int) < 21 := by omega
              by_cases h0 : s = 0
              · subst h0
                clear hs2
                rw [Nat.add_zero] at kS
                generalize F 0 = f0 at *
                go_wp2
                go_ret
                exact ⟨rfl, HEND.out⟩
              · have hs3 : r < ((F (s - 1) : Nat) : Int) := hs2.resolve_left h0
                have kT := HK.out w9 hb9 (s - 1) (by omega)
                have hm1 : ((s : Int) - 1).toNat = s - 1 := by omega
                have hm2 : (0 : Int) ≤ (s : Int) - 1 := by omega
                have hm3 : (s : Int) - 1 < 21 := by omega
                have hs0 : ((s : Int) == 0) = false := by simp [h0]
                clear hs2
                generalize F (s - 1) = ft at *
                generalize F s = fs at *
                go_wp2
                go_ret
                exact ⟨rfl, HEND.out⟩
            · have e1 := HZN.out r (by omega)
              rw [e1] at hz
              have HZ2 := Lib.hid hz
              clear hz e1 hoS
              generalize Tr.szV l r = z at *
              go_wp2_with fail
              refine HZ2.out.mono ?_
              rintro e w9 ⟨rfl, b9⟩
              have HEND := Lib.hid (bt HB1.out (HBU.out _ (btB hb.out (Nat.le_refl _) b9)))
              go_wp2
              go_ret
              exact ⟨rfl, HEND.out⟩
end Go.Proofs.Ytfjaaoogbjcgaaa.fnLruSizes
