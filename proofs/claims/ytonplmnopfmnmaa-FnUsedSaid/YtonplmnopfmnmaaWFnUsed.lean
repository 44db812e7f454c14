/- The walk of laws.FnUsed: the call returns true and writes nothing that was there. -/
import Derived.Test.YtonplmnopfmnmaaCr8
import Derived.Test.YtonplmnopfmnmaaCr8h
import Derived.Test.YtonplmnopfmnmaaCtellGap
import Derived.Test.YtonplmnopfmnmaaCtellNext
import Derived.Test.YtonplmnopfmnmaaCaddr
import Derived.Test.YtonplmnopfmnmaaConlyI
import Derived.Test.YtonplmnopfmnmaaCcnt
import Derived.Test.YtonplmnopfmnmaaPlainUsed
namespace Go.Proofs.Ytonplmnopfmnmaa.fnUsed
open Go.RowKit Tr
theorem rd_at {w : World} {a : Option Addr} {n c : Nat} {xs : List Int} (h : Rd w (.slice a n c) xs) (i : Nat) (hi : i < n) :
    ∃ b off, a = some ⟨b, off, none⟩ ∧ w.cell? ⟨b, off + i, none⟩ = some (.int .i64 (xs.getD i 0)) := by
  obtain ⟨a', c', e, _, _, hr⟩ := h
  injection e with e1 e2 e3
  subst e1
  obtain ⟨b, off, ha, hc, _⟩ := hr i (by omega)
  exact ⟨b, off, ha, hc⟩
theorem rd_row {w : World} {a : Option Addr} {n c : Nat} {xs : List Int} (h : Rd w (.slice a n c) xs) : Row w a xs := by
  obtain ⟨a', c', e, _, _, hr⟩ := h
  injection e with e1 e2 e3
  subst e1
  exact hr
theorem told_get' (f : Nat → Int) (n i : Nat) (h : i < n) : (told f n).getD i 0 = f i := by
  rw [List.getD_eq_getElem?_getD, List.getElem?_eq_getElem (by rw [told_length]; exact h)]
  simp [told]
theorem psum_take (xs : List Int) : ∀ j, j ≤ xs.length → psum xs j = (xs.take j).sum
  | 0, _ => by simp [psum]
  | j + 1, h => by rw [psum, psum_take xs j (by omega), List.take_succ_eq_append_getElem (by omega), List.sum_append, getD_get xs j (by omega)]; simp
theorem psum_rng (xs : List Int) (h : ∀ y ∈ xs, 0 ≤ y ∧ y ≤ 13) : ∀ j, j ≤ xs.length → 0 ≤ psum xs j ∧ psum xs j ≤ 13 * j
  | 0, _ => ⟨Int.le_refl _, Int.le_refl _⟩
  | j + 1, hj => by
    obtain ⟨h1, h2⟩ := psum_rng xs h j (by omega)
    have h3 := h (xs.getD j 0) (by rw [getD_get xs j (by omega)]; exact List.getElem_mem _)
    rw [psum]
    omega
theorem counts_rng (l : List Int) (h : l.length ≤ 13) : ∀ y ∈ countsP l, 0 ≤ y ∧ y ≤ 13 := fun y hy => by
  unfold countsP at hy
  obtain ⟨a, _, rfl⟩ := List.mem_map.1 hy
  have := List.count_le_length (a := a) (l := l)
  omega
theorem counts_psum (l : List Int) : psum (countsP l) (countsP l).length = (l.length : Nat) := by
  rw [psum_take _ _ (Nat.le_refl _), List.take_length, counts_sum]
theorem rises_one (l : List Int) (k : Nat) (hok : okU l = true) (hk : k < (setP l).length) : risesK [(setP l).getD k 0] [(setP l).getD k 0].length = true := by
  have hm : (setP l).getD k 0 ∈ l := by
    rw [← mem_setP, getD_get _ k hk]
    exact List.getElem_mem hk
  unfold okU at hok
  rw [Bool.and_eq_true, List.all_eq_true] at hok
  have := hok.2 _ hm
  generalize (setP l).getD k 0 = s at *
  simp [risesK, this]
/-- First uses ahead of a use. -/
def fst (l : List Int) (j : Nat) : Nat := sumTo (fun i => if gapAt l i = 0 then 1 else 0) j
theorem fst_succ (l : List Int) (j : Nat) : fst l (j + 1) = fst l j + if gapAt l j = 0 then 1 else 0 := rfl
set_option maxHeartbeats 8000000 in
set_option maxRecDepth 100000 in
theorem walk (a0 : Option Addr) (len0 cap0 : Nat) (z0 : List Int) (a1 : Option Addr) (len1 cap1 : Nat) (z1 : List Int) (w : World) (w0 : IsRow .u8 w a0 len0 cap0 z0) (w1 : IsRow .u8 w a1 len1 cap1 z1) :
    Calls Try.prog 4 #[.slice a0 len0 cap0, .slice a1 len1 cap1] w fun e w' => e = .returned (.bool true) ∧ Below w.heap.size w w' := by
  by_cases hl : 48 < len0 ∨ 48 < len1
  · go_enter Try.func4, Try.ntmps4
    go_wp2_with (go_at_call 13; refine (R8.long_yes _ _ _ _ _ _ _ hl).mono ?_; rintro e w' ⟨rfl, rfl⟩)
    go_ret
    exact ⟨rfl, Below.refl _ _⟩
  · have l0 : len0 ≤ 48 := by omega
    have l1 : len1 ≤ 48 := by omega
    clear hl
    have HU := Lib.hid (R8.uses_any a0 len0 cap0 z0 w l0 w0)
    clear w0 w1
    go_enter Try.func4, Try.ntmps4
    go_wp2_with (go_at_call 13; refine (R8.long_no _ _ _ _ _ _ _ l0 l1).mono ?_; rintro e w' ⟨rfl, rfl⟩)
    refine HU.out.mono ?_
    rintro e w1 ⟨v, l, rfl, hok, hl13, o1, b1⟩
    obtain ⟨av, cv, hvv⟩ := o1.form
    have HRU := Lib.hid (fun (w' : World) (hb : Below w1.heap.size w1 w') => (o1.below hb (Nat.le_refl _)).rd)
    have HA := Lib.hid (addr_yes_i o1.rd hok)
    have HC := Lib.hid (fun (w' : World) (hb : Below w1.heap.size w1 w') => counts_yes_i (HRU.out w' hb) hok)
    have HG := Lib.hid (fun (w' : World) (hb : Below w1.heap.size w1 w') => gap_yes_i (HRU.out w' hb) hok)
    have HN := Lib.hid (fun (w' : World) (hb : Below w1.heap.size w1 w') => next_yes_i (HRU.out w' hb) hok)
    have HO := Lib.hid (fun (w' : World) (hb : Below w1.heap.size w1 w') (k : Nat) (hk : k < (setP l).length) (v2 : Value) (h2 : Rd w' v2 [(setP l).getD k 0]) => only_yes_i (HRU.out w' hb) h2 (by simp) hok (rises_one l k hok hk))
    have HOL := Lib.hid (only_one l)
    have HCNT := Lib.hid (fun s : Int => (show l.count s ≤ 60 from Nat.le_trans List.count_le_length (by omega)))
    have HCG := Lib.hid (fun k hk => counts_get l k hk)
    have HCL := Lib.hid (counts_length l)
    have HCR := Lib.hid (counts_rng l hl13)
    have HCP := Lib.hid (counts_psum l)
    have HNG := Lib.hid (fun i hi h => next_gap l i hi h)
    have HFS : Hid (fst l l.length = (setP l).length) := first_sum l
    have hsl := setP_length l
    clear HU o1 hok l0 l1
    subst hvv
    generalize hN : l.length = N at *
    clear hN
    have HB1 := Lib.hid b1
    clear b1
    go_wp2_with fail
    refine HA.out.mono ?_
    rintro e w2 ⟨v2, rfl, o2, b2⟩
    obtain ⟨a2, c2, hv2⟩ := o2.form
    subst hv2
    have HC2 := Lib.hid (HC.out w2 b2)
    go_wp2_with fail
    refine HC2.out.mono ?_
    rintro e w3 ⟨v3, rfl, o3, b3⟩
    obtain ⟨a3, c3, hv3⟩ := o3.form
    rw [HCL.out] at hv3
    subst hv3
    have b13 := b2.trans (b3.mono b2.size)
    have HG3 := Lib.hid (HG.out w3 b13)
    go_wp2_with fail
    refine HG3.out.mono ?_
    rintro e w4 ⟨v4, rfl, o4, b4⟩
    obtain ⟨a4, c4, hv4⟩ := o4.form
    rw [told_length] at hv4
    subst hv4
    have b14 := b13.trans (b4.mono b13.size)
    have HN4 := Lib.hid (HN.out w4 b14)
    go_wp2_with fail
    refine HN4.out.mono ?_
    rintro e w5 ⟨v5, rfl, o5, b5⟩
    obtain ⟨a5, c5, hv5⟩ := o5.form
    rw [told_length] at hv5
    subst hv5
    have b15 := b14.trans (b5.mono b14.size)
    have o2' := ((o2.below b3 (Nat.le_refl _)).below b4 (Nat.le_refl _)).below b5 (Nat.le_refl _)
    have o3' := (o3.below b4 (Nat.le_refl _)).below b5 (Nat.le_refl _)
    have o4' := o4.below b5 (Nat.le_refl _)
    have HR2 := Lib.hid (fun (w' : World) (hb : Below w5.heap.size w5 w') => (o2'.below hb (Nat.le_refl _)).rd)
    have HR3 := Lib.hid (fun (w' : World) (hb : Below w5.heap.size w5 w') => (o3'.below hb (Nat.le_refl _)).rd)
    have HR4 := Lib.hid o4'.rd
    have HR5 := Lib.hid o5.rd
    have HR1 := Lib.hid (HRU.out w5 b15)
    have HB15 := Lib.hid (fun (w' : World) (hb : Below w5.heap.size w5 w') => b15.trans (hb.mono b15.size))
    have HB := Lib.hid (fun (w' : World) (hb : Below w1.heap.size w1 w') => HB1.out.trans (hb.mono HB1.out.size))
    have h8 := sum8 a3 c3 (countsP l) w5 (by rw [HCL.out]; omega) (fun j hj => by have := psum_rng (countsP l) HCR.out j hj; rw [HCL.out] at hj; omega) (rd_row (HR3.out w5 (Below.refl _ _)))
    rw [HCP.out, HCL.out] at h8
    have H8 := Lib.hid h8
    clear h8 o2 o3 o4 o5 o2' o3' o4' b2 b3 b4 b5 b13 b14 b15 HA HC HC2 HG HG3 HN HN4 HB1 HCP HCL HCR
    generalize hM : (setP l).length = M at *
    clear hM
    go_wp2_with (go_at_call 18; refine H8.out.mono ?_; rintro e w' ⟨rfl, rfl⟩)
    go_loopw [14, 15] (fun f i wr => ∃ j t q : Nat, j ≤ N ∧ i = .int .i64 j ∧ f = .int .i64 (t : Nat) ∧ t ≤ j ∧ Hid (t = fst l j) ∧ wr = w5.drewN q) (fun _ i _ => N - (intOf i).toNat)
    case atStart => exact ⟨0, 0, 0, Nat.zero_le _, rfl, rfl, Nat.le_refl _, Lib.hid rfl, rfl⟩
    case round =>
      obtain ⟨j, t, q, hj, rfl, rfl, htj, ht, rfl⟩ := hrel
      by_cases hlt : j < N
      · obtain ⟨bg, offg, rfl, hcg⟩ := rd_at HR4.out j hlt
        obtain ⟨bn, offn, rfl, hcn⟩ := rd_at HR5.out j hlt
        rw [told_get' _ _ _ hlt] at hcg hcn
        have hfs := fst_succ l j
        rw [← ht.out] at hfs
        have HFSJ := Lib.hid hfs
        have hng := HNG.out j hlt
        have hgr : Hid (∀ p, p < N → ∃ b off, some (⟨bg, offg, none⟩ : Addr) = some ⟨b, off, none⟩ ∧ w5.cell? ⟨b, off + p, none⟩ = some (.int .i64 (gapAt l p))) := fun p hp => by
          have h := rd_at HR4.out p hp
          rwa [told_get' _ _ _ hp] at h
        clear hfs ht
        by_cases hneg : nextAt l j < 0
        · generalize nextAt l j = u at *
          clear hng hgr
          by_cases hg : gapAt l j = 0
          · have hf2 : Hid (fst l (j + 1) = t + 1) := by show _ = _; rw [HFSJ.out, if_pos hg]
            clear HFSJ
            rw [hg] at hcg
            go_wp2
            go_roundw
            case rel => exact ⟨j + 1, t + 1, q, by omega, by go_num, by go_num, by omega, Lib.hid hf2.out.symm, rfl⟩
            case measure => simp [intOf]; omega
          · have hf2 : Hid (fst l (j + 1) = t) := by show _ = _; rw [HFSJ.out, if_neg hg]; rfl
            clear HFSJ
            generalize gapAt l j = g at *
            have hg2 : (g == 0) = false := by simp [hg]
            go_wp2
            go_roundw
            case rel => exact ⟨j + 1, t, q, by omega, by go_num, rfl, by omega, Lib.hid hf2.out.symm, rfl⟩
            case measure => simp [intOf]; omega
        · obtain ⟨p, e1, h1, h2, h3, h4⟩ := hng (by omega)
          rw [e1] at hcn hneg
          obtain ⟨b', off', e, hcgp⟩ := hgr.out p h2
          injection e with e
          injection e with e2 e3
          subst e2 e3
          rw [h4] at hcgp
          obtain ⟨bu, offu, rfl, hcu⟩ := rd_at HR1.out j hlt
          obtain ⟨b', off', e, hcup⟩ := rd_at HR1.out p h2
          injection e with e
          injection e with e2 e3
          subst e2 e3
          rw [h3] at hcup
          clear hgr e1 h3 h4
          generalize l.getD j 0 = u at *
          have p1 : ¬ (p : Int) < 0 := by omega
          have p2 : ¬ (p : Int) ≤ (j : Int) := by omega
          have p3 : ¬ (N : Int) ≤ (p : Int) := by omega
          have p4 : (p : Int) < (N : Int) := by omega
          have e9 : IntKind.i64.wrap ((p : Int) - (j : Int)) = (p : Int) - (j : Int) := IntWalk.i64_in _ (by omega)
          have e8 : ((p : Int) - (j : Int) != IntKind.i64.wrap ((p : Int) - (j : Int))) = false := by rw [e9]; exact bne_self_eq_false _
          by_cases hg : gapAt l j = 0
          · have hf2 : Hid (fst l (j + 1) = t + 1) := by show _ = _; rw [HFSJ.out, if_pos hg]
            clear HFSJ
            rw [hg] at hcg
            go_wp2
            go_quiet (fail)
            go_wp2
            go_roundw
            case rel => exact ⟨j + 1, t + 1, _, by omega, by go_num, by go_num, by omega, Lib.hid hf2.out.symm, by first | rfl | rw [World.drewN_drewN]⟩
            case measure => simp [intOf]; omega
          · have hf2 : Hid (fst l (j + 1) = t) := by show _ = _; rw [HFSJ.out, if_neg hg]; rfl
            clear HFSJ
            generalize gapAt l j = g at *
            have hg2 : (g == 0) = false := by simp [hg]
            go_wp2
            go_quiet (fail)
            go_wp2
            go_roundw
            case rel => exact ⟨j + 1, t, _, by omega, by go_num, rfl, by omega, Lib.hid hf2.out.symm, by first | rfl | rw [World.drewN_drewN]⟩
            case measure => simp [intOf]; omega
      · have e : j = N := by omega
        subst e
        have etM : t = M := ht.out.trans HFS.out
        subst etM
        have hbq : Below w5.heap.size w5 (w5.drewN q) := below_drewN _ (Below.refl _ _)
        have HBQ := Lib.hid (fun (w' : World) (hb : Below (w5.drewN q).heap.size (w5.drewN q) w') => (hbq.trans (show Below w5.heap.size _ _ from hb)))
        clear ht HFS hbq HR4 HR5 HR1 HNG H8
        generalize w5.drewN q = w6 at *
        go_wp2
        go_loopw [16, 17, 18] (fun k _ _ wr => ∃ i : Nat, i ≤ t ∧ k = .int .i64 i ∧ Hid (Below w6.heap.size w6 wr)) (fun k _ _ _ => t - (intOf k).toNat)
        case atStart => exact ⟨0, Nat.zero_le _, rfl, Lib.hid (Below.refl _ _)⟩
        case round =>
          obtain ⟨i, hi, rfl, hbr⟩ := hrel
          by_cases hlt : i < t
          · obtain ⟨bs, offs, rfl, hcs⟩ := rd_at (HR2.out wr (HBQ.out wr hbr.out)) i hlt
            have HL := Lib.hid (Own.lit wr ((setP l).getD i 0))
            have hbl : Below wr.heap.size wr (wr.alloc (.cells #[.int .i64 ((setP l).getD i 0)] 2)) := (Below.refl _ _).alloc (Nat.le_refl _) _
            have hb7 := hbr.out.trans (hbl.mono hbr.out.size)
            have HO7 := Lib.hid (HO.out _ (HB15.out _ (HBQ.out _ hb7)) i hlt _ HL.out.rd)
            have HOL7 := Lib.hid (HOL.out ((setP l).getD i 0))
            have HC7 := Lib.hid (fun (w' : World) (hb : Below w6.heap.size w6 w') => (show ∃ b off, a3 = some ⟨b, off, none⟩ ∧ w'.cell? ⟨b, off + i, none⟩ = some (.int .i64 ((l.count ((setP l).getD i 0) : Nat) : Int)) by
              have h := rd_at (HR3.out w' (HBQ.out w' hb)) i hlt
              rwa [HCG.out i hlt] at h))
            have HB7 := Lib.hid hb7
            have hcnt := HCNT.out ((setP l).getD i 0)
            clear hbl hb7 HL hbr
            generalize (setP l).getD i 0 = s at *
            go_wp2_with fail
            refine HO7.out.mono ?_
            rintro e w8 ⟨v8, rfl, o8, b8⟩
            obtain ⟨a8, c8, hv8⟩ := o8.form
            rw [HOL7.out] at hv8
            subst hv8
            have hb8 := HB7.out.trans (b8.mono HB7.out.size)
            obtain ⟨b', off', rfl, hcc⟩ := HC7.out w8 hb8
            have HB8 := Lib.hid hb8
            clear o8 b8 hb8 HC7 HO7 HOL7
            generalize l.count s = n at *
            go_wp2
            go_roundw
            case rel => exact ⟨i + 1, by omega, by go_num, HB8⟩
            case measure => simp [intOf]; omega
          · have e : i = t := by omega
            subst e
            go_wp2
            go_ret
            exact ⟨rfl, HB.out wr (HB15.out wr (HBQ.out wr hbr.out))⟩
end Go.Proofs.Ytonplmnopfmnmaa.fnUsed
