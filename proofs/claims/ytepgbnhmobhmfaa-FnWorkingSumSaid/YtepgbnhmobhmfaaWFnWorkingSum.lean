/- The walk of laws.FnWorkingSum: the call returns true and writes nothing that was there. -/
import Derived.Test.YtepgbnhmobhmfaaCr8
import Derived.Test.YtepgbnhmobhmfaaCr8h
import Derived.Test.YtepgbnhmobhmfaaCtellNext
import Derived.Test.YtepgbnhmobhmfaaCtellSizes
import Derived.Test.YtepgbnhmobhmfaaCwset
import Derived.Test.YtepgbnhmobhmfaaPlainCanon
namespace Go.Proofs.Ytepgbnhmobhmfaa.fnWorkingSum
open Go.RowKit Tr
theorem rd_at {w : World} {a : Option Addr} {n c : Nat} {xs : List Int} (h : Rd w (.slice a n c) xs) (i : Nat) (hi : i < n) :
    ∃ b off, a = some ⟨b, off, none⟩ ∧ w.cell? ⟨b, off + i, none⟩ = some (.int .i64 (xs.getD i 0)) := by
  obtain ⟨a', c', e, _, _, hr⟩ := h
  injection e with e1 e2 e3
  subst e1
  obtain ⟨b, off, ha, hc, _⟩ := hr i (by omega)
  exact ⟨b, off, ha, hc⟩
theorem rd_row {w : World} {a : Option Addr} {n c : Nat} {xs : List Int} (h : Rd w (.slice a n c) xs) : Row w a xs := by
  obtain ⟨a', c', e, _, _, hr⟩ := h
  injection e with e1 e2 e3
  subst e1
  exact hr
theorem sumTo_le (f : Nat → Nat) (c : Nat) : ∀ n, (∀ i, i < n → f i ≤ c) → sumTo f n ≤ c * n
  | 0, _ => Nat.le_refl _
  | n + 1, h => by
    have h1 := sumTo_le f c n fun i hi => h i (by omega)
    have h2 := h n (by omega)
    rw [sumTo, Nat.mul_succ]
    omega
theorem psum_sizes (l : List Int) (q N : Nat) : ∀ j, j ≤ N → psum (told (sizeAt l q) N) j = ((sumTo (fun i => (wsP l q i).length) j : Nat) : Int)
  | 0, _ => rfl
  | j + 1, h => by
    rw [psum, psum_sizes l q N j (by omega), told_get _ _ _ (by omega), sumTo]
    show _ + (((wsP l q j).length : Nat) : Int) = _
    omega
/-- What is added at a use. -/
def add (l : List Int) (q j : Nat) : Nat := min (endN l j - j) q
theorem has_own (l : List Int) (q j : Nat) (hj : j < l.length) (hq : 1 ≤ q) : (wsL l q j).contains (l.getD j 0) = true := by
  rw [List.contains_eq_mem]
  refine decide_eq_true ?_
  unfold wsL
  rw [mem_setP, List.take_succ_eq_append_getElem hj, List.drop_append_of_le_length (by simp; omega), getD_get l j hj]
  simp
theorem end_neg (l : List Int) (j : Nat) (h : nextAt l j < 0) : endN l j = l.length := by unfold endN; rw [if_pos h]
theorem end_pos (l : List Int) (j : Nat) (h : ¬ nextAt l j < 0) : endN l j = (nextAt l j).toNat := by unfold endN; rw [if_neg h]
set_option maxHeartbeats 4000000 in
theorem walk (a0 : Option Addr) (len0 cap0 : Nat) (z0 : List Int) (a1 : Option Addr) (len1 cap1 : Nat) (z1 : List Int) (w : World) (w0 : IsRow .u8 w a0 len0 cap0 z0) (w1 : IsRow .u8 w a1 len1 cap1 z1) :
    Calls Try.prog 3 #[.slice a0 len0 cap0, .slice a1 len1 cap1] w fun e w' => e = .returned (.bool true) ∧ Below w.heap.size w w' := by
  by_cases hl : 48 < len0 ∨ 48 < len1
  · go_enter Try.func3, Try.ntmps3
    go_wp2_with (go_at_call 6; refine (R8.long_yes _ _ _ _ _ _ _ hl).mono ?_; rintro e w' ⟨rfl, rfl⟩)
    go_ret
    exact ⟨rfl, Below.refl _ _⟩
  · have l0 : len0 ≤ 48 := by omega
    have l1 : len1 ≤ 48 := by omega
    clear hl
    have HU := Lib.hid (R8.uses_any a0 len0 cap0 z0 w l0 w0)
    have HA := Lib.hid (fun (w' : World) (hb : Below w.heap.size w w') => R8.at_any a1 len1 cap1 z1 w' (isRow_below w1 hb) 0 12 (by omega) (by omega) (by omega) (by omega))
    clear w0 w1
    go_enter Try.func3, Try.ntmps3
    go_wp2_with (go_at_call 6; refine (R8.long_no _ _ _ _ _ _ _ l0 l1).mono ?_; rintro e w' ⟨rfl, rfl⟩)
    refine HU.out.mono ?_
    rintro e w1 ⟨v, l, rfl, hok, hl13, o1, b1⟩
    have HA1 := Lib.hid (HA.out w1 b1)
    go_wp2_with fail
    refine HA1.out.mono ?_
    rintro e w1' ⟨r0, r0a, r0b, rfl, rfl⟩
    obtain ⟨x0, rfl⟩ := Int.eq_ofNat_of_zero_le r0a
    obtain ⟨av, cv, hvv⟩ := o1.form
    have HN1 := Lib.hid (fun (w' : World) (hb : Below w1.heap.size w1 w') => next_yes_i (o1.below hb (Nat.le_refl _)).rd hok)
    have HS1 := Lib.hid (fun (q : Nat) (h1 : 1 ≤ q) (h2 : q ≤ 60) => sizes_yes_i q o1.rd hok h1 h2)
    have HWS := Lib.hid (fun (w' : World) (hb : Below w1.heap.size w1 w') (q j : Nat) (h1 : 1 ≤ q) (h2 : q ≤ 60) (hj : j < l.length) => ws_yes_i j q (o1.below hb (Nat.le_refl _)).rd hok hj h1 h2)
    have HRU := Lib.hid (fun (w' : World) (hb : Below w1.heap.size w1 w') => (o1.below hb (Nat.le_refl _)).rd)
    have HEN := Lib.hid (fun (j : Nat) (hj : j < l.length) => endN_le l j hj)
    have HE1 := Lib.hid (end_neg l)
    have HE2 := Lib.hid (end_pos l)
    have HSUM := Lib.hid (working_sum l)
    have HOWN := Lib.hid (fun (q j : Nat) (hj : j < l.length) (hq : 1 ≤ q) => has_own l q j hj hq)
    clear HU HA HA1 o1 hok l0 l1 r0a
    subst hvv
    generalize hN : l.length = N at *
    clear hN
    have HB1 := Lib.hid b1
    clear b1
    go_wp2_with fail
    obtain ⟨q, hq⟩ : ∃ q : Nat, (1 : Int) + (x0 : Int) = (q : Int) := ⟨1 + x0, by simp⟩
    rw [hq]
    have q1 : 1 ≤ q := by omega
    have q2 : q ≤ 12 := by omega
    clear hq r0b
    refine (HS1.out q q1 (by omega)).mono ?_
    rintro e w2 ⟨v2, rfl, o2, b2⟩
    obtain ⟨a2, c2, hv2⟩ := o2.form
    rw [told_length] at hv2
    subst hv2
    have HN2 := Lib.hid (HN1.out w2 b2)
    go_wp2_with fail
    refine HN2.out.mono ?_
    rintro e w3 ⟨v3, rfl, o3, b3⟩
    obtain ⟨a3, c3, hv3⟩ := o3.form
    rw [told_length] at hv3
    subst hv3
    have o2' := o2.below b3 (Nat.le_refl _)
    have HR2 := Lib.hid (fun (w' : World) (hb : Below w3.heap.size w3 w') => (o2'.below hb (Nat.le_refl _)).rd)
    have HR3 := Lib.hid (fun (w' : World) (hb : Below w3.heap.size w3 w') => (o3.below hb (Nat.le_refl _)).rd)
    have b13 := b2.trans (b3.mono b2.size)
    have HB13 := Lib.hid (fun (w' : World) (hb : Below w3.heap.size w3 w') => b13.trans (hb.mono b13.size))
    have HB := Lib.hid (fun (w' : World) (hb : Below w1.heap.size w1 w') => HB1.out.trans (hb.mono HB1.out.size))
    clear HS1 HN1 HN2 HB1 o2 o2' o3 b2 b3 b13
    go_wp2
    go_loopw [11, 12, 13, 14, 15] (fun s i _ _ _ wr => ∃ j t : Nat, j ≤ N ∧ i = .int .i64 j ∧ s = .int .i64 (t : Nat) ∧ Hid (t = sumTo (add l q) j) ∧ Hid (Below w3.heap.size w3 wr)) (fun _ i _ _ _ _ => N - (intOf i).toNat)
    case atStart => exact ⟨0, 0, Nat.zero_le _, rfl, rfl, Lib.hid rfl, Lib.hid (Below.refl _ _)⟩
    case round =>
      obtain ⟨j, t, hj, rfl, rfl, ht, hbr⟩ := hrel
      have htle : t ≤ 12 * N := by
        rw [ht.out]
        have h := sumTo_le (add l q) 12 j (fun i _ => by unfold add; omega)
        omega
      by_cases hlt : j < N
      · have hb3 := hbr.out
        have hb1 := HB13.out wr hb3
        obtain ⟨b, off, rfl, hcn⟩ := rd_at (HR3.out wr hb3) j hlt
        rw [told_get _ _ _ hlt] at hcn
        obtain ⟨e1, e2⟩ := HEN.out j hlt
        have HW := Lib.hid (HWS.out wr hb1 q j q1 (by omega) hlt)
        have HOW := Lib.hid (HOWN.out q j hlt q1)
        have hs : sumTo (add l q) (j + 1) = t + min (endN l j - j) q := by rw [sumTo, ht.out]; rfl
        have HS := Lib.hid hs
        have hE1 := HE1.out j
        have hE2 := HE2.out j
        clear hs ht hb3 hb1
        generalize endN l j = E at *
        generalize nextAt l j = u at *
        have hcell : ∀ w', Below w3.heap.size w3 w' → (∃ b off, a2 = some ⟨b, off, none⟩ ∧ w'.cell? ⟨b, off + j, none⟩ = some (.int .i64 (((wsL l q j).length : Nat) : Int))) ∧ ∃ b off, av = some ⟨b, off, none⟩ ∧ w'.cell? ⟨b, off + j, none⟩ = some (.int .i64 (l.getD j 0)) := fun w' hb => by
          obtain ⟨b, off, h1, h2⟩ := rd_at (HR2.out w' hb) j hlt
          rw [told_get _ _ _ hlt] at h2
          exact ⟨⟨b, off, h1, h2⟩, rd_at (HRU.out w' (HB13.out w' hb)) j hlt⟩
        have HCELL := Lib.hid hcell
        clear hcell
        have hL : (wsL l q j).length ≤ 60 := by have := wsL_length l q j; omega
        have hd : min (E - j) q ≤ 12 := by omega
        have HH := Lib.hid (fun (a4 : Option Addr) (c4 : Nat) (w4 : World) (hr : Row w4 a4 (wsL l q j)) => has8_s a4 c4 (wsL l q j) (l.getD j 0) w4 (by omega) hr)
        rw [HOW.out] at HH
        by_cases hneg : u < 0
        · have eE := hE1 hneg
          have HL := Lib.hid (least8 ((N : Int) - (j : Int)) q ((min (E - j) q : Nat) : Int) wr (by omega))
          clear hE1 hE2 eE
          generalize min (E - j) q = d at *
          generalize hLL : (wsL l q j).length = L at *
          go_wp2_with (go_at_call 11; refine HL.out.mono ?_; rintro e w' ⟨rfl, rfl⟩)
          refine HW.out.mono ?_
          rintro e w4 ⟨v4, rfl, o4, b4⟩
          obtain ⟨a4, c4, hv4⟩ := o4.form
          rw [hLL] at hv4
          subst hv4
          have HH4 := Lib.hid (HH.out a4 c4 w4 (rd_row o4.rd))
          have hb4 := hbr.out.trans (b4.mono hbr.out.size)
          have HB4 := Lib.hid hb4
          obtain ⟨⟨b2, off2, rfl, hc2⟩, ⟨b1, off1, rfl, hc1⟩⟩ := HCELL.out w4 hb4
          clear o4 b4 hb4 HH HCELL
          generalize l.getD j 0 = x at *
          go_wp2_with (go_at_call 13; refine HH4.out.mono ?_; rintro e w' ⟨rfl, rfl⟩)
          go_roundw
          case rel => exact ⟨j + 1, t + d, by omega, by go_num, by go_num, Lib.hid HS.out.symm, HB4⟩
          case measure => simp [intOf]; omega
        · have eE := hE2 (by omega)
          have HL := Lib.hid (least8 (u - (j : Int)) q ((min (E - j) q : Nat) : Int) wr (by omega))
          have hu2 : u ≤ N := by omega
          clear hE1 hE2 eE
          generalize min (E - j) q = d at *
          generalize hLL : (wsL l q j).length = L at *
          go_wp2_with (go_at_call 11; refine HL.out.mono ?_; rintro e w' ⟨rfl, rfl⟩)
          refine HW.out.mono ?_
          rintro e w4 ⟨v4, rfl, o4, b4⟩
          obtain ⟨a4, c4, hv4⟩ := o4.form
          rw [hLL] at hv4
          subst hv4
          have HH4 := Lib.hid (HH.out a4 c4 w4 (rd_row o4.rd))
          have hb4 := hbr.out.trans (b4.mono hbr.out.size)
          have HB4 := Lib.hid hb4
          obtain ⟨⟨b2, off2, rfl, hc2⟩, ⟨b1, off1, rfl, hc1⟩⟩ := HCELL.out w4 hb4
          clear o4 b4 hb4 HH HCELL
          generalize l.getD j 0 = x at *
          go_wp2_with (go_at_call 13; refine HH4.out.mono ?_; rintro e w' ⟨rfl, rfl⟩)
          go_roundw
          case rel => exact ⟨j + 1, t + d, by omega, by go_num, by go_num, Lib.hid HS.out.symm, HB4⟩
          case measure => simp [intOf]; omega
      · have e : j = N := by omega
        subst e
        have h8 := sum8 a2 c2 (told (sizeAt l q) j) wr (by rw [told_length]; omega) (fun i hi => by
          rw [told_length] at hi
          rw [psum_sizes l q j i hi]
          have h := sumTo_le (fun i => (wsP l q i).length) 13 i (fun k hk => Nat.le_trans (wsL_length l q k) (by omega))
          omega) (rd_row (HR2.out wr hbr.out))
        have e2 : sumTo (fun i => (wsP l q i).length) j = t := (HSUM.out q q1).trans ht.out.symm
        rw [told_length, psum_sizes l q j j (Nat.le_refl _), e2] at h8
        have H8 := Lib.hid h8
        clear h8 e2 ht
        have HBE := Lib.hid (HB.out wr (HB13.out wr hbr.out))
        go_wp2_with (go_at_call 14; refine H8.out.mono ?_; rintro e w' ⟨rfl, rfl⟩)
        go_ret
        exact ⟨rfl, HBE.out⟩
end Go.Proofs.Ytepgbnhmobhmfaa.fnWorkingSum
