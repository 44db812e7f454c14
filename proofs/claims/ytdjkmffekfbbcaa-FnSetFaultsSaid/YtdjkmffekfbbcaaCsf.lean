/- The contracts of both SetFaults. -/
import Derived.Test.YtdjkmffekfbbcaaCtellSizes
import Derived.Test.YtdjkmffekfbbcaaConlyS
import Derived.Test.YtdjkmffekfbbcaaCgaps
import Derived.Test.YtdjkmffekfbbcaaPlainSf
namespace Go.Proofs.Ytdjkmffekfbbcaa.Tr
open Go.RowKit
def Iib (n m : Int) (ok : Bool) (w : World) (e : Ending) (w' : World) : Prop := e = .returned (.tuple #[.int .i64 n, .int .i64 m, .bool ok]) ∧ Below w.heap.size w w'
theorem told_get' (f : Nat → Int) (n j : Nat) (h : j < n) : (told f n).getD j 0 = f j := by simp [told, List.getD_eq_getElem?_getD, h]
theorem flt_zero (xs : List Int) (q j : Nat) (h : gapAt xs j = 0) : fltB xs q j = true := by unfold fltB; rw [decide_eq_true h]; rfl
theorem flt_big (xs : List Int) (q j : Nat) (h : (q : Int) < gapAt xs j) : fltB xs q j = true := by unfold fltB; rw [decide_eq_true h, Bool.or_true]
theorem flt_no (xs : List Int) (q j : Nat) (h : ¬ gapAt xs j = 0) (h2 : gapAt xs j ≤ (q : Int)) : fltB xs q j = false := by unfold fltB; rw [decide_eq_false h, decide_eq_false (by omega)]; rfl
theorem size_kw (xs : List Int) (q j : Nat) : sizeAt xs q j = ((kwK xs q (j + 1)).length : Nat) := rfl
theorem gap_rng (xs : List Int) (j : Nat) : 0 ≤ gapAt xs j ∧ gapAt xs j ≤ j := by
  have h := lastAt_rng xs (xs.getD j 0) j
  unfold gapAt
  simp only []
  split <;> omega
theorem row_of {w : World} {a : Option Addr} {n c : Nat} {xs : List Int} (h : Rd w (.slice a n c) xs) : Row w a xs := by
  obtain ⟨a', c', e, _, _, hr⟩ := h
  injection e with e1 e2 e3
  subst e1
  exact hr
set_option maxHeartbeats 2000000 in
theorem sf_yes_i {v : Value} {xs : List Int} {w : World} (q : Nat) (h : Rd w v xs) (hok : okU xs = true) (hq1 : 1 ≤ q) (hq : q ≤ 60) :
    Calls Try.prog 18 #[v, .int .i64 (q : Int)] w (Iib (fltN xs q xs.length : Nat) (keptN xs q xs.length : Nat) true w) := by
  have hn := okU_len hok
  have HS := Lib.hid (sizes_yes_i q h hok hq1 hq)
  obtain ⟨a, c, rfl, hcc, hcm, hr⟩ := h
  have HG := Lib.hid (fun (j : Nat) (wr : World) (hj : j < xs.length) (hb : Below w.heap.size w wr) => gap_i a c xs j wr (by omega) hj (hr.below hb))
  have HTG := Lib.hid (fun j (hj : j < xs.length) => (told_get' (sizeAt xs q) xs.length j hj).trans (size_kw xs q j))
  have HF := Lib.hid (fltN_succ xs q)
  have HK := Lib.hid (keptN_succ xs q)
  have HFL := Lib.hid (fltN_le xs q)
  have HKL := Lib.hid (keptN_le xs q)
  have HL := Lib.hid (kw_length xs q)
  have H1 := Lib.hid (flt_zero xs q)
  have H2 := Lib.hid (flt_big xs q)
  have H3 := Lib.hid (flt_no xs q)
  have HR := Lib.hid (gap_rng xs)
  have HF0 := Lib.hid (show fltN xs q 0 = 0 from rfl)
  have HK0 := Lib.hid (show keptN xs q 0 = 0 from rfl)
  clear hr hok hcm
  generalize hN : xs.length = N at *
  clear hN
  go_enter Try.func18, Try.ntmps18
  go_wp2_with fail
  refine HS.out.mono ?_
  rintro e w1 ⟨v1, rfl, o1, b1⟩
  obtain ⟨a1, c1, hv1⟩ := o1.form
  rw [told_length] at hv1
  subst hv1
  have HO := Lib.hid o1
  have HB1 := Lib.hid b1
  clear o1 b1 HS
  go_wp2
  go_loopw [9, 10, 11, 12, 13, 24] (fun f s _ _ _ i wr => ∃ j tf ts : Nat, j ≤ N ∧ i = .int .i64 j ∧ f = .int .i64 (tf : Nat) ∧ s = .int .i64 (ts : Nat) ∧ Hid (tf = fltN xs q j) ∧ Hid (ts = keptN xs q j) ∧ tf ≤ 60 ∧ ts ≤ 3600 ∧ Hid (Below w1.heap.size w1 wr)) (fun _ _ _ _ _ i _ => N - (intOf i).toNat)
  case atStart => exact ⟨0, 0, 0, Nat.zero_le _, rfl, rfl, rfl, Lib.hid HF0.out.symm, Lib.hid HK0.out.symm, by omega, by omega, Lib.hid (Below.refl _ _)⟩
  case round =>
    obtain ⟨j, tf, ts, hj, rfl, rfl, rfl, htf, hts, hf6, hs6, hbr⟩ := hrel
    by_cases hlt : j < N
    · have hrow := row_of (HO.out.below hbr.out (Nat.le_refl _)).rd
      obtain ⟨b, off, rfl, hc, _⟩ := hrow j (by rw [told_length]; exact hlt)
      rw [HTG.out j hlt] at hc
      have hg := Lib.hid (HG.out j wr hlt (HB1.out.trans (hbr.out.mono HB1.out.size)))
      have hL := HL.out (j + 1)
      have hKs := HK.out j
      have hFs := HF.out j
      have hKb := HKL.out (j + 1) (by omega)
      have hFb := HFL.out (j + 1)
      rw [← hts.out] at hKs
      rw [← htf.out] at hFs
      have h1 := H1.out j
      have h2 := H2.out j
      have h3 := H3.out j
      have hgr := HR.out j
      have HKS := Lib.hid hKs
      have HBR := Lib.hid (fun (w' : World) (hb : Below wr.heap.size wr w') => hbr.out.trans (hb.mono hbr.out.size))
      clear hrow HG
      generalize (kwK xs q (j + 1)).length = d at *
      generalize gapAt xs j = g at *
      have hts9 : ts + d ≤ 3600 := by omega
      clear hKb
      by_cases hg0 : g = 0
      · have hb := h1 hg0
        rw [hb, if_pos rfl] at hFs
        have HFS := Lib.hid hFs
        have htf9 : tf + 1 ≤ 60 := by omega
        clear hKs
        clear h1 h2 h3 hgr hb hFs hFb
        subst hg0
        go_wp2_with (go_at_call 39; ((with_reducible refine hg.out.mono ?_); rintro e w2 ⟨rfl, b2⟩))
        go_roundw
        case rel => exact ⟨j + 1, tf + 1, ts + d, by omega, by go_num, by go_num, by go_num, Lib.hid HFS.out.symm, Lib.hid HKS.out.symm, htf9, hts9, Lib.hid (HBR.out _ b2)⟩
        case measure => simp [intOf]; omega
      · by_cases hgq : (q : Int) < g
        · have hb := h2 hgq
          rw [hb, if_pos rfl] at hFs
          have HFS := Lib.hid hFs
          have htf9 : tf + 1 ≤ 60 := by omega
          clear hKs
          clear h1 h2 h3 hb hFs hFb
          go_wp2_with (go_at_call 39; ((with_reducible refine hg.out.mono ?_); rintro e w2 ⟨rfl, b2⟩))
          go_roundw
          case rel => exact ⟨j + 1, tf + 1, ts + d, by omega, by go_num, by go_num, by go_num, Lib.hid HFS.out.symm, Lib.hid HKS.out.symm, htf9, hts9, Lib.hid (HBR.out _ b2)⟩
          case measure => simp [intOf]; omega
        · have hb := h3 hg0 (by omega)
          rw [hb] at hFs
          have hFs : fltN xs q (j + 1) = tf := hFs
          have HFS := Lib.hid hFs
          have hz1 : (g == 0) = false := by simpa using hg0
          have hz2 : decide ((q : Int) < g) = false := decide_eq_false hgq
          clear hKs
          clear h1 h2 h3 hb hFs hFb
          go_wp2_with (go_at_call 39; ((with_reducible refine hg.out.mono ?_); rintro e w2 ⟨rfl, b2⟩))
          go_roundw
          case rel => exact ⟨j + 1, tf, ts + d, by omega, by go_num, rfl, by go_num, Lib.hid HFS.out.symm, Lib.hid HKS.out.symm, hf6, hts9, Lib.hid (HBR.out _ b2)⟩
          case measure => simp [intOf]; omega
    · have e : j = N := by omega
      subst e
      go_wp2
      go_ret3
      exact ⟨by rw [← htf.out, ← hts.out]; rfl, HB1.out.trans (hbr.out.mono HB1.out.size)⟩
theorem sf_no_i {v : Value} {xs : List Int} {w : World} (y : Int) (h : Rd w v xs) (hn : xs.length ≤ 1048576) (hno : ¬ (okU xs = true ∧ 1 ≤ y ∧ y ≤ 60)) :
    Calls Try.prog 18 #[v, .int .i64 y] w (Iib 0 0 false w) := by
  have HS := Lib.hid (sizes_no_i y h hn hno)
  clear hno
  go_enter Try.func18, Try.ntmps18
  go_wp2_with (go_at_call 23; refine HS.out.mono ?_; rintro e w1 ⟨v1, rfl, o1, b1⟩)
  go_ret3
  exact ⟨rfl, b1⟩
theorem sf_no_s {v : Value} {xs : List Int} {w : World} (y : Int) (h : Rd w v xs) (hn : xs.length ≤ 1048576) (hno : ¬ (okU xs = true ∧ 1 ≤ y ∧ y ≤ 60)) :
    Calls Try.prog 16 #[v, .int .i64 y] w (Iib 0 0 false w) := by
  have hU := Lib.hid (uses_sR h hn)
  cases hok : okU xs
  · rw [hok] at hU
    clear hno
    go_enter Try.func16, Try.ntmps16
    go_wp2_with (go_at_call 36; refine hU.out.mono ?_; rintro e w' ⟨rfl, rfl⟩)
    go_ret3
    exact ⟨rfl, Below.refl _ _⟩
  · rw [hok] at hU
    have hK := Lib.hid (in_no y 1 60 w (fun h2 => hno ⟨hok, h2⟩))
    clear hno
    go_enter Try.func16, Try.ntmps16
    go_wp2_with (first | (go_at_call 36; refine hU.out.mono ?_; rintro e w' ⟨rfl, rfl⟩) | (go_at_call 29; refine hK.out.mono ?_; rintro e w' ⟨rfl, rfl⟩))
    go_ret3
    exact ⟨rfl, Below.refl _ _⟩
theorem bool_not {b c : Bool} (h : b = !c) : c = !b := by cases b <;> cases c <;> simp_all
set_option maxHeartbeats 2000000 in
theorem sf_yes_s {v : Value} {xs : List Int} {w : World} (q : Nat) (h : Rd w v xs) (hok : okU xs = true) (hq1 : 1 ≤ q) (hq : q ≤ 60) :
    Calls Try.prog 16 #[v, .int .i64 (q : Int)] w (Iib (fltN xs q xs.length : Nat) (keptN xs q xs.length : Nat) true w) := by
  have hn := okU_len hok
  have hn2 := hn
  have hU := Lib.hid (uses_sR h (by omega))
  rw [hok] at hU
  have hK := Lib.hid (in_yes (q : Int) 1 60 w (by omega) (by omega))
  obtain ⟨a, c, rfl, hcc, hcm, hr⟩ := h
  have HR := Lib.hid (fun (wr : World) (hb : Below w.heap.size w wr) (j : Nat) (hj : j < xs.length) => (hr.below hb) j hj)
  have HW := Lib.hid (fun (j : Nat) (wr : World) (hj : j < xs.length) (hb : Below w.heap.size w wr) => (show Calls _ _ _ _ (Lb (kwK xs q (j + 1)) wr) from work_s a c j q xs hn hcc hcm.1 hj hq1 hq wr (hr.below hb)))
  have HF := Lib.hid (fltN_succ xs q)
  have HK := Lib.hid (keptN_succ xs q)
  have HFL := Lib.hid (fltN_le xs q)
  have HKL := Lib.hid (keptN_le xs q)
  have HL := Lib.hid (kw_length xs q)
  have HKF := Lib.hid (kw_flt xs q)
  have HF0 := Lib.hid (show fltN xs q 0 = 0 from rfl)
  have HK0 := Lib.hid (show keptN xs q 0 = 0 from rfl)
  have HKW := Lib.hid (show kwK xs q 0 = [] from rfl)
  clear hr hok hcm hcc
  generalize hN : xs.length = N at *
  clear hN
  go_enter Try.func16, Try.ntmps16
  go_wp2_with (first | (go_at_call 36; refine hU.out.mono ?_; rintro e w' ⟨rfl, rfl⟩) | (go_at_call 29; refine hK.out.mono ?_; rintro e w' ⟨rfl, rfl⟩))
  go_loopw [7, 8, 9, 10] (fun f s v i wr => ∃ j tf ts : Nat, j ≤ N ∧ i = .int .i64 j ∧ f = .int .i64 (tf : Nat) ∧ s = .int .i64 (ts : Nat) ∧ Hid (tf = fltN xs q j) ∧ Hid (ts = keptN xs q j) ∧ tf ≤ 60 ∧ ts ≤ 3600 ∧ Hid (Own wr w.heap.size v (kwK xs q j)) ∧ Hid (Below w.heap.size w wr)) (fun _ _ _ i _ => N - (intOf i).toNat)
  case atStart => exact ⟨0, 0, 0, Nat.zero_le _, rfl, rfl, rfl, Lib.hid HF0.out.symm, Lib.hid HK0.out.symm, by omega, by omega, Lib.hid (by rw [HKW.out]; exact World.ownsRow_lit w #[] 0 (Nat.le_refl _) (by unfold maxLen; omega) rfl), Lib.hid ((Below.refl _ _).alloc (Nat.le_refl _) _)⟩
  case round =>
    obtain ⟨j, tf, ts, hj, rfl, rfl, rfl, htf, hts, hf6, hs6, ho, hbr⟩ := hrel
    by_cases hlt : j < N
    · obtain ⟨b, off, rfl, hc, _⟩ := HR.out wr hbr.out j hlt
      have hw := Lib.hid (HW.out j wr hlt hbr.out)
      have hL := HL.out (j + 1)
      have hL0 := HL.out j
      have hrd := ho.out.rd
      obtain ⟨a9, c9, e9, _, _, hrow⟩ := hrd
      subst e9
      have hh := Lib.hid (has_s a9 c9 (kwK xs q j) (xs.getD j 0) wr (by omega) hrow)
      rw [HKF.out j hlt] at hh
      have hKs := HK.out j
      have hFs := HF.out j
      have hKb := HKL.out (j + 1) (by omega)
      have hFb := HFL.out (j + 1)
      rw [← hts.out] at hKs
      rw [← htf.out] at hFs
      have HKS := Lib.hid hKs
      have HBR := Lib.hid (fun (w' : World) (hb : Below wr.heap.size wr w') => hbr.out.trans (hb.mono hbr.out.size))
      have HSZ := Lib.hid hbr.out.size
      clear hrow HW ho hL0
      generalize hkn : kwK xs q (j + 1) = kn at *
      have HKN := Lib.hid hkn
      clear hkn
      generalize (kwK xs q j).length = d0 at *
      generalize xs.getD j 0 = x at *
      have hts9 : ts + kn.length ≤ 3600 := by omega
      clear hKb
      cases hb : fltB xs q j
      · rw [hb] at hFs hh
        have hFs : fltN xs q (j + 1) = tf := hFs
        have HFS := Lib.hid hFs
        clear hKs
        clear hb hFs hFb
        go_wp2_with (first | (go_at_call 37; refine hh.out.mono ?_; rintro e w2 ⟨rfl, rfl⟩) | (go_at_call 38; refine hw.out.mono ?_; rintro e w2 ⟨v2, rfl, o2, b2⟩; obtain ⟨a2, c2, hv2⟩ := o2.form; subst hv2))
        go_roundw
        case rel => exact ⟨j + 1, tf, ts + kn.length, by omega, by go_num, rfl, by go_num, Lib.hid HFS.out.symm, Lib.hid HKS.out.symm, hf6, hts9, Lib.hid (by rw [HKN.out]; exact o2.mono HSZ.out), Lib.hid (HBR.out _ b2)⟩
        case measure => simp [intOf]; omega
      · rw [hb] at hFs hh
        rw [if_pos rfl] at hFs
        have HFS := Lib.hid hFs
        have htf9 : tf + 1 ≤ 60 := by omega
        clear hKs
        clear hb hFs hFb
        go_wp2_with (first | (go_at_call 37; refine hh.out.mono ?_; rintro e w2 ⟨rfl, rfl⟩) | (go_at_call 38; refine hw.out.mono ?_; rintro e w2 ⟨v2, rfl, o2, b2⟩; obtain ⟨a2, c2, hv2⟩ := o2.form; subst hv2))
        go_roundw
        case rel => exact ⟨j + 1, tf + 1, ts + kn.length, by omega, by go_num, by go_num, by go_num, Lib.hid HFS.out.symm, Lib.hid HKS.out.symm, htf9, hts9, Lib.hid (by rw [HKN.out]; exact o2.mono HSZ.out), Lib.hid (HBR.out _ b2)⟩
        case measure => simp [intOf]; omega
    · have e : j = N := by omega
      subst e
      go_wp2
      go_ret3
      exact ⟨by rw [← htf.out, ← hts.out]; rfl, hbr.out⟩
end Go.Proofs.Ytdjkmffekfbbcaa.Tr
