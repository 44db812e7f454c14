/- The walk of laws.FnSetFaults: the call returns true and writes nothing that was there. -/
import Derived.Test.YtdjkmffekfbbcaaCr8
import Derived.Test.YtdjkmffekfbbcaaCr8h
import Derived.Test.YtdjkmffekfbbcaaCtellGap
import Derived.Test.YtdjkmffekfbbcaaCsf
namespace Go.Proofs.Ytdjkmffekfbbcaa.fnSetFaults
open Go.RowKit Tr
theorem rd_at {w : World} {a : Option Addr} {n c : Nat} {xs : List Int} (h : Rd w (.slice a n c) xs) (i : Nat) (hi : i < n) :
    ∃ b off, a = some ⟨b, off, none⟩ ∧ w.cell? ⟨b, off + i, none⟩ = some (.int .i64 (xs.getD i 0)) := by
  obtain ⟨a', c', e, _, _, hr⟩ := h
  injection e with e1 e2 e3
  subst e1
  obtain ⟨b, off, ha, hc, _⟩ := hr i (by omega)
  exact ⟨b, off, ha, hc⟩
theorem psum_kept (l : List Int) (q N : Nat) : ∀ j, j ≤ N → psum (told (sizeAt l q) N) j = ((keptN l q j : Nat) : Int)
  | 0, _ => rfl
  | j + 1, h => by
    rw [psum, psum_kept l q N j (by omega), told_get' _ _ _ (by omega), keptN_succ, size_kw]
    omega
set_option maxHeartbeats 4000000 in
theorem walk (a0 : Option Addr) (len0 cap0 : Nat) (z0 : List Int) (a1 : Option Addr) (len1 cap1 : Nat) (z1 : List Int) (w : World) (w0 : IsRow .u8 w a0 len0 cap0 z0) (w1 : IsRow .u8 w a1 len1 cap1 z1) :
    Calls Try.prog 5 #[.slice a0 len0 cap0, .slice a1 len1 cap1] w fun e w' => e = .returned (.bool true) ∧ Below w.heap.size w w' := by
  by_cases hl : 48 < len0 ∨ 48 < len1
  · go_enter Try.func5, Try.ntmps5
    go_wp2_with (go_at_call 19; refine (R8.long_yes _ _ _ _ _ _ _ hl).mono ?_; rintro e w' ⟨rfl, rfl⟩)
    go_ret
    exact ⟨rfl, Below.refl _ _⟩
  · have l0 : len0 ≤ 48 := by omega
    have l1 : len1 ≤ 48 := by omega
    clear hl
    have HU := Lib.hid (R8.uses_any a0 len0 cap0 z0 w l0 w0)
    have HA := Lib.hid (fun (w' : World) (hb : Below w.heap.size w w') => R8.at_any a1 len1 cap1 z1 w' (isRow_below w1 hb) 0 10 (by omega) (by omega) (by omega) (by omega))
    clear w0 w1
    go_enter Try.func5, Try.ntmps5
    go_wp2_with (go_at_call 19; refine (R8.long_no _ _ _ _ _ _ _ l0 l1).mono ?_; rintro e w' ⟨rfl, rfl⟩)
    refine HU.out.mono ?_
    rintro e w1 ⟨v, l, rfl, hok, hl13, o1, b1⟩
    have HA1 := Lib.hid (HA.out w1 b1)
    go_wp2_with fail
    refine HA1.out.mono ?_
    rintro e w1' ⟨r0, r0a, r0b, rfl, rfl⟩
    obtain ⟨x0, rfl⟩ := Int.eq_ofNat_of_zero_le r0a
    obtain ⟨av, cv, hvv⟩ := o1.form
    have HF1 := Lib.hid (fun (q : Nat) (h1 : 1 ≤ q) (h2 : q ≤ 60) => sf_yes_i q o1.rd hok h1 h2)
    have HG1 := Lib.hid (fun (w' : World) (hb : Below w1.heap.size w1 w') => gap_yes_i (o1.below hb (Nat.le_refl _)).rd hok)
    have HS1 := Lib.hid (fun (w' : World) (hb : Below w1.heap.size w1 w') (q : Nat) (h1 : 1 ≤ q) (h2 : q ≤ 60) => sizes_yes_i q (o1.below hb (Nat.le_refl _)).rd hok h1 h2)
    have HFS := Lib.hid (fltN_succ l)
    have HFL := Lib.hid (fltN_le l)
    have HKL := Lib.hid (keptN_le l)
    have H1 := Lib.hid (flt_zero l)
    have H2 := Lib.hid (flt_big l)
    have H3 := Lib.hid (flt_no l)
    have HR := Lib.hid (gap_rng l)
    have HPS := Lib.hid (fun q => psum_kept l q l.length)
    clear HU HA HA1 o1 hok l0 l1 r0a
    subst hvv
    generalize hN : l.length = N at *
    clear hN
    have HB1 := Lib.hid b1
    clear b1
    go_wp2_with fail
    obtain ⟨q, hq⟩ : ∃ q : Nat, (1 : Int) + (x0 : Int) = (q : Int) := ⟨1 + x0, by simp⟩
    rw [hq]
    have q1 : 1 ≤ q := by omega
    have q2 : q ≤ 10 := by omega
    clear hq r0b
    refine (HF1.out q q1 (by omega)).mono ?_
    rintro e w2 ⟨rfl, b2⟩
    have HG2 := Lib.hid (HG1.out w2 b2)
    go_wp2_with fail
    refine HG2.out.mono ?_
    rintro e w3 ⟨v3, rfl, o3, b3⟩
    obtain ⟨a3, c3, hv3⟩ := o3.form
    rw [told_length] at hv3
    subst hv3
    have b13 := b2.trans (b3.mono b2.size)
    have HS2 := Lib.hid (HS1.out w3 b13 q q1 (by omega))
    go_wp2_with fail
    refine HS2.out.mono ?_
    rintro e w4 ⟨v4, rfl, o4, b4⟩
    obtain ⟨a4, c4, hv4⟩ := o4.form
    rw [told_length] at hv4
    subst hv4
    have HR4 := Lib.hid (row_of o4.rd)
    have o3' := o3.below b4 (Nat.le_refl _)
    have HC3 := Lib.hid (fun i hi => rd_at o3'.rd i hi)
    have HB4 := Lib.hid (HB1.out.trans ((b13.trans (b4.mono b13.size)).mono HB1.out.size))
    have HK60 := HKL.out q N (by omega)
    clear HS1 HS2 HG1 HG2 HF1 HB1 o3 o3' o4 b2 b3 b4 b13
    go_wp2
    go_loop [14, 15] (fun s i => ∃ j t : Nat, j ≤ N ∧ i = .int .i64 j ∧ s = .int .i64 (t : Nat) ∧ Hid (t = fltN l q j) ∧ t ≤ j) (fun _ i => N - (intOf i).toNat)
    case atStart => exact ⟨0, 0, Nat.zero_le _, rfl, rfl, Lib.hid rfl, Nat.le_refl _⟩
    case round =>
      obtain ⟨j, t, hj, rfl, rfl, ht, htj⟩ := hrel
      by_cases hlt : j < N
      · obtain ⟨b, off, rfl, hcn⟩ := HC3.out j hlt
        rw [told_get' _ _ _ hlt] at hcn
        have hs := HFS.out q j
        rw [← ht.out] at hs
        have h1 := H1.out q j
        have h2 := H2.out q j
        have h3 := H3.out q j
        have hgr := HR.out j
        generalize gapAt l j = g at *
        by_cases hg0 : g = 0
        · rw [h1 hg0, if_pos rfl] at hs
          have HS := Lib.hid hs
          clear hs h1 h2 h3 hgr
          subst hg0
          go_wp2
          go_round
          case rel => exact ⟨j + 1, t + 1, by omega, by go_num, by go_num, Lib.hid HS.out.symm, by omega⟩
          case measure => simp [intOf]; omega
        · have hz1 : (g == 0) = false := by simpa using hg0
          by_cases hgq : (q : Int) < g
          · rw [h2 hgq, if_pos rfl] at hs
            have HS := Lib.hid hs
            have hz2 : decide ((q : Int) < g) = true := decide_eq_true hgq
            clear hs h1 h2 h3
            go_wp2
            go_round
            case rel => exact ⟨j + 1, t + 1, by omega, by go_num, by go_num, Lib.hid HS.out.symm, by omega⟩
            case measure => simp [intOf]; omega
          · rw [h3 hg0 (by omega)] at hs
            have hs : fltN l q (j + 1) = t := hs
            have HS := Lib.hid hs
            have hz2 : decide ((q : Int) < g) = false := decide_eq_false hgq
            clear hs h1 h2 h3
            go_wp2
            go_round
            case rel => exact ⟨j + 1, t, by omega, by go_num, rfl, Lib.hid HS.out.symm, by omega⟩
            case measure => simp [intOf]; omega
      · have e : j = N := by omega
        subst e
        have h8 := sum8 a4 c4 (told (sizeAt l q) j) w4 (by rw [told_length]; omega) (fun i hi => by
          rw [told_length] at hi
          rw [HPS.out q i hi]
          have h := HKL.out q i (by omega)
          omega) HR4.out
        rw [told_length, HPS.out q j (Nat.le_refl _)] at h8
        have H8 := Lib.hid h8
        have htf := ht.out
        rw [← htf]
        clear h8 ht htf
        go_wp2_with (go_at_call 24; refine H8.out.mono ?_; rintro e w' ⟨rfl, rfl⟩)
        go_ret
        exact ⟨rfl, HB4.out⟩
end Go.Proofs.Ytdjkmffekfbbcaa.fnSetFaults
