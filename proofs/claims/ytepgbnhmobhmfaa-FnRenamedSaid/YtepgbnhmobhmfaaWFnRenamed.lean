/- The walk of laws.FnRenamed: the call returns true and writes nothing that was there. -/
import Derived.Test.YtepgbnhmobhmfaaCr8
import Derived.Test.YtepgbnhmobhmfaaCr8h
import Derived.Test.YtepgbnhmobhmfaaCtellGap
import Derived.Test.YtepgbnhmobhmfaaCtellCanon
import Derived.Test.YtepgbnhmobhmfaaPlainCanon
namespace Go.Proofs.Ytepgbnhmobhmfaa.fnRenamed
open Go.RowKit Tr
theorem okU_canon (l : List Int) (h : l.length ≤ 13) : okU (canonP l) = true := by
  refine R8.okU_of _ (by rw [canonP_length]; omega) fun y hy => ?_
  obtain ⟨i, hi, e⟩ := List.getElem_of_mem hy
  rw [canonP_length] at hi
  rw [← getD_get, canonP_get l i hi] at e
  obtain ⟨m, hm, hle, _⟩ := canon_le l i
  have := seenK_length l i
  omega
/-- The list at i, and how many addresses the list has ahead of it and behind it. -/
theorem step (l : List Int) (i : Nat) (hi : i < l.length) : ∃ m : Nat, (canonP l).getD i 0 = (m : Int) ∧ m ≤ (seenK l i).length ∧ (seenK l (i + 1)).length = if m = (seenK l i).length then (seenK l i).length + 1 else (seenK l i).length := by
  obtain ⟨m, hm, hle, hiff⟩ := canon_le l i
  refine ⟨m, by rw [canonP_get l i hi, hm], hle, ?_⟩
  rw [seenK]
  by_cases h : l.getD i 0 ∈ seenK l i
  · rw [if_pos h, if_neg (by have := hiff.2 h; omega)]
  · rw [if_neg h, if_pos (by have : ¬ m < _ := fun hc => h (hiff.1 hc); omega), List.length_append]
    rfl
set_option maxHeartbeats 2000000 in
theorem walk (a0 : Option Addr) (len0 cap0 : Nat) (z0 : List Int) (a1 : Option Addr) (len1 cap1 : Nat) (z1 : List Int) (w : World) (w0 : IsRow .u8 w a0 len0 cap0 z0) (w1 : IsRow .u8 w a1 len1 cap1 z1) :
    Calls Try.prog 5 #[.slice a0 len0 cap0, .slice a1 len1 cap1] w fun e w' => e = .returned (.bool true) ∧ Below w.heap.size w w' := by
  by_cases hl : 48 < len0 ∨ 48 < len1
  · go_enter Try.func5, Try.ntmps5
    go_wp2_with (go_at_call 6; refine (R8.long_yes _ _ _ _ _ _ _ hl).mono ?_; rintro e w' ⟨rfl, rfl⟩)
    go_ret
    exact ⟨rfl, Below.refl _ _⟩
  · have l0 : len0 ≤ 48 := by omega
    have l1 : len1 ≤ 48 := by omega
    clear hl
    have HU := Lib.hid (R8.uses_any a0 len0 cap0 z0 w l0 w0)
    clear w0 w1
    go_enter Try.func5, Try.ntmps5
    go_wp2_with (go_at_call 6; refine (R8.long_no _ _ _ _ _ _ _ l0 l1).mono ?_; rintro e w' ⟨rfl, rfl⟩)
    refine HU.out.mono ?_
    rintro e w1 ⟨v, l, rfl, hok, hl13, o1, b1⟩
    obtain ⟨av, cv, hvv⟩ := o1.form
    have HC1 := Lib.hid (canon_yes_i o1.rd hok)
    have HG1 := Lib.hid (fun (w' : World) (hb : Below w1.heap.size w1 w') => gap_yes_i (o1.below hb (Nat.le_refl _)).rd hok)
    have okc := okU_canon l hl13
    have HST := Lib.hid (step l)
    have HLc := canonP_length l
    have HAG := canonP_again l
    have HGC := gaps_canon l
    have hgl := told_length (gapAt l) l.length
    clear hok HU
    change Hid (Calls _ _ _ _ (Res (canonP l) true w1)) at HC1
    subst hvv
    generalize hN : l.length = N at *
    have HB1 := Lib.hid b1
    clear b1 o1 l0 l1
    go_wp2_with fail
    refine HC1.out.mono ?_
    rintro e w2 ⟨v2, rfl, o2, b2⟩
    have HC2 := Lib.hid (canon_yes_i o2.rd okc)
    change Hid (Calls _ _ _ _ (Res (canonP (canonP l)) true w2)) at HC2
    rw [HAG] at HC2
    obtain ⟨a2, c2, hv2⟩ := o2.form
    rw [HLc] at hv2
    subst hv2
    go_wp2_with fail
    refine HC2.out.mono ?_
    rintro e w3 ⟨v3, rfl, o3, b3⟩
    have HG3 := Lib.hid (HG1.out w3 (b2.trans (b3.mono b2.size)))
    go_wp2_with fail
    refine HG3.out.mono ?_
    rintro e w4 ⟨v4, rfl, o4, b4⟩
    have o2' := (o2.below b3 (Nat.le_refl _)).below b4 (Nat.le_refl _)
    have HG4 := gap_yes_i o2'.rd okc
    rw [HGC] at HG4
    have HG5 := Lib.hid HG4
    clear HG4
    go_wp2_with fail
    refine HG5.out.mono ?_
    rintro e w5 ⟨v5, rfl, o5, b5⟩
    have o2f := o2'.below b5 (Nat.le_refl _)
    have o3f := (o3.below b4 (Nat.le_refl _)).below b5 (Nat.le_refl _)
    have o4f := o4.below b5 (Nat.le_refl _)
    have hb : Below w.heap.size w w5 := ((((HB1.out.trans (b2.mono HB1.out.size)).trans (b3.mono (Nat.le_trans HB1.out.size b2.size))).trans (b4.mono (Nat.le_trans (Nat.le_trans HB1.out.size b2.size) b3.size)))).trans (b5.mono (Nat.le_trans (Nat.le_trans (Nat.le_trans HB1.out.size b2.size) b3.size) b4.size))
    have HS1 := Lib.hid (same8_R o2f.rd o3f.rd (by omega))
    have HS2 := Lib.hid (fun (w' : World) (hb : Below w5.heap.size w5 w') => same8_R (o4f.below hb (Nat.le_refl _)).rd (o5.below hb (Nat.le_refl _)).rd (by omega))
    clear o2 o2' o3 o4 HC1 HC2 HG3 HG5 HG1 b2 b3 b4 b5 HB1 okc
    go_wp2_with fail
    refine HS1.out.mono ?_
    rintro e w6 ⟨rfl, b6⟩
    have HS3 := Lib.hid (HS2.out w6 b6)
    go_wp2_with fail
    refine HS3.out.mono ?_
    rintro e w7 ⟨rfl, b7⟩
    have o2g := (o2f.below b6 (Nat.le_refl _)).below b7 (Nat.le_refl _)
    have hb7 : Below w.heap.size w w7 := (hb.trans (b6.mono hb.size)).trans (b7.mono (Nat.le_trans hb.size b6.size))
    have hr := o2g.rd
    have HR := Lib.hid hr
    have HB7 := Lib.hid hb7
    clear hr hb7 hb b6 b7 o2f o3f o4f o5 o2g HS1 HS2 HS3
    obtain ⟨a', c', e, _, _, hrow⟩ := HR.out
    injection e with e1 e2 e3
    subst e1
    have hrow2 : ∀ i, i < N → ∃ b off, a2 = some ⟨b, off, none⟩ ∧ w7.cell? ⟨b, off + i, none⟩ = some (.int .i64 ((canonP l).getD i 0)) ∧ b < w7.heap.size := fun i hi => hrow i (by rw [HLc]; exact hi)
    have HROW := Lib.hid hrow2
    clear hrow hrow2 HR e2 e3 HLc HAG HGC hgl
    go_wp2
    go_loop [14, 15] (fun m i => ∃ j : Nat, j ≤ N ∧ i = .int .i64 j ∧ m = .int .i64 ((seenK l j).length : Nat)) (fun _ i => N - (intOf i).toNat)
    case atStart => exact ⟨0, Nat.zero_le _, rfl, rfl⟩
    case round =>
      obtain ⟨j, hj, rfl, rfl⟩ := hrel
      by_cases hlt : j < N
      · obtain ⟨b, off, rfl, hc, _⟩ := HROW.out j hlt
        obtain ⟨m, hm, hle, hnx⟩ := HST.out j hlt
        have hsl := seenK_length l j
        rw [hm] at hc
        clear hm
        have HNX := Lib.hid hnx
        clear hnx
        generalize hM : (seenK l j).length = M at *
        clear hM
        by_cases hmm : m = M
        · subst hmm
          have hnx2 : Hid ((seenK l (j + 1)).length = m + 1) := by show _ = _; rw [HNX.out, if_pos rfl]
          clear HNX
          go_wp2
          go_round
          case rel => exact ⟨j + 1, by omega, by go_num, by rw [hnx2.out]; go_num⟩
          case measure => simp [intOf]; omega
        · have hnx2 : Hid ((seenK l (j + 1)).length = M) := by show _ = _; rw [HNX.out, if_neg hmm]
          clear HNX
          have g1 : ¬ ((M : Int) < (m : Int)) := by omega
          have g2 : ¬ ((m : Int) = (M : Int)) := by omega
          go_wp2
          go_round
          case rel => exact ⟨j + 1, by omega, by go_num, by rw [hnx2.out]⟩
          case measure => simp [intOf]; omega
      · have e : j = N := by omega
        subst e
        go_wp2
        go_ret
        exact ⟨rfl, HB7.out⟩
end Go.Proofs.Ytepgbnhmobhmfaa.fnRenamed
