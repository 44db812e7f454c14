/- The model's Includes and FirstBreak. -/
import Derived.Test.YtbjgfbhfmaddgaaCbrkS
import Derived.Test.YtbjgfbhfmaddgaaCvp
namespace Go.Proofs.Ytbjgfbhfmaddgaa.Pv
open Go.RowKit
def incOk (hs : List (List Int)) (ms : List Int) (hs' : List (List Int)) (ms' xs : List Int) : Bool := isP hs ms && isP hs' ms' && Tr.okU xs
def incN (hs : List (List Int)) (ms : List Int) (hs' : List (List Int)) (ms' xs : List Int) : Int := fstB (inAt hs ms hs' ms' xs) 0 xs.length
def incV (hs : List (List Int)) (ms : List Int) (hs' : List (List Int)) (ms' xs : List Int) : Bool := incOk hs ms hs' ms' xs && decide (incN hs ms hs' ms' xs < 0)
def fbrB (hs : List (List Int)) (ms : List Int) (hs' : List (List Int)) (ms' xs : List Int) : Bool := incOk hs ms hs' ms' xs && decide (0 ≤ incN hs ms hs' ms' xs)
def fbrV (hs : List (List Int)) (ms : List Int) (hs' : List (List Int)) (ms' xs : List Int) : Int := if fbrB hs ms hs' ms' xs then incN hs ms hs' ms' xs else 0
def BbQ (b1 b2 : Bool) (w : World) (e : Ending) (w' : World) : Prop := e = .returned (.tuple #[.bool b1, .bool b2]) ∧ Below w.heap.size w w'
def IbQ (n : Int) (ok : Bool) (w : World) (e : Ending) (w' : World) : Prop := e = .returned (.tuple #[.int .i64 n, .bool ok]) ∧ Below w.heap.size w w'
theorem fstB_rng (f : Nat → Bool) : ∀ k i, -1 ≤ fstB f i k ∧ fstB f i k < (i : Int) + k
  | 0, i => by unfold fstB; omega
  | k + 1, i => by
    have := fstB_rng f k (i + 1)
    unfold fstB
    split <;> omega
set_option maxHeartbeats 2000000 in
theorem inc_s {v v' : Value} {hs hs' : List (List Int)} {ms ms' xs : List Int} {w : World} {a2 : Option Addr} {c2 : Nat} (h : RdP w v hs ms) (h' : RdP w v' hs' ms') (hx : Rd w (.slice a2 xs.length c2) xs) (hxl : xs.length ≤ 1048576) :
    Calls Try.prog 7 #[v, v', .slice a2 xs.length c2] w (BbQ (incV hs ms hs' ms' xs) (incOk hs ms hs' ms' xs) w) := by
  obtain ⟨a, c, a', c', rfl, h1, h2, h3, h4, h5⟩ := h
  obtain ⟨b, d, b', d', rfl, g1, g2, g3, g4, g5⟩ := h'
  have hxr := rd_rowB hx
  have b0 := (Below.refl w.heap.size w).alloc (Nat.le_refl _) (.cells #[.slice a hs.length c, .slice a' ms.length c'] 29)
  have bk := Blk.newAt w w.heap.size [.slice a hs.length c, .slice a' ms.length c'] 29 rfl
  have hz : (w.alloc (.cells #[.slice a hs.length c, .slice a' ms.length c'] 29)).heap.size = w.heap.size + 1 := Array.size_push _
  have b1 := b0.alloc (by omega) (.cells #[.slice b hs'.length d, .slice b' ms'.length d'] 29)
  have bk' := Blk.newAt (w.alloc (.cells #[.slice a hs.length c, .slice a' ms.length c'] 29)) (w.heap.size + 1) [.slice b hs'.length d, .slice b' ms'.length d'] 29 hz.symm
  have bk2 := bk.alloc (.cells #[.slice b hs'.length d, .slice b' ms'.length d'] 29)
  have HB0 := Lib.hid b1
  have HS1 := Lib.hid (is_s w.heap.size a a' c c' hs ms _ bk2.lt (bk2.cell 0) (bk2.cell 1) (h3.below b1) h5 h4 (h1.below b1) h2)
  have HS2 := Lib.hid (fun (w9 : World) (hb : Below _ _ w9) => is_s (w.heap.size + 1) b b' d d' hs' ms' w9 (bk'.below hb bk'.lt).lt ((bk'.below hb bk'.lt).cell 0) ((bk'.below hb bk'.lt).cell 1) ((g3.below b1).below hb) g5 g4 ((g1.below b1).below hb) g2)
  have HU := Lib.hid (fun (w9 : World) (hb : Below _ _ w9) => Tr.uses_s a2 c2 xs w9 hxl ((hxr.below b1).below hb))
  have HT := Lib.hid (fun (hp : isP hs ms = true) (hp' : isP hs' ms' = true) (hu : Tr.okU xs = true) (w9 : World) (hb : Below _ _ w9) => break_s w.heap.size (w.heap.size + 1) a a' b b' c c' d d' hs ms hs' ms' xs a2 c2 w9 hp hp' (Tr.okU_len hu) (bk2.below hb bk2.lt).lt ((bk2.below hb bk2.lt).cell 0) ((bk2.below hb bk2.lt).cell 1) (bk'.below hb bk'.lt).lt ((bk'.below hb bk'.lt).cell 0) ((bk'.below hb bk'.lt).cell 1) ((h1.below b1).below hb) ((h3.below b1).below hb) ((g1.below b1).below hb) ((g3.below b1).below hb) ((hxr.below b1).below hb))
  have HEN := Lib.hid (fun (w9 : World) (hb : Below _ _ w9) => show Below w.heap.size w w9 from b1.trans (hb.mono (by rw [Nat.le_iff_lt_or_eq]; exact .inl (Nat.lt_of_succ_lt bk'.lt))))
  have HRF := Lib.hid (fun w9 : World => Below.refl w9.heap.size w9)
  have HV := Lib.hid (show incV hs ms hs' ms' xs = (incOk hs ms hs' ms' xs && decide (fstB (inAt hs ms hs' ms' xs) 0 xs.length < 0)) from rfl)
  have HOK := Lib.hid (show incOk hs ms hs' ms' xs = (isP hs ms && isP hs' ms' && Tr.okU xs) from rfl)
  clear h1 h2 h3 h4 h5 g1 g2 g3 g4 g5 hx hxr b0 bk hz b1 bk' bk2
  generalize incV hs ms hs' ms' xs = V at *
  generalize incOk hs ms hs' ms' xs = ok at *
  generalize fstB (inAt hs ms hs' ms' xs) 0 xs.length = K at *
  generalize isP hs ms = r1 at *
  generalize isP hs' ms' = r2 at *
  generalize Tr.okU xs = r3 at *
  generalize xs.length = L at *
  generalize hs.length = N at *
  generalize ms.length = M at *
  generalize hs'.length = N' at *
  generalize ms'.length = M' at *
  generalize hW : ((w.alloc (.cells #[.slice a N c, .slice a' M c'] 29)).alloc (.cells #[.slice b N' d, .slice b' M' d'] 29)) = W at *
  have HW := Lib.hid hW
  clear hW
  cases r1
  · have e : ok = false := HOK.out
    subst e
    have e : V = false := HV.out
    subst e
    go_enter Try.func7, Try.ntmps7
    go_wp2_with fail
    rw [HW.out]
    refine HS1.out.mono ?_; rintro e w1 ⟨rfl, q1, rfl⟩
    go_wp2
    go_ret2
    exact ⟨rfl, HEN.out _ (below_drewN _ (HRF.out _))⟩
  · cases r2
    · have e : ok = false := HOK.out
      subst e
      have e : V = false := HV.out
      subst e
      go_enter Try.func7, Try.ntmps7
      go_wp2_with fail
      rw [HW.out]
      refine HS1.out.mono ?_; rintro e w1 ⟨rfl, q1, rfl⟩
      have HS3 := Lib.hid (HS2.out (W.drewN q1) (below_drewN _ (HRF.out _)))
      go_wp2_with fail
      refine HS3.out.mono ?_; rintro e w1 ⟨rfl, q2, rfl⟩
      go_wp2
      go_ret2
      exact ⟨rfl, HEN.out _ (below_drewN (q1 + q2) (HRF.out W))⟩
    · cases r3
      · have e : ok = false := HOK.out
        subst e
        have e : V = false := HV.out
        subst e
        go_enter Try.func7, Try.ntmps7
        go_wp2_with fail
        rw [HW.out]
        refine HS1.out.mono ?_; rintro e w1 ⟨rfl, q1, rfl⟩
        have HS3 := Lib.hid (HS2.out (W.drewN q1) (below_drewN _ (HRF.out _)))
        go_wp2_with fail
        refine HS3.out.mono ?_; rintro e w1 ⟨rfl, q2, rfl⟩
        have HU3 := Lib.hid (HU.out (W.drewN (q1 + q2)) (below_drewN _ (HRF.out _)))
        go_wp2_with fail
        refine HU3.out.mono ?_; rintro e w1 ⟨rfl, rfl⟩
        go_wp2
        go_ret2
        exact ⟨rfl, HEN.out _ (below_drewN (q1 + q2) (HRF.out W))⟩
      · have e : ok = true := HOK.out
        subst e
        have e : V = decide (K < 0) := HV.out
        subst e
        have HT2 := Lib.hid (HT.out rfl rfl rfl)
        clear HT
        go_enter Try.func7, Try.ntmps7
        go_wp2_with fail
        rw [HW.out]
        refine HS1.out.mono ?_; rintro e w1 ⟨rfl, q1, rfl⟩
        have HS3 := Lib.hid (HS2.out (W.drewN q1) (below_drewN _ (HRF.out _)))
        go_wp2_with fail
        refine HS3.out.mono ?_; rintro e w1 ⟨rfl, q2, rfl⟩
        have HU3 := Lib.hid (HU.out (W.drewN (q1 + q2)) (below_drewN _ (HRF.out _)))
        go_wp2_with fail
        refine HU3.out.mono ?_; rintro e w1 ⟨rfl, rfl⟩
        have HT3 := Lib.hid (HT2.out (W.drewN (q1 + q2)) (below_drewN _ (HRF.out _)))
        go_wp2_with fail
        refine HT3.out.mono ?_; rintro e w1 ⟨rfl, b2⟩
        have HEND := Lib.hid (HEN.out _ (btB (below_drewN (q1 + q2) (HRF.out W)) (Nat.le_refl _) b2))
        go_wp2
        go_ret2
        exact ⟨rfl, HEND.out⟩
theorem max0_s (x : Int) (w : World) (h : 0 ≤ x) : Calls Try.prog 27 #[.int .i64 x, .int .i64 0] w (fun e w' => e = .returned (.int .i64 x) ∧ w = w') := by
  by_cases h0 : 0 < x
  · go_enter Try.func27, Try.ntmps27
    go_wp2
    go_ret
    exact ⟨rfl, rfl⟩
  · have e : x = 0 := by omega
    subst e
    go_enter Try.func27, Try.ntmps27
    go_wp2
    go_ret
    exact ⟨rfl, rfl⟩
theorem max1_s (x : Int) (w : World) (h : x < 0) : Calls Try.prog 27 #[.int .i64 x, .int .i64 0] w (fun e w' => e = .returned (.int .i64 0) ∧ w = w') := by
  have h0 : ¬ 0 < x := by omega
  go_enter Try.func27, Try.ntmps27
  go_wp2
  go_ret
  exact ⟨rfl, rfl⟩
set_option maxHeartbeats 2000000 in
theorem fbr_s {v v' : Value} {hs hs' : List (List Int)} {ms ms' xs : List Int} {w : World} {a2 : Option Addr} {c2 : Nat} (h : RdP w v hs ms) (h' : RdP w v' hs' ms') (hx : Rd w (.slice a2 xs.length c2) xs) (hxl : xs.length ≤ 1048576) :
    Calls Try.prog 13 #[v, v', .slice a2 xs.length c2] w (IbQ (fbrV hs ms hs' ms' xs) (fbrB hs ms hs' ms' xs) w) := by
  obtain ⟨a, c, a', c', rfl, h1, h2, h3, h4, h5⟩ := h
  obtain ⟨b, d, b', d', rfl, g1, g2, g3, g4, g5⟩ := h'
  have hxr := rd_rowB hx
  have b0 := (Below.refl w.heap.size w).alloc (Nat.le_refl _) (.cells #[.slice a hs.length c, .slice a' ms.length c'] 29)
  have bk := Blk.newAt w w.heap.size [.slice a hs.length c, .slice a' ms.length c'] 29 rfl
  have hz : (w.alloc (.cells #[.slice a hs.length c, .slice a' ms.length c'] 29)).heap.size = w.heap.size + 1 := Array.size_push _
  have b1 := b0.alloc (by omega) (.cells #[.slice b hs'.length d, .slice b' ms'.length d'] 29)
  have bk' := Blk.newAt (w.alloc (.cells #[.slice a hs.length c, .slice a' ms.length c'] 29)) (w.heap.size + 1) [.slice b hs'.length d, .slice b' ms'.length d'] 29 hz.symm
  have bk2 := bk.alloc (.cells #[.slice b hs'.length d, .slice b' ms'.length d'] 29)
  have HB0 := Lib.hid b1
  have HS1 := Lib.hid (is_s w.heap.size a a' c c' hs ms _ bk2.lt (bk2.cell 0) (bk2.cell 1) (h3.below b1) h5 h4 (h1.below b1) h2)
  have HS2 := Lib.hid (fun (w9 : World) (hb : Below _ _ w9) => is_s (w.heap.size + 1) b b' d d' hs' ms' w9 (bk'.below hb bk'.lt).lt ((bk'.below hb bk'.lt).cell 0) ((bk'.below hb bk'.lt).cell 1) ((g3.below b1).below hb) g5 g4 ((g1.below b1).below hb) g2)
  have HU := Lib.hid (fun (w9 : World) (hb : Below _ _ w9) => Tr.uses_s a2 c2 xs w9 hxl ((hxr.below b1).below hb))
  have HT := Lib.hid (fun (hp : isP hs ms = true) (hp' : isP hs' ms' = true) (hu : Tr.okU xs = true) (w9 : World) (hb : Below _ _ w9) => break_s w.heap.size (w.heap.size + 1) a a' b b' c c' d d' hs ms hs' ms' xs a2 c2 w9 hp hp' (Tr.okU_len hu) (bk2.below hb bk2.lt).lt ((bk2.below hb bk2.lt).cell 0) ((bk2.below hb bk2.lt).cell 1) (bk'.below hb bk'.lt).lt ((bk'.below hb bk'.lt).cell 0) ((bk'.below hb bk'.lt).cell 1) ((h1.below b1).below hb) ((h3.below b1).below hb) ((g1.below b1).below hb) ((g3.below b1).below hb) ((hxr.below b1).below hb))
  have HEN := Lib.hid (fun (w9 : World) (hb : Below _ _ w9) => show Below w.heap.size w w9 from b1.trans (hb.mono (by rw [Nat.le_iff_lt_or_eq]; exact .inl (Nat.lt_of_succ_lt bk'.lt))))
  have HRF := Lib.hid (fun w9 : World => Below.refl w9.heap.size w9)
  have HV := Lib.hid (show fbrV hs ms hs' ms' xs = if fbrB hs ms hs' ms' xs then fstB (inAt hs ms hs' ms' xs) 0 xs.length else 0 from rfl)
  have HB := Lib.hid (show fbrB hs ms hs' ms' xs = (incOk hs ms hs' ms' xs && decide (0 ≤ fstB (inAt hs ms hs' ms' xs) 0 xs.length)) from rfl)
  have HOK := Lib.hid (show incOk hs ms hs' ms' xs = (isP hs ms && isP hs' ms' && Tr.okU xs) from rfl)
  clear h1 h2 h3 h4 h5 g1 g2 g3 g4 g5 hx hxr b0 bk hz b1 bk' bk2
  generalize fbrV hs ms hs' ms' xs = V at *
  generalize fbrB hs ms hs' ms' xs = B at *
  generalize incOk hs ms hs' ms' xs = ok at *
  generalize fstB (inAt hs ms hs' ms' xs) 0 xs.length = K at *
  generalize isP hs ms = r1 at *
  generalize isP hs' ms' = r2 at *
  generalize Tr.okU xs = r3 at *
  generalize xs.length = L at *
  generalize hs.length = N at *
  generalize ms.length = M at *
  generalize hs'.length = N' at *
  generalize ms'.length = M' at *
  generalize hW : ((w.alloc (.cells #[.slice a N c, .slice a' M c'] 29)).alloc (.cells #[.slice b N' d, .slice b' M' d'] 29)) = W at *
  have HW := Lib.hid hW
  clear hW
  cases r1
  · have e : ok = false := HOK.out
    subst e
    have e : B = false := HB.out
    subst e
    have e : V = 0 := HV.out
    subst e
    go_enter Try.func13, Try.ntmps13
    go_wp2_with fail
    rw [HW.out]
    refine HS1.out.mono ?_; rintro e w1 ⟨rfl, q1, rfl⟩
    go_wp2
    go_ret2
    exact ⟨rfl, HEN.out _ (below_drewN _ (HRF.out _))⟩
  · cases r2
    · have e : ok = false := HOK.out
      subst e
      have e : B = false := HB.out
      subst e
      have e : V = 0 := HV.out
      subst e
      go_enter Try.func13, Try.ntmps13
      go_wp2_with fail
      rw [HW.out]
      refine HS1.out.mono ?_; rintro e w1 ⟨rfl, q1, rfl⟩
      have HS3 := Lib.hid (HS2.out (W.drewN q1) (below_drewN _ (HRF.out _)))
      go_wp2_with fail
      refine HS3.out.mono ?_; rintro e w1 ⟨rfl, q2, rfl⟩
      go_wp2
      go_ret2
      exact ⟨rfl, HEN.out _ (below_drewN (q1 + q2) (HRF.out W))⟩
    · cases r3
      · have e : ok = false := HOK.out
        subst e
        have e : B = false := HB.out
        subst e
        have e : V = 0 := HV.out
        subst e
        go_enter Try.func13, Try.ntmps13
        go_wp2_with fail
        rw [HW.out]
        refine HS1.out.mono ?_; rintro e w1 ⟨rfl, q1, rfl⟩
        have HS3 := Lib.hid (HS2.out (W.drewN q1) (below_drewN _ (HRF.out _)))
        go_wp2_with fail
        refine HS3.out.mono ?_; rintro e w1 ⟨rfl, q2, rfl⟩
        have HU3 := Lib.hid (HU.out (W.drewN (q1 + q2)) (below_drewN _ (HRF.out _)))
        go_wp2_with fail
        refine HU3.out.mono ?_; rintro e w1 ⟨rfl, rfl⟩
        go_wp2
        go_ret2
        exact ⟨rfl, HEN.out _ (below_drewN (q1 + q2) (HRF.out W))⟩
      · have e : ok = true := HOK.out
        subst e
        have HT2 := Lib.hid (HT.out rfl rfl rfl)
        clear HT
        by_cases hK : K < 0
        · have e : B = false := by rw [HB.out, decide_eq_false (by omega)]; rfl
          subst e
          have e : V = 0 := HV.out
          subst e
          have hK0 : ¬ (0 : Int) < K := by omega
          have hK1 : ¬ (0 : Int) ≤ K := by omega
          go_enter Try.func13, Try.ntmps13
          go_wp2_with fail
          rw [HW.out]
          refine HS1.out.mono ?_; rintro e w1 ⟨rfl, q1, rfl⟩
          have HS3 := Lib.hid (HS2.out (W.drewN q1) (below_drewN _ (HRF.out _)))
          go_wp2_with fail
          refine HS3.out.mono ?_; rintro e w1 ⟨rfl, q2, rfl⟩
          have HU3 := Lib.hid (HU.out (W.drewN (q1 + q2)) (below_drewN _ (HRF.out _)))
          go_wp2_with fail
          refine HU3.out.mono ?_; rintro e w1 ⟨rfl, rfl⟩
          have HT3 := Lib.hid (HT2.out (W.drewN (q1 + q2)) (below_drewN _ (HRF.out _)))
          go_wp2_with fail
          refine HT3.out.mono ?_; rintro e w1 ⟨rfl, b2⟩
          have HEND := Lib.hid (HEN.out _ (btB (below_drewN (q1 + q2) (HRF.out W)) (Nat.le_refl _) b2))
          go_wp2_with (go_at_call 27; (with_reducible refine (max1_s _ _ hK).mono ?_); rintro e w3 ⟨rfl, rfl⟩)
          go_ret2
          exact ⟨(by show Ending.returned (.tuple #[.int .i64 0, .bool (decide (0 ≤ K))]) = _; rw [decide_eq_false (by omega)]), HEND.out⟩
        · have e : B = true := by rw [HB.out, decide_eq_true (by omega)]; rfl
          subst e
          have e : V = K := HV.out
          subst e
          have hK1 : (0 : Int) ≤ V := by omega
          have HMX : Hid (∀ w9, Calls Try.prog 27 #[.int .i64 V, .int .i64 0] w9 (fun e w' => e = .returned (.int .i64 V) ∧ w9 = w')) := fun w9 => max0_s V w9 hK1
          go_enter Try.func13, Try.ntmps13
          go_wp2_with fail
          rw [HW.out]
          refine HS1.out.mono ?_; rintro e w1 ⟨rfl, q1, rfl⟩
          have HS3 := Lib.hid (HS2.out (W.drewN q1) (below_drewN _ (HRF.out _)))
          go_wp2_with fail
          refine HS3.out.mono ?_; rintro e w1 ⟨rfl, q2, rfl⟩
          have HU3 := Lib.hid (HU.out (W.drewN (q1 + q2)) (below_drewN _ (HRF.out _)))
          go_wp2_with fail
          refine HU3.out.mono ?_; rintro e w1 ⟨rfl, rfl⟩
          have HT3 := Lib.hid (HT2.out (W.drewN (q1 + q2)) (below_drewN _ (HRF.out _)))
          go_wp2_with fail
          refine HT3.out.mono ?_; rintro e w1 ⟨rfl, b2⟩
          have HEND := Lib.hid (HEN.out _ (btB (below_drewN (q1 + q2) (HRF.out W)) (Nat.le_refl _) b2))
          go_wp2_with (go_at_call 27; (with_reducible refine (HMX.out _).mono ?_); rintro e w3 ⟨rfl, rfl⟩)
          go_ret2
          exact ⟨rfl, HEND.out⟩
end Go.Proofs.Ytbjgfbhfmaddgaa.Pv
