/- The walk of laws.FnLruIncluded: the call returns true and writes nothing that was there. -/
import Derived.Test.YtbjgfbhfmaddgaaInC
import Derived.WalkMore
namespace Go.Proofs.Ytbjgfbhfmaddgaa.fnLruIncluded
open Go.RowKit Tr Pv
set_option maxHeartbeats 8000000 in
set_option maxRecDepth 100000 in
theorem walk (a0 : Option Addr) (len0 cap0 : Nat) (z0 : List Int) (a1 : Option Addr) (len1 cap1 : Nat) (z1 : List Int) (w : World) (w0 : IsRow .u8 w a0 len0 cap0 z0) (w1 : IsRow .u8 w a1 len1 cap1 z1) :
    Calls Try.prog 5 #[.slice a0 len0 cap0, .slice a1 len1 cap1] w fun e w' => e = .returned (.bool true) ∧ Below w.heap.size w w' := by
  by_cases hl : 48 < len0 ∨ 48 < len1
  · go_enter Try.func5, Try.ntmps5
    go_wp2_with (go_at_call 15; refine (R8.long_yes _ _ _ _ _ _ _ hl).mono ?_; rintro e w' ⟨rfl, rfl⟩)
    go_ret
    exact ⟨rfl, Below.refl _ _⟩
  · have l0 : len0 ≤ 48 := by omega
    have l1 : len1 ≤ 48 := by omega
    clear hl
    have HU := Lib.hid (R8.uses_any a0 len0 cap0 z0 w l0 w0)
    have HAT := Lib.hid (fun (w' : World) (hb : Below w.heap.size w w') => R8.at_any a1 len1 cap1 z1 w' (isRow_below w1 hb) 0 6 (by omega) (by omega) (by omega) (by omega))
    have HAT2 := Lib.hid (fun (w' : World) (hb : Below w.heap.size w w') (q : Int) (h1 : 1 ≤ q) (h2 : q ≤ 6) => R8.at_any a1 len1 cap1 z1 w' (isRow_below w1 hb) 1 q (by omega) (by omega) h1 (by omega))
    clear w0 w1
    go_enter Try.func5, Try.ntmps5
    go_wp2_with (go_at_call 15; refine (R8.long_no _ _ _ _ _ _ _ l0 l1).mono ?_; rintro e w' ⟨rfl, rfl⟩)
    refine HU.out.mono ?_
    rintro e wu ⟨v, l, rfl, hok, hl13, o1, b1⟩
    obtain ⟨av, cv, hvv⟩ := o1.form
    subst hvv
    have HRU := Lib.hid (fun (w' : World) (hb : Below wu.heap.size wu w') => (o1.below hb (Nat.le_refl _)).rd)
    have HB1 := Lib.hid b1
    have hlx : l.length ≤ 1048576 := by omega
    clear HU o1 b1
    go_wp2_with fail
    refine (HAT.out wu HB1.out).mono ?_
    rintro e wv ⟨r, hr0, hr1, rfl, rfl⟩
    obtain ⟨n, hn⟩ : ∃ n : Nat, 1 + r = (n : Int) := ⟨(1 + r).toNat, by omega⟩
    have h1 : 1 ≤ n := by omega
    have h6 : n ≤ 6 := by omega
    have HN := Lib.hid hn
    have hq1 : (1 : Int) ≤ 6 - (n : Int) + 1 := by omega
    have hq2 : 6 - (n : Int) + 1 ≤ 6 := by omega
    go_wp2_with fail
    clear hn HN
    refine (HAT2.out wu HB1.out (6 - (n : Int) + 1) hq1 hq2).mono ?_
    rintro e wv ⟨r2, hr2, hr3, rfl, rfl⟩
    obtain ⟨m, hm⟩ : ∃ m : Nat, (n : Int) + r2 = (m : Int) := ⟨((n : Int) + r2).toNat, by omega⟩
    have hnm : n ≤ m := by omega
    have hm6 : m ≤ 6 := by omega
    have hm1 : 1 ≤ m := by omega
    have HLR := Lib.hid (fun w' => lru_yes n h1 h6 w')
    have HLM := Lib.hid (fun w' => lru_yes m hm1 hm6 w')
    obtain ⟨i1, i2, i3⟩ := lru_incl n m h1 hnm hm6 l hok
    have HIN := Lib.hid (fun (w' : World) (v v' : Value) (hb : Below wu.heap.size wu w') (h : RdP w' v (polP n yng n) (rowL n (yng (n - 1)))) (h' : RdP w' v' (polP m yng m) (rowL m (yng (m - 1)))) => show Calls Try.prog 10 #[v, v', .slice av l.length cv] w' (BbQ true true w') from by
      have q := inc_i h h' (HRU.out w' hb) hlx
      rw [i1, i2] at q
      exact q)
    have HFB := Lib.hid (fun (w' : World) (v v' : Value) (hb : Below wu.heap.size wu w') (h : RdP w' v (polP n yng n) (rowL n (yng (n - 1)))) (h' : RdP w' v' (polP m yng m) (rowL m (yng (m - 1)))) => show Calls Try.prog 14 #[v, v', .slice av l.length cv] w' (IbQ (fbrV (polP n yng n) (rowL n (yng (n - 1))) (polP m yng m) (rowL m (yng (m - 1))) l) false w') from by
      have q := fbr_i h h' (HRU.out w' hb) hlx
      rw [i3] at q
      exact q)
    have HPL := Lib.hid (fun (w' : World) (B T : Nat) (v : Value) (h : OwnP w' B T v (polP n yng n) (rowL n (yng (n - 1)))) => rdP_lruI n h6 h)
    have HPM := Lib.hid (fun (w' : World) (B T : Nat) (v : Value) (h : OwnP w' B T v (polP m yng m) (rowL m (yng (m - 1)))) => rdP_lruI m hm6 h)
    clear i1 i2 i3 hok HAT HAT2 HRU
    generalize fbrV (polP n yng n) (rowL n (yng (n - 1))) (polP m yng m) (rowL m (yng (m - 1))) l = fv at *
    generalize hh1 : polP n yng n = hs1 at *
    generalize hh2 : polP m yng m = hs2 at *
    generalize hh3 : rowL n (yng (n - 1)) = ms1 at *
    generalize hh4 : rowL m (yng (m - 1)) = ms2 at *
    clear hh1 hh2 hh3 hh4
    generalize l.length = L at *
    have HM := Lib.hid hm
    go_wp2_with fail
    clear hm HM
    refine (HLR.out _).mono ?_
    rintro e w2 ⟨v2, rfl, ov, b2⟩
    obtain ⟨xa, xn, xc, xa', xn', xc', ex⟩ := ov.form
    subst ex
    go_wp2_with fail
    have BX := Blk.newAt w2 w2.heap.size [.slice xa xn xc, .slice xa' xn' xc'] 29 rfl
    have b3 := (Below.refl w2.heap.size w2).alloc (Nat.le_refl _) (.cells [.slice xa xn xc, .slice xa' xn' xc'].toArray 29)
    have hX := HPL.out _ _ _ _ (ov.below b3 (Nat.le_refl _))
    obtain ⟨w3, hw3⟩ : ∃ w3, w3 = w2.alloc (.cells #[.slice xa xn xc, .slice xa' xn' xc'] 29) := ⟨_, rfl⟩
    rw [← hw3] at BX b3 hX ⊢
    clear hw3
    have b13 := bt b2 b3
    have HX := Lib.hid (fun (w' : World) (hb : Below w3.heap.size w3 w') => (show (w'.cell? ⟨w2.heap.size, 0, none⟩ = some (.slice xa xn xc) ∧ w'.cell? ⟨w2.heap.size, 1, none⟩ = some (.slice xa' xn' xc')) ∧ RdP w' (.agg #[.slice xa xn xc, .slice xa' xn' xc']) hs1 ms1 from ⟨⟨(BX.below hb BX.lt).cell 0, (BX.below hb BX.lt).cell 1⟩, rdp_below hX hb⟩))
    have hlt3 := BX.lt
    have B13 := Lib.hid b13
    clear ov b2 b3 BX hX HPL HLR b13
    refine (HLM.out _).mono ?_
    rintro e w4 ⟨v4, rfl, ov, b4⟩
    obtain ⟨ya, yn, yc, ya', yn', yc', ex⟩ := ov.form
    subst ex
    have hsz4 := b4.size
    have BY := Blk.newAt w4 w4.heap.size [.slice ya yn yc, .slice ya' yn' yc'] 29 rfl
    have b5 := (Below.refl w4.heap.size w4).alloc (Nat.le_refl _) (.cells [.slice ya yn yc, .slice ya' yn' yc'].toArray 29)
    have hY := HPM.out _ _ _ _ (ov.below b5 (Nat.le_refl _))
    have B35 := Lib.hid (bt b4 b5)
    obtain ⟨⟨x0, x1⟩, hX5⟩ := HX.out _ B35.out
    have y0 := BY.cell 0
    have y1 := BY.cell 1
    have HC1 := Lib.hid (HIN.out _ _ _ (bt B13.out B35.out) hX5 hY)
    have HY := Lib.hid (fun (w' : World) (hb : Below (w4.alloc (.cells [.slice ya yn yc, .slice ya' yn' yc'].toArray 29)).heap.size (w4.alloc (.cells [.slice ya yn yc, .slice ya' yn' yc'].toArray 29)) w') => (show (w'.cell? ⟨w4.heap.size, 0, none⟩ = some (.slice ya yn yc) ∧ w'.cell? ⟨w4.heap.size, 1, none⟩ = some (.slice ya' yn' yc')) ∧ RdP w' (.agg #[.slice ya yn yc, .slice ya' yn' yc']) hs2 ms2 from ⟨⟨(BY.below hb BY.lt).cell 0, (BY.below hb BY.lt).cell 1⟩, rdp_below hY hb⟩))
    clear ov b4 b5 BY hY hX5 HPM HLM HIN
    go_wp2_with fail
    refine HC1.out.mono ?_
    rintro e w6 ⟨rfl, b6⟩
    have B36 := Lib.hid (bt B35.out b6)
    obtain ⟨⟨y0, y1⟩, hY6⟩ := HY.out w6 b6
    obtain ⟨⟨x0, x1⟩, hX6⟩ := HX.out w6 B36.out
    have HC2 := Lib.hid (HFB.out w6 _ _ (bt B13.out B36.out) hX6 hY6)
    clear b6 hY6 hX6 HY HX HFB HC1 B35
    go_wp2_with fail
    refine HC2.out.mono ?_
    rintro e w7 ⟨rfl, b7⟩
    have HB7 := Lib.hid (bt HB1.out (bt (bt B13.out B36.out) b7))
    clear b7
    go_wp2
    go_ret
    exact ⟨rfl, HB7.out⟩
end Go.Proofs.Ytbjgfbhfmaddgaa.fnLruIncluded
