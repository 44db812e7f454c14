/- The walk of laws.FnKnown: the call returns true and writes nothing that was there. -/
import Derived.Test.YtellclgpejmmaaaCkn2
import Derived.Test.YtellclgpejmmaaaCb10All
import Derived.WalkMore
namespace Go.Proofs.Ytellclgpejmmaaa.fnKnown
open Go.RowKit Pv
theorem rd_at {w : World} {a : Option Addr} {n c : Nat} {xs : List Int} (h : Rd w (.slice a n c) xs) (i : Nat) (hi : i < n) :
    ∃ b off, a = some ⟨b, off, none⟩ ∧ w.cell? ⟨b, off + i, none⟩ = some (.int .i64 (xs.getD i 0)) := by
  obtain ⟨a', c', e, _, _, hr⟩ := h
  injection e with e1 e2 e3
  subst e1
  obtain ⟨b, off, ha, hc, _⟩ := hr i (by omega)
  exact ⟨b, off, ha, hc⟩
theorem rd_row {w : World} {a : Option Addr} {n c : Nat} {xs : List Int} (h : Rd w (.slice a n c) xs) : Row w a xs := by
  obtain ⟨a', c', e, _, _, hr⟩ := h
  injection e with e1 e2 e3
  subst e1
  exact hr
theorem told_get' (f : Nat → Int) (n i : Nat) (h : i < n) : (Tr.told f n).getD i 0 = f i := by
  rw [List.getD_eq_getElem?_getD, List.getElem?_eq_getElem (by rw [Tr.told_length]; exact h)]
  simp [Tr.told]
theorem la_le (n : Nat) (xs : List Int) : ∀ t, t ≤ xs.length → (laT n xs t).length ≤ n
  | 0, _ => by simp [laT, sc]
  | t + 1, h => by
    rw [laT_succ n xs t (by omega)]
    have := la_le n xs t (by omega)
    split
    · rename_i hh; rw [List.length_append]; simp; omega
    · exact this
def lenV : Value → Nat
  | .slice _ n _ => n
  | _ => 0
set_option maxHeartbeats 8000000 in
set_option maxRecDepth 100000 in
theorem walk (a0 : Option Addr) (len0 cap0 : Nat) (z0 : List Int) (a1 : Option Addr) (len1 cap1 : Nat) (z1 : List Int) (w : World) (w0 : IsRow .u8 w a0 len0 cap0 z0) (w1 : IsRow .u8 w a1 len1 cap1 z1) :
    Calls Try.prog 3 #[.slice a0 len0 cap0, .slice a1 len1 cap1] w fun e w' => e = .returned (.bool true) ∧ Below w.heap.size w w' := by
  by_cases hl : 1048576 < len0 ∨ 1048576 < len1
  · go_enter Try.func3, Try.ntmps3
    go_wp2_with (go_at_call 5; refine (B10.long_yes _ _ _ _ _ _ _ hl).mono ?_; rintro e w' ⟨rfl, rfl⟩)
    go_ret
    exact ⟨rfl, Below.refl _ _⟩
  · have l0 : len0 ≤ 1048576 := by omega
    have l1 : len1 ≤ 1048576 := by omega
    clear hl
    have HU := Lib.hid (Tr.uses10 a0 len0 cap0 z0 w l0 w0)
    have HAT := Lib.hid (fun (w' : World) (hb : Below w.heap.size w w') => B10.at_any a1 len1 cap1 z1 w' (isRow_below w1 hb) 0 6 (by omega) (by omega) (by omega) (by omega))
    clear w0 w1
    go_enter Try.func3, Try.ntmps3
    go_wp2_with (go_at_call 5; refine (B10.long_no _ _ _ _ _ _ _ l0 l1).mono ?_; rintro e w' ⟨rfl, rfl⟩)
    refine HU.out.mono ?_
    rintro e wu ⟨v, l, rfl, hok, hl29, hmem, o1, b1⟩
    obtain ⟨av, cv, hvv⟩ := o1.form
    subst hvv
    have HRU := Lib.hid (fun (w' : World) (hb : Below wu.heap.size wu w') => (o1.below hb (Nat.le_refl _)).rd)
    have HB1 := Lib.hid b1
    clear HU o1 b1
    go_wp2_with fail
    refine (HAT.out wu HB1.out).mono ?_
    rintro e wv ⟨r, hr0, hr1, rfl, rfl⟩
    obtain ⟨n, hn⟩ : ∃ n : Nat, 1 + r = (n : Int) := ⟨(1 + r).toNat, by omega⟩
    have h1 : 1 ≤ n := by omega
    have h6 : n ≤ 6 := by omega
    have HN := Lib.hid hn
    have HNN : ∀ y ∈ l, 0 ≤ y := fun y hy => (hmem y hy).1
    have HLR := Lib.hid (fun w' => lru_yes n h1 h6 w')
    have HFR := Lib.hid (fun w' => fif_yes n h1 h6 w')
    have HRL := Lib.hid (fun (w' : World) (v : Value) (hb : Below wu.heap.size wu w') (h : RdP w' v (polP n yng n) (rowL n (yng (n - 1)))) => run_lru n h1 h6 l hok h (HRU.out w' hb))
    have HRF := Lib.hid (fun (w' : World) (v : Value) (hb : Below wu.heap.size wu w') (h : RdP w' v (polP n (fun _ => sameO) n) (rowL n (yng (n - 1)))) => run_fif n h1 h6 l hok h (HRU.out w' hb))
    have HPL := Lib.hid (fun (w' : World) (B T : Nat) (v : Value) (h : OwnP w' B T v (polP n yng n) (rowL n (yng (n - 1)))) => rdP_of n h6 yng _ h)
    have HPF := Lib.hid (fun (w' : World) (B T : Nat) (v : Value) (h : OwnP w' B T v (polP n (fun _ => sameO) n) (rowL n (yng (n - 1)))) => rdP_of n h6 (fun _ => sameO) _ h)
    have HLL := Lib.hid (lruK_len n h1 h6 l l.length)
    have HFL := Lib.hid (fifK_len n h1 h6 l l.length)
    have HLA := Lib.hid (last_lru n l h1 HNN)
    have HFI := Lib.hid (last_fif n l h1)
    have HLS := Lib.hid (fun t (ht : t < l.length) => laT_succ n l t ht)
    have HTS := Lib.hid (fun t => tl_step n n l t)
    have HLE := Lib.hid (fun t (ht : t ≤ l.length) => la_le n l t ht)
    have hll : l.length ≤ 29 := hl29
    clear hok hmem HNN hl29 HAT
    generalize hL : l.length = L at *
    generalize hs1 : polP n yng n = hs1 at *
    generalize hs2 : polP n (fun _ => sameO) n = hs2 at *
    generalize hms : rowL n (yng (n - 1)) = ms at *
    clear hs1 hs2 hms hL
    go_wp2_with fail
    clear hn HN
    refine (HLR.out _).mono ?_
    rintro e w2 ⟨v2, rfl, ov, b2⟩
    obtain ⟨xa, xn, xc, xa', xn', xc', ex⟩ := ov.form
    subst ex
    go_wp2_with fail
    have BX := Blk.newAt w2 w2.heap.size [.slice xa xn xc, .slice xa' xn' xc'] 29 rfl
    have b3 := (Below.refl w2.heap.size w2).alloc (Nat.le_refl _) (.cells [.slice xa xn xc, .slice xa' xn' xc'].toArray 29)
    have hX := HPL.out _ _ _ _ (ov.below b3 (Nat.le_refl _))
    have eL : (w2.alloc (.cells #[.slice xa xn xc, .slice xa' xn' xc'] 29)) = w2.alloc (.cells [.slice xa xn xc, .slice xa' xn' xc'].toArray 29) := rfl
    rw [eL]
    have hsz3 : w2.heap.size < (w2.alloc (.cells [.slice xa xn xc, .slice xa' xn' xc'].toArray 29)).heap.size := BX.lt
    generalize w2.alloc (.cells [.slice xa xn xc, .slice xa' xn' xc'].toArray 29) = w3 at *
    have b13 := bt b2 b3
    have HX := Lib.hid (fun (w' : World) (hb : Below w3.heap.size w3 w') => (show (w'.cell? ⟨w2.heap.size, 0, none⟩ = some (.slice xa xn xc) ∧ w'.cell? ⟨w2.heap.size, 1, none⟩ = some (.slice xa' xn' xc')) ∧ RdP w' (.agg #[.slice xa xn xc, .slice xa' xn' xc']) hs1 ms from ⟨⟨(BX.below hb BX.lt).cell 0, (BX.below hb BX.lt).cell 1⟩, hX.below hb⟩))
    clear eL ov b2 b3 BX hX HPL HLR
    refine (HFR.out _).mono ?_
    rintro e w4 ⟨v4, rfl, ov, b4⟩
    obtain ⟨ya, yn, yc, ya', yn', yc', ex⟩ := ov.form
    subst ex
    have hsz4 := b4.size
    have hlt4 : w2.heap.size < w4.heap.size := by omega
    obtain ⟨⟨x0, x1⟩, _⟩ := HX.out w4 b4
    have BY := Blk.newAt w4 w4.heap.size [.slice ya yn yc, .slice ya' yn' yc'] 29 rfl
    have b5 := (Below.refl w4.heap.size w4).alloc (Nat.le_refl _) (.cells [.slice ya yn yc, .slice ya' yn' yc'].toArray 29)
    have hY := HPF.out _ _ _ _ (ov.below b5 (Nat.le_refl _))
    obtain ⟨⟨z0, z1⟩, _⟩ := HX.out _ (bt b4 b5)
    go_wp2_with fail
    have eL : (w4.alloc (.cells #[.slice ya yn yc, .slice ya' yn' yc'] 29)) = w4.alloc (.cells [.slice ya yn yc, .slice ya' yn' yc'].toArray 29) := rfl
    rw [eL]
    clear z0 z1 x0 x1
    generalize w4.alloc (.cells [.slice ya yn yc, .slice ya' yn' yc'].toArray 29) = w5 at *
    have b35 := bt b4 b5
    have b15 := bt b13 b35
    have HY := Lib.hid (fun (w' : World) (hb : Below w5.heap.size w5 w') => (show (w'.cell? ⟨w4.heap.size, 0, none⟩ = some (.slice ya yn yc) ∧ w'.cell? ⟨w4.heap.size, 1, none⟩ = some (.slice ya' yn' yc')) ∧ RdP w' (.agg #[.slice ya yn yc, .slice ya' yn' yc']) hs2 ms from ⟨⟨(BY.below hb BY.lt).cell 0, (BY.below hb BY.lt).cell 1⟩, hY.below hb⟩))
    refine (HRL.out w5 _ b15 (HX.out w5 b35).2).mono ?_
    rintro e w6 ⟨u1, u2, rfl, p1, p2, _, b6⟩
    obtain ⟨ua, uc, eu, _⟩ := p1.rd
    subst eu
    obtain ⟨ta, tc, et, _⟩ := p2.rd
    rw [HLL.out] at et
    subst et
    obtain ⟨⟨z0, z1⟩, hY6⟩ := HY.out w6 b6
    have b16 := bt b15 b6
    have HR6 := Lib.hid (HRF.out w6 _ b16 hY6)
    clear eL ov b4 b5 BY hY HPF HFR HX HRL HRF hY6 b13 b35 p1
    go_wp2_with fail
    refine HR6.out.mono ?_
    rintro e w7 ⟨u3, u4, rfl, p3, p4, _, b7⟩
    obtain ⟨sa, sc', es, _⟩ := p3.rd
    rw [Tr.told_length] at es
    subst es
    obtain ⟨qa, qc, eq, _⟩ := p4.rd
    rw [HFL.out] at eq
    subst eq
    have b17 := bt b16 b7
    have HR2 := Lib.hid (fun (w' : World) (hb : Below w7.heap.size w7 w') => ((p2.below b7 (Nat.le_refl _)).below hb (Nat.le_refl _)).rd)
    have HR3 := Lib.hid (fun (w' : World) (hb : Below w7.heap.size w7 w') => (p3.below hb (Nat.le_refl _)).rd)
    have HR4 := Lib.hid (fun (w' : World) (hb : Below w7.heap.size w7 w') => (p4.below hb (Nat.le_refl _)).rd)
    have HR1 := Lib.hid (fun (w' : World) (hb : Below w7.heap.size w7 w') => HRU.out w' (bt b17 hb))
    have HBB := Lib.hid (fun (w' : World) (hb : Below w7.heap.size w7 w') => bt HB1.out (bt b17 hb))
    clear z0 z1 b6 b7 b15 b16 b17 p2 p3 p4 HR6 HY HRU HB1
    have o8 := Own.lit0 w7
    have b8 := (Below.refl w7.heap.size w7).alloc (Nat.le_refl _) (.cells #[] 2)
    have o9 := Own.lit0 (w7.alloc (.cells #[] 2))
    have b9 := (Below.refl _ (w7.alloc (.cells #[] 2))).alloc (Nat.le_refl _) (.cells #[] 2)
    have o89 := o8.below b9 (Nat.le_refl _)
    have hap := Apart.new o8 (fun k hk => (o9.block k hk).1) (Nat.le_refl _)
    have HK := Lib.hid (show Kn n l w7.heap.size w7 0 _ _ _ from ⟨o89, (by rw [show (tlT n l 0).take n = [] from by simp [tlT]]; exact o9.mono b8.size), hap, bt b8 b9⟩)
    have es8 : (w7.alloc (.cells #[] 2)).heap.size = w7.heap.size + 1 := Array.size_push _
    rw [es8] at HK
    clear o8 b8 o9 b9 o89 hap es8
    go_wp2
    go_loopw [17, 18, 19] (fun v1 v2 i wr => ∃ t : Nat, t ≤ L ∧ i = .int .i64 ((L : Int) - 1 - t) ∧ Hid (Kn n l w7.heap.size w7 t v1 v2 wr)) (fun _ _ i _ => (intOf i + 1).toNat)
    case atStart => exact ⟨0, Nat.zero_le _, by simp, HK⟩
    case round =>
      obtain ⟨t, ht, rfl, hk⟩ := hrel
      obtain ⟨q1, q2, hap, hb⟩ := hk.out
      by_cases hlt : t < L
      · obtain ⟨p, hp⟩ : ∃ p : Nat, (L : Int) - 1 - t = (p : Int) := ⟨L - 1 - t, by omega⟩
        have hpn : L - 1 - t = p := by omega
        have hpL : p < L := by omega
        have hpLi : (p : Int) < L := by omega
        obtain ⟨bu, offu, rfl, c1⟩ := rd_at (HR1.out wr hb) p hpL
        obtain ⟨bh, offh, rfl, c2⟩ := rd_at (HR3.out wr hb) p hpL
        have K1 := Lib.hid (fun (w' : World) (hb' : Below w7.heap.size w7 w') => (show w'.cell? ⟨bu, offu + p, none⟩ = some (.int .i64 (l.getD p 0)) from by
          obtain ⟨b', off', e, h⟩ := rd_at (HR1.out w' hb') p hpL
          injection e with e
          injection e with e2 e3
          subst e2 e3
          exact h))
        have K2 := Lib.hid (fun (w' : World) (hb' : Below w7.heap.size w7 w') => (show w'.cell? ⟨bh, offh + p, none⟩ = some (.int .i64 ((Tr.told (fifH n l) L).getD p 0)) from by
          obtain ⟨b', off', e, h⟩ := rd_at (HR3.out w' hb') p hpL
          injection e with e
          injection e with e2 e3
          subst e2 e3
          exact h))
        rw [told_get' _ _ _ hpL] at c2 K2
        have hH : fifH n l p = if l.getD p 0 ∈ fifK n l p then 1 else 0 := rfl
        have e1 := HLS.out t hlt
        have e2 := HTS.out t
        have hle := HLE.out t ht
        have hle2 : ((tlT n l t).take n).length ≤ n := List.length_take_le _ _
        rw [hpn] at e1 e2
        obtain ⟨fa, fc, ef⟩ := q1.form
        obtain ⟨ga, gc, eg⟩ := q2.form
        subst ef eg
        have HA := Lib.hid (Tr.has10_s fa fc (laT n l t) (l.getD p 0) wr (by omega) (rd_row q1.rd))
        have hsz := hb.size
        have E1 := Lib.hid e1
        have E2 := Lib.hid e2
        have Q1 := Lib.hid q1
        have Q2 := Lib.hid q2
        have HAP := Lib.hid hap
        have HB := Lib.hid hb
        have HH := Lib.hid hH
        clear e1 e2 q1 q2 hap hb hk hH
        generalize laT n l t = A at *
        obtain ⟨A', hA'⟩ : ∃ A', laT n l (t + 1) = A' := ⟨_, rfl⟩
        have HA' := Lib.hid hA'
        rw [hA'] at E1
        clear hA'
        generalize (tlT n l t).take n = C at *
        obtain ⟨C', hC'⟩ : ∃ C', (tlT n l (t + 1)).take n = C' := ⟨_, rfl⟩
        have HC' := Lib.hid hC'
        rw [hC'] at E2
        clear hC'
        generalize fifK n l p = F at *
        generalize fifH n l p = h at *
        generalize l.getD p 0 = x at *
        have hfin : ((p : Int) - 1) = (L : Int) - 1 - ((t + 1 : Nat) : Int) := by omega
        have HF := Lib.hid hfin
        have HP := Lib.hid hp
        clear hfin hpn
        rw [hp]
        clear hp
        by_cases hx1 : x ∈ A
        · skip
          by_cases hy1 : x ∈ F
          · skip
            have hc : A.contains x = true := by rw [List.contains_eq_mem]; exact decide_eq_true hx1
            have eA : A' = A := by rw [E1.out, if_neg (fun hh => hh.1 hx1)]
            have eh : h = 1 := by rw [HH.out, if_pos hy1]
            have eC : C' = C := by rw [E2.out, if_neg (fun hh => hh.1 hy1)]
            rw [hc] at HA
            subst eh
            clear E1 E2 HH
            go_wp2_with (go_at_call 11; (with_reducible refine HA.out.mono ?_); rintro e wh ⟨rfl, rfl⟩)
            go_roundw
            case rel => exact ⟨t + 1, by omega, congrArg (Value.int .i64) HF.out, (show Kn n l w7.heap.size w7 (t + 1) _ _ _ from ⟨(by rw [HA'.out, eA]; exact Q1.out), (by rw [HC'.out, eC]; exact Q2.out), HAP.out, HB.out⟩)⟩
            case measure => simp [intOf] <;> omega
          · by_cases hy2 : C.length < n
            · skip
              have hc : A.contains x = true := by rw [List.contains_eq_mem]; exact decide_eq_true hx1
              have eA : A' = A := by rw [E1.out, if_neg (fun hh => hh.1 hx1)]
              have eh : h = 0 := by rw [HH.out, if_neg hy1]
              have hy2i : (C.length : Int) < n := by omega
              have eC : C' = C ++ [x] := by rw [E2.out, if_pos ⟨hy1, hy2⟩]
              rw [hc] at HA
              subst eh
              clear E1 E2 HH
              have hq2 : C.length + 1 ≤ 1000000000 := by omega
              go_wp2_with (first | (go_at_call 11; (with_reducible refine HA.out.mono ?_); rintro e wh ⟨rfl, rfl⟩) | (at_builtin; refine wpList_appG _ rfl _ _ rfl w7.heap.size _ C _ ?_ ?_ Q2.out hq2 hsz ?_; rfl; rfl))
              intro v2' w9 o2'' b9 hother
              obtain ⟨o1'', ap''⟩ := hother _ _ _ Q1.out HAP.out.symm
              have hb9 := HB.out.trans b9
              clear hother b9
              go_wp2
              go_roundw
              case rel => exact ⟨t + 1, by omega, congrArg (Value.int .i64) HF.out, (show Kn n l w7.heap.size w7 (t + 1) _ _ _ from ⟨(by rw [HA'.out, eA]; exact o1''), (by rw [HC'.out, eC]; exact o2''), ap''.symm, hb9⟩)⟩
              case measure => simp [intOf] <;> omega
            · skip
              have hc : A.contains x = true := by rw [List.contains_eq_mem]; exact decide_eq_true hx1
              have eA : A' = A := by rw [E1.out, if_neg (fun hh => hh.1 hx1)]
              have eh : h = 0 := by rw [HH.out, if_neg hy1]
              have hy2i : ¬ (C.length : Int) < n := by omega
              have eC : C' = C := by rw [E2.out, if_neg (fun hh => hy2 hh.2)]
              rw [hc] at HA
              subst eh
              clear E1 E2 HH
              go_wp2_with (go_at_call 11; (with_reducible refine HA.out.mono ?_); rintro e wh ⟨rfl, rfl⟩)
              go_roundw
              case rel => exact ⟨t + 1, by omega, congrArg (Value.int .i64) HF.out, (show Kn n l w7.heap.size w7 (t + 1) _ _ _ from ⟨(by rw [HA'.out, eA]; exact Q1.out), (by rw [HC'.out, eC]; exact Q2.out), HAP.out, HB.out⟩)⟩
              case measure => simp [intOf] <;> omega
        · by_cases hx2 : A.length < n
          · skip
            by_cases hy1 : x ∈ F
            · skip
              have hc : A.contains x = false := by rw [List.contains_eq_mem]; exact decide_eq_false hx1
              have hx2i : (A.length : Int) < n := by omega
              have eA : A' = A ++ [x] := by rw [E1.out, if_pos ⟨hx1, hx2⟩]
              have eh : h = 1 := by rw [HH.out, if_pos hy1]
              have eC : C' = C := by rw [E2.out, if_neg (fun hh => hh.1 hy1)]
              rw [hc] at HA
              subst eh
              clear E1 E2 HH
              have hq1 : A.length + 1 ≤ 1000000000 := by omega
              go_wp2_with (first | (go_at_call 11; (with_reducible refine HA.out.mono ?_); rintro e wh ⟨rfl, rfl⟩) | (at_builtin; refine wpList_appG _ rfl _ _ rfl w7.heap.size _ A _ ?_ ?_ Q1.out hq1 hsz ?_; rfl; rfl))
              intro v1' w8 o1' b8 hother
              obtain ⟨o2', ap'⟩ := hother _ _ _ Q2.out HAP.out
              have hb8 := HB.out.trans b8
              have hsz8 := hb8.size
              have c1' := K1.out w8 hb8
              have c2' := K2.out w8 hb8
              clear hother b8
              go_wp2
              go_roundw
              case rel => exact ⟨t + 1, by omega, congrArg (Value.int .i64) HF.out, (show Kn n l w7.heap.size w7 (t + 1) _ _ _ from ⟨(by rw [HA'.out, eA]; exact o1'), (by rw [HC'.out, eC]; exact o2'), ap', hb8⟩)⟩
              case measure => simp [intOf] <;> omega
            · by_cases hy2 : C.length < n
              · skip
                have hc : A.contains x = false := by rw [List.contains_eq_mem]; exact decide_eq_false hx1
                have hx2i : (A.length : Int) < n := by omega
                have eA : A' = A ++ [x] := by rw [E1.out, if_pos ⟨hx1, hx2⟩]
                have eh : h = 0 := by rw [HH.out, if_neg hy1]
                have hy2i : (C.length : Int) < n := by omega
                have eC : C' = C ++ [x] := by rw [E2.out, if_pos ⟨hy1, hy2⟩]
                rw [hc] at HA
                subst eh
                clear E1 E2 HH
                have hq1 : A.length + 1 ≤ 1000000000 := by omega
                go_wp2_with (first | (go_at_call 11; (with_reducible refine HA.out.mono ?_); rintro e wh ⟨rfl, rfl⟩) | (at_builtin; refine wpList_appG _ rfl _ _ rfl w7.heap.size _ A _ ?_ ?_ Q1.out hq1 hsz ?_; rfl; rfl))
                intro v1' w8 o1' b8 hother
                obtain ⟨o2', ap'⟩ := hother _ _ _ Q2.out HAP.out
                have hb8 := HB.out.trans b8
                have hsz8 := hb8.size
                have c1' := K1.out w8 hb8
                have c2' := K2.out w8 hb8
                clear hother b8
                have hq2 : C.length + 1 ≤ 1000000000 := by omega
                go_wp2_with (at_builtin; refine wpList_appG _ rfl _ _ rfl w7.heap.size _ C _ ?_ ?_ o2' hq2 hsz8 ?_; rfl; rfl)
                intro v2' w9 o2'' b9 hother
                obtain ⟨o1'', ap''⟩ := hother _ _ _ o1' ap'.symm
                have hb9 := hb8.trans b9
                clear hother b9
                go_wp2
                go_roundw
                case rel => exact ⟨t + 1, by omega, congrArg (Value.int .i64) HF.out, (show Kn n l w7.heap.size w7 (t + 1) _ _ _ from ⟨(by rw [HA'.out, eA]; exact o1''), (by rw [HC'.out, eC]; exact o2''), ap''.symm, hb9⟩)⟩
                case measure => simp [intOf] <;> omega
              · skip
                have hc : A.contains x = false := by rw [List.contains_eq_mem]; exact decide_eq_false hx1
                have hx2i : (A.length : Int) < n := by omega
                have eA : A' = A ++ [x] := by rw [E1.out, if_pos ⟨hx1, hx2⟩]
                have eh : h = 0 := by rw [HH.out, if_neg hy1]
                have hy2i : ¬ (C.length : Int) < n := by omega
                have eC : C' = C := by rw [E2.out, if_neg (fun hh => hy2 hh.2)]
                rw [hc] at HA
                subst eh
                clear E1 E2 HH
                have hq1 : A.length + 1 ≤ 1000000000 := by omega
                go_wp2_with (first | (go_at_call 11; (with_reducible refine HA.out.mono ?_); rintro e wh ⟨rfl, rfl⟩) | (at_builtin; refine wpList_appG _ rfl _ _ rfl w7.heap.size _ A _ ?_ ?_ Q1.out hq1 hsz ?_; rfl; rfl))
                intro v1' w8 o1' b8 hother
                obtain ⟨o2', ap'⟩ := hother _ _ _ Q2.out HAP.out
                have hb8 := HB.out.trans b8
                have hsz8 := hb8.size
                have c1' := K1.out w8 hb8
                have c2' := K2.out w8 hb8
                clear hother b8
                go_wp2
                go_roundw
                case rel => exact ⟨t + 1, by omega, congrArg (Value.int .i64) HF.out, (show Kn n l w7.heap.size w7 (t + 1) _ _ _ from ⟨(by rw [HA'.out, eA]; exact o1'), (by rw [HC'.out, eC]; exact o2'), ap', hb8⟩)⟩
                case measure => simp [intOf] <;> omega
          · skip
            by_cases hy1 : x ∈ F
            · skip
              have hc : A.contains x = false := by rw [List.contains_eq_mem]; exact decide_eq_false hx1
              have hx2i : ¬ (A.length : Int) < n := by omega
              have eA : A' = A := by rw [E1.out, if_neg (fun hh => hx2 hh.2)]
              have eh : h = 1 := by rw [HH.out, if_pos hy1]
              have eC : C' = C := by rw [E2.out, if_neg (fun hh => hh.1 hy1)]
              rw [hc] at HA
              subst eh
              clear E1 E2 HH
              go_wp2_with (go_at_call 11; (with_reducible refine HA.out.mono ?_); rintro e wh ⟨rfl, rfl⟩)
              go_roundw
              case rel => exact ⟨t + 1, by omega, congrArg (Value.int .i64) HF.out, (show Kn n l w7.heap.size w7 (t + 1) _ _ _ from ⟨(by rw [HA'.out, eA]; exact Q1.out), (by rw [HC'.out, eC]; exact Q2.out), HAP.out, HB.out⟩)⟩
              case measure => simp [intOf] <;> omega
            · by_cases hy2 : C.length < n
              · skip
                have hc : A.contains x = false := by rw [List.contains_eq_mem]; exact decide_eq_false hx1
                have hx2i : ¬ (A.length : Int) < n := by omega
                have eA : A' = A := by rw [E1.out, if_neg (fun hh => hx2 hh.2)]
                have eh : h = 0 := by rw [HH.out, if_neg hy1]
                have hy2i : (C.length : Int) < n := by omega
                have eC : C' = C ++ [x] := by rw [E2.out, if_pos ⟨hy1, hy2⟩]
                rw [hc] at HA
                subst eh
                clear E1 E2 HH
                have hq2 : C.length + 1 ≤ 1000000000 := by omega
                go_wp2_with (first | (go_at_call 11; (with_reducible refine HA.out.mono ?_); rintro e wh ⟨rfl, rfl⟩) | (at_builtin; refine wpList_appG _ rfl _ _ rfl w7.heap.size _ C _ ?_ ?_ Q2.out hq2 hsz ?_; rfl; rfl))
                intro v2' w9 o2'' b9 hother
                obtain ⟨o1'', ap''⟩ := hother _ _ _ Q1.out HAP.out.symm
                have hb9 := HB.out.trans b9
                clear hother b9
                go_wp2
                go_roundw
                case rel => exact ⟨t + 1, by omega, congrArg (Value.int .i64) HF.out, (show Kn n l w7.heap.size w7 (t + 1) _ _ _ from ⟨(by rw [HA'.out, eA]; exact o1''), (by rw [HC'.out, eC]; exact o2''), ap''.symm, hb9⟩)⟩
                case measure => simp [intOf] <;> omega
              · skip
                have hc : A.contains x = false := by rw [List.contains_eq_mem]; exact decide_eq_false hx1
                have hx2i : ¬ (A.length : Int) < n := by omega
                have eA : A' = A := by rw [E1.out, if_neg (fun hh => hx2 hh.2)]
                have eh : h = 0 := by rw [HH.out, if_neg hy1]
                have hy2i : ¬ (C.length : Int) < n := by omega
                have eC : C' = C := by rw [E2.out, if_neg (fun hh => hy2 hh.2)]
                rw [hc] at HA
                subst eh
                clear E1 E2 HH
                go_wp2_with (go_at_call 11; (with_reducible refine HA.out.mono ?_); rintro e wh ⟨rfl, rfl⟩)
                go_roundw
                case rel => exact ⟨t + 1, by omega, congrArg (Value.int .i64) HF.out, (show Kn n l w7.heap.size w7 (t + 1) _ _ _ from ⟨(by rw [HA'.out, eA]; exact Q1.out), (by rw [HC'.out, eC]; exact Q2.out), HAP.out, HB.out⟩)⟩
                case measure => simp [intOf] <;> omega
      · have e : t = L := by omega
        subst e
        have hneg : ¬ (0 : Int) ≤ (t : Int) - 1 - t := by omega
        have h1L := HLA.out
        have h2L := HFI.out
        clear HLS HTS HLE HLA HFI HR1 HR3 hk HK
        obtain ⟨ga, gc, eg⟩ := q2.form
        subst eg
        generalize laT n l t = A at *
        generalize (tlT n l t).take n = C at *
        generalize lruK n l t = X at *
        generalize fifK n l t = Y at *
        have HK2 := Lib.hid (show Kp w7.heap.size w7 (A ++ List.replicate 0 (-1)) C _ _ _ from ⟨by rw [List.replicate_zero, List.append_nil]; exact q1, q2, hap, hb⟩)
        have H1L := Lib.hid h1L
        have H2L := Lib.hid h2L
        clear q1 q2 hap hb h1L h2L
        go_wp2
        go_loopw [17] (fun v1 wr' => ∃ m : Nat, m ≤ n - A.length ∧ Hid (Kp w7.heap.size w7 (A ++ List.replicate m (-1)) C v1 (.slice ga C.length gc) wr')) (fun v1 _ => n - lenV v1)
        case atStart => exact ⟨0, Nat.zero_le _, HK2⟩
        case round =>
          obtain ⟨m, hm, hk⟩ := hrel
          obtain ⟨q1, q2, hap, hb⟩ := hk.out
          obtain ⟨fa, fc, ef⟩ := q1.form
          subst ef
          have hsz := hb.size
          have hK : (A ++ List.replicate m (-1)).length = A.length + m := by rw [List.length_append, List.length_replicate]
          by_cases hlt2 : A.length + m < n
          · have hq : (A ++ List.replicate m (-1)).length + 1 ≤ 1000000000 := by omega
            have hlti : ((A ++ List.replicate m (-1)).length : Int) < n := by omega
            have HK := Lib.hid hK
            have Q1 := Lib.hid q1
            have Q2 := Lib.hid q2
            have HAP := Lib.hid hap
            have HB := Lib.hid hb
            have HM := Lib.hid (rep_succ A m)
            clear q1 q2 hap hb hk HK2 hK
            generalize (A ++ List.replicate m (-1)) = L1 at *
            generalize C.length = lc at *
            go_wp2_with (at_builtin; refine wpList_appG _ rfl _ _ rfl w7.heap.size _ L1 _ ?_ ?_ Q1.out hq hsz ?_; rfl; rfl)
            intro v1' w9 o1' b9 hother
            obtain ⟨o2', ap'⟩ := hother _ _ _ Q2.out HAP.out
            rw [HM.out] at o1'
            obtain ⟨fa', fc', ef'⟩ := o1'.form
            subst ef'
            have hb9 := HB.out.trans b9
            clear hother
            go_wp2
            go_roundw
            case rel => exact ⟨m + 1, by omega, ⟨o1', o2', ap', hb9⟩⟩
            case measure =>
              have := HK.out
              simp only [lenV, List.length_append, List.length_replicate]
              omega
          · have em : m = n - A.length := by omega
            have hneg2 : ¬ ((A ++ List.replicate m (-1)).length : Int) < n := by omega
            clear hK
            generalize (A ++ List.replicate m (-1)).length = K at *
            rw [em, H1L.out] at q1
            clear hk HK2 em H1L
            have HK3 := Lib.hid (show Kp w7.heap.size w7 (C ++ List.replicate 0 (-1)) X _ _ _ from ⟨by rw [List.replicate_zero, List.append_nil]; exact q2, q1, hap.symm, hb⟩)
            clear q1 q2 hap hb
            go_wp2
            go_loopw [18] (fun v2 wr' => ∃ m : Nat, m ≤ n - C.length ∧ Hid (Kp w7.heap.size w7 (C ++ List.replicate m (-1)) X v2 (.slice fa K fc) wr')) (fun v2 _ => n - lenV v2)
            case atStart => exact ⟨0, Nat.zero_le _, HK3⟩
            case round =>
              obtain ⟨m, hm, hk⟩ := hrel
              obtain ⟨q1, q2, hap, hb⟩ := hk.out
              obtain ⟨ea, ec, ef⟩ := q1.form
              subst ef
              have hsz := hb.size
              have hK : (C ++ List.replicate m (-1)).length = C.length + m := by rw [List.length_append, List.length_replicate]
              by_cases hlt2 : C.length + m < n
              · have hq : (C ++ List.replicate m (-1)).length + 1 ≤ 1000000000 := by omega
                have hlti : ((C ++ List.replicate m (-1)).length : Int) < n := by omega
                have HK := Lib.hid hK
                have Q1 := Lib.hid q1
                have Q2 := Lib.hid q2
                have HAP := Lib.hid hap
                have HB := Lib.hid hb
                have HM := Lib.hid (rep_succ C m)
                clear q1 q2 hap hb hk HK3 hK
                generalize (C ++ List.replicate m (-1)) = L1 at *
                go_wp2_with (at_builtin; refine wpList_appG _ rfl _ _ rfl w7.heap.size _ L1 _ ?_ ?_ Q1.out hq hsz ?_; rfl; rfl)
                intro v1' w9 o1' b9 hother
                obtain ⟨o2', ap'⟩ := hother _ _ _ Q2.out HAP.out
                rw [HM.out] at o1'
                obtain ⟨fa', fc', ef'⟩ := o1'.form
                subst ef'
                have hb9 := HB.out.trans b9
                clear hother
                go_wp2
                go_roundw
                case rel => exact ⟨m + 1, by omega, ⟨o1', o2', ap', hb9⟩⟩
                case measure =>
                  have := HK.out
                  simp only [lenV, List.length_append, List.length_replicate]
                  omega
              · have em : m = n - C.length := by omega
                have hneg3 : ¬ ((C ++ List.replicate m (-1)).length : Int) < n := by omega
                clear hK
                generalize (C ++ List.replicate m (-1)).length = K2 at *
                rw [em, H2L.out] at q1
                have HN1 := Lib.hid (Tr.same10_R (HR2.out _ hb) q2.rd (by rw [HLL.out]; omega))
                have HN2 := Lib.hid (fun (w' : World) (hb' : Below _ _ w') => Tr.same10_R (HR4.out w' (btB hb (Nat.le_refl _) hb')) (q1.below hb' (Nat.le_refl _)).rd (by rw [HFL.out]; omega))
                have HB := Lib.hid hb
                clear hk HK3 em H2L q1 q2 hap hb
                go_wp2_with (first | (go_at_call 12; (with_reducible refine HN1.out.mono ?_); rintro e wh ⟨rfl, bh⟩) | (go_at_call 12; (with_reducible refine (HN2.out wh bh).mono ?_); rintro e wj ⟨rfl, bj⟩))
                go_ret
                exact ⟨rfl, HBB.out _ (btB (btB HB.out (Nat.le_refl _) bh) (Nat.le_refl _) bj)⟩
end Go.Proofs.Ytellclgpejmmaaa.fnKnown
