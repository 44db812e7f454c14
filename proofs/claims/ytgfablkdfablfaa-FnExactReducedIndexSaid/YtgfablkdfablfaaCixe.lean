/- Both ReducedIndex. -/
import Derived.Test.YtgfablkdfablfaaCixq
namespace Go.Proofs.Ytgfablkdfablfaa.Ix
open Go.RowKit Tr Bt
def topsG (j : Nat) : Nat := tops.getD j 0
theorem topsG_half (j : Nat) (hj : j < 6) : topsG j / 2 = topsG (j + 1) := by
  have h : ∀ j, j < 6 → topsG j / 2 = topsG (j + 1) := by decide
  exact h j hj
theorem topsG_pos (j : Nat) (hj : j < 6) : 1 ≤ topsG j ∧ topsG j ≤ 32 := by
  have h : ∀ j, j < 6 → 1 ≤ topsG j ∧ topsG j ≤ 32 := by decide
  exact h j hj
theorem tops_take (j : Nat) (hj : j < 6) : tops.take (j + 1) = tops.take j ++ [topsG j] := by
  have h : ∀ j, j < 6 → tops.take (j + 1) = tops.take j ++ [topsG j] := by decide
  exact h j hj
theorem red_step (L : List Int) (j : Nat) (hj : j < 6) : redL L (tops.take (j + 1)) = redL L (tops.take j) ++ (L.find? (isTop (topsG j))).toList := by rw [tops_take j hj, redL_snoc]
theorem find_take (L : List Int) (f : Int → Bool) (i : Nat) (hi : i < L.length) (h : (L.take i).find? f = none) :
    (f (L.getD i 0) = false → (L.take (i + 1)).find? f = none) ∧ (f (L.getD i 0) = true → L.find? f = some (L.getD i 0)) := by
  have hg : L.getD i 0 = L[i] := by simp [List.getD_eq_getElem?_getD, List.getElem?_eq_getElem hi]
  rw [hg]
  constructor
  · intro hf
    rw [List.take_succ_eq_append_getElem hi, List.find?_append, h]
    simp [hf]
  · intro hf
    have e : L = L.take i ++ L[i] :: L.drop (i + 1) := by rw [← List.drop_eq_getElem_cons hi, List.take_append_drop]
    refine (congrArg (List.find? f) e).trans ?_
    rw [List.find?_append, h, List.find?_cons, hf]
    rfl
theorem isTop_nat (t u : Nat) (_h : 1 ≤ u) : isTop t (u : Int) = decide (((topOf u : Nat) : Int) = (t : Int)) := by
  unfold isTop topI
  rw [decide_eq_true (show (0 : Int) < (u : Int) by omega), Bool.true_and, Int.toNat_natCast]
theorem isTop_zero (t : Nat) : isTop t 0 = false := rfl
theorem spanS_nat (r : Nat → Nat) (h : ∀ i, i < 3 → r i < 64) : ∃ M : List Nat, spanS r = castL M ∧ ∀ x ∈ M, x < 64 :=
  ⟨_, spanS_eq r h, fun _ hx => List.mem_range.1 (List.mem_filter.1 hx).1⟩
theorem redV_no {xs : List Int} (h : okX xs = false) : redV xs = [] := by unfold redV; rw [h]; rfl
theorem redV_yes {ns : List Nat} (h : okX (castL ns) = true) : redV (castL ns) = redL (spanS (pad ns)) tops := by unfold redV; rw [h, pad_fun]; rfl
theorem redX_no (w w' : World) (hb : Below w.heap.size w w') : ResX [] false w (.returned (.tuple #[.agg #[.slice none 0 0], .bool false])) w' := ⟨_, rfl, ⟨_, rfl, Own.nil _ _⟩, hb⟩
set_option maxHeartbeats 4000000 in
theorem red_sL {v : Value} {xs : List Int} {w : World} (h : RdX w v xs) :
    Calls Try.prog 23 #[v] w (ResX (redV xs) (okX xs) w) := by
  cases ho : okX xs
  · rw [redV_no ho]
    obtain ⟨a, c, rfl, hr, hn, _⟩ := h
    have b0 : Below w.heap.size w ((w.alloc (.cells #[.slice a xs.length c] 27)).alloc (.cells #[.slice none 0 0] 27)) := ((Below.refl _ w).alloc (Nat.le_refl _) _).alloc (alloc_le _ _) _
    have H := Lib.hid (is_s w.heap.size a c xs _ hn (by simp) (hr.below b0))
    rw [ho] at H
    have B0 := Lib.hid b0
    clear hr b0 hn ho
    generalize xs.length = N at *
    go_enter Try.func23, Try.ntmps23
    go_wp2_with (go_at_call 27; refine H.out.mono ?_; rintro e w' ⟨rfl, rfl⟩)
    refine bodyPost_ret (v := .tuple #[.agg #[.slice none 0 0], .bool false]) (by simp [results, Try.results23, go_sem]) rfl (redX_no _ _ ?_)
    repeat (first | exact B0.out | refine Below.setCell ?_ (by simp) _)
  · obtain ⟨ns, rfl, hl, h64⟩ := okX_nat ho
    rw [redV_yes ho]
    obtain ⟨M, hM, hM64⟩ := spanS_nat (pad ns) (fun i _ => h64 i)
    obtain ⟨a, c, rfl, hr, hn, _⟩ := h
    have b0 : Below w.heap.size w ((w.alloc (.cells #[.slice a (castL ns).length c] 27)).alloc (.cells #[.slice none 0 0] 27)) := ((Below.refl _ w).alloc (Nat.le_refl _) _).alloc (alloc_le _ _) _
    have H := Lib.hid (is_s w.heap.size a c (castL ns) _ hn (by simp) (hr.below b0))
    have HS := Lib.hid (span_s a c ns _ hl h64 (hr.below b0))
    have h8 := spanS_len (pad ns)
    rw [ho] at H
    have XR := Lib.hid (Kb.new (w.alloc (.cells #[.slice a (castL ns).length c] 27)) (w.heap.size + 1) [.slice none 0 0] 27 (by simp))
    have B0 := Lib.hid b0
    have hNN := castL_len ns
    have HRED := Lib.hid (fun j hj => red_step (castL M) j hj)
    have HFIND := Lib.hid (fun t i hi h => find_take (castL M) (isTop t) i hi h)
    have HU := Lib.hid (fun i (hi : i < (castL M).length) => (show (castL M).getD i 0 = ((M.getD i 0 : Nat) : Int) ∧ M.getD i 0 < 64 from
      ⟨castL_get _ _, hM64 _ (by rw [List.getD_eq_getElem?_getD, List.getElem?_eq_getElem (by rw [castL_len] at hi; exact hi)]; exact List.getElem_mem _)⟩))
    have H6 := Lib.hid (show redL (castL M) (tops.take 6) = redL (castL M) tops from rfl)
    have H0 := Lib.hid (show redL (castL M) (tops.take 0) = [] from rfl)
    have HLE := Lib.hid (fun j => (show (redL (castL M) (tops.take j)).length ≤ 6 from by
      have h1 := redL_len (castL M) (tops.take j)
      have h2 : (tops.take j).length ≤ 6 := List.length_take_le' j tops
      omega))
    have HTK := Lib.hid (show (castL M).take (castL M).length = castL M from List.take_length)
    rw [hM] at HS h8 ⊢
    clear hr b0 hn ho h64 hM hM64
    generalize (castL ns).length = N' at *
    generalize ns.length = N at *
    subst hNN
    generalize redL (castL M) tops = RR at *
    have hRL := Lib.hid (show (castL M).length ≤ 8 from h8)
    go_enter Try.func23, Try.ntmps23
    go_wp2_with (first | (go_at_call 27; refine H.out.mono ?_; rintro e w' ⟨rfl, rfl⟩) | (go_at_call 34; refine HS.out.mono ?_; rintro e w3 ⟨v3, rfl, ho3, hb3⟩))
    have XR3 := Lib.hid (XR.out.below hb3 XR.out.lt)
    have B3 := Lib.hid (bt B0.out hb3)
    obtain ⟨ga, gc, rfl⟩ := ho3.formx
    have hzW : ((w.alloc (.cells #[.slice a N' c] 27)).alloc (.cells #[.slice none 0 0] 27)).heap.size = w.heap.size + 1 + 1 := by simp
    have hs3 : w.heap.size + 1 + 1 ≤ w3.heap.size := by have := hb3.size; omega
    rw [hzW] at ho3
    have HO3 := Lib.hid ho3
    clear ho3 hb3 H HS XR hzW
    generalize hL : (castL M).length = L at *
    have HL := Lib.hid hL
    clear hL h8
    have hL8 : L ≤ 8 := hRL.out
    go_loopw [5, 6] (fun ov tv wr => ∃ (j : Nat), j ≤ 6 ∧ tv = .int .i64 ((topsG j : Nat) : Int) ∧ Own wr (w.heap.size + 1 + 1) ov (redL (castL M) (tops.take j)) ∧ Own wr (w.heap.size + 1 + 1) (.slice ga L gc) (castL M) ∧ Apart ov (.slice ga L gc) ∧ Hid (Kb wr (w.heap.size + 1) [.slice none 0 0] 27) ∧ Below w.heap.size w wr) (fun _ tv _ => (intOf tv).toNat)
    case atStart =>
      refine ⟨0, by omega, rfl, ?_, ?_, ?_, Lib.hid (XR3.out.alloc _), B3.out.alloc (by omega) _⟩
      · rw [H0.out]; exact (Own.lit0 w3).mono hs3
      · exact own_allocx HO3.out _
      · exact fun k hk e => by
          have h1 := (HO3.out.block k hk).2
          have e2 : w3.heap.size = k := by simpa [Value.ownBlock] using e
          omega
    case round =>
      obtain ⟨j, hj, rfl, hown, hspan, hap, hxr, hb⟩ := hrel
      by_cases hlt : j < 6
      · obtain ⟨ht1, ht32⟩ := topsG_pos j hlt
        have hst := HRED.out j hlt
        have hhalf := Lib.hid (topsG_half j hlt)
        have HFJ := Lib.hid (fun i hi h => HFIND.out (topsG j) i hi h)
        have hle := HLE.out j
        have HAP := Lib.hid hap
        have HB := Lib.hid hb
        have HOWN := Lib.hid hown
        have HSPAN := Lib.hid hspan
        have HST := Lib.hid hst
        obtain ⟨oa, oc, rfl⟩ := hown.formx
        clear hst hap hb hown hspan
        have HIT0 := Lib.hid (isTop_zero (topsG j))
        have HITN := Lib.hid (fun u (hu : 1 ≤ u) => isTop_nat (topsG j) u hu)
        generalize hTT : isTop (topsG j) = F at *
        clear hTT
        generalize topsG j = t at *
        generalize hRJ : redL (castL M) (tops.take j) = RJ at *
        clear hRJ
        have hd : decide ((0 : Int) < (t : Int)) = true := decide_eq_true (by omega)
        have hd2 : decide (0 < t) = true := decide_eq_true (by omega)
        obtain ⟨wo, hwo⟩ : ∃ wo, wo = wr := ⟨_, rfl⟩
        subst hwo
        go_wp2
        go_loopw [5, 7] (fun ov iv wr => ∃ i : Nat, i ≤ L ∧ ov = .slice oa RJ.length oc ∧ iv = .int .i64 i ∧ wr = wo ∧ Hid (((castL M).take i).find? F = none)) (fun _ iv _ => L - (intOf iv).toNat)
        case atStart => exact ⟨0, Nat.zero_le _, rfl, rfl, (by first | rfl | trivial), Lib.hid rfl⟩
        case round =>
          obtain ⟨i, hi, rfl, rfl, rfl, HNO⟩ := hrel
          by_cases hil : i < L
          · obtain ⟨hget, hu64⟩ := HU.out i hil
            obtain ⟨hno, hyes⟩ := HFJ.out i hil HNO.out
            obtain ⟨b', off', ha', hc', hlt'⟩ := (show Row wr ga (castL M) from by obtain ⟨a2, c2, e2, _, _, h2⟩ := HSPAN.out.rd; injection e2 with e3 _ _; rw [e3]; exact h2) i (by rw [HL.out]; exact hil)
            subst ha'
            have hil' : (i : Int) < (L : Int) := by omega
            rw [hget] at hc' hno hyes
            generalize M.getD i 0 = u at *
            by_cases hu0 : u = 0
            · subst hu0
              have hnew := Lib.hid (hno HIT0.out)
              clear hno hyes hget
              have e0 : ((0 : Nat) : Int) = 0 := rfl
              rw [e0] at hc'
              go_wp2
              go_roundw
              case rel => exact ⟨i + 1, by omega, rfl, by go_num, (by first | rfl | trivial), hnew⟩
              case measure => simp [intOf]; omega
            · have hu1 : 1 ≤ u := by omega
              have hitn := HITN.out u hu1
              have HTS := Lib.hid (top_s u wr hu1 hu64)
              generalize topOf u = tu at *
              by_cases htt : (tu : Int) = (t : Int)
              · have hy := Lib.hid (hyes (by rw [hitn]; exact decide_eq_true htt))
                have hq1 : RJ.length + 1 ≤ 1000000000 := by omega
                have hbeq : ((tu : Int) == (t : Int)) = true := by simpa using htt
                have htu : tu = t := by omega
                subst htu
                clear hno hyes hitn hget htt
                have hsz := HB.out.size
                have hsz2 : w.heap.size + 1 + 1 ≤ wr.heap.size := by have := hxr.out.lt; omega
                have HXR := Lib.hid hxr.out
                go_wp2_with (first | (go_at_call 39; refine HTS.out.mono ?_; rintro e w' ⟨rfl, rfl⟩) | (at_builtin; refine wpList_appG _ rfl _ _ rfl (w.heap.size + 1 + 1) _ RJ _ ?_ ?_ HOWN.out hq1 hsz2 ?_; rfl; rfl))
                intro v' w' ho' hb' hk'
                obtain ⟨hsp', hap'⟩ := hk' _ _ _ HSPAN.out HAP.out
                have HNEW := Lib.hid (show redL (castL M) (tops.take (j + 1)) = RJ ++ [(u : Int)] by rw [HST.out, hy.out]; rfl)
                clear hk'
                go_wp2
                go_roundw
                case rel => exact ⟨j + 1, by omega, by rw [← hhalf.out]; go_num, by rw [HNEW.out]; exact ho', hsp', hap', Lib.hid (HXR.out.below hb' (by omega)), HB.out.trans (hb'.mono (by omega))⟩
                case measure => simp [intOf]; omega
              · have hn := Lib.hid (hno (by rw [hitn]; exact decide_eq_false htt))
                have hbne : ((tu : Int) == (t : Int)) = false := by simpa using htt
                clear hno hyes hitn hget
                go_wp2_with (go_at_call 39; refine HTS.out.mono ?_; rintro e w' ⟨rfl, rfl⟩)
                go_roundw
                case rel => exact ⟨i + 1, by omega, rfl, by go_num, (by first | rfl | trivial), hn⟩
                case measure => simp [intOf]; omega
          · obtain rfl : i = L := by omega
            have hnone : (castL M).find? F = none := by
              have h := HNO.out
              rwa [HTK.out] at h
            have hsame : redL (castL M) (tops.take (j + 1)) = RJ := by rw [HST.out, hnone]; simp
            have HSAME := Lib.hid hsame
            clear hnone hsame HNO
            go_wp2
            go_roundw
            case rel => exact ⟨j + 1, by omega, by rw [← hhalf.out]; go_num, by rw [HSAME.out]; exact HOWN.out, HSPAN.out, HAP.out, hxr, HB.out⟩
            case measure => simp [intOf]; omega
      · obtain rfl : j = 6 := by omega
        rw [H6.out] at hown
        obtain ⟨oa, oc, rfl⟩ := hown.formx
        have t0 : wr.cell? ⟨w.heap.size + 1, 0, none⟩ = some (.slice none 0 0) := hxr.out.cell 0
        have f0 := hxr.out.froz 0
        have hne : ∀ k, (Value.slice oa RR.length oc).ownBlock = some k → k ≠ w.heap.size + 1 := fun k hk => by have := (hown.block k hk).1; omega
        have HOWN := Lib.hid (hown.mono (B' := w.heap.size) (by omega))
        have HB := Lib.hid hb
        have HNE := Lib.hid hne
        have e6 : ((topsG 6 : Nat) : Int) = 0 := rfl
        rw [e6]
        clear hown hb hspan hap hxr hne e6
        generalize hRL2 : RR.length = RL at *
        clear hRL2
        go_wp2
        refine bodyPost_ret (v := .tuple #[.agg #[.slice oa RL oc], .bool true]) (by simp [results, Try.results23, go_sem, t0, f0]) rfl ⟨_, rfl, ⟨_, rfl, ?_⟩, ?_⟩
        · repeat (first | with_reducible exact HOWN.out | with_reducible refine own_setx ?_ HNE.out)
        · repeat (first | exact HB.out | refine Below.setCell ?_ (by simp) _)
theorem red_iL {v : Value} {xs : List Int} {w : World} (h : RdX w v xs) :
    Calls Try.prog 24 #[v] w (ResX (redV xs) (okX xs) w) := by
  cases ho : okX xs
  · rw [redV_no ho]
    have HR := Lib.hid (fun w9 (hb : Below w.heap.size w w9) => rows_no (h.below hb) ho)
    obtain ⟨a, c, rfl, _, _, _⟩ := h
    have b0 : Below w.heap.size w ((w.alloc (.cells #[.slice a xs.length c] 27)).alloc (.cells #[.slice none 0 0] 27)) := ((Below.refl _ w).alloc (Nat.le_refl _) _).alloc (alloc_le _ _) _
    have H := Lib.hid (HR.out _ b0)
    have XR := Lib.hid (Kb.new (w.alloc (.cells #[.slice a xs.length c] 27)) (w.heap.size + 1) [.slice none 0 0] 27 (by simp))
    unfold RowsR aggR at H
    have B0 := Lib.hid b0
    clear b0 HR ho
    generalize xs.length = N at *
    go_enter Try.func24, Try.ntmps24
    go_wp2_with fail
    refine H.out.mono ?_; rintro e w1 ⟨rfl, b1⟩
    have x1 := (XR.out.below b1 XR.out.lt)
    have hlt1 := x1.lt
    have B1 := Lib.hid (bt B0.out b1)
    have t0 : w1.cell? ⟨w.heap.size + 1, 0, none⟩ = some (.slice none 0 0) := x1.cell 0
    have f0 := x1.froz 0
    have T1 := Lib.hid (((x1.set 0 (.slice none 0 0)).alloc (.cells #[.int .i64 0, .int .i64 0, .int .i64 0] 46)).cell 0)
    clear x1 b1 H XR
    go_wp2
    have t1 := T1.out
    simp only [List.set_cons_zero, List.getElem?_cons_zero] at t1
    refine bodyPost_ret (v := .tuple #[.agg #[.slice none 0 0], .bool false]) (by simp [results, Try.results24, go_sem, t1]) rfl (redX_no _ _ ?_)
    exact (B1.out.setCell (p := ⟨w.heap.size + 1, 0, none⟩) (Nat.le_succ _) _).alloc (Nat.le_trans B1.out.size (by simp [World.setCell])) _
  · obtain ⟨ns, rfl, hl, h64⟩ := okX_nat ho
    rw [redV_yes ho]
    have HR := Lib.hid (fun w9 (hb : Below w.heap.size w w9) => rows_yes (h.below hb) hl ho)
    obtain ⟨a, c, rfl, _, _, _⟩ := h
    have b0 : Below w.heap.size w ((w.alloc (.cells #[.slice a (castL ns).length c] 27)).alloc (.cells #[.slice none 0 0] 27)) := ((Below.refl _ w).alloc (Nat.le_refl _) _).alloc (alloc_le _ _) _
    have H := Lib.hid (HR.out _ b0)
    have XR := Lib.hid (Kb.new (w.alloc (.cells #[.slice a (castL ns).length c] 27)) (w.heap.size + 1) [.slice none 0 0] 27 (by simp))
    have HRD := Lib.hid (fun w9 => reduced_i (pad ns) w9 (fun i _ => h64 i))
    have HLI := Lib.hid (fun (q p : Nat → Nat) (k : Nat) (h : Inv 0 k q p) (hs : ∀ x, SpF q x ↔ SpF (pad ns) x) (w9 : World) => (show Calls Try.prog 41 #[.agg #[.int .i64 ((q 0 : Nat) : Int), .int .i64 ((q 1 : Nat) : Int), .int .i64 ((q 2 : Nat) : Int)]] w9 (Lb (redL (spanS (pad ns)) tops) w9) from by
      rw [← spanS_congr hs, h.red.1]; exact rlist_i q w9 h.lt))
    have B0 := Lib.hid b0
    clear b0 HR ho h64 hl
    unfold RowsR aggR at H
    unfold RedP aggR at HRD
    generalize redL (spanS (pad ns)) tops = ys at *
    generalize (castL ns).length = N at *
    go_enter Try.func24, Try.ntmps24
    go_wp2_with fail
    refine H.out.mono ?_; rintro e w1 ⟨rfl, b1⟩
    have X1 := Lib.hid (XR.out.below b1 XR.out.lt)
    have B1 := Lib.hid (bt B0.out b1)
    have hs1 := B1.out.size
    clear b1 H XR
    go_wp2_with fail
    have BA := Lib.hid (B1.out.alloc hs1 (.cells #[.int .i64 ((pad ns 0 : Nat) : Int), .int .i64 ((pad ns 1 : Nat) : Int), .int .i64 ((pad ns 2 : Nat) : Int)] 46))
    have XA := Lib.hid (X1.out.alloc (.cells #[.int .i64 ((pad ns 0 : Nat) : Int), .int .i64 ((pad ns 1 : Nat) : Int), .int .i64 ((pad ns 2 : Nat) : Int)] 46))
    refine (HRD.out _).mono ?_; rintro e w2 ⟨q, p, k, rfl, hinv, hsp, b2⟩
    have HL := Lib.hid (HLI.out q p k hinv hsp w2)
    have X2 := Lib.hid (XA.out.below b2 XA.out.lt)
    have B2 := Lib.hid (bt BA.out b2)
    clear b2 hinv hsp HRD HLI
    go_wp2_with fail
    refine HL.out.mono ?_; rintro e w3 ⟨v3, rfl, o3, b3⟩
    have hs2 := B2.out.size
    obtain ⟨a3, c3, rfl⟩ := o3.formx
    have x3 := X2.out.below b3 X2.out.lt
    have B3 := Lib.hid (bt B2.out b3)
    have t0 : w3.cell? ⟨w.heap.size + 1, 0, none⟩ = some (.slice none 0 0) := x3.cell 0
    have f0 := x3.froz 0
    have HNE := Lib.hid (show ∀ k, (Value.slice a3 ys.length c3).ownBlock = some k → k ≠ w.heap.size + 1 from fun k hk => by have := (o3.block k hk).1; have := X2.out.lt; omega)
    have HOWN := Lib.hid (o3.mono (B' := w.heap.size) hs2)
    clear x3 b3 o3 HL
    generalize ys.length = L at *
    go_wp2
    refine bodyPost_ret (v := .tuple #[.agg #[.slice a3 L c3], .bool true]) (by simp [results, Try.results24, go_sem, t0, f0]) rfl ⟨_, rfl, ⟨_, rfl, ?_⟩, ?_⟩
    · repeat (first | with_reducible exact HOWN.out | with_reducible refine own_setx ?_ HNE.out)
    · repeat (first | exact B3.out | refine Below.setCell ?_ (by simp) _)
end Go.Proofs.Ytgfablkdfablfaa.Ix
