/- The program's MergeTraces. -/
import Derived.Test.YtfghinpdjbpgfaaCmg
namespace Go.Proofs.Ytfghinpdjbpgfaa.Ac
open Go.RowKit Tr
theorem bt01_0 (w : World) : Calls Try.prog 27 #[.int .i64 0, .int .i64 0, .int .i64 1] w (Bl true w) := by
  go_enter Try.func27, Try.ntmps27
  go_wp2
  go_ret
  exact ⟨rfl, rfl⟩
theorem bt01_1 (w : World) : Calls Try.prog 27 #[.int .i64 1, .int .i64 0, .int .i64 1] w (Bl true w) := by
  go_enter Try.func27, Try.ntmps27
  go_wp2
  go_ret
  exact ⟨rfl, rfl⟩
theorem bt01_no (u : Int) (h0 : u ≠ 0) (h1 : u ≠ 1) (w : World) : Calls Try.prog 27 #[.int .i64 u, .int .i64 0, .int .i64 1] w (Bl false w) := by
  by_cases h : 0 ≤ u
  · have h2 : ¬ u ≤ 1 := by omega
    clear h0 h1
    go_enter Try.func27, Try.ntmps27
    go_wp2
    go_ret
    exact ⟨ret_bool (by simp [h2]), rfl⟩
  · clear h0 h1
    go_enter Try.func27, Try.ntmps27
    go_wp2
    go_ret
    exact ⟨ret_bool (by simp [h]), rfl⟩
theorem wpList_makeA0 {ops : Array Oper} {rest : List Oper} {o : Oper} {a : Act} {Q : Exit → Act → World → Prop} (w : World) (hgd : o.guard = none) (l c : Operand)
    (ho : o.op = Op.makeSlice 25 l c) (n : Nat) (kl kc : IntKind) (C : Int) (hl : a.eval l = .int kl 0) (hc : a.eval c = .int kc C) (hC : C = (n : Int)) (hn : n ≤ 1000000)
    (h : ∀ v' w', OwnA w' w.heap.size v' [] → Below w.heap.size w w' → wpList Try.prog ops Q rest (a.put o.dst v') w') :
    wpList Try.prog ops Q (o :: rest) a w := by
  obtain ⟨i0, hi, hz0, hz1, hz2⟩ := info_parts infoA
  refine wpList_make_own w hgd l c 25 ho w.heap.size 48 i0 (.agg #[.int .i64 0, .int .i64 0]) 2 Try.underlying25 hi hz0 hz1 kl kc C n hl hc hC (by rw [hz2]; omega) (by unfold maxLen; omega) (Nat.le_refl _) ?_
  intro w' hown hgrow
  exact h _ w' hown ((Below.refl _ _).grown hgrow (Nat.le_refl _) (by simp))
/-- What is left of a list behind x accesses, as a slice in a cell. -/
def Rst (w wr : World) (p : Addr) (xs : List (Int × Int)) (x : Nat) : Prop :=
  ∃ sa L ca, wr.cell? p = some (.slice sa L ca) ∧ L + x = xs.length ∧ L ≤ ca ∧ ca ≤ 9223372036854775807 ∧ RowA w sa (xs.drop x) ∧ wr.frozen? p = false
theorem Rst.keep {w wr w' : World} {p : Addr} {xs : List (Int × Int)} {x : Nat} (h : Rst w wr p xs x) (hk : w'.cell? p = wr.cell? p ∧ w'.frozen? p = wr.frozen? p) : Rst w w' p xs x := by
  obtain ⟨sa, L, ca, h1, h2, h3, h4, h5, h6⟩ := h
  exact ⟨sa, L, ca, hk.1.trans h1, h2, h3, h4, h5, hk.2.trans h6⟩
theorem drop_getD (xs : List (Int × Int)) (x i : Nat) : (xs.drop x).getD i (0, 0) = xs.getD (x + i) (0, 0) := by
  rw [List.getD_eq_getElem?_getD, List.getElem?_drop, ← List.getD_eq_getElem?_getD]
/-- The next access of what is left, and what is left behind it. -/
theorem Rst.next {w wr : World} {p : Addr} {xs : List (Int × Int)} {x : Nat} (h : Rst w wr p xs x) (hx : x < xs.length) :
    ∃ b off L ca, wr.cell? p = some (.slice (some ⟨b, off, none⟩) (L + 1) ca) ∧ L + (x + 1) = xs.length ∧ L + 1 ≤ ca ∧ ca ≤ 9223372036854775807 ∧ b < w.heap.size ∧ wr.frozen? p = false ∧
      w.cell? ⟨b, off, none⟩ = some (.int .i64 (xs.getD x (0, 0)).1) ∧ w.cell? ⟨b, off + 1, none⟩ = some (.int .i64 (xs.getD x (0, 0)).2) ∧
      RowA w (some ⟨b, off + 2, none⟩) (xs.drop (x + 1)) ∧ (ca = 1 → RowA w (some ⟨b, off, none⟩) (xs.drop (x + 1))) := by
  obtain ⟨sa, L, ca, h1, h2, h3, h4, h5, h6⟩ := h
  obtain ⟨b, off, rfl, c1, c2, hb⟩ := h5 0 (by simp; omega)
  rw [drop_getD] at c1 c2
  obtain ⟨L, rfl⟩ : ∃ L', L = L' + 1 := ⟨L - 1, by omega⟩
  refine ⟨b, off, L, ca, h1, by omega, h3, h4, hb, h6, by simpa using c1, by simpa using c2, fun i hi => ?_, fun hc i hi => ?_⟩
  · rw [List.length_drop] at hi
    obtain ⟨b', off', e, c1, c2, hb'⟩ := h5 (i + 1) (by simp; omega)
    injection e with e
    injection e with e1 e2
    subst e1 e2
    rw [drop_getD] at c1 c2 ⊢
    refine ⟨b, off + 2, rfl, ?_, ?_, hb'⟩
    · rw [show off + 2 + i * 2 = off + (i + 1) * 2 from by omega, c1, show x + (i + 1) = x + 1 + i from by omega]
    · rw [show off + 2 + i * 2 + 1 = off + (i + 1) * 2 + 1 from by omega, c2, show x + (i + 1) = x + 1 + i from by omega]
  · rw [List.length_drop] at hi
    omega
theorem OwnA.apart {w : World} {B : Nat} {v : Value} {xs : List (Int × Int)} (h : OwnA w B v xs) (p : Addr) (u : Value) (hne : v.ownBlock ≠ some p.block) : OwnA (w.setCell p u) B v xs :=
  h.kept (row := some p.block) ⟨rfl, rfl, rfl, by simp [World.setCell], fun k _ hk => Below.heap_setCell _ _ _ _ (fun e => hk (by rw [e]))⟩ fun k hk e => hne (by rw [hk, e])
set_option maxHeartbeats 4000000 in
theorem merge_i (a b tt : Option Addr) (ca cb ct : Nat) (xs ys : List (Int × Int)) (t : List Int) (w : World) (hx : xs.length ≤ 1048576) (hy : ys.length ≤ 1048576) (ht : t.length ≤ 1048576) (ra : RowA w a xs) (rb : RowA w b ys) (rt : Row w tt t)
    (ha1 : xs.length ≤ ca) (ha2 : ca ≤ 9223372036854775807) (hb1 : ys.length ≤ cb) (hb2 : cb ≤ 9223372036854775807) :
    Calls Try.prog 10 #[.slice a xs.length ca, .slice b ys.length cb, .slice tt t.length ct] w (ResA (mgR xs ys t).1 (mgR xs ys t).2 w) := by
  have hIa := Lib.hid (valid_i a ca xs w hx ra)
  have hIb := Lib.hid (fun w' (hb : Below w.heap.size w w') => valid_i b cb ys w' hy (rb.below hb))
  by_cases hok : mgOk xs ys t = true
  · have h60 : t.length ≤ 60 ∧ t.length = xs.length + ys.length ∧ okT xs = true ∧ okT ys = true := by
      unfold mgOk at hok
      simp only [Bool.and_eq_true, decide_eq_true_eq] at hok
      exact ⟨hok.1.2, hok.2, hok.1.1.1, hok.1.1.2⟩
    obtain ⟨h60, hsum, e1, e2⟩ := h60
    rw [e1] at hIa
    rw [e2] at hIb
    have HCt := Lib.hid rt
    have HR0 := Lib.hid (fun (wr : World) (p q : Addr) (h1 : wr.cell? p = some (.slice a xs.length ca)) (h2 : wr.cell? q = some (.slice b ys.length cb)) (h3 : wr.frozen? p = false) (h4 : wr.frozen? q = false) =>
      (show Rst w wr p xs 0 ∧ Rst w wr q ys 0 from ⟨⟨a, _, ca, h1, rfl, ha1, ha2, ra, h3⟩, ⟨b, _, cb, h2, rfl, hb1, hb2, rb, h4⟩⟩))
    have HA := Lib.hid (mst_a t xs ys)
    have HB := Lib.hid (mst_b t xs ys)
    have HN := Lib.hid (mst_no t xs ys)
    have HL := Lib.hid (mst_len t xs ys)
    have HE := Lib.hid (fun x y o (e : mst t xs ys t.length = some (x, y, o)) => mgR_some hok e)
    have HE0 := Lib.hid (fun (e : mst t xs ys t.length = none) => mgR_none (xs := xs) (ys := ys) (t := t) e)
    have HNX := Lib.hid (fun (wr : World) p x (h : Rst w wr p xs x) hx => Rst.next h hx)
    have HNY := Lib.hid (fun (wr : World) p x (h : Rst w wr p ys x) hx => Rst.next h hx)
    have HLX := Lib.hid (fun (wr : World) p x (h : Rst w wr p xs x) (hx : ¬ x < xs.length) => (show ∃ sa c, wr.cell? p = some (.slice sa 0 c) by
      obtain ⟨sa, L, c, h1, h2, _⟩ := h
      exact ⟨sa, c, by rw [h1, show L = 0 from by omega]⟩))
    have HLY := Lib.hid (fun (wr : World) p x (h : Rst w wr p ys x) (hx : ¬ x < ys.length) => (show ∃ sa c, wr.cell? p = some (.slice sa 0 c) by
      obtain ⟨sa, L, c, h1, h2, _⟩ := h
      exact ⟨sa, c, by rw [h1, show L = 0 from by omega]⟩))
    have HSX := Lib.hid (fun (wr : World) p x sa L c (h2 : L + x = xs.length) h3 h4 (h5 : RowA w sa (xs.drop x)) (h6 : wr.frozen? p = false) (h1 : wr.cell? p = some (.slice sa L c)) => (show Rst w wr p xs x from ⟨sa, L, c, h1, h2, h3, h4, h5, h6⟩))
    have HSY := Lib.hid (fun (wr : World) p x sa L c (h2 : L + x = ys.length) h3 h4 (h5 : RowA w sa (ys.drop x)) (h6 : wr.frozen? p = false) (h1 : wr.cell? p = some (.slice sa L c)) => (show Rst w wr p ys x from ⟨sa, L, c, h1, h2, h3, h4, h5, h6⟩))
    clear ra rb rt hok e1 e2 ha1 ha2 hb1 hb2
    unfold Row at HCt
    have hs3 : (xs.length : Int) + (ys.length : Int) = (t.length : Int) := by omega
    clear hsum
    generalize mgR xs ys t = R at *
    obtain ⟨rs, ok⟩ := R
    have HM0 := Lib.hid (show mst t xs ys 0 = some (0, 0, []) from rfl)
    generalize hM : mst t xs ys = M at *
    clear hM
    generalize xs.length = X at *
    generalize ys.length = Y at *
    generalize t.length = N at *
    go_enter Try.func10, Try.ntmps10
    go_wp2_with fail
    refine hIa.out.mono ?_; rintro e w1 ⟨rfl, b1⟩
    go_wp2_with fail
    refine (hIb.out w1 b1).mono ?_; rintro e w2 ⟨rfl, b2⟩
    have HB2 := Lib.hid (b1.trans (b2.mono b1.size))
    go_wp2_with (at_make; refine wpList_makeA0 _ rfl _ _ rfl N .i64 .i64 (N : Int) ?_ ?_ rfl ?_ ?_; rfl; rfl; omega)
    intro v3 w3 o3 b3
    go_wp2
    have hr0 := HR0.out (w3.alloc (.cells #[.slice a X ca, .slice b Y cb] 52)) ⟨w3.heap.size, 0, none⟩ ⟨w3.heap.size, 1, none⟩ (by simp [go_sem]) (by simp [go_sem]) (by simp) (by simp)
    have HB3 := Lib.hid ((HB2.out.trans (b3.mono HB2.out.size)).alloc (Nat.le_trans HB2.out.size b3.size) (.cells #[.slice a X ca, .slice b Y cb] 52))
    have hlt3 : ∀ k, v3.ownBlock = some k → k < w3.heap.size := fun k hk => (OwnA.block o3 k hk).2
    have hw2 : w2.heap.size ≤ w3.heap.size := b3.size
    have hww : w.heap.size ≤ w2.heap.size := HB2.out.size
    have O3 := Lib.hid (show OwnA (w3.alloc (.cells #[.slice a X ca, .slice b Y cb] 52)) w2.heap.size v3 [] from World.ownsRow.alloc o3 _)
    generalize hRB : w3.heap.size = RB at *
    have hsz3 : (w3.alloc (.cells #[.slice a X ca, .slice b Y cb] 52)).heap.size = RB + 1 := by rw [← hRB]; exact Array.size_push _
    clear hRB
    generalize w3.alloc (.cells #[.slice a X ca, .slice b Y cb] 52) = w4 at *
    clear o3 b3 HR0
    have hwle := Lib.hid (show w.heap.size ≤ w2.heap.size from hww)
    go_loopw [8, 11, 43] (fun v _ i wr => ∃ j x y o, j ≤ N ∧ i = .int .i64 (j : Nat) ∧ x ≤ j ∧ y ≤ j ∧ Hid (M j = some (x, y, o)) ∧ Hid (OwnA wr w2.heap.size v o) ∧ Hid (Rst w wr ⟨RB, 0, none⟩ xs x) ∧ Hid (Rst w wr ⟨RB, 1, none⟩ ys y) ∧ Hid (Below w.heap.size w wr) ∧ Hid (w.heap.size ≤ RB ∧ RB < wr.heap.size) ∧ Hid (v.ownBlock ≠ some RB) ∧ Hid (w2.heap.size ≤ wr.heap.size)) (fun _ _ i _ => N - (intOf i).toNat)
    case atStart => exact ⟨0, 0, 0, [], Nat.zero_le _, rfl, Nat.le_refl _, Nat.le_refl _, HM0, O3, hr0.1, hr0.2, HB3, Lib.hid ⟨by omega, by omega⟩, fun e => by have := hlt3 _ e; omega, Lib.hid (by omega)⟩
    case round =>
      obtain ⟨j, x, y, o, hj, rfl, hxj, hyj, hm, ho, hxr, hyr, hb, hRB, hap, hsz0⟩ := hrel
      by_cases hlt : j < N
      · obtain ⟨bt, offt, rfl, hct, hbt⟩ := HCt.out j hlt
        have ct1 := (hb.out.cell (p := ⟨bt, offt + j, none⟩) hbt).trans hct
        have HAj := Lib.hid (HA.out j x y o hm.out)
        have HBj := Lib.hid (HB.out j x y o hm.out)
        have HNj := Lib.hid (HN.out j x y o hm.out)
        have hlo := (HL.out j x y o hm.out).1
        clear hct
        generalize t.getD j 0 = u at *
        by_cases hA : u = 0 ∧ x < X
        · obtain ⟨rfl, hxX⟩ := hA
          obtain ⟨bb, off, L, c, c0, hL, hc1, hc2, hbw, hf, d1, d2, hr2, hr1⟩ := HNX.out wr ⟨RB, 0, none⟩ x hxr.out hxX
          have g1 := (hb.out.cell (p := ⟨bb, off, none⟩) hbw).trans d1
          have g2 := (hb.out.cell (p := ⟨bb, off + 1, none⟩) hbw).trans d2
          have hnew := Lib.hid (HAj.out rfl hxX)
          have HR2 := Lib.hid hr2
          have HR1 := Lib.hid hr1
          have HLL := Lib.hid hL
          have ho5 := ho.out
          have hq : o.length + 1 ≤ 100000000 := by omega
          have hsz := hsz0.out
          clear d1 d2 HAj HBj HNj hlo hr2 hr1 hL
          generalize xs.getD x (0, 0) = r at *
          obtain ⟨k, ad⟩ := r
          go_wp2_with (first | (go_at_call 27; refine (bt01_0 _).mono ?_; rintro e w' ⟨rfl, rfl⟩) | (at_builtin; refine wpList_appA _ rfl _ _ rfl w2.heap.size _ o _ _ ?_ ?_ ho5 hq hsz ?_; rfl; rfl))
          intro v' w6 ho6 hb6 hkeep hblk
          have hk0 := hkeep ⟨RB, 0, none⟩ hRB.out.2 hap.out
          have hk1 := hkeep ⟨RB, 1, none⟩ hRB.out.2 hap.out
          have c6 := hk0.1.trans c0
          have f6 := hk0.2.trans hf
          have hap6 : v'.ownBlock ≠ some RB := fun e => by
            rcases hblk RB e with h | h
            · exact hap.out h
            · have := hRB.out.2; omega
          have HO6 := Lib.hid (fun u => OwnA.apart ho6 ⟨RB, 0, none⟩ u hap6)
          have hother := Lib.hid (fun u => (show Rst w (w6.setCell ⟨RB, 0, none⟩ u) ⟨RB, 1, none⟩ ys y from
            (Rst.keep hyr.out hk1).keep ⟨World.cell?_setCell_other _ _ _ _ (by simp), by simp⟩))
          have hsame := Lib.hid (fun sa c' (h3 : L ≤ c') (h4 : c' ≤ 9223372036854775807) (h5 : RowA w sa (xs.drop (x + 1))) => HSX.out (w6.setCell ⟨RB, 0, none⟩ (.slice sa L c')) ⟨RB, 0, none⟩ (x + 1) sa L c' HLL.out h3 h4 h5 (by simpa using f6) (World.cell?_setCell_same _ _ _ c6))
          have HB6 := Lib.hid (fun u => ((hb.out.trans (hb6.mono hwle.out)).setCell (p := ⟨RB, 0, none⟩) hRB.out.1 u))
          have HZ6 := Lib.hid (Nat.le_trans hsz hb6.size)
          have HRB6 := Lib.hid (Nat.lt_of_lt_of_le hRB.out.2 hb6.size)
          have HAP := Lib.hid hap6
          clear hk0 hk1 c0 hf hkeep hblk hap6 ho6 hb6 ho5 hsz
          by_cases hcc : c = 1
          · subst hcc
            have hL0 : L = 0 := by omega
            subst hL0
            go_wp2
            go_roundw
            case rel => exact ⟨j + 1, x + 1, y, _, by omega, by go_num, by omega, by omega, hnew, HO6.out _, hsame.out _ _ (by omega) (by omega) (HR1.out rfl), hother.out _, HB6.out _, Lib.hid ⟨hRB.out.1, by simpa [World.setCell] using HRB6.out⟩, HAP, by simpa [World.setCell] using HZ6⟩
            case measure => simp [intOf]; omega
          · have hc9 : 1 < c := by omega
            go_wp2
            go_roundw
            case rel => exact ⟨j + 1, x + 1, y, _, by omega, by go_num, by omega, by omega, hnew, HO6.out _, hsame.out _ _ (by omega) (by omega) HR2.out, hother.out _, HB6.out _, Lib.hid ⟨hRB.out.1, by simpa [World.setCell] using HRB6.out⟩, HAP, by simpa [World.setCell] using HZ6⟩
            case measure => simp [intOf]; omega
        · by_cases hB : u = 1 ∧ y < Y
          · obtain ⟨rfl, hxX⟩ := hB
            obtain ⟨bb, off, L, c, c0, hL, hc1, hc2, hbw, hf, d1, d2, hr2, hr1⟩ := HNY.out wr ⟨RB, 1, none⟩ y hyr.out hxX
            have g1 := (hb.out.cell (p := ⟨bb, off, none⟩) hbw).trans d1
            have g2 := (hb.out.cell (p := ⟨bb, off + 1, none⟩) hbw).trans d2
            have hnew := Lib.hid (HBj.out rfl hxX)
            have HR2 := Lib.hid hr2
            have HR1 := Lib.hid hr1
            have HLL := Lib.hid hL
            have ho5 := ho.out
            have hq : o.length + 1 ≤ 100000000 := by omega
            have hsz := hsz0.out
            clear d1 d2 HAj HBj HNj hlo hr2 hr1 hL
            generalize ys.getD y (0, 0) = r at *
            obtain ⟨k, ad⟩ := r
            go_wp2_with (first | (go_at_call 27; refine (bt01_1 _).mono ?_; rintro e w' ⟨rfl, rfl⟩) | (at_builtin; refine wpList_appA _ rfl _ _ rfl w2.heap.size _ o _ _ ?_ ?_ ho5 hq hsz ?_; rfl; rfl))
            intro v' w6 ho6 hb6 hkeep hblk
            have hk0 := hkeep ⟨RB, 0, none⟩ hRB.out.2 hap.out
            have hk1 := hkeep ⟨RB, 1, none⟩ hRB.out.2 hap.out
            have c6 := hk1.1.trans c0
            have f6 := hk1.2.trans hf
            have hap6 : v'.ownBlock ≠ some RB := fun e => by
              rcases hblk RB e with h | h
              · exact hap.out h
              · have := hRB.out.2; omega
            have HO6 := Lib.hid (fun u => OwnA.apart ho6 ⟨RB, 1, none⟩ u hap6)
            have hother := Lib.hid (fun u => (show Rst w (w6.setCell ⟨RB, 1, none⟩ u) ⟨RB, 0, none⟩ xs x from
              (Rst.keep hxr.out hk0).keep ⟨World.cell?_setCell_other _ _ _ _ (by simp), by simp⟩))
            have hsame := Lib.hid (fun sa c' (h3 : L ≤ c') (h4 : c' ≤ 9223372036854775807) (h5 : RowA w sa (ys.drop (y + 1))) => HSY.out (w6.setCell ⟨RB, 1, none⟩ (.slice sa L c')) ⟨RB, 1, none⟩ (y + 1) sa L c' HLL.out h3 h4 h5 (by simpa using f6) (World.cell?_setCell_same _ _ _ c6))
            have HB6 := Lib.hid (fun u => ((hb.out.trans (hb6.mono hwle.out)).setCell (p := ⟨RB, 1, none⟩) hRB.out.1 u))
            have HZ6 := Lib.hid (Nat.le_trans hsz hb6.size)
            have HRB6 := Lib.hid (Nat.lt_of_lt_of_le hRB.out.2 hb6.size)
            have HAP := Lib.hid hap6
            clear hk0 hk1 c0 hf hkeep hblk hap6 ho6 hb6 ho5 hsz
            by_cases hcc : c = 1
            · subst hcc
              have hL0 : L = 0 := by omega
              subst hL0
              go_wp2
              go_roundw
              case rel => exact ⟨j + 1, x, y + 1, _, by omega, by go_num, by omega, by omega, hnew, HO6.out _, hother.out _, hsame.out _ _ (by omega) (by omega) (HR1.out rfl), HB6.out _, Lib.hid ⟨hRB.out.1, by simpa [World.setCell] using HRB6.out⟩, HAP, by simpa [World.setCell] using HZ6⟩
              case measure => simp [intOf]; omega
            · have hc9 : 1 < c := by omega
              go_wp2
              go_roundw
              case rel => exact ⟨j + 1, x, y + 1, _, by omega, by go_num, by omega, by omega, hnew, HO6.out _, hother.out _, hsame.out _ _ (by omega) (by omega) HR2.out, HB6.out _, Lib.hid ⟨hRB.out.1, by simpa [World.setCell] using HRB6.out⟩, HAP, by simpa [World.setCell] using HZ6⟩
              case measure => simp [intOf]; omega
          · have hnone := HNj.out hA hB N hlt
            have hR := HE0.out hnone
            injection hR with hR1 hR2
            subst hR1 hR2
            clear hnone HE HE0 HAj HBj HNj
            by_cases hu0 : u = 0
            · subst hu0
              have hxX : ¬ x < X := fun h => hA ⟨rfl, h⟩
              obtain ⟨sa, c, hc0⟩ := HLX.out wr _ x hxr.out hxX
              clear hA hB
              go_wp2_with (go_at_call 27; refine (bt01_0 _).mono ?_; rintro e w' ⟨rfl, rfl⟩)
              go_ret2
              exact ⟨_, rfl, OwnA.nil _ _, hb.out⟩
            · by_cases hu1 : u = 1
              · subst hu1
                have hyY : ¬ y < Y := fun h => hB ⟨rfl, h⟩
                obtain ⟨sa, c, hc0⟩ := HLY.out wr _ y hyr.out hyY
                clear hA hB
                go_wp2_with (go_at_call 27; refine (bt01_1 _).mono ?_; rintro e w' ⟨rfl, rfl⟩)
                go_ret2
                exact ⟨_, rfl, OwnA.nil _ _, hb.out⟩
              · have HNO := Lib.hid (fun w => bt01_no u hu0 hu1 w)
                clear hA hB hu0 hu1
                go_wp2_with (go_at_call 27; refine (HNO.out _).mono ?_; rintro e w' ⟨rfl, rfl⟩)
                go_ret2
                exact ⟨_, rfl, OwnA.nil _ _, hb.out⟩
      · have e : j = N := by omega
        subst e
        have hR := HE.out x y o hm.out
        injection hR with hR1 hR2
        subst hR1 hR2
        clear HE HE0
        go_wp2
        go_ret2
        exact ⟨_, rfl, ho.out.mono hwle.out, hb.out⟩
  · have hok' : mgOk xs ys t = false := by simpa using hok
    rw [mgR_no hok']
    show Calls _ _ _ w (ResA [] false w)
    clear ra rb rt hok
    unfold mgOk at hok'
    cases e1 : okT xs
    · rw [e1] at hIa
      clear hok' e1
      generalize xs.length = X at *
      generalize ys.length = Y at *
      generalize t.length = N at *
      go_enter Try.func10, Try.ntmps10
      go_wp2_with fail
      refine hIa.out.mono ?_; rintro e w1 ⟨rfl, b1⟩
      go_wp2
      go_ret2
      exact ⟨_, rfl, OwnA.nil _ _, b1⟩
    · rw [e1] at hIa
      cases e2 : okT ys
      · rw [e2] at hIb
        clear hok' e1 e2
        generalize xs.length = X at *
        generalize ys.length = Y at *
        generalize t.length = N at *
        go_enter Try.func10, Try.ntmps10
        go_wp2_with fail
        refine hIa.out.mono ?_; rintro e w1 ⟨rfl, b1⟩
        go_wp2_with fail
        refine (hIb.out w1 b1).mono ?_; rintro e w2 ⟨rfl, b2⟩
        go_wp2
        go_ret2
        exact ⟨_, rfl, OwnA.nil _ _, b1.trans (b2.mono b1.size)⟩
      · rw [e2] at hIb
        rw [e1, e2] at hok'
        simp only [Bool.true_and, Bool.and_eq_false_iff, decide_eq_false_iff_not] at hok'
        clear e1 e2
        generalize xs.length = X at *
        generalize ys.length = Y at *
        generalize t.length = N at *
        by_cases h60 : N ≤ 60
        · have hne : N ≠ X + Y := by
            rcases hok' with h | h
            · exact absurd h60 h
            · exact h
          have hne2 : ((N : Int) != (X : Int) + (Y : Int)) = true := by simp; omega
          have hne3 : ¬ 60 < (N : Int) := by omega
          clear hok'
          go_enter Try.func10, Try.ntmps10
          go_wp2_with fail
          refine hIa.out.mono ?_; rintro e w1 ⟨rfl, b1⟩
          go_wp2_with fail
          refine (hIb.out w1 b1).mono ?_; rintro e w2 ⟨rfl, b2⟩
          go_wp2
          go_ret2
          exact ⟨_, rfl, OwnA.nil _ _, b1.trans (b2.mono b1.size)⟩
        · have h61 : 60 < (N : Int) := by omega
          clear hok'
          go_enter Try.func10, Try.ntmps10
          go_wp2_with fail
          refine hIa.out.mono ?_; rintro e w1 ⟨rfl, b1⟩
          go_wp2_with fail
          refine (hIb.out w1 b1).mono ?_; rintro e w2 ⟨rfl, b2⟩
          go_wp2
          go_ret2
          exact ⟨_, rfl, OwnA.nil _ _, b1.trans (b2.mono b1.size)⟩
end Go.Proofs.Ytfghinpdjbpgfaa.Ac
