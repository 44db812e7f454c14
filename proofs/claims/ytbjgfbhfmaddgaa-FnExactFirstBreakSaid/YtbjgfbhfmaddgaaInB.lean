/- A trial after one more use. Whether a trial is a break; the model's words for it. The program's firstBreak. The program's Includes and FirstBreak. -/
import Derived.Test.YtbjgfbhfmaddgaaInA
import Derived.Deep.RegionHeld3
import Derived.Test.YtbjgfbhfmaddgaaCincS
namespace Go.Proofs.Ytbjgfbhfmaddgaa.Pv
open Go.RowKit
theorem wpList_index2 {ops : Array Oper} {rest : List Oper} {op : Oper} {a : Act} {w : World} {Q : Exit → Act → World → Prop} (hgd : op.guard = none) (x y : Operand) (ho : op.op = .index 70 x y)
    (i : Nat) (hi : i < 2) (r1 r2 : List Value) (h1 : r1.length = 43) (h2 : r2.length = 43) (hx : a.eval x = .agg (r1 ++ r2).toArray) (hy : a.eval y = .int .i64 (i : Nat))
    (h : wpList Try.prog ops Q rest (a.put op.dst (.agg (if i = 0 then r1 else r2).toArray)) w) : wpList Try.prog ops Q (op :: rest) a w := by
  refine wpList_plain hgd fun K hK => ?_
  have hr := run_index2 w i hi r1 r2 h1 h2
  unfold Oper.wp
  simp [execOp, ho, hx, hy, hr, Result.andThen]
  exact hK _ _ h
theorem own_keep {w w' : World} {B b : Nat} {v : Value} {xs : List Int} (h : Own w B v xs) (k : Keep b w w') (hb : b < B) : Own w' B v xs := by
  refine ⟨h.1, ?_⟩
  rcases h.2 with hn | ⟨g, cap, cur, hv, hg, hh, r⟩
  · exact .inl hn
  · exact .inr ⟨g, cap, cur, hv, hg, by rw [k.block g (by omega)]; exact hh, r⟩
theorem one6 (k : Nat → Int) : ∀ v ∈ six6 k, v.oneCell' = true := fun v hv => by
  simp [six6] at hv
  rcases hv with rfl | rfl | rfl | rfl | rfl | rfl <;> rfl
set_option maxHeartbeats 4000000 in
set_option maxRecDepth 100000 in
theorem with_i {hs hs' : List (List Int)} {ms ms' : List Int} (hok : isP hs ms = true) (hok' : isP hs' ms' = true) (ar : Option Addr) (n c : Nat) (L : List Int) (k l : Nat → Int) (g h : Bool) (x : Int) (w : World)
    (hr : Row w ar L) (hn : L.length = n) (hform : ar = none ∨ ∃ b off, ar = some ⟨b, off, none⟩) (hnil : ar = none → n = 0) (hlen : n ≤ 1000) (hnc : n ≤ c) (hcm : c ≤ 9223372036854775807) :
    Calls Try.prog 42 #[.agg #[.slice ar n c, .int .i64 (k 0), .int .i64 (k 1), .int .i64 (k 2), .int .i64 (k 3), .int .i64 (k 4), .int .i64 (k 5), .int .i64 (l 0), .int .i64 (l 1), .int .i64 (l 2), .int .i64 (l 3), .int .i64 (l 4), .int .i64 (l 5), .bool g, .bool h], .agg (rulC true ms.length hs ms ++ rulC true ms'.length hs' ms').toArray, .int .i64 x] w
      (fun e w' => ∃ u', e = .returned (.agg (triC u' (stN hs ms k x) (stN hs' ms' l x) (hitB ms.length k x) (hitB ms'.length l x)).toArray) ∧ Own w' w.heap.size u' (L ++ [x]) ∧ Below w.heap.size w w') := by
  have HU1 := Lib.hid (fun w' => show Calls Try.prog 56 #[.agg (rulC true ms.length hs ms).toArray, .agg (six6 k).toArray, .int .i64 x] w' (RetB (.tuple #[.agg (six6 (stN hs ms k x)).toArray, .bool (hitB ms.length k x)]) w') from use_any hs ms hok k x w')
  have HU2 := Lib.hid (fun w' => show Calls Try.prog 56 #[.agg (rulC true ms'.length hs' ms').toArray, .agg (six6 l).toArray, .int .i64 x] w' (RetB (.tuple #[.agg (six6 (stN hs' ms' l x)).toArray, .bool (hitB ms'.length l x)]) w') from use_any hs' ms' hok' l x w')
  obtain ⟨d15, hu15, hd15⟩ := und15
  have HL15 := Lib.hid (fun (w' : World) (b : Nat) (cs : List Value) (h : Blk w' b cs 77) (hc : cs.length = 15) => Blk.loadVar h 77 d15 hu15 hd15 (by rw [hc]; exact isz15))
  have HU15 := Lib.hid (And.intro hu15 hd15)
  clear hu15 hd15
  obtain ⟨d6, hu6, hd6⟩ := und6
  have HU6 := Lib.hid (And.intro hu6 hd6)
  clear hu6 hd6
  have HL1 := Lib.hid (rulC_len true ms.length hs ms)
  have HL2 := Lib.hid (rulC_len true ms'.length hs' ms')
  have HO1 := Lib.hid (one_rulC true ms.length hs ms)
  have HO2 := Lib.hid (one_rulC true ms'.length hs' ms')
  obtain ⟨d43, hu43, hd43⟩ := und43
  have HU := Lib.hid (And.intro hu43 hd43)
  clear hu43 hd43
  obtain ⟨d86, hu86, hd86⟩ := und86
  have HV := Lib.hid (And.intro hu86 hd86)
  clear hu86 hd86
  generalize rulC true ms.length hs ms = rc at *
  generalize rulC true ms'.length hs' ms' = rd at *
  generalize stN hs ms k x = k' at *
  generalize stN hs' ms' l x = l' at *
  generalize hitB ms.length k x = g' at *
  generalize hitB ms'.length l x = h' at *
  have HL86 := Lib.hid (show (rc ++ rd).length = 86 by rw [List.length_append, HL1.out, HL2.out])
  have hnci : (n : Int) ≤ (c : Int) := by omega
  clear hok hok'
  have HB : Hid (Below w.heap.size w (((w.alloc (.cells #[.slice ar n c, .int .i64 (k 0), .int .i64 (k 1), .int .i64 (k 2), .int .i64 (k 3), .int .i64 (k 4), .int .i64 (k 5), .int .i64 (l 0), .int .i64 (l 1), .int .i64 (l 2), .int .i64 (l 3), .int .i64 (l 4), .int .i64 (l 5), .bool g, .bool h] 77)).alloc (.cells (rc ++ rd).toArray 70)).alloc (.cells z15.toArray 77))) := Lib.hid ((((Below.refl _ w).alloc (Nat.le_refl _) _).alloc (by simp) _).alloc (by simp; omega) _)
  have HR := Lib.hid hr
  have HN := Lib.hid hn
  have HF := Lib.hid hform
  have HNL := Lib.hid hnil
  clear hr hn hform hnil
  rcases HF.out with rfl | ⟨b, off, rfl⟩
  · have e := HNL.out rfl
    subst e
    go_enter Try.func42, Try.ntmps42
    go_wp2_with (at_builtin; refine wpList_appN _ rfl _ _ rfl none 0 L x ?_ ?_ (HR.out.below HB.out) HN.out HF.out HNL.out hlen ?_; rfl; first | rfl | simp [Act.eval, Act.put])
    intro v' w1 o1 b1
    obtain ⟨va, vc, hv⟩ := o1.form
    generalize (L ++ [x]).length = m at hv
    subst hv
    have c1 := (show Blk _ w.heap.size [.slice none 0 c, .int .i64 (k 0), .int .i64 (k 1), .int .i64 (k 2), .int .i64 (k 3), .int .i64 (k 4), .int .i64 (k 5), .int .i64 (l 0), .int .i64 (l 1), .int .i64 (l 2), .int .i64 (l 3), .int .i64 (l 4), .int .i64 (l 5), .bool g, .bool h] 77 from Blk.alloc (Blk.alloc (Blk.newAt w _ _ _ rfl) _) _).below b1 (by omega)
    have c2 := (show Blk _ (w.heap.size + 1) (rc ++ rd) 70 from Blk.alloc (Blk.newAt _ _ _ _ (by simp)) _).below b1 (by omega)
    have c3 := (show Blk _ (w.heap.size + 1 + 1) z15 77 from Blk.newAt _ _ _ _ (by simp)).below b1 (by omega)
    have hz1 : w.heap.size + 1 + 1 + 1 ≤ w1.heap.size := by have := b1.size; simpa using this
    have HB1 := Lib.hid (HB.out.trans (b1.mono (by omega)))
    have HO := Lib.hid (show Own w1 (w.heap.size + 1 + 1 + 1) _ _ from o1)
    clear o1 b1
    go_wp2_with (with_reducible refine wpList_storeB rfl 77 (.tmp 7) (.tmp 22) rfl w1.heap.size 0 (triC (.slice va m vc) (fun _ => 0) (fun _ => 0) false false) ?_ ?_ z15 77 ?_ ?_ ?_ ?_ ?_)
    · rfl
    · rfl
    · exact Blk.newAt _ _ _ _ rfl
    · exact Nat.le_refl _
    · exact isz15
    · exact one_triC _ _ _ _ _ rfl
    intro w2 h2 k2
    rw [splice_all _ _ (by rfl)] at h2
    have bb2 : Below w1.heap.size w1 w2 := ((Below.refl _ w1).alloc (Nat.le_refl _) _).trans (k2.out.below (Nat.le_refl _))
    have D1p := Lib.hid (c1.below bb2 (by omega))
    have C2 := Lib.hid (c2.below bb2 (by omega))
    have D3p := Lib.hid (c3.below bb2 (by omega))
    have Tp := Lib.hid h2.out
    have BZp := Lib.hid bb2
    have HOF : Hid (∀ w9, Below w1.heap.size w1 w9 → Own w9 (w.heap.size + 1 + 1 + 1) (.slice va m vc) (L ++ [x]) ∧ Below w.heap.size w w9) := Lib.hid (fun w9 h9 => ⟨HO.out.below h9 (Nat.le_refl _), HB1.out.trans (h9.mono (by omega))⟩)
    clear c1 c2 c3 bb2 k2 HO HB1 HB h2
    generalize w1.heap.size = Z at *
    go_wp2_with (with_reducible refine wpList_loadB rfl 70 (.tmp 4) rfl (w.heap.size + 1) ?_ (rc ++ rd) 70 C2.out d86 HV.out.1 HV.out.2 ?_ ?_)
    · rfl
    · rw [HL86.out]; exact isz86
    clear C2
    go_wp2
    refine wp_loop_rounds 3 ?_
    rw [rounds_succ]
    go_wp2_with (first | (with_reducible refine wpList_index2 rfl (.tmp 23) (.tmp 24) rfl 0 (by omega) rc rd HL1.out HL2.out ?_ ?_ ?_) | (with_reducible refine wpList_storeB rfl 69 (.tmp 9) (.tmp 27) rfl w2.heap.size 0 rc ?_ ?_ z43 69 ?_ ?_ ?_ ?_ ?_))
    all_goals first | rfl | exact Blk.newAt _ _ _ _ rfl | (rw [HL1.out]; decide) | (rw [HL1.out]; exact isz43) | exact HO1.out | skip
    intro w0a h3 k3
    rw [splice_all _ _ HL1.out] at h3
    have bb3 : Below w2.heap.size w2 w0a := ((Below.refl _ w2).alloc (Nat.le_refl _) _).trans (k3.out.below (Nat.le_refl _))
    have hzz : Z < w2.heap.size := Tp.out.lt
    have D1a := Lib.hid (D1p.out.below bb3 D1p.out.lt)
    have D3a := Lib.hid (D3p.out.below bb3 D3p.out.lt)
    have Ta := Lib.hid (Tp.out.below bb3 Tp.out.lt)
    have BZa := Lib.hid (BZp.out.trans (bb3.mono (Nat.le_of_lt hzz)))
    clear k3 bb3 D1p D3p Tp BZp
    generalize w2.heap.size = X0 at *
    go_wp2
    refine wp_region_noPanic ?_
    refine wp_region_held_drew (S := fun w' => Blk w' X0 rc 69 ∧ Blk w' w.heap.size [.slice none 0 c, .int .i64 (k 0), .int .i64 (k 1), .int .i64 (k 2), .int .i64 (k 3), .int .i64 (k 4), .int .i64 (k 5), .int .i64 (l 0), .int .i64 (l 1), .int .i64 (l 2), .int .i64 (l 3), .int .i64 (l 4), .int .i64 (l 5), .bool g, .bool h] 77) (by kernel_rfl) ⟨h3.out, D1a.out⟩ (fun hS => ?_)
    refine wpAnyH_take (i := 0) (oi := ⟨some 29, _, _, _, _, _⟩) (v := ?_) rfl (by kernel_rfl) (by kernel_rfl) (by kernel_rfl) (fun _ _ _ h => h) (Or.inl ⟨by rfl, ?_⟩) hS ?_
    rotate_left
    · intro w9 _
      go_simp
      try with_reducible rfl
    simp only [Act.put, List.setIfInBounds_toArray, List.set_cons_zero, List.set_cons_succ]
    refine wpAnyH_take (i := 1) (oi := ⟨some 30, _, _, _, _, _⟩) (v := ?_) rfl (by kernel_rfl) (by kernel_rfl) (by kernel_rfl) (fun _ _ _ h => h) (Or.inl ⟨by rfl, ?_⟩) hS ?_
    rotate_left
    · intro w9 _
      go_simp
      try with_reducible rfl
    simp only [Act.put, List.setIfInBounds_toArray, List.set_cons_zero, List.set_cons_succ]
    refine wpAnyH_take (i := 3) (oi := ⟨some 32, _, _, _, _, _⟩) (v := ?_) rfl (by kernel_rfl) (by kernel_rfl) (by kernel_rfl) (fun _ _ _ h => h) (Or.inl ⟨by rfl, ?_⟩) hS ?_
    rotate_left
    · intro w9 _
      go_simp
      try with_reducible rfl
    simp only [Act.put, List.setIfInBounds_toArray, List.set_cons_zero, List.set_cons_succ]
    refine wpAnyH_take (i := 4) (oi := ⟨some 33, _, _, _, _, _⟩) (v := ?_) rfl (by kernel_rfl) (by kernel_rfl) (by kernel_rfl) (fun _ _ _ h => h) (Or.inl ⟨by rfl, ?_⟩) hS ?_
    rotate_left
    · intro w9 _
      go_simp
      try with_reducible rfl
    simp only [Act.put, List.setIfInBounds_toArray, List.set_cons_zero, List.set_cons_succ]
    refine wpAnyH_take (i := 5) (oi := ⟨some 34, _, _, _, _, _⟩) (v := ?_) rfl (by kernel_rfl) (by kernel_rfl) (by kernel_rfl) (fun _ _ _ h => h) (Or.inl ⟨by rfl, ?_⟩) hS ?_
    rotate_left
    · intro w9 _
      go_simp
      try with_reducible rfl
    simp only [Act.put, List.setIfInBounds_toArray, List.set_cons_zero, List.set_cons_succ]
    refine wpAnyH_take (i := 7) (oi := ⟨some 36, _, _, _, _, _⟩) (v := ?_) rfl (by kernel_rfl) (by kernel_rfl) (by kernel_rfl) (fun _ _ _ h => h) (Or.inl ⟨by rfl, ?_⟩) hS ?_
    rotate_left
    · intro w9 _
      go_simp
      try with_reducible rfl
    simp only [Act.put, List.setIfInBounds_toArray, List.set_cons_zero, List.set_cons_succ]
    refine wpAnyH_take (i := 12) (oi := ⟨some 40, _, _, _, _, _⟩) (v := ?_) rfl (by kernel_rfl) (by kernel_rfl) (by kernel_rfl) (fun _ _ _ h => h) (Or.inl ⟨by rfl, ?_⟩) hS ?_
    rotate_left
    · intro w9 _
      go_simp
      try with_reducible rfl
    simp only [Act.put, List.setIfInBounds_toArray, List.set_cons_zero, List.set_cons_succ]
    refine wpAnyH_take (i := 15) (oi := ⟨some 42, _, _, _, _, _⟩) (v := ?_) rfl (by kernel_rfl) (by kernel_rfl) (by kernel_rfl) (fun _ _ _ h => h) (Or.inl ⟨by rfl, ?_⟩) hS ?_
    rotate_left
    · intro w9 _
      go_simp
      try with_reducible rfl
    simp only [Act.put, List.setIfInBounds_toArray, List.set_cons_zero, List.set_cons_succ]
    refine wpAnyH_take (i := 2) (oi := ⟨some 31, _, _, _, _, _⟩) (v := .agg rc.toArray) rfl (by kernel_rfl) (by kernel_rfl) (by kernel_rfl) (fun _ _ _ h => h) ?_ hS ?_
    · refine yieldsIf_load_mid ?_ 69 (.tmp 9) ?_ X0 0 ?_ rc d43 ?_ HU.out.1 HU.out.2 ?_
      · rfl
      · rfl
      · rfl
      · intro w9 h9
        have q := h9.1.range 0 rc.length
        rw [List.drop_zero, List.take_length] at q
        exact q
      · rw [HL1.out]; exact isz43
    simp only [Act.put, List.setIfInBounds_toArray, List.set_cons_zero, List.set_cons_succ]
    refine wpAnyH_take (i := 6) (oi := ⟨some 35, _, _, _, _, _⟩) (v := .agg (six6 k).toArray) rfl (by kernel_rfl) (by kernel_rfl) (by kernel_rfl) (fun _ _ _ h => h) ?_ hS ?_
    · refine yieldsIf_load_mid ?_ 73 (.tmp 34) ?_ w.heap.size 1 ?_ (six6 k) d6 ?_ HU6.out.1 HU6.out.2 isz6c
      · rfl
      · rfl
      · rfl
      · intro w9 h9
        exact h9.2.range 1 6
    simp only [Act.put, List.setIfInBounds_toArray, List.set_cons_zero, List.set_cons_succ]
    refine wpAnyH_ready (rs := [8]) (by kernel_rfl) (by simp) ?_
    refine AllReadyH.cons (o := ⟨some 37, _, _, _, _, _⟩) rfl (fun K hK => ?_) AllReadyH.nil
    go_simp
    go_wp2_with (go_at_call 56; (with_reducible refine (HU1.out _).mono ?_); rintro e w0b ⟨rfl, b4⟩)
    refine hK.out _ _ ⟨h3.out.below (drewB b4) h3.out.lt, D1a.out.below (drewB b4) D1a.out.lt⟩ (fun hS4 => ?_)
    clear hK K hS
    try simp only [Act.put, List.setIfInBounds_toArray, List.set_cons_zero, List.set_cons_succ]
    refine wpAnyH_take (i := 9) (oi := ⟨some 28, _, _, _, _, _⟩) (v := ?_) rfl (by kernel_rfl) (by kernel_rfl) (by kernel_rfl) (fun _ _ _ h => h) (Or.inl ⟨by rfl, ?_⟩) hS4 ?_
    rotate_left
    · intro w9 _
      go_simp
      try with_reducible rfl
    simp only [Act.put, List.setIfInBounds_toArray, List.set_cons_zero, List.set_cons_succ]
    refine wpAnyH_take (i := 10) (oi := ⟨some 38, _, _, _, _, _⟩) (v := ?_) rfl (by kernel_rfl) (by kernel_rfl) (by kernel_rfl) (fun _ _ _ h => h) (Or.inl ⟨by rfl, ?_⟩) hS4 ?_
    rotate_left
    · intro w9 _
      go_simp
      try with_reducible rfl
    simp only [Act.put, List.setIfInBounds_toArray, List.set_cons_zero, List.set_cons_succ]
    refine wpAnyH_take (i := 11) (oi := ⟨some 39, _, _, _, _, _⟩) (v := ?_) rfl (by kernel_rfl) (by kernel_rfl) (by kernel_rfl) (fun _ _ _ h => h) (Or.inl ⟨by rfl, ?_⟩) hS4 ?_
    rotate_left
    · intro w9 _
      go_simp
      try with_reducible rfl
    simp only [Act.put, List.setIfInBounds_toArray, List.set_cons_zero, List.set_cons_succ]
    refine wpAnyH_take (i := 13) (oi := ⟨some 41, _, _, _, _, _⟩) (v := ?_) rfl (by kernel_rfl) (by kernel_rfl) (by kernel_rfl) (fun _ _ _ h => h) (Or.inl ⟨by rfl, ?_⟩) hS4 ?_
    rotate_left
    · intro w9 _
      go_simp
      try with_reducible rfl
    simp only [Act.put, List.setIfInBounds_toArray, List.set_cons_zero, List.set_cons_succ]
    have hza : Z < w0a.heap.size := Ta.out.lt
    have hX : X0 < w0a.heap.size := h3.out.lt
    have Tb := Lib.hid (Ta.out.below (drewB b4) Ta.out.lt)
    have D3b := Lib.hid (D3a.out.below (drewB b4) D3a.out.lt)
    have BZb := Lib.hid (BZa.out.trans ((drewB b4).mono (Nat.le_of_lt hza)))
    clear b4 Ta D3a BZa D1a h3
    refine wpAnyH_ready (rs := [14]) (by kernel_rfl) (by simp) ?_
    refine AllReadyH.cons (o := ⟨none, _, _, _, _, _⟩) rfl (fun K hK => ?_) AllReadyH.nil
    rw [if_pos (by rfl)]
    refine wp_store_mid 73 (.tmp 41) (.tmp 38) rfl Z 1 (six6 k').toArray rfl rfl (Tb.out.there 1 6 (show 1 + 6 ≤ 15 by omega)) isz6c (all_oneCell_toArray (one6 k')) ?_
    obtain ⟨w0c, hw5⟩ : ∃ w5, w5 = w0b.setCells Z 1 (six6 k').toArray.toList := ⟨_, rfl⟩
    rw [← hw5]
    have K5 : Keep Z w0b w0c := by rw [hw5]; exact keep_set Z _ _ _
    have T5 : Blk w0c Z (triC (.slice va m vc) k' (fun _ => 0) false false) 77 := by rw [hw5]; exact blk_set Z _ (six6 k') 1 _ _ Tb.out (show 1 + 6 ≤ 15 by omega)
    refine hK.out _ _ ⟨K5.blk hS4.1 (by omega), K5.blk hS4.2 (by omega)⟩ (fun hS5 => ?_)
    clear hK K hw5
    try simp only [Act.put, List.setIfInBounds_toArray, List.set_cons_zero, List.set_cons_succ]
    refine wpAnyH_take (i := 16) (oi := ⟨some 43, _, _, _, _, _⟩) (v := ?_) rfl (by kernel_rfl) (by kernel_rfl) (by kernel_rfl) (fun _ _ _ h => h) (Or.inl ⟨by rfl, ?_⟩) hS5 ?_
    rotate_left
    · intro w9 _
      go_simp
      try with_reducible rfl
    simp only [Act.put, List.setIfInBounds_toArray, List.set_cons_zero, List.set_cons_succ]
    have c13 : w0c.cell? ⟨Z, 13, none⟩ = some (.bool false) := T5.cell 13
    have f13 : w0c.frozen? ⟨Z, 13, none⟩ = false := T5.froz 13
    refine wpAnyH_ready (rs := [17]) (by kernel_rfl) (by simp) ?_
    refine AllReadyH.cons (o := ⟨none, _, _, _, _, _⟩) rfl (fun K hK => ?_) AllReadyH.nil
    go_simp
    obtain ⟨w0d, hw6⟩ : ∃ w6, w6 = w0c.setCell ⟨Z, 13, none⟩ (.bool g') := ⟨_, rfl⟩
    rw [← hw6]
    have K6 : Keep Z w0c w0d := by rw [hw6]; exact keep_set Z [.bool g'] 13 _
    have T6 : Blk w0d Z (triC (.slice va m vc) k' (fun _ => 0) g' false) 77 := by rw [hw6]; exact blk_set Z _ [.bool g'] 13 _ _ T5 (show 13 + 1 ≤ 15 by omega)
    refine hK.out _ _ ⟨K6.blk hS5.1 (by omega), K6.blk hS5.2 (by omega)⟩ (fun hS6 => ?_)
    clear hK K hw6 c13 f13
    try simp only [Act.put, List.setIfInBounds_toArray, List.set_cons_zero, List.set_cons_succ]
    refine wpAnyH_done (by kernel_rfl) ?_ _
    refine NoPanic.normal ?_
    have D1p := Lib.hid hS6.2
    have D3p := Lib.hid (K6.blk (K5.blk D3b.out (by omega)) (by omega))
    have Tp := Lib.hid T6
    have BZp := Lib.hid ((BZb.out.trans (K5.below (Nat.le_refl _))).trans (K6.below (Nat.le_refl _)))
    clear hS4 hS5 hS6 K5 K6 T5 T6 D3b BZb Tb hza hX hzz
    go_wp2
    rw [rounds_succ]
    go_wp2_with (first | (with_reducible refine wpList_index2 rfl (.tmp 23) (.tmp 24) rfl 1 (by omega) rc rd HL1.out HL2.out ?_ ?_ ?_) | (with_reducible refine wpList_storeB rfl 69 (.tmp 9) (.tmp 27) rfl w0d.heap.size 0 rd ?_ ?_ z43 69 ?_ ?_ ?_ ?_ ?_))
    all_goals first | rfl | exact Blk.newAt _ _ _ _ rfl | (rw [HL2.out]; decide) | (rw [HL2.out]; exact isz43) | exact HO2.out | skip
    intro w1a h3 k3
    rw [splice_all _ _ HL2.out] at h3
    have bb3 : Below w0d.heap.size w0d w1a := ((Below.refl _ w0d).alloc (Nat.le_refl _) _).trans (k3.out.below (Nat.le_refl _))
    have hzz : Z < w0d.heap.size := Tp.out.lt
    have D1a := Lib.hid (D1p.out.below bb3 D1p.out.lt)
    have D3a := Lib.hid (D3p.out.below bb3 D3p.out.lt)
    have Ta := Lib.hid (Tp.out.below bb3 Tp.out.lt)
    have BZa := Lib.hid (BZp.out.trans (bb3.mono (Nat.le_of_lt hzz)))
    clear k3 bb3 D1p D3p Tp BZp
    generalize w0d.heap.size = X1 at *
    go_wp2
    refine wp_region_noPanic ?_
    refine wp_region_held_drew (S := fun w' => Blk w' X1 rd 69 ∧ Blk w' w.heap.size [.slice none 0 c, .int .i64 (k 0), .int .i64 (k 1), .int .i64 (k 2), .int .i64 (k 3), .int .i64 (k 4), .int .i64 (k 5), .int .i64 (l 0), .int .i64 (l 1), .int .i64 (l 2), .int .i64 (l 3), .int .i64 (l 4), .int .i64 (l 5), .bool g, .bool h] 77) (by kernel_rfl) ⟨h3.out, D1a.out⟩ (fun hS => ?_)
    refine wpAnyH_take (i := 0) (oi := ⟨some 29, _, _, _, _, _⟩) (v := ?_) rfl (by kernel_rfl) (by kernel_rfl) (by kernel_rfl) (fun _ _ _ h => h) (Or.inl ⟨by rfl, ?_⟩) hS ?_
    rotate_left
    · intro w9 _
      go_simp
      try with_reducible rfl
    simp only [Act.put, List.setIfInBounds_toArray, List.set_cons_zero, List.set_cons_succ]
    refine wpAnyH_take (i := 1) (oi := ⟨some 30, _, _, _, _, _⟩) (v := ?_) rfl (by kernel_rfl) (by kernel_rfl) (by kernel_rfl) (fun _ _ _ h => h) (Or.inl ⟨by rfl, ?_⟩) hS ?_
    rotate_left
    · intro w9 _
      go_simp
      try with_reducible rfl
    simp only [Act.put, List.setIfInBounds_toArray, List.set_cons_zero, List.set_cons_succ]
    refine wpAnyH_take (i := 3) (oi := ⟨some 32, _, _, _, _, _⟩) (v := ?_) rfl (by kernel_rfl) (by kernel_rfl) (by kernel_rfl) (fun _ _ _ h => h) (Or.inl ⟨by rfl, ?_⟩) hS ?_
    rotate_left
    · intro w9 _
      go_simp
      try with_reducible rfl
    simp only [Act.put, List.setIfInBounds_toArray, List.set_cons_zero, List.set_cons_succ]
    refine wpAnyH_take (i := 4) (oi := ⟨some 33, _, _, _, _, _⟩) (v := ?_) rfl (by kernel_rfl) (by kernel_rfl) (by kernel_rfl) (fun _ _ _ h => h) (Or.inl ⟨by rfl, ?_⟩) hS ?_
    rotate_left
    · intro w9 _
      go_simp
      try with_reducible rfl
    simp only [Act.put, List.setIfInBounds_toArray, List.set_cons_zero, List.set_cons_succ]
    refine wpAnyH_take (i := 5) (oi := ⟨some 34, _, _, _, _, _⟩) (v := ?_) rfl (by kernel_rfl) (by kernel_rfl) (by kernel_rfl) (fun _ _ _ h => h) (Or.inl ⟨by rfl, ?_⟩) hS ?_
    rotate_left
    · intro w9 _
      go_simp
      try with_reducible rfl
    simp only [Act.put, List.setIfInBounds_toArray, List.set_cons_zero, List.set_cons_succ]
    refine wpAnyH_take (i := 7) (oi := ⟨some 36, _, _, _, _, _⟩) (v := ?_) rfl (by kernel_rfl) (by kernel_rfl) (by kernel_rfl) (fun _ _ _ h => h) (Or.inl ⟨by rfl, ?_⟩) hS ?_
    rotate_left
    · intro w9 _
      go_simp
      try with_reducible rfl
    simp only [Act.put, List.setIfInBounds_toArray, List.set_cons_zero, List.set_cons_succ]
    refine wpAnyH_take (i := 12) (oi := ⟨some 40, _, _, _, _, _⟩) (v := ?_) rfl (by kernel_rfl) (by kernel_rfl) (by kernel_rfl) (fun _ _ _ h => h) (Or.inl ⟨by rfl, ?_⟩) hS ?_
    rotate_left
    · intro w9 _
      go_simp
      try with_reducible rfl
    simp only [Act.put, List.setIfInBounds_toArray, List.set_cons_zero, List.set_cons_succ]
    refine wpAnyH_take (i := 15) (oi := ⟨some 42, _, _, _, _, _⟩) (v := ?_) rfl (by kernel_rfl) (by kernel_rfl) (by kernel_rfl) (fun _ _ _ h => h) (Or.inl ⟨by rfl, ?_⟩) hS ?_
    rotate_left
    · intro w9 _
      go_simp
      try with_reducible rfl
    simp only [Act.put, List.setIfInBounds_toArray, List.set_cons_zero, List.set_cons_succ]
    refine wpAnyH_take (i := 2) (oi := ⟨some 31, _, _, _, _, _⟩) (v := .agg rd.toArray) rfl (by kernel_rfl) (by kernel_rfl) (by kernel_rfl) (fun _ _ _ h => h) ?_ hS ?_
    · refine yieldsIf_load_mid ?_ 69 (.tmp 9) ?_ X1 0 ?_ rd d43 ?_ HU.out.1 HU.out.2 ?_
      · rfl
      · rfl
      · rfl
      · intro w9 h9
        have q := h9.1.range 0 rd.length
        rw [List.drop_zero, List.take_length] at q
        exact q
      · rw [HL2.out]; exact isz43
    simp only [Act.put, List.setIfInBounds_toArray, List.set_cons_zero, List.set_cons_succ]
    refine wpAnyH_take (i := 6) (oi := ⟨some 35, _, _, _, _, _⟩) (v := .agg (six6 l).toArray) rfl (by kernel_rfl) (by kernel_rfl) (by kernel_rfl) (fun _ _ _ h => h) ?_ hS ?_
    · refine yieldsIf_load_mid ?_ 73 (.tmp 34) ?_ w.heap.size 7 ?_ (six6 l) d6 ?_ HU6.out.1 HU6.out.2 isz6c
      · rfl
      · rfl
      · rfl
      · intro w9 h9
        exact h9.2.range 7 6
    simp only [Act.put, List.setIfInBounds_toArray, List.set_cons_zero, List.set_cons_succ]
    refine wpAnyH_ready (rs := [8]) (by kernel_rfl) (by simp) ?_
    refine AllReadyH.cons (o := ⟨some 37, _, _, _, _, _⟩) rfl (fun K hK => ?_) AllReadyH.nil
    go_simp
    go_wp2_with (go_at_call 56; (with_reducible refine (HU2.out _).mono ?_); rintro e w1b ⟨rfl, b4⟩)
    refine hK.out _ _ ⟨h3.out.below (drewB b4) h3.out.lt, D1a.out.below (drewB b4) D1a.out.lt⟩ (fun hS4 => ?_)
    clear hK K hS
    try simp only [Act.put, List.setIfInBounds_toArray, List.set_cons_zero, List.set_cons_succ]
    refine wpAnyH_take (i := 9) (oi := ⟨some 28, _, _, _, _, _⟩) (v := ?_) rfl (by kernel_rfl) (by kernel_rfl) (by kernel_rfl) (fun _ _ _ h => h) (Or.inl ⟨by rfl, ?_⟩) hS4 ?_
    rotate_left
    · intro w9 _
      go_simp
      try with_reducible rfl
    simp only [Act.put, List.setIfInBounds_toArray, List.set_cons_zero, List.set_cons_succ]
    refine wpAnyH_take (i := 10) (oi := ⟨some 38, _, _, _, _, _⟩) (v := ?_) rfl (by kernel_rfl) (by kernel_rfl) (by kernel_rfl) (fun _ _ _ h => h) (Or.inl ⟨by rfl, ?_⟩) hS4 ?_
    rotate_left
    · intro w9 _
      go_simp
      try with_reducible rfl
    simp only [Act.put, List.setIfInBounds_toArray, List.set_cons_zero, List.set_cons_succ]
    refine wpAnyH_take (i := 11) (oi := ⟨some 39, _, _, _, _, _⟩) (v := ?_) rfl (by kernel_rfl) (by kernel_rfl) (by kernel_rfl) (fun _ _ _ h => h) (Or.inl ⟨by rfl, ?_⟩) hS4 ?_
    rotate_left
    · intro w9 _
      go_simp
      try with_reducible rfl
    simp only [Act.put, List.setIfInBounds_toArray, List.set_cons_zero, List.set_cons_succ]
    refine wpAnyH_take (i := 13) (oi := ⟨some 41, _, _, _, _, _⟩) (v := ?_) rfl (by kernel_rfl) (by kernel_rfl) (by kernel_rfl) (fun _ _ _ h => h) (Or.inl ⟨by rfl, ?_⟩) hS4 ?_
    rotate_left
    · intro w9 _
      go_simp
      try with_reducible rfl
    simp only [Act.put, List.setIfInBounds_toArray, List.set_cons_zero, List.set_cons_succ]
    have hza : Z < w1a.heap.size := Ta.out.lt
    have hX : X1 < w1a.heap.size := h3.out.lt
    have Tb := Lib.hid (Ta.out.below (drewB b4) Ta.out.lt)
    have D3b := Lib.hid (D3a.out.below (drewB b4) D3a.out.lt)
    have BZb := Lib.hid (BZa.out.trans ((drewB b4).mono (Nat.le_of_lt hza)))
    clear b4 Ta D3a BZa D1a h3
    refine wpAnyH_ready (rs := [14]) (by kernel_rfl) (by simp) ?_
    refine AllReadyH.cons (o := ⟨none, _, _, _, _, _⟩) rfl (fun K hK => ?_) AllReadyH.nil
    rw [if_pos (by rfl)]
    refine wp_store_mid 73 (.tmp 41) (.tmp 38) rfl Z 7 (six6 l').toArray rfl rfl (Tb.out.there 7 6 (show 7 + 6 ≤ 15 by omega)) isz6c (all_oneCell_toArray (one6 l')) ?_
    obtain ⟨w1c, hw5⟩ : ∃ w5, w5 = w1b.setCells Z 7 (six6 l').toArray.toList := ⟨_, rfl⟩
    rw [← hw5]
    have K5 : Keep Z w1b w1c := by rw [hw5]; exact keep_set Z _ _ _
    have T5 : Blk w1c Z (triC (.slice va m vc) k' l' g' false) 77 := by rw [hw5]; exact blk_set Z _ (six6 l') 7 _ _ Tb.out (show 7 + 6 ≤ 15 by omega)
    refine hK.out _ _ ⟨K5.blk hS4.1 (by omega), K5.blk hS4.2 (by omega)⟩ (fun hS5 => ?_)
    clear hK K hw5
    try simp only [Act.put, List.setIfInBounds_toArray, List.set_cons_zero, List.set_cons_succ]
    refine wpAnyH_take (i := 16) (oi := ⟨some 43, _, _, _, _, _⟩) (v := ?_) rfl (by kernel_rfl) (by kernel_rfl) (by kernel_rfl) (fun _ _ _ h => h) (Or.inl ⟨by rfl, ?_⟩) hS5 ?_
    rotate_left
    · intro w9 _
      go_simp
      try with_reducible rfl
    simp only [Act.put, List.setIfInBounds_toArray, List.set_cons_zero, List.set_cons_succ]
    have c13 : w1c.cell? ⟨Z, 14, none⟩ = some (.bool false) := T5.cell 14
    have f13 : w1c.frozen? ⟨Z, 14, none⟩ = false := T5.froz 14
    refine wpAnyH_ready (rs := [17]) (by kernel_rfl) (by simp) ?_
    refine AllReadyH.cons (o := ⟨none, _, _, _, _, _⟩) rfl (fun K hK => ?_) AllReadyH.nil
    go_simp
    obtain ⟨w1d, hw6⟩ : ∃ w6, w6 = w1c.setCell ⟨Z, 14, none⟩ (.bool h') := ⟨_, rfl⟩
    rw [← hw6]
    have K6 : Keep Z w1c w1d := by rw [hw6]; exact keep_set Z [.bool h'] 14 _
    have T6 : Blk w1d Z (triC (.slice va m vc) k' l' g' h') 77 := by rw [hw6]; exact blk_set Z _ [.bool h'] 14 _ _ T5 (show 14 + 1 ≤ 15 by omega)
    refine hK.out _ _ ⟨K6.blk hS5.1 (by omega), K6.blk hS5.2 (by omega)⟩ (fun hS6 => ?_)
    clear hK K hw6 c13 f13
    try simp only [Act.put, List.setIfInBounds_toArray, List.set_cons_zero, List.set_cons_succ]
    refine wpAnyH_done (by kernel_rfl) ?_ _
    refine NoPanic.normal ?_
    have D1p := Lib.hid hS6.2
    have D3p := Lib.hid (K6.blk (K5.blk D3b.out (by omega)) (by omega))
    have Tp := Lib.hid T6
    have BZp := Lib.hid ((BZb.out.trans (K5.below (Nat.le_refl _))).trans (K6.below (Nat.le_refl _)))
    clear hS4 hS5 hS6 K5 K6 T5 T6 D3b BZb Tb hza hX hzz
    go_wp2
    rw [rounds_succ]
    go_wp2_with (first | (with_reducible refine wpList_loadB rfl 77 (.tmp 7) rfl Z ?_ (triC (.slice va m vc) k' l' g' h') 77 Tp.out d15 HU15.out.1 HU15.out.2 ?_ ?_) | (with_reducible refine wpList_storeB rfl 77 (.tmp 6) (.tmp 45) rfl (w.heap.size + 1 + 1) 0 (triC (.slice va m vc) k' l' g' h') ?_ ?_ z15 77 D3p.out ?_ ?_ ?_ ?_))
    all_goals first | rfl | exact isz15 | exact Nat.le_refl _ | exact one_triC _ _ _ _ _ rfl | skip
    intro w8 h8 k8
    rw [splice_all _ _ (by rfl)] at h8
    have hF := HOF.out _ BZp.out
    have hK8 : Below (w.heap.size + 1 + 1) w1d w8 := k8.out.below (Nat.le_refl _)
    go_wp2
    refine bodyPost_ret (results1 (a := 6) (t := 77) (p := ⟨w.heap.size + 1 + 1, 0, none⟩) (by kernel_rfl) rfl (HL15.out _ _ _ h8.out rfl)) rfl ⟨.slice va m vc, rfl, ?_, ?_⟩
    · exact (own_keep hF.1 k8.out (by omega)).mono (by omega)
    · exact hF.2.trans (hK8.mono (by omega))
  · go_enter Try.func42, Try.ntmps42
    go_wp2_with (at_builtin; refine wpList_appN _ rfl _ _ rfl (some ⟨b, off, none⟩) n L x ?_ ?_ (HR.out.below HB.out) HN.out HF.out HNL.out hlen ?_; rfl; first | rfl | simp [Act.eval, Act.put])
    intro v' w1 o1 b1
    obtain ⟨va, vc, hv⟩ := o1.form
    generalize (L ++ [x]).length = m at hv
    subst hv
    have c1 := (show Blk _ w.heap.size [.slice (some ⟨b, off, none⟩) n c, .int .i64 (k 0), .int .i64 (k 1), .int .i64 (k 2), .int .i64 (k 3), .int .i64 (k 4), .int .i64 (k 5), .int .i64 (l 0), .int .i64 (l 1), .int .i64 (l 2), .int .i64 (l 3), .int .i64 (l 4), .int .i64 (l 5), .bool g, .bool h] 77 from Blk.alloc (Blk.alloc (Blk.newAt w _ _ _ rfl) _) _).below b1 (by omega)
    have c2 := (show Blk _ (w.heap.size + 1) (rc ++ rd) 70 from Blk.alloc (Blk.newAt _ _ _ _ (by simp)) _).below b1 (by omega)
    have c3 := (show Blk _ (w.heap.size + 1 + 1) z15 77 from Blk.newAt _ _ _ _ (by simp)).below b1 (by omega)
    have hz1 : w.heap.size + 1 + 1 + 1 ≤ w1.heap.size := by have := b1.size; simpa using this
    have HB1 := Lib.hid (HB.out.trans (b1.mono (by omega)))
    have HO := Lib.hid (show Own w1 (w.heap.size + 1 + 1 + 1) _ _ from o1)
    clear o1 b1
    go_wp2_with (with_reducible refine wpList_storeB rfl 77 (.tmp 7) (.tmp 22) rfl w1.heap.size 0 (triC (.slice va m vc) (fun _ => 0) (fun _ => 0) false false) ?_ ?_ z15 77 ?_ ?_ ?_ ?_ ?_)
    · rfl
    · rfl
    · exact Blk.newAt _ _ _ _ rfl
    · exact Nat.le_refl _
    · exact isz15
    · exact one_triC _ _ _ _ _ rfl
    intro w2 h2 k2
    rw [splice_all _ _ (by rfl)] at h2
    have bb2 : Below w1.heap.size w1 w2 := ((Below.refl _ w1).alloc (Nat.le_refl _) _).trans (k2.out.below (Nat.le_refl _))
    have D1p := Lib.hid (c1.below bb2 (by omega))
    have C2 := Lib.hid (c2.below bb2 (by omega))
    have D3p := Lib.hid (c3.below bb2 (by omega))
    have Tp := Lib.hid h2.out
    have BZp := Lib.hid bb2
    have HOF : Hid (∀ w9, Below w1.heap.size w1 w9 → Own w9 (w.heap.size + 1 + 1 + 1) (.slice va m vc) (L ++ [x]) ∧ Below w.heap.size w w9) := Lib.hid (fun w9 h9 => ⟨HO.out.below h9 (Nat.le_refl _), HB1.out.trans (h9.mono (by omega))⟩)
    clear c1 c2 c3 bb2 k2 HO HB1 HB h2
    generalize w1.heap.size = Z at *
    go_wp2_with (with_reducible refine wpList_loadB rfl 70 (.tmp 4) rfl (w.heap.size + 1) ?_ (rc ++ rd) 70 C2.out d86 HV.out.1 HV.out.2 ?_ ?_)
    · rfl
    · rw [HL86.out]; exact isz86
    clear C2
    go_wp2
    refine wp_loop_rounds 3 ?_
    rw [rounds_succ]
    go_wp2_with (first | (with_reducible refine wpList_index2 rfl (.tmp 23) (.tmp 24) rfl 0 (by omega) rc rd HL1.out HL2.out ?_ ?_ ?_) | (with_reducible refine wpList_storeB rfl 69 (.tmp 9) (.tmp 27) rfl w2.heap.size 0 rc ?_ ?_ z43 69 ?_ ?_ ?_ ?_ ?_))
    all_goals first | rfl | exact Blk.newAt _ _ _ _ rfl | (rw [HL1.out]; decide) | (rw [HL1.out]; exact isz43) | exact HO1.out | skip
    intro w0a h3 k3
    rw [splice_all _ _ HL1.out] at h3
    have bb3 : Below w2.heap.size w2 w0a := ((Below.refl _ w2).alloc (Nat.le_refl _) _).trans (k3.out.below (Nat.le_refl _))
    have hzz : Z < w2.heap.size := Tp.out.lt
    have D1a := Lib.hid (D1p.out.below bb3 D1p.out.lt)
    have D3a := Lib.hid (D3p.out.below bb3 D3p.out.lt)
    have Ta := Lib.hid (Tp.out.below bb3 Tp.out.lt)
    have BZa := Lib.hid (BZp.out.trans (bb3.mono (Nat.le_of_lt hzz)))
    clear k3 bb3 D1p D3p Tp BZp
    generalize w2.heap.size = X0 at *
    go_wp2
    refine wp_region_noPanic ?_
    refine wp_region_held_drew (S := fun w' => Blk w' X0 rc 69 ∧ Blk w' w.heap.size [.slice (some ⟨b, off, none⟩) n c, .int .i64 (k 0), .int .i64 (k 1), .int .i64 (k 2), .int .i64 (k 3), .int .i64 (k 4), .int .i64 (k 5), .int .i64 (l 0), .int .i64 (l 1), .int .i64 (l 2), .int .i64 (l 3), .int .i64 (l 4), .int .i64 (l 5), .bool g, .bool h] 77) (by kernel_rfl) ⟨h3.out, D1a.out⟩ (fun hS => ?_)
    refine wpAnyH_take (i := 0) (oi := ⟨some 29, _, _, _, _, _⟩) (v := ?_) rfl (by kernel_rfl) (by kernel_rfl) (by kernel_rfl) (fun _ _ _ h => h) (Or.inl ⟨by rfl, ?_⟩) hS ?_
    rotate_left
    · intro w9 _
      go_simp
      try with_reducible rfl
    simp only [Act.put, List.setIfInBounds_toArray, List.set_cons_zero, List.set_cons_succ]
    refine wpAnyH_take (i := 1) (oi := ⟨some 30, _, _, _, _, _⟩) (v := ?_) rfl (by kernel_rfl) (by kernel_rfl) (by kernel_rfl) (fun _ _ _ h => h) (Or.inl ⟨by rfl, ?_⟩) hS ?_
    rotate_left
    · intro w9 _
      go_simp
      try with_reducible rfl
    simp only [Act.put, List.setIfInBounds_toArray, List.set_cons_zero, List.set_cons_succ]
    refine wpAnyH_take (i := 3) (oi := ⟨some 32, _, _, _, _, _⟩) (v := ?_) rfl (by kernel_rfl) (by kernel_rfl) (by kernel_rfl) (fun _ _ _ h => h) (Or.inl ⟨by rfl, ?_⟩) hS ?_
    rotate_left
    · intro w9 _
      go_simp
      try with_reducible rfl
    simp only [Act.put, List.setIfInBounds_toArray, List.set_cons_zero, List.set_cons_succ]
    refine wpAnyH_take (i := 4) (oi := ⟨some 33, _, _, _, _, _⟩) (v := ?_) rfl (by kernel_rfl) (by kernel_rfl) (by kernel_rfl) (fun _ _ _ h => h) (Or.inl ⟨by rfl, ?_⟩) hS ?_
    rotate_left
    · intro w9 _
      go_simp
      try with_reducible rfl
    simp only [Act.put, List.setIfInBounds_toArray, List.set_cons_zero, List.set_cons_succ]
    refine wpAnyH_take (i := 5) (oi := ⟨some 34, _, _, _, _, _⟩) (v := ?_) rfl (by kernel_rfl) (by kernel_rfl) (by kernel_rfl) (fun _ _ _ h => h) (Or.inl ⟨by rfl, ?_⟩) hS ?_
    rotate_left
    · intro w9 _
      go_simp
      try with_reducible rfl
    simp only [Act.put, List.setIfInBounds_toArray, List.set_cons_zero, List.set_cons_succ]
    refine wpAnyH_take (i := 7) (oi := ⟨some 36, _, _, _, _, _⟩) (v := ?_) rfl (by kernel_rfl) (by kernel_rfl) (by kernel_rfl) (fun _ _ _ h => h) (Or.inl ⟨by rfl, ?_⟩) hS ?_
    rotate_left
    · intro w9 _
      go_simp
      try with_reducible rfl
    simp only [Act.put, List.setIfInBounds_toArray, List.set_cons_zero, List.set_cons_succ]
    refine wpAnyH_take (i := 12) (oi := ⟨some 40, _, _, _, _, _⟩) (v := ?_) rfl (by kernel_rfl) (by kernel_rfl) (by kernel_rfl) (fun _ _ _ h => h) (Or.inl ⟨by rfl, ?_⟩) hS ?_
    rotate_left
    · intro w9 _
      go_simp
      try with_reducible rfl
    simp only [Act.put, List.setIfInBounds_toArray, List.set_cons_zero, List.set_cons_succ]
    refine wpAnyH_take (i := 15) (oi := ⟨some 42, _, _, _, _, _⟩) (v := ?_) rfl (by kernel_rfl) (by kernel_rfl) (by kernel_rfl) (fun _ _ _ h => h) (Or.inl ⟨by rfl, ?_⟩) hS ?_
    rotate_left
    · intro w9 _
      go_simp
      try with_reducible rfl
    simp only [Act.put, List.setIfInBounds_toArray, List.set_cons_zero, List.set_cons_succ]
    refine wpAnyH_take (i := 2) (oi := ⟨some 31, _, _, _, _, _⟩) (v := .agg rc.toArray) rfl (by kernel_rfl) (by kernel_rfl) (by kernel_rfl) (fun _ _ _ h => h) ?_ hS ?_
    · refine yieldsIf_load_mid ?_ 69 (.tmp 9) ?_ X0 0 ?_ rc d43 ?_ HU.out.1 HU.out.2 ?_
      · rfl
      · rfl
      · rfl
      · intro w9 h9
        have q := h9.1.range 0 rc.length
        rw [List.drop_zero, List.take_length] at q
        exact q
      · rw [HL1.out]; exact isz43
    simp only [Act.put, List.setIfInBounds_toArray, List.set_cons_zero, List.set_cons_succ]
    refine wpAnyH_take (i := 6) (oi := ⟨some 35, _, _, _, _, _⟩) (v := .agg (six6 k).toArray) rfl (by kernel_rfl) (by kernel_rfl) (by kernel_rfl) (fun _ _ _ h => h) ?_ hS ?_
    · refine yieldsIf_load_mid ?_ 73 (.tmp 34) ?_ w.heap.size 1 ?_ (six6 k) d6 ?_ HU6.out.1 HU6.out.2 isz6c
      · rfl
      · rfl
      · rfl
      · intro w9 h9
        exact h9.2.range 1 6
    simp only [Act.put, List.setIfInBounds_toArray, List.set_cons_zero, List.set_cons_succ]
    refine wpAnyH_ready (rs := [8]) (by kernel_rfl) (by simp) ?_
    refine AllReadyH.cons (o := ⟨some 37, _, _, _, _, _⟩) rfl (fun K hK => ?_) AllReadyH.nil
    go_simp
    go_wp2_with (go_at_call 56; (with_reducible refine (HU1.out _).mono ?_); rintro e w0b ⟨rfl, b4⟩)
    refine hK.out _ _ ⟨h3.out.below (drewB b4) h3.out.lt, D1a.out.below (drewB b4) D1a.out.lt⟩ (fun hS4 => ?_)
    clear hK K hS
    try simp only [Act.put, List.setIfInBounds_toArray, List.set_cons_zero, List.set_cons_succ]
    refine wpAnyH_take (i := 9) (oi := ⟨some 28, _, _, _, _, _⟩) (v := ?_) rfl (by kernel_rfl) (by kernel_rfl) (by kernel_rfl) (fun _ _ _ h => h) (Or.inl ⟨by rfl, ?_⟩) hS4 ?_
    rotate_left
    · intro w9 _
      go_simp
      try with_reducible rfl
    simp only [Act.put, List.setIfInBounds_toArray, List.set_cons_zero, List.set_cons_succ]
    refine wpAnyH_take (i := 10) (oi := ⟨some 38, _, _, _, _, _⟩) (v := ?_) rfl (by kernel_rfl) (by kernel_rfl) (by kernel_rfl) (fun _ _ _ h => h) (Or.inl ⟨by rfl, ?_⟩) hS4 ?_
    rotate_left
    · intro w9 _
      go_simp
      try with_reducible rfl
    simp only [Act.put, List.setIfInBounds_toArray, List.set_cons_zero, List.set_cons_succ]
    refine wpAnyH_take (i := 11) (oi := ⟨some 39, _, _, _, _, _⟩) (v := ?_) rfl (by kernel_rfl) (by kernel_rfl) (by kernel_rfl) (fun _ _ _ h => h) (Or.inl ⟨by rfl, ?_⟩) hS4 ?_
    rotate_left
    · intro w9 _
      go_simp
      try with_reducible rfl
    simp only [Act.put, List.setIfInBounds_toArray, List.set_cons_zero, List.set_cons_succ]
    refine wpAnyH_take (i := 13) (oi := ⟨some 41, _, _, _, _, _⟩) (v := ?_) rfl (by kernel_rfl) (by kernel_rfl) (by kernel_rfl) (fun _ _ _ h => h) (Or.inl ⟨by rfl, ?_⟩) hS4 ?_
    rotate_left
    · intro w9 _
      go_simp
      try with_reducible rfl
    simp only [Act.put, List.setIfInBounds_toArray, List.set_cons_zero, List.set_cons_succ]
    have hza : Z < w0a.heap.size := Ta.out.lt
    have hX : X0 < w0a.heap.size := h3.out.lt
    have Tb := Lib.hid (Ta.out.below (drewB b4) Ta.out.lt)
    have D3b := Lib.hid (D3a.out.below (drewB b4) D3a.out.lt)
    have BZb := Lib.hid (BZa.out.trans ((drewB b4).mono (Nat.le_of_lt hza)))
    clear b4 Ta D3a BZa D1a h3
    refine wpAnyH_ready (rs := [14]) (by kernel_rfl) (by simp) ?_
    refine AllReadyH.cons (o := ⟨none, _, _, _, _, _⟩) rfl (fun K hK => ?_) AllReadyH.nil
    rw [if_pos (by rfl)]
    refine wp_store_mid 73 (.tmp 41) (.tmp 38) rfl Z 1 (six6 k').toArray rfl rfl (Tb.out.there 1 6 (show 1 + 6 ≤ 15 by omega)) isz6c (all_oneCell_toArray (one6 k')) ?_
    obtain ⟨w0c, hw5⟩ : ∃ w5, w5 = w0b.setCells Z 1 (six6 k').toArray.toList := ⟨_, rfl⟩
    rw [← hw5]
    have K5 : Keep Z w0b w0c := by rw [hw5]; exact keep_set Z _ _ _
    have T5 : Blk w0c Z (triC (.slice va m vc) k' (fun _ => 0) false false) 77 := by rw [hw5]; exact blk_set Z _ (six6 k') 1 _ _ Tb.out (show 1 + 6 ≤ 15 by omega)
    refine hK.out _ _ ⟨K5.blk hS4.1 (by omega), K5.blk hS4.2 (by omega)⟩ (fun hS5 => ?_)
    clear hK K hw5
    try simp only [Act.put, List.setIfInBounds_toArray, List.set_cons_zero, List.set_cons_succ]
    refine wpAnyH_take (i := 16) (oi := ⟨some 43, _, _, _, _, _⟩) (v := ?_) rfl (by kernel_rfl) (by kernel_rfl) (by kernel_rfl) (fun _ _ _ h => h) (Or.inl ⟨by rfl, ?_⟩) hS5 ?_
    rotate_left
    · intro w9 _
      go_simp
      try with_reducible rfl
    simp only [Act.put, List.setIfInBounds_toArray, List.set_cons_zero, List.set_cons_succ]
    have c13 : w0c.cell? ⟨Z, 13, none⟩ = some (.bool false) := T5.cell 13
    have f13 : w0c.frozen? ⟨Z, 13, none⟩ = false := T5.froz 13
    refine wpAnyH_ready (rs := [17]) (by kernel_rfl) (by simp) ?_
    refine AllReadyH.cons (o := ⟨none, _, _, _, _, _⟩) rfl (fun K hK => ?_) AllReadyH.nil
    go_simp
    obtain ⟨w0d, hw6⟩ : ∃ w6, w6 = w0c.setCell ⟨Z, 13, none⟩ (.bool g') := ⟨_, rfl⟩
    rw [← hw6]
    have K6 : Keep Z w0c w0d := by rw [hw6]; exact keep_set Z [.bool g'] 13 _
    have T6 : Blk w0d Z (triC (.slice va m vc) k' (fun _ => 0) g' false) 77 := by rw [hw6]; exact blk_set Z _ [.bool g'] 13 _ _ T5 (show 13 + 1 ≤ 15 by omega)
    refine hK.out _ _ ⟨K6.blk hS5.1 (by omega), K6.blk hS5.2 (by omega)⟩ (fun hS6 => ?_)
    clear hK K hw6 c13 f13
    try simp only [Act.put, List.setIfInBounds_toArray, List.set_cons_zero, List.set_cons_succ]
    refine wpAnyH_done (by kernel_rfl) ?_ _
    refine NoPanic.normal ?_
    have D1p := Lib.hid hS6.2
    have D3p := Lib.hid (K6.blk (K5.blk D3b.out (by omega)) (by omega))
    have Tp := Lib.hid T6
    have BZp := Lib.hid ((BZb.out.trans (K5.below (Nat.le_refl _))).trans (K6.below (Nat.le_refl _)))
    clear hS4 hS5 hS6 K5 K6 T5 T6 D3b BZb Tb hza hX hzz
    go_wp2
    rw [rounds_succ]
    go_wp2_with (first | (with_reducible refine wpList_index2 rfl (.tmp 23) (.tmp 24) rfl 1 (by omega) rc rd HL1.out HL2.out ?_ ?_ ?_) | (with_reducible refine wpList_storeB rfl 69 (.tmp 9) (.tmp 27) rfl w0d.heap.size 0 rd ?_ ?_ z43 69 ?_ ?_ ?_ ?_ ?_))
    all_goals first | rfl | exact Blk.newAt _ _ _ _ rfl | (rw [HL2.out]; decide) | (rw [HL2.out]; exact isz43) | exact HO2.out | skip
    intro w1a h3 k3
    rw [splice_all _ _ HL2.out] at h3
    have bb3 : Below w0d.heap.size w0d w1a := ((Below.refl _ w0d).alloc (Nat.le_refl _) _).trans (k3.out.below (Nat.le_refl _))
    have hzz : Z < w0d.heap.size := Tp.out.lt
    have D1a := Lib.hid (D1p.out.below bb3 D1p.out.lt)
    have D3a := Lib.hid (D3p.out.below bb3 D3p.out.lt)
    have Ta := Lib.hid (Tp.out.below bb3 Tp.out.lt)
    have BZa := Lib.hid (BZp.out.trans (bb3.mono (Nat.le_of_lt hzz)))
    clear k3 bb3 D1p D3p Tp BZp
    generalize w0d.heap.size = X1 at *
    go_wp2
    refine wp_region_noPanic ?_
    refine wp_region_held_drew (S := fun w' => Blk w' X1 rd 69 ∧ Blk w' w.heap.size [.slice (some ⟨b, off, none⟩) n c, .int .i64 (k 0), .int .i64 (k 1), .int .i64 (k 2), .int .i64 (k 3), .int .i64 (k 4), .int .i64 (k 5), .int .i64 (l 0), .int .i64 (l 1), .int .i64 (l 2), .int .i64 (l 3), .int .i64 (l 4), .int .i64 (l 5), .bool g, .bool h] 77) (by kernel_rfl) ⟨h3.out, D1a.out⟩ (fun hS => ?_)
    refine wpAnyH_take (i := 0) (oi := ⟨some 29, _, _, _, _, _⟩) (v := ?_) rfl (by kernel_rfl) (by kernel_rfl) (by kernel_rfl) (fun _ _ _ h => h) (Or.inl ⟨by rfl, ?_⟩) hS ?_
    rotate_left
    · intro w9 _
      go_simp
      try with_reducible rfl
    simp only [Act.put, List.setIfInBounds_toArray, List.set_cons_zero, List.set_cons_succ]
    refine wpAnyH_take (i := 1) (oi := ⟨some 30, _, _, _, _, _⟩) (v := ?_) rfl (by kernel_rfl) (by kernel_rfl) (by kernel_rfl) (fun _ _ _ h => h) (Or.inl ⟨by rfl, ?_⟩) hS ?_
    rotate_left
    · intro w9 _
      go_simp
      try with_reducible rfl
    simp only [Act.put, List.setIfInBounds_toArray, List.set_cons_zero, List.set_cons_succ]
    refine wpAnyH_take (i := 3) (oi := ⟨some 32, _, _, _, _, _⟩) (v := ?_) rfl (by kernel_rfl) (by kernel_rfl) (by kernel_rfl) (fun _ _ _ h => h) (Or.inl ⟨by rfl, ?_⟩) hS ?_
    rotate_left
    · intro w9 _
      go_simp
      try with_reducible rfl
    simp only [Act.put, List.setIfInBounds_toArray, List.set_cons_zero, List.set_cons_succ]
    refine wpAnyH_take (i := 4) (oi := ⟨some 33, _, _, _, _, _⟩) (v := ?_) rfl (by kernel_rfl) (by kernel_rfl) (by kernel_rfl) (fun _ _ _ h => h) (Or.inl ⟨by rfl, ?_⟩) hS ?_
    rotate_left
    · intro w9 _
      go_simp
      try with_reducible rfl
    simp only [Act.put, List.setIfInBounds_toArray, List.set_cons_zero, List.set_cons_succ]
    refine wpAnyH_take (i := 5) (oi := ⟨some 34, _, _, _, _, _⟩) (v := ?_) rfl (by kernel_rfl) (by kernel_rfl) (by kernel_rfl) (fun _ _ _ h => h) (Or.inl ⟨by rfl, ?_⟩) hS ?_
    rotate_left
    · intro w9 _
      go_simp
      try with_reducible rfl
    simp only [Act.put, List.setIfInBounds_toArray, List.set_cons_zero, List.set_cons_succ]
    refine wpAnyH_take (i := 7) (oi := ⟨some 36, _, _, _, _, _⟩) (v := ?_) rfl (by kernel_rfl) (by kernel_rfl) (by kernel_rfl) (fun _ _ _ h => h) (Or.inl ⟨by rfl, ?_⟩) hS ?_
    rotate_left
    · intro w9 _
      go_simp
      try with_reducible rfl
    simp only [Act.put, List.setIfInBounds_toArray, List.set_cons_zero, List.set_cons_succ]
    refine wpAnyH_take (i := 12) (oi := ⟨some 40, _, _, _, _, _⟩) (v := ?_) rfl (by kernel_rfl) (by kernel_rfl) (by kernel_rfl) (fun _ _ _ h => h) (Or.inl ⟨by rfl, ?_⟩) hS ?_
    rotate_left
    · intro w9 _
      go_simp
      try with_reducible rfl
    simp only [Act.put, List.setIfInBounds_toArray, List.set_cons_zero, List.set_cons_succ]
    refine wpAnyH_take (i := 15) (oi := ⟨some 42, _, _, _, _, _⟩) (v := ?_) rfl (by kernel_rfl) (by kernel_rfl) (by kernel_rfl) (fun _ _ _ h => h) (Or.inl ⟨by rfl, ?_⟩) hS ?_
    rotate_left
    · intro w9 _
      go_simp
      try with_reducible rfl
    simp only [Act.put, List.setIfInBounds_toArray, List.set_cons_zero, List.set_cons_succ]
    refine wpAnyH_take (i := 2) (oi := ⟨some 31, _, _, _, _, _⟩) (v := .agg rd.toArray) rfl (by kernel_rfl) (by kernel_rfl) (by kernel_rfl) (fun _ _ _ h => h) ?_ hS ?_
    · refine yieldsIf_load_mid ?_ 69 (.tmp 9) ?_ X1 0 ?_ rd d43 ?_ HU.out.1 HU.out.2 ?_
      · rfl
      · rfl
      · rfl
      · intro w9 h9
        have q := h9.1.range 0 rd.length
        rw [List.drop_zero, List.take_length] at q
        exact q
      · rw [HL2.out]; exact isz43
    simp only [Act.put, List.setIfInBounds_toArray, List.set_cons_zero, List.set_cons_succ]
    refine wpAnyH_take (i := 6) (oi := ⟨some 35, _, _, _, _, _⟩) (v := .agg (six6 l).toArray) rfl (by kernel_rfl) (by kernel_rfl) (by kernel_rfl) (fun _ _ _ h => h) ?_ hS ?_
    · refine yieldsIf_load_mid ?_ 73 (.tmp 34) ?_ w.heap.size 7 ?_ (six6 l) d6 ?_ HU6.out.1 HU6.out.2 isz6c
      · rfl
      · rfl
      · rfl
      · intro w9 h9
        exact h9.2.range 7 6
    simp only [Act.put, List.setIfInBounds_toArray, List.set_cons_zero, List.set_cons_succ]
    refine wpAnyH_ready (rs := [8]) (by kernel_rfl) (by simp) ?_
    refine AllReadyH.cons (o := ⟨some 37, _, _, _, _, _⟩) rfl (fun K hK => ?_) AllReadyH.nil
    go_simp
    go_wp2_with (go_at_call 56; (with_reducible refine (HU2.out _).mono ?_); rintro e w1b ⟨rfl, b4⟩)
    refine hK.out _ _ ⟨h3.out.below (drewB b4) h3.out.lt, D1a.out.below (drewB b4) D1a.out.lt⟩ (fun hS4 => ?_)
    clear hK K hS
    try simp only [Act.put, List.setIfInBounds_toArray, List.set_cons_zero, List.set_cons_succ]
    refine wpAnyH_take (i := 9) (oi := ⟨some 28, _, _, _, _, _⟩) (v := ?_) rfl (by kernel_rfl) (by kernel_rfl) (by kernel_rfl) (fun _ _ _ h => h) (Or.inl ⟨by rfl, ?_⟩) hS4 ?_
    rotate_left
    · intro w9 _
      go_simp
      try with_reducible rfl
    simp only [Act.put, List.setIfInBounds_toArray, List.set_cons_zero, List.set_cons_succ]
    refine wpAnyH_take (i := 10) (oi := ⟨some 38, _, _, _, _, _⟩) (v := ?_) rfl (by kernel_rfl) (by kernel_rfl) (by kernel_rfl) (fun _ _ _ h => h) (Or.inl ⟨by rfl, ?_⟩) hS4 ?_
    rotate_left
    · intro w9 _
      go_simp
      try with_reducible rfl
    simp only [Act.put, List.setIfInBounds_toArray, List.set_cons_zero, List.set_cons_succ]
    refine wpAnyH_take (i := 11) (oi := ⟨some 39, _, _, _, _, _⟩) (v := ?_) rfl (by kernel_rfl) (by kernel_rfl) (by kernel_rfl) (fun _ _ _ h => h) (Or.inl ⟨by rfl, ?_⟩) hS4 ?_
    rotate_left
    · intro w9 _
      go_simp
      try with_reducible rfl
    simp only [Act.put, List.setIfInBounds_toArray, List.set_cons_zero, List.set_cons_succ]
    refine wpAnyH_take (i := 13) (oi := ⟨some 41, _, _, _, _, _⟩) (v := ?_) rfl (by kernel_rfl) (by kernel_rfl) (by kernel_rfl) (fun _ _ _ h => h) (Or.inl ⟨by rfl, ?_⟩) hS4 ?_
    rotate_left
    · intro w9 _
      go_simp
      try with_reducible rfl
    simp only [Act.put, List.setIfInBounds_toArray, List.set_cons_zero, List.set_cons_succ]
    have hza : Z < w1a.heap.size := Ta.out.lt
    have hX : X1 < w1a.heap.size := h3.out.lt
    have Tb := Lib.hid (Ta.out.below (drewB b4) Ta.out.lt)
    have D3b := Lib.hid (D3a.out.below (drewB b4) D3a.out.lt)
    have BZb := Lib.hid (BZa.out.trans ((drewB b4).mono (Nat.le_of_lt hza)))
    clear b4 Ta D3a BZa D1a h3
    refine wpAnyH_ready (rs := [14]) (by kernel_rfl) (by simp) ?_
    refine AllReadyH.cons (o := ⟨none, _, _, _, _, _⟩) rfl (fun K hK => ?_) AllReadyH.nil
    rw [if_pos (by rfl)]
    refine wp_store_mid 73 (.tmp 41) (.tmp 38) rfl Z 7 (six6 l').toArray rfl rfl (Tb.out.there 7 6 (show 7 + 6 ≤ 15 by omega)) isz6c (all_oneCell_toArray (one6 l')) ?_
    obtain ⟨w1c, hw5⟩ : ∃ w5, w5 = w1b.setCells Z 7 (six6 l').toArray.toList := ⟨_, rfl⟩
    rw [← hw5]
    have K5 : Keep Z w1b w1c := by rw [hw5]; exact keep_set Z _ _ _
    have T5 : Blk w1c Z (triC (.slice va m vc) k' l' g' false) 77 := by rw [hw5]; exact blk_set Z _ (six6 l') 7 _ _ Tb.out (show 7 + 6 ≤ 15 by omega)
    refine hK.out _ _ ⟨K5.blk hS4.1 (by omega), K5.blk hS4.2 (by omega)⟩ (fun hS5 => ?_)
    clear hK K hw5
    try simp only [Act.put, List.setIfInBounds_toArray, List.set_cons_zero, List.set_cons_succ]
    refine wpAnyH_take (i := 16) (oi := ⟨some 43, _, _, _, _, _⟩) (v := ?_) rfl (by kernel_rfl) (by kernel_rfl) (by kernel_rfl) (fun _ _ _ h => h) (Or.inl ⟨by rfl, ?_⟩) hS5 ?_
    rotate_left
    · intro w9 _
      go_simp
      try with_reducible rfl
    simp only [Act.put, List.setIfInBounds_toArray, List.set_cons_zero, List.set_cons_succ]
    have c13 : w1c.cell? ⟨Z, 14, none⟩ = some (.bool false) := T5.cell 14
    have f13 : w1c.frozen? ⟨Z, 14, none⟩ = false := T5.froz 14
    refine wpAnyH_ready (rs := [17]) (by kernel_rfl) (by simp) ?_
    refine AllReadyH.cons (o := ⟨none, _, _, _, _, _⟩) rfl (fun K hK => ?_) AllReadyH.nil
    go_simp
    obtain ⟨w1d, hw6⟩ : ∃ w6, w6 = w1c.setCell ⟨Z, 14, none⟩ (.bool h') := ⟨_, rfl⟩
    rw [← hw6]
    have K6 : Keep Z w1c w1d := by rw [hw6]; exact keep_set Z [.bool h'] 14 _
    have T6 : Blk w1d Z (triC (.slice va m vc) k' l' g' h') 77 := by rw [hw6]; exact blk_set Z _ [.bool h'] 14 _ _ T5 (show 14 + 1 ≤ 15 by omega)
    refine hK.out _ _ ⟨K6.blk hS5.1 (by omega), K6.blk hS5.2 (by omega)⟩ (fun hS6 => ?_)
    clear hK K hw6 c13 f13
    try simp only [Act.put, List.setIfInBounds_toArray, List.set_cons_zero, List.set_cons_succ]
    refine wpAnyH_done (by kernel_rfl) ?_ _
    refine NoPanic.normal ?_
    have D1p := Lib.hid hS6.2
    have D3p := Lib.hid (K6.blk (K5.blk D3b.out (by omega)) (by omega))
    have Tp := Lib.hid T6
    have BZp := Lib.hid ((BZb.out.trans (K5.below (Nat.le_refl _))).trans (K6.below (Nat.le_refl _)))
    clear hS4 hS5 hS6 K5 K6 T5 T6 D3b BZb Tb hza hX hzz
    go_wp2
    rw [rounds_succ]
    go_wp2_with (first | (with_reducible refine wpList_loadB rfl 77 (.tmp 7) rfl Z ?_ (triC (.slice va m vc) k' l' g' h') 77 Tp.out d15 HU15.out.1 HU15.out.2 ?_ ?_) | (with_reducible refine wpList_storeB rfl 77 (.tmp 6) (.tmp 45) rfl (w.heap.size + 1 + 1) 0 (triC (.slice va m vc) k' l' g' h') ?_ ?_ z15 77 D3p.out ?_ ?_ ?_ ?_))
    all_goals first | rfl | exact isz15 | exact Nat.le_refl _ | exact one_triC _ _ _ _ _ rfl | skip
    intro w8 h8 k8
    rw [splice_all _ _ (by rfl)] at h8
    have hF := HOF.out _ BZp.out
    have hK8 : Below (w.heap.size + 1 + 1) w1d w8 := k8.out.below (Nat.le_refl _)
    go_wp2
    refine bodyPost_ret (results1 (a := 6) (t := 77) (p := ⟨w.heap.size + 1 + 1, 0, none⟩) (by kernel_rfl) rfl (HL15.out _ _ _ h8.out rfl)) rfl ⟨.slice va m vc, rfl, ?_, ?_⟩
    · exact (own_keep hF.1 k8.out (by omega)).mono (by omega)
    · exact hF.2.trans (hK8.mono (by omega))
end Go.Proofs.Ytbjgfbhfmaddgaa.Pv
namespace Go.Proofs.Ytbjgfbhfmaddgaa.Pv
open Go.RowKit
def brkP (l : Nat → Int) (x : Int) : Bool := decide (x ≠ -1) && !(sixN l).contains x
def brkB (k l : Nat → Int) : Bool := (sixN k).any (brkP l)
def brkJ (k l : Nat → Int) (j : Nat) : Bool := ((sixN k).take j).any (brkP l)
theorem brkJ_succ (k l : Nat → Int) (j : Nat) (h : j < 6) : brkJ k l (j + 1) = (brkJ k l j || brkP l (k j)) := by
  unfold brkJ
  have h' : j < (sixN k).length := h
  rw [List.take_succ_eq_append_getElem h', List.any_append, ← Tr.getD_get' _ _ h', sixN_get k j h]
  simp
theorem brkJ_true (k l : Nat → Int) (j : Nat) (h : j < 6) (hp : brkP l (k j) = true) : brkB k l = true := by
  unfold brkB
  rw [List.any_eq_true]
  have h' : j < (sixN k).length := h
  exact ⟨k j, by rw [← sixN_get k j h, Tr.getD_get' _ _ h']; exact List.getElem_mem _, hp⟩
theorem und6' : Try.prog.underlying 73 = some (.array 6 2) := by kernel_rfl
theorem run_index6 (w : World) (j : Nat) (hj : j < 6) (k : Nat → Int) :
    (Instr.index 73 (.agg (six6 k).toArray) (.int .i64 (j : Nat))).run Try.prog w = .ok (.int .i64 (k j)) w := by
  have hu := run_underlying und6' w
  have hz := Try.sizeOf2 w
  have ha := Try.isAgg2 w
  rcases below6 hj with rfl | rfl | rfl | rfl | rfl | rfl <;> simp [Instr.index, asIntOf, hu, hz, part, ha, Result.andThen, six6]
theorem wpList_index6 {ops : Array Oper} {rest : List Oper} {op : Oper} {a : Act} {w : World} {Q : Exit → Act → World → Prop} (hgd : op.guard = none) (x y : Operand) (ho : op.op = .index 73 x y)
    (j : Nat) (hj : j < 6) (k : Nat → Int) (hx : a.eval x = .agg (six6 k).toArray) (hy : a.eval y = .int .i64 (j : Nat))
    (h : wpList Try.prog ops Q rest (a.put op.dst (.int .i64 (k j))) w) : wpList Try.prog ops Q (op :: rest) a w := by
  refine wpList_plain hgd fun K hK => ?_
  have hr := run_index6 w j hj k
  unfold Oper.wp
  simp [execOp, ho, hx, hy, hr, Result.andThen]
  exact hK _ _ h
set_option maxHeartbeats 2000000 in
set_option maxRecDepth 100000 in
theorem isb_i (u : Value) (k l : Nat → Int) (g h : Bool) (w : World) :
    Calls Try.prog 43 #[.agg #[u, .int .i64 (k 0), .int .i64 (k 1), .int .i64 (k 2), .int .i64 (k 3), .int .i64 (k 4), .int .i64 (k 5), .int .i64 (l 0), .int .i64 (l 1), .int .i64 (l 2), .int .i64 (l 3), .int .i64 (l 4), .int .i64 (l 5), .bool g, .bool h]] w (Bb (brkB k l) w) := by
  have hb0 : Below w.heap.size w (w.alloc (.cells #[u, .int .i64 (k 0), .int .i64 (k 1), .int .i64 (k 2), .int .i64 (k 3), .int .i64 (k 4), .int .i64 (k 5), .int .i64 (l 0), .int .i64 (l 1), .int .i64 (l 2), .int .i64 (l 3), .int .i64 (l 4), .int .i64 (l 5), .bool g, .bool h] 77)) := (Below.refl _ w).alloc (Nat.le_refl _) _
  have hK : Blk (w.alloc (.cells #[u, .int .i64 (k 0), .int .i64 (k 1), .int .i64 (k 2), .int .i64 (k 3), .int .i64 (k 4), .int .i64 (k 5), .int .i64 (l 0), .int .i64 (l 1), .int .i64 (l 2), .int .i64 (l 3), .int .i64 (l 4), .int .i64 (l 5), .bool g, .bool h] 77)) w.heap.size (triC u k l g h) 77 := Blk.newAt w _ (triC u k l g h) _ rfl
  have HH := Lib.hid (fun (x : Int) => show Calls Try.prog 57 #[.slice (some ⟨w.heap.size, 7, none⟩) 6 6, .int .i64 x] (w.alloc (.cells #[u, .int .i64 (k 0), .int .i64 (k 1), .int .i64 (k 2), .int .i64 (k 3), .int .i64 (k 4), .int .i64 (k 5), .int .i64 (l 0), .int .i64 (l 1), .int .i64 (l 2), .int .i64 (l 3), .int .i64 (l 4), .int .i64 (l 5), .bool g, .bool h] 77)) (fun e w' => e = .returned (.bool ((sixN l).contains x)) ∧ w' = _) from by
    have q := Try.slices_has w.heap.size 7 6 6 (sixN l) x _ (show 6 ≤ 6 by omega) (by omega) (fun j hj => by
      have hj6 : j < 6 := hj
      rw [hK.cell]
      rcases below6 hj6 with rfl | rfl | rfl | rfl | rfl | rfl <;> rfl)
    exact q)
  have HJ := Lib.hid (brkJ_succ k l)
  have HT := Lib.hid (brkJ_true k l)
  have H6 : Hid (brkJ k l 6 = brkB k l) := Lib.hid rfl
  have H0 : Hid (brkJ k l 0 = false) := Lib.hid rfl
  have HP : Hid (∀ x, brkP l x = (decide (x ≠ -1) && !(sixN l).contains x)) := Lib.hid (fun _ => rfl)
  have HB0 := Lib.hid hb0
  clear hb0 hK
  generalize brkJ k l = J at *
  generalize brkB k l = R at *
  generalize brkP l = P at *
  generalize (sixN l).contains = C at *
  go_enter Try.func43, Try.ntmps43
  go_wp2
  go_loopw [2, 8] (fun rv iv wr => ∃ j : Nat, j ≤ 6 ∧ rv = .bool false ∧ iv = .int .i64 j ∧ wr = (w.alloc (.cells #[u, .int .i64 (k 0), .int .i64 (k 1), .int .i64 (k 2), .int .i64 (k 3), .int .i64 (k 4), .int .i64 (k 5), .int .i64 (l 0), .int .i64 (l 1), .int .i64 (l 2), .int .i64 (l 3), .int .i64 (l 4), .int .i64 (l 5), .bool g, .bool h] 77)) ∧ Hid (J j = false)) (fun _ iv _ => 6 - (intOf iv).toNat)
  case atStart => exact ⟨0, by omega, rfl, rfl, rfl, H0⟩
  case round =>
    obtain ⟨j, hj, rfl, rfl, rfl, hJ⟩ := hrel
    by_cases hlt : j < 6
    · have hjs := HJ.out j hlt
      have hjt := HT.out j hlt
      rw [hJ.out, Bool.false_or, HP.out] at hjs
      rw [HP.out] at hjt
      have HHx := Lib.hid (HH.out (k j))
      have hjs := Lib.hid hjs
      have hjt := Lib.hid hjt
      have HLT := Lib.hid hlt
      have hlti : (j : Int) < 6 := by omega
      by_cases hx : k j = -1
      · have hb : decide (k j ≠ -1) = false := by rw [decide_eq_false]; simpa using hx
        rw [hb, Bool.false_and] at hjs
        have HX := Lib.hid hx
        clear HHx hjt hx hb
        go_wp2_with (refine wpList_index6 rfl (.tmp 7) (.tmp 8) rfl j HLT.out k rfl rfl ?_; rw [HX.out])
        go_roundw
        case rel => exact ⟨j + 1, by omega, by first | rfl | trivial, by go_num, by first | trivial | rfl, hjs⟩
        case measure => simp [intOf]; omega
      · have hb : decide (k j ≠ -1) = true := decide_eq_true hx
        rw [hb, Bool.true_and] at hjs hjt
        have hxx := Lib.hid hx
        clear hb
        cases hc : C (k j)
        · rw [hc] at hjs hjt HHx
          have hR : R = true := hjt.out rfl
          have HR := Lib.hid hR
          clear hR hjt hjs hc
          go_wp2_with (first | (refine wpList_index6 rfl (.tmp 7) (.tmp 8) rfl j HLT.out k rfl rfl ?_) | (go_at_call 57; (with_reducible refine HHx.out.mono ?_); rintro e w3 ⟨rfl, rfl⟩))
          go_ret
          refine ⟨?_, HB0.out⟩
          rw [HR.out]
          rfl
        · rw [hc] at hjs hjt HHx
          clear hjt hc
          go_wp2_with (first | (refine wpList_index6 rfl (.tmp 7) (.tmp 8) rfl j HLT.out k rfl rfl ?_) | (go_at_call 57; (with_reducible refine HHx.out.mono ?_); rintro e w3 ⟨rfl, rfl⟩))
          go_roundw
          case rel => exact ⟨j + 1, by omega, by first | rfl | trivial, by go_num, by first | trivial | rfl, hjs⟩
          case measure => simp [intOf]; omega
    · have e : j = 6 := by omega
      subst e
      rw [H6.out] at hJ
      go_wp2
      go_ret
      refine ⟨?_, HB0.out⟩
      rw [hJ.out]
      rfl
/-- What stays true of contents: addresses and empty ways, and nothing behind the ways. -/
def InvK (M : Nat) (k : Nat → Int) : Prop := (∀ i, i < 6 → k i = -1 ∨ 0 ≤ k i) ∧ ∀ i, M ≤ i → i < 6 → k i = -1
theorem ordN_far (xs : List Int) (i : Nat) (h : xs.length ≤ i) : ordN xs i = i := by
  unfold ordN ordF
  rw [if_neg (by omega)]; simp
theorem invK_step {hs : List (List Int)} {ms : List Int} (hok : isP hs ms = true) (k : Nat → Int) (x : Int) (hx : 0 ≤ x) (h : InvK ms.length k) : InvK ms.length (stN hs ms k x) := by
  obtain ⟨ho, h6, hlen⟩ := isP_miss_ord hok
  have h1M : 1 ≤ ms.length := by unfold isP at hok; simp only [Bool.and_eq_true, decide_eq_true_eq] at hok; omega
  obtain ⟨a1, a2⟩ := h
  by_cases hit : (rowL ms.length k).idxOf x < ms.length
  · have hJh : (rowL ms.length k).idxOf x < hs.length := by omega
    have hoj := isP_hit_ord hok _ hJh
    have hol := ordB_len hoj
    have hst : ∀ i, stN hs ms k x i = k (ordN (hs.getD ((rowL ms.length k).idxOf x) []) i) := fun i => if_pos hit
    generalize hs.getD ((rowL ms.length k).idxOf x) [] = o at *
    refine ⟨fun i hi => ?_, fun i hM hi => ?_⟩
    · rw [hst]
      exact a1 _ (ordN_lt (by rw [hol]; exact hoj) (by omega) i hi).1
    · rw [hst, ordN_far o i (by omega)]
      exact a2 i hM hi
  · have hst : ∀ i, stN hs ms k x i = putA k (ms.length - 1) x (ordN ms i) := fun i => if_neg hit
    refine ⟨fun i hi => ?_, fun i hM hi => ?_⟩
    · rw [hst]
      unfold putA
      split
      · exact .inr hx
      · exact a1 _ (ordN_lt ho (by omega) i hi).1
    · rw [hst, ordN_far ms i hM]
      unfold putA
      rw [if_neg (by omega)]
      exact a2 i hM hi
theorem mem_sixN (k : Nat → Int) (x : Int) : x ∈ sixN k ↔ ∃ i, i < 6 ∧ k i = x := by
  constructor
  · intro h
    simp [sixN] at h
    rcases h with h | h | h | h | h | h
    · exact ⟨0, by omega, h.symm⟩
    · exact ⟨1, by omega, h.symm⟩
    · exact ⟨2, by omega, h.symm⟩
    · exact ⟨3, by omega, h.symm⟩
    · exact ⟨4, by omega, h.symm⟩
    · exact ⟨5, by omega, h.symm⟩
  · rintro ⟨i, hi, rfl⟩
    rcases below6 hi with rfl | rfl | rfl | rfl | rfl | rfl <;> simp [sixN]
theorem mem_rowL (M : Nat) (k : Nat → Int) (x : Int) : x ∈ rowL M k ↔ ∃ i, i < M ∧ k i = x := by simp [rowL]
/-- The program's break is the model's. -/
theorem brk_ins {M M' : Nat} {k l : Nat → Int} (hM : M ≤ 6) (hM' : M' ≤ 6) (hk : InvK M k) (hl : InvK M' l) : insB (rowL M k) (rowL M' l) = !brkB k l := by
  have key : ∀ x : Int, 0 ≤ x → ((rowL M' l).contains x = (sixN l).contains x) := fun x hx => by
    rw [List.contains_eq_mem, List.contains_eq_mem]
    congr 1
    rw [mem_rowL, mem_sixN]
    refine propext ⟨fun ⟨i, h1, h2⟩ => ⟨i, by omega, h2⟩, fun ⟨i, h1, h2⟩ => ⟨i, ?_, h2⟩⟩
    rcases Nat.lt_or_ge i M' with h | h
    · exact h
    · have := hl.2 i h h1; omega
  cases hb : brkB k l with
  | true =>
    unfold brkB at hb
    rw [List.any_eq_true] at hb
    obtain ⟨x, hx, hp⟩ := hb
    obtain ⟨i, hi, rfl⟩ := (mem_sixN k x).1 hx
    unfold brkP at hp
    rw [Bool.and_eq_true] at hp
    have hne := of_decide_eq_true hp.1
    have h0 : 0 ≤ k i := by
      rcases hk.1 i hi with h | h
      · exact absurd h hne
      · exact h
    have hiM : i < M := by
      rcases Nat.lt_or_ge i M with h | h
      · exact h
      · exact absurd (hk.2 i h hi) hne
    cases hin : insB (rowL M k) (rowL M' l) with
    | false => rfl
    | true =>
      unfold insB at hin
      rw [List.all_eq_true] at hin
      have h2 := hin (k i) ((mem_rowL M k _).2 ⟨i, hiM, rfl⟩)
      rw [decide_eq_true h0, key _ h0] at h2
      rw [Bool.not_true, Bool.false_or] at h2
      rw [h2] at hp
      simp at hp
  | false =>
    have : insB (rowL M k) (rowL M' l) = true := by
      unfold insB
      rw [List.all_eq_true]
      intro x hx
      obtain ⟨i, hi, rfl⟩ := (mem_rowL M k x).1 hx
      by_cases h0 : 0 ≤ k i
      · rw [decide_eq_true h0, key _ h0, Bool.not_true, Bool.false_or]
        cases hc : (sixN l).contains (k i) with
        | true => rfl
        | false =>
          have : brkB k l = true := brkJ_true k l i (by omega) (by unfold brkP; rw [hc, decide_eq_true (by omega)]; rfl)
          rw [this] at hb
          cases hb
      · rw [decide_eq_false h0]; rfl
    rw [this]; rfl
end Go.Proofs.Ytbjgfbhfmaddgaa.Pv
namespace Go.Proofs.Ytbjgfbhfmaddgaa.Pv
open Go.RowKit
def FbQ (n : Int) (b ok : Bool) (w : World) (e : Ending) (w' : World) : Prop := e = .returned (.tuple #[.int .i64 n, .bool b, .bool ok]) ∧ Below w.heap.size w w'
theorem both_len (b c : Bool) (n m : Nat) (hs hs' : List (List Int)) (ms ms' : List Int) : (rulC b n hs ms ++ rulC c m hs' ms').length = 86 := by
  rw [List.length_append, rulC_len, rulC_len]
theorem both_one (b c : Bool) (n m : Nat) (hs hs' : List (List Int)) (ms ms' : List Int) : ∀ v ∈ rulC b n hs ms ++ rulC c m hs' ms', v.oneCell' = true := fun v hv => by
  rcases List.mem_append.1 hv with hv | hv
  · exact one_rulC _ _ _ _ v hv
  · exact one_rulC _ _ _ _ v hv
theorem fst_step (f : Nat → Bool) (N j : Nat) (h : j < N) : fstB f j (N - j) = if f j then fstB f (j + 1) (N - (j + 1)) else (j : Int) := by
  obtain ⟨m, hm⟩ : ∃ m, N - j = m + 1 := ⟨N - j - 1, by omega⟩
  rw [hm, show N - (j + 1) = m by omega]
  rfl
theorem with_a {hs hs' : List (List Int)} {ms ms' : List Int} (hok : isP hs ms = true) (hok' : isP hs' ms' = true) {B : Nat} {u : Value} {L : List Int} (k l : Nat → Int) (g h : Bool) (x : Int) (w : World) (ho : Own w B u L) (hl : L.length ≤ 1000) :
    Calls Try.prog 42 #[.agg (triC u k l g h).toArray, .agg (rulC true ms.length hs ms ++ rulC true ms'.length hs' ms').toArray, .int .i64 x] w
      (fun e w' => ∃ u', e = .returned (.agg (triC u' (stN hs ms k x) (stN hs' ms' l x) (hitB ms.length k x) (hitB ms'.length l x)).toArray) ∧ Own w' w.heap.size u' (L ++ [x]) ∧ Below w.heap.size w w') := by
  obtain ⟨a, c, rfl, h1, ⟨h2, h3⟩, h4⟩ := ho.rd
  have hnil : a = none → L.length = 0 := fun e => by
    subst e
    rcases Nat.eq_zero_or_pos L.length with h | h
    · exact h
    · obtain ⟨b, off, e, _⟩ := h4 0 h
      cases e
  exact with_i hok hok' a L.length c L k l g h x w h4 rfl h3 hnil hl h1 h2
theorem isb_a (u : Value) (k l : Nat → Int) (g h : Bool) (w : World) : Calls Try.prog 43 #[.agg (triC u k l g h).toArray] w (Bb (brkB k l) w) := isb_i u k l g h w
set_option maxHeartbeats 4000000 in
set_option maxRecDepth 100000 in
theorem fb_no1 {v v' : Value} {hs hs' : List (List Int)} {ms ms' xs : List Int} {w : World} {a2 : Option Addr} {c2 : Nat} (h : RdP w v hs ms) (h' : RdP w v' hs' ms') (hx : Rd w (.slice a2 xs.length c2) xs) (hxl : xs.length ≤ 1048576) (hno : (isP hs ms && isP hs' ms') = false) :
    Calls Try.prog 25 #[v, v', .slice a2 xs.length c2] w (FbQ (fbrV hs ms hs' ms' xs) (fbrB hs ms hs' ms' xs) (incOk hs ms hs' ms' xs) w) := by
  obtain ⟨d86, hu86, hd86⟩ := und86
  have HV := Lib.hid (And.intro hu86 hd86)
  clear hu86 hd86
  obtain ⟨d15, hu15, hd15⟩ := und15
  have HU15 := Lib.hid (And.intro hu15 hd15)
  clear hu15 hd15
  obtain ⟨a, c, a', c', rfl, h1, h2, h3, h4, h5⟩ := h
  obtain ⟨p, k, p', k', rfl, g1, g2, g3, g4, g5⟩ := h'
  have hxr := rd_rowB hx
  have b0 : Below w.heap.size w ((w.alloc (.cells #[.slice a hs.length c, .slice a' ms.length c'] 29)).alloc (.cells #[.slice p hs'.length k, .slice p' ms'.length k'] 29)) := ((Below.refl _ w).alloc (Nat.le_refl _) _).alloc (by simp) _
  have HBR := Lib.hid (both_i (rdp_below (w := w) ⟨a, c, a', c', rfl, h1, h2, h3, h4, h5⟩ b0) (rdp_below (w := w) ⟨p, k, p', k', rfl, g1, g2, g3, g4, g5⟩ b0))
  unfold RulR2 at HBR
  have HUS := Lib.hid (fun (w1 : World) (hb : Below w.heap.size w w1) => Tr.uses_i a2 c2 xs w1 hxl (hxr.below hb))
  have HB0 := Lib.hid b0
  have HXR := Lib.hid hxr
  clear b0 hx hxr h1 h2 h3 h4 h5 g1 g2 g3 g4 g5
  have e0 : incOk hs ms hs' ms' xs = false := by unfold incOk; rw [hno, Bool.false_and]
  have e1 : fbrB hs ms hs' ms' xs = false := by unfold fbrB; rw [e0, Bool.false_and]
  have e2 : fbrV hs ms hs' ms' xs = 0 := by unfold fbrV; rw [e1]; rfl
  rw [e0, e1, e2]
  clear e0 e1 e2
  rw [hno] at HBR
  have HLL := Lib.hid (both_len (isP hs ms) (isP hs' ms') ms.length ms'.length hs hs' ms ms')
  have HOO := Lib.hid (both_one (isP hs ms) (isP hs' ms') ms.length ms'.length hs hs' ms ms')
  clear hno
  generalize rulC (isP hs ms) ms.length hs ms ++ rulC (isP hs' ms') ms'.length hs' ms' = rr at *
  generalize xs.length = N at *
  generalize hs.length = N1 at *
  generalize ms.length = M1 at *
  generalize hs'.length = N2 at *
  generalize ms'.length = M2 at *
  go_enter Try.func25, Try.ntmps25
  go_wp2_with fail
  refine HBR.out.mono ?_; rintro e w1 ⟨rfl, b1⟩
  have HB1 := Lib.hid (bt HB0.out b1)
  have hz1 := HB1.out.size
  clear b1 HBR HB0
  go_wp2_with (with_reducible refine wpList_storeB rfl 70 (.tmp 9) (.tmp 18) rfl w1.heap.size 0 rr ?_ ?_ z86 70 ?_ ?_ ?_ ?_ ?_)
  · rfl
  · rfl
  · exact Blk.newAt _ _ _ _ rfl
  · rw [HLL.out]; decide
  · rw [HLL.out]; exact isz86
  · exact HOO.out
  intro w2 hR hK
  rw [splice_all _ _ (by rw [HLL.out]; rfl)] at hR
  have bb2 : Below w1.heap.size w1 w2 := ((Below.refl _ w1).alloc (Nat.le_refl _) _).trans (hK.out.below (Nat.le_refl _))
  have HB2 := Lib.hid (HB1.out.trans (bb2.mono hz1))
  have hRl : w1.heap.size < w2.heap.size := hR.out.lt
  clear bb2 hK HB1
  generalize w1.heap.size = Y at *
  go_wp2
  refine bodyPost_ret (v := .tuple #[.int .i64 0, .bool false, .bool false]) (by simp [results, Try.results25, go_sem]) rfl ⟨rfl, HB2.out⟩
set_option maxHeartbeats 4000000 in
set_option maxRecDepth 100000 in
theorem fb_no2 {v v' : Value} {hs hs' : List (List Int)} {ms ms' xs : List Int} {w : World} {a2 : Option Addr} {c2 : Nat} (h : RdP w v hs ms) (h' : RdP w v' hs' ms') (hx : Rd w (.slice a2 xs.length c2) xs) (hxl : xs.length ≤ 1048576) (hp : (isP hs ms && isP hs' ms') = true) (hno : Tr.okU xs = false) :
    Calls Try.prog 25 #[v, v', .slice a2 xs.length c2] w (FbQ (fbrV hs ms hs' ms' xs) (fbrB hs ms hs' ms' xs) (incOk hs ms hs' ms' xs) w) := by
  obtain ⟨d86, hu86, hd86⟩ := und86
  have HV := Lib.hid (And.intro hu86 hd86)
  clear hu86 hd86
  obtain ⟨d15, hu15, hd15⟩ := und15
  have HU15 := Lib.hid (And.intro hu15 hd15)
  clear hu15 hd15
  obtain ⟨a, c, a', c', rfl, h1, h2, h3, h4, h5⟩ := h
  obtain ⟨p, k, p', k', rfl, g1, g2, g3, g4, g5⟩ := h'
  have hxr := rd_rowB hx
  have b0 : Below w.heap.size w ((w.alloc (.cells #[.slice a hs.length c, .slice a' ms.length c'] 29)).alloc (.cells #[.slice p hs'.length k, .slice p' ms'.length k'] 29)) := ((Below.refl _ w).alloc (Nat.le_refl _) _).alloc (by simp) _
  have HBR := Lib.hid (both_i (rdp_below (w := w) ⟨a, c, a', c', rfl, h1, h2, h3, h4, h5⟩ b0) (rdp_below (w := w) ⟨p, k, p', k', rfl, g1, g2, g3, g4, g5⟩ b0))
  unfold RulR2 at HBR
  have HUS := Lib.hid (fun (w1 : World) (hb : Below w.heap.size w w1) => Tr.uses_i a2 c2 xs w1 hxl (hxr.below hb))
  have HB0 := Lib.hid b0
  have HXR := Lib.hid hxr
  clear b0 hx hxr h1 h2 h3 h4 h5 g1 g2 g3 g4 g5
  have e0 : incOk hs ms hs' ms' xs = false := by unfold incOk; rw [hno, Bool.and_false]
  have e1 : fbrB hs ms hs' ms' xs = false := by unfold fbrB; rw [e0, Bool.false_and]
  have e2 : fbrV hs ms hs' ms' xs = 0 := by unfold fbrV; rw [e1]; rfl
  rw [e0, e1, e2]
  clear e0 e1 e2
  rw [hp] at HBR
  rw [hno] at HUS
  have HLL := Lib.hid (both_len (isP hs ms) (isP hs' ms') ms.length ms'.length hs hs' ms ms')
  have HOO := Lib.hid (both_one (isP hs ms) (isP hs' ms') ms.length ms'.length hs hs' ms ms')
  clear hno hp
  generalize rulC (isP hs ms) ms.length hs ms ++ rulC (isP hs' ms') ms'.length hs' ms' = rr at *
  generalize xs.length = N at *
  generalize hs.length = N1 at *
  generalize ms.length = M1 at *
  generalize hs'.length = N2 at *
  generalize ms'.length = M2 at *
  go_enter Try.func25, Try.ntmps25
  go_wp2_with fail
  refine HBR.out.mono ?_; rintro e w1 ⟨rfl, b1⟩
  have HB1 := Lib.hid (bt HB0.out b1)
  have hz1 := HB1.out.size
  clear b1 HBR HB0
  go_wp2_with (with_reducible refine wpList_storeB rfl 70 (.tmp 9) (.tmp 18) rfl w1.heap.size 0 rr ?_ ?_ z86 70 ?_ ?_ ?_ ?_ ?_)
  · rfl
  · rfl
  · exact Blk.newAt _ _ _ _ rfl
  · rw [HLL.out]; decide
  · rw [HLL.out]; exact isz86
  · exact HOO.out
  intro w2 hR hK
  rw [splice_all _ _ (by rw [HLL.out]; rfl)] at hR
  have bb2 : Below w1.heap.size w1 w2 := ((Below.refl _ w1).alloc (Nat.le_refl _) _).trans (hK.out.below (Nat.le_refl _))
  have HB2 := Lib.hid (HB1.out.trans (bb2.mono hz1))
  have hRl : w1.heap.size < w2.heap.size := hR.out.lt
  clear bb2 hK HB1
  generalize w1.heap.size = Y at *
  go_wp2_with (go_at_call 40; (with_reducible refine (HUS.out _ HB2.out).mono ?_); rintro e w3 ⟨rfl, rfl⟩)
  refine bodyPost_ret (v := .tuple #[.int .i64 0, .bool false, .bool false]) (by simp [results, Try.results25, go_sem]) rfl ⟨rfl, HB2.out⟩
set_option maxHeartbeats 4000000 in
set_option maxRecDepth 100000 in
theorem fb_yes {v v' : Value} {hs hs' : List (List Int)} {ms ms' xs : List Int} {w : World} {a2 : Option Addr} {c2 : Nat} (h : RdP w v hs ms) (h' : RdP w v' hs' ms') (hx : Rd w (.slice a2 xs.length c2) xs) (hxl : xs.length ≤ 1048576) (hp : (isP hs ms && isP hs' ms') = true) (hok : Tr.okU xs = true) :
    Calls Try.prog 25 #[v, v', .slice a2 xs.length c2] w (FbQ (fbrV hs ms hs' ms' xs) (fbrB hs ms hs' ms' xs) (incOk hs ms hs' ms' xs) w) := by
  obtain ⟨d86, hu86, hd86⟩ := und86
  have HV := Lib.hid (And.intro hu86 hd86)
  clear hu86 hd86
  obtain ⟨d15, hu15, hd15⟩ := und15
  have HU15 := Lib.hid (And.intro hu15 hd15)
  clear hu15 hd15
  obtain ⟨a, c, a', c', rfl, h1, h2, h3, h4, h5⟩ := h
  obtain ⟨p, k, p', k', rfl, g1, g2, g3, g4, g5⟩ := h'
  have hxr := rd_rowB hx
  have b0 : Below w.heap.size w ((w.alloc (.cells #[.slice a hs.length c, .slice a' ms.length c'] 29)).alloc (.cells #[.slice p hs'.length k, .slice p' ms'.length k'] 29)) := ((Below.refl _ w).alloc (Nat.le_refl _) _).alloc (by simp) _
  have HBR := Lib.hid (both_i (rdp_below (w := w) ⟨a, c, a', c', rfl, h1, h2, h3, h4, h5⟩ b0) (rdp_below (w := w) ⟨p, k, p', k', rfl, g1, g2, g3, g4, g5⟩ b0))
  unfold RulR2 at HBR
  have HUS := Lib.hid (fun (w1 : World) (hb : Below w.heap.size w w1) => Tr.uses_i a2 c2 xs w1 hxl (hxr.below hb))
  have HB0 := Lib.hid b0
  have HXR := Lib.hid hxr
  clear b0 hx hxr h1 h2 h3 h4 h5 g1 g2 g3 g4 g5
  rw [Bool.and_eq_true] at hp
  have e0 : incOk hs ms hs' ms' xs = true := by unfold incOk; rw [hp.1, hp.2, hok]; rfl
  have eN : ∀ n : Int, incN hs ms hs' ms' xs = n → fbrB hs ms hs' ms' xs = decide (0 ≤ n) ∧ fbrV hs ms hs' ms' xs = (if 0 ≤ n then n else 0) := fun n hn => by
    have e : fbrB hs ms hs' ms' xs = decide (0 ≤ n) := by unfold fbrB; rw [e0, Bool.true_and, hn]
    refine ⟨e, ?_⟩
    unfold fbrV
    rw [e, hn]
    by_cases h0 : 0 ≤ n
    · rw [decide_eq_true h0, if_pos rfl, if_pos h0]
    · rw [decide_eq_false h0, if_neg (by simp), if_neg h0]
  have HEN := Lib.hid eN
  rw [e0]
  rw [hp.1, hp.2] at HBR
  rw [hok] at HUS
  have hlen := Tr.okU_len hok
  have HLL := Lib.hid (both_len true true ms.length ms'.length hs hs' ms ms')
  have HOO := Lib.hid (both_one true true ms.length ms'.length hs hs' ms ms')
  have HWI := Lib.hid (fun (B : Nat) (u : Value) (L : List Int) (k l : Nat → Int) (g h : Bool) (x : Int) (w : World) (ho : Own w B u L) (hl : L.length ≤ 1000) => with_a hp.1 hp.2 k l g h x w ho hl)
  have HM : ms.length ≤ 6 := (isP_miss_ord hp.1).2.1
  have HM' : ms'.length ≤ 6 := (isP_miss_ord hp.2).2.1
  have HA := fun j (hj : j < xs.length) => Tr.okU_at hok j hj
  have HI : ∀ j, j ≤ xs.length → InvK ms.length (kK hs ms xs j) := fun j => by
    induction j with
    | zero => intro _; exact ⟨fun _ _ => .inl rfl, fun _ _ _ => rfl⟩
    | succ j ih => intro hj; exact invK_step hp.1 _ _ (HA j (by omega)).1 (ih (by omega))
  have HI' : ∀ j, j ≤ xs.length → InvK ms'.length (kK hs' ms' xs j) := fun j => by
    induction j with
    | zero => intro _; exact ⟨fun _ _ => .inl rfl, fun _ _ _ => rfl⟩
    | succ j ih => intro hj; exact invK_step hp.2 _ _ (HA j (by omega)).1 (ih (by omega))
  have HIN : Hid (∀ j, j < xs.length → inAt hs ms hs' ms' xs j = !brkB (kK hs ms xs (j + 1)) (kK hs' ms' xs (j + 1))) := Lib.hid (fun j hj => brk_ins HM HM' (HI (j + 1) hj) (HI' (j + 1) hj))
  have HFS := Lib.hid (fun j (hj : j < xs.length) => fst_step (inAt hs ms hs' ms' xs) xs.length j hj)
  have HF0 : Hid (fstB (inAt hs ms hs' ms' xs) 0 (xs.length - 0) = incN hs ms hs' ms' xs) := Lib.hid rfl
  have HFE : Hid (fstB (inAt hs ms hs' ms' xs) xs.length (xs.length - xs.length) = -1) := Lib.hid (by rw [Nat.sub_self]; rfl)
  have HK := Lib.hid (fun j => show kK hs ms xs (j + 1) = stN hs ms (kK hs ms xs j) (xs.getD j 0) from rfl)
  have HK' := Lib.hid (fun j => show kK hs' ms' xs (j + 1) = stN hs' ms' (kK hs' ms' xs j) (xs.getD j 0) from rfl)
  have HK0 := Lib.hid (show kK hs ms xs 0 = fun _ => -1 from rfl)
  have HK0' := Lib.hid (show kK hs' ms' xs 0 = fun _ => -1 from rfl)
  clear hp hok e0 eN HA HI HI' HM HM' hxl
  have HXR2 := HXR.out
  unfold Row at HXR2
  have HC := Lib.hid HXR2
  clear HXR2 HXR
  generalize rulC true ms.length hs ms ++ rulC true ms'.length hs' ms' = rr at *
  generalize incN hs ms hs' ms' xs = IN at *
  generalize inAt hs ms hs' ms' xs = F at *
  generalize hS : stN hs ms = S at *
  generalize hS' : stN hs' ms' = S' at *
  generalize kK hs ms xs = KK at *
  generalize kK hs' ms' xs = KK' at *
  generalize xs.length = N at *
  generalize hs.length = N1 at *
  generalize hHB : hitB ms.length = G at *
  generalize hHB' : hitB ms'.length = G' at *
  clear hS hS' hHB hHB'
  generalize ms.length = M1 at *
  generalize hs'.length = N2 at *
  generalize ms'.length = M2 at *
  go_enter Try.func25, Try.ntmps25
  go_wp2_with fail
  refine HBR.out.mono ?_; rintro e w1 ⟨rfl, b1⟩
  have HB1 := Lib.hid (bt HB0.out b1)
  have hz1 := HB1.out.size
  clear b1 HBR HB0
  go_wp2_with (with_reducible refine wpList_storeB rfl 70 (.tmp 9) (.tmp 18) rfl w1.heap.size 0 rr ?_ ?_ z86 70 ?_ ?_ ?_ ?_ ?_)
  · rfl
  · rfl
  · exact Blk.newAt _ _ _ _ rfl
  · rw [HLL.out]; decide
  · rw [HLL.out]; exact isz86
  · exact HOO.out
  intro w2 hR hK
  rw [splice_all _ _ (by rw [HLL.out]; rfl)] at hR
  have bb2 : Below w1.heap.size w1 w2 := ((Below.refl _ w1).alloc (Nat.le_refl _) _).trans (hK.out.below (Nat.le_refl _))
  have HB2 := Lib.hid (HB1.out.trans (bb2.mono hz1))
  have hRl : w1.heap.size < w2.heap.size := hR.out.lt
  clear bb2 hK HB1
  generalize w1.heap.size = Y at *
  go_wp2_with (go_at_call 40; (with_reducible refine (HUS.out _ HB2.out).mono ?_); rintro e w3 ⟨rfl, rfl⟩)
  refine (tri0_i _).mono ?_; rintro e w4 ⟨rfl, b4⟩
  have HB4 := Lib.hid (bt HB2.out b4)
  have HR4 := Lib.hid (hR.out.below b4 hR.out.lt)
  have hY4 : Y < w4.heap.size := HR4.out.lt
  have hYw : w.heap.size ≤ Y := hz1
  clear b4 hR HB2 hRl HUS HOO
  go_wp2_with (with_reducible refine wpList_storeB rfl 77 (.tmp 11) (.tmp 27) rfl w4.heap.size 0 (triC (.slice none 0 0) (fun _ => -1) (fun _ => -1) false false) ?_ ?_ z15 77 ?_ ?_ ?_ ?_ ?_)
  · rfl
  · rfl
  · exact Blk.newAt _ _ _ _ rfl
  · exact Nat.le_refl _
  · exact isz15
  · exact one_triC _ _ _ _ _ rfl
  intro w5 hT hK5
  rw [splice_all _ _ (by rfl)] at hT
  have bb5 : Below w4.heap.size w4 w5 := ((Below.refl _ w4).alloc (Nat.le_refl _) _).trans (hK5.out.below (Nat.le_refl _))
  have HB5 := Lib.hid (HB4.out.trans (bb5.mono HB4.out.size))
  have HR5 := Lib.hid (HR4.out.below bb5 hY4)
  have hT5 : Blk w5 w4.heap.size (triC (.slice none 0 0) (KK 0) (KK' 0) false false) 77 := by rw [HK0.out, HK0'.out]; exact hT.out
  have HT5 := Lib.hid hT5
  clear hT hT5 hK5 bb5 HB4 HR4
  generalize w4.heap.size = Z at *
  go_wp2
  go_loopw [6, 7, 8, 30] (fun r6 r7 r8 iv wr => ∃ (j : Nat) (u : Value) (L : List Int) (g h : Bool), j ≤ N ∧ r6 = .int .i64 0 ∧ r7 = .bool false ∧ r8 = .bool false ∧ iv = .int .i64 j ∧ Hid (L.length = j) ∧ Hid (Own wr (Z + 1) u L) ∧ Hid (Blk wr Z (triC u (KK j) (KK' j) g h) 77) ∧ Hid (Blk wr Y rr 70) ∧ Hid (Below w.heap.size w wr) ∧ Hid (fstB F j (N - j) = IN)) (fun _ _ _ iv _ => N - (intOf iv).toNat)
  case atStart => exact ⟨0, .slice none 0 0, [], false, false, Nat.zero_le _, rfl, rfl, rfl, rfl, Lib.hid rfl, Lib.hid (Own.nil _ _), HT5, HR5, HB5, HF0⟩
  case round =>
    obtain ⟨j, u, L, g, h, hj, rfl, rfl, rfl, rfl, hL, hO, hT, hR, hB, hF⟩ := hrel
    by_cases hlt : j < N
    · obtain ⟨b0, off, rfl, c1, hb0⟩ := HC.out j hlt
      have c2' : wr.cell? ⟨b0, off + j, none⟩ = some (.int .i64 (xs.getD j 0)) := (hB.out.cell (p := ⟨b0, off + j, none⟩) hb0).trans c1
      have hlti : (j : Int) < N := by omega
      have hfs := HFS.out j hlt
      rw [HIN.out j hlt, HK.out j, HK'.out j] at hfs
      have HKJ := Lib.hid (HK.out j)
      have HKJ' := Lib.hid (HK'.out j)
      have hZr : Z < wr.heap.size := hT.out.lt
      have HWc := Lib.hid (HWI.out (Z + 1) u L (KK j) (KK' j) g h (xs.getD j 0) wr hO.out (by rw [hL.out]; omega))
      clear c1
      generalize xs.getD j 0 = x at *
      generalize S (KK j) x = k1 at *
      generalize S' (KK' j) x = l1 at *
      generalize G (KK j) x = g1 at *
      generalize G' (KK' j) x = h1 at *
      have HFS1 := Lib.hid hfs
      clear hfs
      go_wp2_with (first | (with_reducible refine wpList_loadB rfl 77 (.tmp 11) rfl Z ?_ (triC u (KK j) (KK' j) g h) 77 hT.out d15 HU15.out.1 HU15.out.2 ?_ ?_) | (with_reducible refine wpList_loadB rfl 70 (.tmp 9) rfl Y ?_ rr 70 hR.out d86 HV.out.1 HV.out.2 ?_ ?_))
      all_goals first | rfl | exact isz15 | (rw [HLL.out]; exact isz86) | skip
      refine HWc.out.mono ?_; rintro e w6 ⟨u6, rfl, o6, b6⟩
      have one6' : u6.oneCell' = true := by obtain ⟨_, _, e⟩ := o6.form; rw [e]; rfl
      have HT6 := Lib.hid (hT.out.below b6 hT.out.lt)
      have HR6 := Lib.hid (hR.out.below b6 hR.out.lt)
      have HB6 := Lib.hid (hB.out.trans (b6.mono hB.out.size))
      have HO6 := Lib.hid (o6.mono (show Z + 1 ≤ wr.heap.size by omega))
      have HON := Lib.hid one6'
      clear o6 b6 one6' HWc
      go_wp2_with (with_reducible refine wpList_storeB rfl 77 (.tmp 11) (.tmp 38) rfl Z 0 (triC u6 k1 l1 g1 h1) ?_ ?_ (triC u (KK j) (KK' j) g h) 77 HT6.out ?_ ?_ ?_ ?_)
      · rfl
      · rfl
      · exact Nat.le_refl _
      · exact isz15
      · exact one_triC _ _ _ _ _ HON.out
      intro w7 hT7 k7
      rw [splice_all _ _ (by rfl)] at hT7
      have HR7 := Lib.hid (k7.out.blk HR6.out (by omega))
      have HB7 := Lib.hid (HB6.out.trans (k7.out.below (show w.heap.size ≤ Z by omega)))
      have HO7 := Lib.hid (own_keep HO6.out k7.out (Nat.lt_succ_self Z))
      have HIB := Lib.hid (isb_a u6 k1 l1 g1 h1 w7)
      clear k7 HT6 HR6 HB6 HO6
      cases hbr : brkB k1 l1
      · rw [hbr] at HIB HFS1
        have HF2 : Hid (fstB F (j + 1) (N - (j + 1)) = IN) := Lib.hid (by rw [← hF.out, HFS1.out]; rfl)
        clear HFS1 hbr hF
        go_wp2_with (first | (with_reducible refine wpList_loadB rfl 77 (.tmp 11) rfl Z ?_ (triC u6 k1 l1 g1 h1) 77 hT7.out d15 HU15.out.1 HU15.out.2 ?_ ?_))
        all_goals first | rfl | exact isz15 | skip
        refine HIB.out.mono ?_; rintro e w8 ⟨rfl, b8⟩
        have HT8 := Lib.hid (hT7.out.below b8 hT7.out.lt)
        have HR8 := Lib.hid (HR7.out.below b8 HR7.out.lt)
        have HB8 := Lib.hid (HB7.out.trans (b8.mono HB7.out.size))
        have HO8 := Lib.hid (HO7.out.below b8 (Nat.le_refl _))
        clear b8 hT7 HR7 HB7 HO7 HIB
        go_wp2
        go_roundw
        case rel => exact ⟨j + 1, u6, L ++ [x], g1, h1, hlt, rfl, rfl, rfl, by go_num, Lib.hid (by rw [List.length_append, hL.out]; rfl), HO8, Lib.hid (by rw [HKJ.out, HKJ'.out]; exact HT8.out), HR8, HB8, HF2⟩
        case measure => simp [intOf]; omega
      · rw [hbr] at HIB HFS1
        have hIN : IN = (j : Int) := by rw [← hF.out, HFS1.out]; rfl
        obtain ⟨f1, f2⟩ := HEN.out j hIN
        rw [decide_eq_true (by omega)] at f1
        rw [if_pos (by omega)] at f2
        have HF1 := Lib.hid f1
        have HF2 := Lib.hid f2
        clear f1 f2 hIN HFS1 hbr hF
        go_wp2_with (first | (with_reducible refine wpList_loadB rfl 77 (.tmp 11) rfl Z ?_ (triC u6 k1 l1 g1 h1) 77 hT7.out d15 HU15.out.1 HU15.out.2 ?_ ?_))
        all_goals first | rfl | exact isz15 | skip
        refine HIB.out.mono ?_; rintro e w8 ⟨rfl, b8⟩
        have HB8 := Lib.hid (HB7.out.trans (b8.mono HB7.out.size))
        clear b8 hT7 HR7 HB7 HO7 HIB
        go_wp2
        refine bodyPost_ret (v := .tuple #[.int .i64 j, .bool true, .bool true]) (by simp [results, Try.results25, go_sem]) rfl ⟨by rw [HF1.out, HF2.out], HB8.out⟩
    · have e : j = N := by omega
      subst e
      have hIN : IN = -1 := by rw [← hF.out, HFE.out]
      obtain ⟨f1, f2⟩ := HEN.out (-1) hIN
      rw [decide_eq_false (by omega)] at f1
      rw [if_neg (by omega)] at f2
      have HF1 := Lib.hid f1
      have HF2 := Lib.hid f2
      clear f1 f2 hIN hF
      go_wp2
      refine bodyPost_ret (v := .tuple #[.int .i64 0, .bool false, .bool true]) (by simp [results, Try.results25, go_sem]) rfl ⟨by rw [HF1.out, HF2.out], hB.out⟩
end Go.Proofs.Ytbjgfbhfmaddgaa.Pv
namespace Go.Proofs.Ytbjgfbhfmaddgaa.Pv
open Go.RowKit
theorem fb_i {v v' : Value} {hs hs' : List (List Int)} {ms ms' xs : List Int} {w : World} {a2 : Option Addr} {c2 : Nat} (h : RdP w v hs ms) (h' : RdP w v' hs' ms') (hx : Rd w (.slice a2 xs.length c2) xs) (hxl : xs.length ≤ 1048576) :
    Calls Try.prog 25 #[v, v', .slice a2 xs.length c2] w (FbQ (fbrV hs ms hs' ms' xs) (fbrB hs ms hs' ms' xs) (incOk hs ms hs' ms' xs) w) := by
  cases hp : (isP hs ms && isP hs' ms') with
  | false => exact fb_no1 h h' hx hxl hp
  | true =>
    cases hok : Tr.okU xs with
    | false => exact fb_no2 h h' hx hxl hp hok
    | true => exact fb_yes h h' hx hxl hp hok
set_option maxHeartbeats 1000000 in
theorem inc_i {v v' : Value} {hs hs' : List (List Int)} {ms ms' xs : List Int} {w : World} {a2 : Option Addr} {c2 : Nat} (h : RdP w v hs ms) (h' : RdP w v' hs' ms') (hx : Rd w (.slice a2 xs.length c2) xs) (hxl : xs.length ≤ 1048576) :
    Calls Try.prog 10 #[v, v', .slice a2 xs.length c2] w (BbQ (incV hs ms hs' ms' xs) (incOk hs ms hs' ms' xs) w) := by
  have HF := Lib.hid (fun (w1 : World) (hb : Below w.heap.size w w1) => fb_i (rdp_below h hb) (rdp_below h' hb) (hx.below hb) hxl)
  obtain ⟨a, c, a', c', rfl, h1, h2, h3, h4, h5⟩ := h
  obtain ⟨p, k, p', k', rfl, g1, g2, g3, g4, g5⟩ := h'
  have b0 : Below w.heap.size w ((w.alloc (.cells #[.slice a hs.length c, .slice a' ms.length c'] 29)).alloc (.cells #[.slice p hs'.length k, .slice p' ms'.length k'] 29)) := ((Below.refl _ w).alloc (Nat.le_refl _) _).alloc (by simp) _
  have HC := Lib.hid (HF.out _ b0)
  unfold FbQ at HC
  have HB0 := Lib.hid b0
  have e : incV hs ms hs' ms' xs = (incOk hs ms hs' ms' xs && !fbrB hs ms hs' ms' xs) := by
    unfold incV fbrB
    cases incOk hs ms hs' ms' xs
    · rfl
    · rw [Bool.true_and, Bool.true_and, Bool.true_and]
      by_cases h0 : incN hs ms hs' ms' xs < 0
      · rw [decide_eq_true h0, decide_eq_false (by omega)]; rfl
      · rw [decide_eq_false h0, decide_eq_true (by omega)]; rfl
  rw [e]
  clear HF b0 e h1 h2 h3 h4 h5 g1 g2 g3 g4 g5 hx hxl
  generalize fbrV hs ms hs' ms' xs = n at *
  generalize fbrB hs ms hs' ms' xs = b at *
  generalize incOk hs ms hs' ms' xs = ok at *
  generalize xs.length = N at *
  generalize hs.length = N1 at *
  generalize ms.length = M1 at *
  generalize hs'.length = N2 at *
  generalize ms'.length = M2 at *
  cases ok <;> cases b <;>
  (go_enter Try.func10, Try.ntmps10
   go_wp2_with fail
   refine HC.out.mono ?_; rintro e w1 ⟨rfl, b1⟩
   have HB1 := Lib.hid (bt HB0.out b1)
   clear b1
   go_wp2
   go_ret2
   exact ⟨rfl, HB1.out⟩)
set_option maxHeartbeats 1000000 in
theorem fbr_i {v v' : Value} {hs hs' : List (List Int)} {ms ms' xs : List Int} {w : World} {a2 : Option Addr} {c2 : Nat} (h : RdP w v hs ms) (h' : RdP w v' hs' ms') (hx : Rd w (.slice a2 xs.length c2) xs) (hxl : xs.length ≤ 1048576) :
    Calls Try.prog 14 #[v, v', .slice a2 xs.length c2] w (IbQ (fbrV hs ms hs' ms' xs) (fbrB hs ms hs' ms' xs) w) := by
  have HF := Lib.hid (fun (w1 : World) (hb : Below w.heap.size w w1) => fb_i (rdp_below h hb) (rdp_below h' hb) (hx.below hb) hxl)
  obtain ⟨a, c, a', c', rfl, h1, h2, h3, h4, h5⟩ := h
  obtain ⟨p, k, p', k', rfl, g1, g2, g3, g4, g5⟩ := h'
  have b0 : Below w.heap.size w ((w.alloc (.cells #[.slice a hs.length c, .slice a' ms.length c'] 29)).alloc (.cells #[.slice p hs'.length k, .slice p' ms'.length k'] 29)) := ((Below.refl _ w).alloc (Nat.le_refl _) _).alloc (by simp) _
  have HC := Lib.hid (HF.out _ b0)
  unfold FbQ at HC
  have HB0 := Lib.hid b0
  have e : incV hs ms hs' ms' xs = (incOk hs ms hs' ms' xs && !fbrB hs ms hs' ms' xs) := by
    unfold incV fbrB
    cases incOk hs ms hs' ms' xs
    · rfl
    · rw [Bool.true_and, Bool.true_and, Bool.true_and]
      by_cases h0 : incN hs ms hs' ms' xs < 0
      · rw [decide_eq_true h0, decide_eq_false (by omega)]; rfl
      · rw [decide_eq_false h0, decide_eq_true (by omega)]; rfl
  skip
  clear HF b0 e h1 h2 h3 h4 h5 g1 g2 g3 g4 g5 hx hxl
  generalize fbrV hs ms hs' ms' xs = n at *
  generalize fbrB hs ms hs' ms' xs = b at *
  generalize incOk hs ms hs' ms' xs = ok at *
  generalize xs.length = N at *
  generalize hs.length = N1 at *
  generalize ms.length = M1 at *
  generalize hs'.length = N2 at *
  generalize ms'.length = M2 at *
  cases ok <;> cases b <;>
  (go_enter Try.func14, Try.ntmps14
   go_wp2_with fail
   refine HC.out.mono ?_; rintro e w1 ⟨rfl, b1⟩
   have HB1 := Lib.hid (bt HB0.out b1)
   clear b1
   go_wp2
   go_ret2
   exact ⟨rfl, HB1.out⟩)
end Go.Proofs.Ytbjgfbhfmaddgaa.Pv
