/- append of one list to a list of lists of the call's own. Lists of lists of the call's own whose inner lists lie in blocks of whatever type and size: the law's comparison, marks, look-through, append. Policies of the call's own, as values: the law's comparison, marks and look-through. A row of integers that came in, opened: the cells of its elements and that each fits its kind. A copy of a list of integers that came in (laws.toInt64S), as a list of the call's own. Lists of lists of integers that came in: their size, and a copy of the call's own. -/
import Derived.Test.YtngbddmbmkphcaaG4
import Derived.Test.YtngbddmbmkphcaaG2
import Derived.Maps.AppendAt
import Derived.Test.YtngbddmbmkphcaaG1
import Derived.OpenShut
namespace Go.Proofs.Ytngbddmbmkphcaa
open Go.RowKit
theorem infoL : (Try.prog.info? 23).map (fun i => (i.zero, i.size, i.bytes)) = some (some (.slice none 0 0), 1, 24) := by kernel_rfl
theorem wpList_app2 {ops : Array Oper} {rest : List Oper} {o : Oper} {a : Act} {Q : Exit → Act → World → Prop} (wr : World) (hgd : o.guard = none) (s x : Operand)
    (ho : o.op = .call { callee := .builtin .append, args := #[s, x], argTypes := #[22, 22] })
    (B : Nat) (v : Value) (vs : List Value) (xss : List (List Int)) (u : Value) (zs : List Int) (hs : a.eval s = v) (hx : a.eval x = .slice (some ⟨wr.heap.size, 0, none⟩) 1 1) (hown : Own2 wr B v vs xss) (hu : Own wr B u zs)
    (hfar : ∀ i k, i < xss.length → (vs.getD i s0).ownBlock = some k → u.ownBlock ≠ some k) (hfar2 : ∀ k, u.ownBlock = some k → v.ownBlock ≠ some k)
    (hlen : xss.length + 1 ≤ 1000000000) (hB : B ≤ wr.heap.size)
    (h : ∀ v' w', Own2 w' B v' (vs ++ [u]) (xss ++ [zs]) → Below B wr w' → wpList Try.prog ops Q rest (a.put o.dst v') w') :
    wpList Try.prog ops Q (o :: rest) a (wr.alloc (.cells #[u] 23)) := by
  obtain ⟨i0, hi, hz0, hz1, hz2⟩ := info_parts infoL
  have hown' := hown
  obtain ⟨hl, h0, h1, h2, h3⟩ := hown'
  refine wpList_append_own_at _ hgd s x 22 ho B 23 i0 (.slice none 0 0) 1 24 Try.underlying22 hi hz0 hz1 hz2 rfl (by decide) v vs.length vs hs (World.ownsRow.alloc h0 _)
    ⟨wr.heap.size, 0, none⟩ 1 1 [u] hx rfl (cell_one_new _ _ _) ?_ ?_ ?_ ?_ ?_
  · intro u' hu'; simp at hu'; subst hu'
    rcases hu.cases with ⟨rfl, _⟩ | ⟨g, c, rfl, _⟩ <;> rfl
  · unfold maxLen; omega
  · omega
  · simp; omega
  · intro v' w' hrow hgrow hnil hblk
    have hsz : (wr.alloc (.cells #[u] 23)).heap.size = wr.heap.size + 1 := Array.size_push _
    have gl : ∀ i, i < xss.length → (vs ++ [u]).getD i s0 = vs.getD i s0 := fun i hi => by
      rw [List.getD_eq_getElem?_getD, List.getElem?_append_left (by omega), ← List.getD_eq_getElem?_getD]
    have gx : ∀ i, i < xss.length → (xss ++ [zs]).getD i [] = xss.getD i [] := fun i hi => by
      rw [List.getD_eq_getElem?_getD, List.getElem?_append_left hi, ← List.getD_eq_getElem?_getD]
    have gu : (vs ++ [u]).getD xss.length s0 = u := by rw [← hl, List.getD_eq_getElem?_getD, List.getElem?_append_right (Nat.le_refl _)]; simp
    have gz : (xss ++ [zs]).getD xss.length [] = zs := by rw [List.getD_eq_getElem?_getD, List.getElem?_append_right (Nat.le_refl _)]; simp
    have old : ∀ (y : Value) (ys : List Int), Own wr B y ys → (∀ k, y.ownBlock = some k → v.ownBlock ≠ some k) → Own w' B y ys := fun y ys hy hne =>
      Own.kept (World.ownsRow.alloc hy _) hgrow fun k hk e => hne k hk e.symm
    have nblk : ∀ (y : Value) (ys : List Int) k, Own wr B y ys → y.ownBlock = some k → v.ownBlock ≠ some k → v'.ownBlock ≠ some k := fun y ys k hy hk hne e => by
      rcases hblk with hb | hb
      · exact hne (hb ▸ e)
      · rw [hb] at e
        have := (hy.block k hk).2
        injection e with e
        omega
    refine h v' w' ⟨by simp [hl], ?_, fun i hi => ?_, fun i j k hij hj hk => ?_, fun i k hi hk => ?_⟩ ?_
    · rw [List.length_append]; exact hrow
    · rw [List.length_append, List.length_singleton] at hi
      rcases Nat.lt_or_eq_of_le (Nat.le_of_lt_succ hi) with hlt | rfl
      · rw [gl i hlt, gx i hlt]; exact old _ _ (h1 i hlt) (fun k hk => h3 i k hlt hk)
      · rw [gu, gz]; exact old _ _ hu hfar2
    · rw [List.length_append, List.length_singleton] at hj
      rcases Nat.lt_or_eq_of_le (Nat.le_of_lt_succ hj) with hlt | rfl
      · rw [gl i (by omega)] at hk; rw [gl j hlt]; exact h2 i j k hij hlt hk
      · rw [gl i hij] at hk; rw [gu]; exact hfar i k hij hk
    · rw [List.length_append, List.length_singleton] at hi
      rcases Nat.lt_or_eq_of_le (Nat.le_of_lt_succ hi) with hlt | rfl
      · rw [gl i hlt] at hk; exact nblk _ _ k (h1 i hlt) hk (h3 i k hlt hk)
      · rw [gu] at hk; exact nblk _ _ k hu hk (hfar2 k hk)
    · refine ((Below.refl B wr).alloc hB _).grown hgrow (by omega) (fun k hk => ?_)
      exact (World.ownsRow.lt h0 k hk).1
end Go.Proofs.Ytngbddmbmkphcaa
namespace Go.Proofs.Ytngbddmbmkphcaa
open Go.RowKit
/-- A list of lists of the call's own: the row holds slices, each of the call's own, each in a block of its own. -/
def Own2W (w : World) (B : Nat) (v : Value) (vs : List Value) (xss : List (List Int)) : Prop :=
  vs.length = xss.length ∧ w.ownsRow B 23 1 v vs.length vs ∧ (∀ i, i < xss.length → OwnW w B (vs.getD i s0) (xss.getD i [])) ∧
    (∀ i j k, i < j → j < xss.length → (vs.getD i s0).ownBlock = some k → (vs.getD j s0).ownBlock ≠ some k) ∧ ∀ i k, i < xss.length → (vs.getD i s0).ownBlock = some k → v.ownBlock ≠ some k
theorem Own2W.nil (w : World) (B : Nat) : Own2W w B (.slice none 0 0) [] [] := ⟨rfl, World.ownsRow_nil _ _ _ _, fun i h => by simp at h, fun i j k _ h => by simp at h, fun i k h => by simp at h⟩
theorem Own2W.cases {w : World} {B : Nat} {v : Value} {vs : List Value} {xss : List (List Int)} (h : Own2W w B v vs xss) :
    (v = .slice none 0 0 ∧ xss = []) ∨ ∃ g cap, v = .slice (some ⟨g, 0, none⟩) xss.length cap ∧ B ≤ g ∧ g < w.heap.size ∧ xss.length ≤ 9223372036854775807 ∧
      (∀ i, i < xss.length → w.cell? ⟨g, i, none⟩ = some (vs.getD i s0)) ∧ ∀ i, w.frozen? ⟨g, i, none⟩ = false := by
  obtain ⟨hl, h0, _⟩ := h
  rcases h0.2 with ⟨rfl, hn⟩ | ⟨g, cap, cur, rfl, hB, hg, hnc, hcm, hcs, htake⟩
  · exact .inl ⟨rfl, List.eq_nil_of_length_eq_zero (by omega)⟩
  · refine .inr ⟨g, cap, by rw [hl], hB, (Array.getElem?_eq_some_iff.1 hg).1, by unfold maxLen at hcm; omega, fun i hi => ?_, fun i => h0.frozenAt i⟩
    rw [h0.cellAt i (by omega), List.getElem?_eq_getElem (by omega), List.getD_eq_getElem?_getD, List.getElem?_eq_getElem (by omega)]
    rfl
theorem Own2W.below {w w' : World} {B : Nat} {v : Value} {vs : List Value} {xss : List (List Int)} (h : Own2W w B v vs xss) {C : Nat} (hb : Below C w w') (hC : w.heap.size ≤ C) : Own2W w' B v vs xss := by
  obtain ⟨hl, h0, h1, h2⟩ := h
  refine ⟨hl, ?_, fun i hi => (h1 i hi).below hb hC, h2⟩
  refine ⟨h0.1, ?_⟩
  rcases h0.2 with hn | ⟨g, cap, cur, hv, hg, hh, r⟩
  · exact .inl hn
  · exact .inr ⟨g, cap, cur, hv, hg, by rw [hb.block g (Nat.lt_of_lt_of_le (Array.getElem?_eq_some_iff.1 hh).1 hC)]; exact hh, r⟩
theorem Own2W.drewN {w : World} {B : Nat} {v : Value} {vs : List Value} {xss : List (List Int)} (h : Own2W w B v vs xss) (k : Nat) : Own2W (w.drewN k) B v vs xss := h
theorem eq2_ownW {w : World} {B1 B2 : Nat} {v1 v2 : Value} {vs1 vs2 : List Value} {xss : List (List Int)} (h1 : Own2W w B1 v1 vs1 xss) (h2 : Own2W w B2 v2 vs2 xss) :
    Calls Try.prog 54 #[v1, v2] w (Drew w) := by
  rcases h1.cases with ⟨rfl, rfl⟩ | ⟨g1, c1, rfl, _, _, hm, hc1, _⟩
  · rcases h2.cases with ⟨rfl, _⟩ | ⟨g2, c2, rfl, _, _, _, hc2, _⟩
    · exact eq2_zero _ _ _ _ _
    · exact eq2_zero _ _ _ _ _
  · rcases h2.cases with ⟨rfl, rfl⟩ | ⟨g2, c2, rfl, _, _, _, hc2, _⟩
    · exact eq2_zero _ _ _ _ _
    · exact eq2_cells _ _ _ _ _ vs1 vs2 w hm hc1 hc2 (fun i q hi => eq_ownW ((h1.2.2.1 i hi).drewN q) ((h2.2.2.1 i hi).drewN q))
theorem Own2W.marked {w w' : World} {B j : Nat} {v : Value} {vs : List Value} {ys : List (List Int)} {zs : List Int} (h : Own2W w B v vs ys) (hj : j < ys.length) (ho : OwnW w' B (vs.getD j s0) zs)
    (hg : w.grownBy w' (vs.getD j s0).ownBlock) : Own2W w' B v vs (ys.set j zs) := by
  obtain ⟨hl, h0, h1, h2, h3⟩ := h
  refine ⟨by rw [List.length_set]; exact hl, ?_, fun i hi => ?_, fun i i' k hii hi' => h2 i i' k hii (by simpa using hi'), fun i k hi => h3 i k (by simpa using hi)⟩
  · refine World.ownsRow.kept h0 hg ?_
    cases hv : (vs.getD j s0).ownBlock with
    | none =>
      cases hv2 : v.ownBlock with
      | none => exact .inl rfl
      | some k => exact .inr (fun e => by cases e)
    | some k =>
      cases hv2 : v.ownBlock with
      | none => exact .inl rfl
      | some k2 => exact .inr (fun e => h3 j k hj hv (by rw [hv2]; exact e))
  · rw [List.length_set] at hi
    by_cases e : i = j
    · subst e
      have e2 : (ys.set i zs).getD i [] = zs := by rw [List.getD_eq_getElem?_getD, List.getElem?_set_self hi]; rfl
      rw [e2]
      exact ho
    · have e2 : (ys.set j zs).getD i [] = ys.getD i [] := by rw [List.getD_eq_getElem?_getD, List.getElem?_set_ne (fun h => e h.symm), ← List.getD_eq_getElem?_getD]
      rw [e2]
      refine (h1 i hi).kept hg fun k hk hne => ?_
      rcases Nat.lt_or_gt_of_ne e with hlt | hlt
      · exact h2 i j k hlt hj hk hne.symm
      · exact h2 j i k hlt hi hne.symm hk
/-- All blocks but those of the inner lists are as they were. -/
def Frm (vs : List Value) (n : Nat) (w w' : World) : Prop := ∀ b, b < w.heap.size → (∀ i, i < n → (vs.getD i s0).ownBlock ≠ some b) → w'.heap[b]? = w.heap[b]?
theorem Frm.refl (vs : List Value) (n : Nat) (w : World) : Frm vs n w w := fun _ _ _ => rfl
theorem Frm.step {vs : List Value} {n j : Nat} {w wr w' : World} (h : Frm vs n w wr) (hj : j < n) (hsz : w.heap.size ≤ wr.heap.size) (hg : wr.grownBy w' (vs.getD j s0).ownBlock) : Frm vs n w w' := fun b hb hne =>
  (hg.block b (by omega) (fun e => hne j hj e.symm)).trans (h b hb hne)
def Marked2W (B : Nat) (v : Value) (vs : List Value) (k : Nat) (ns : List Nat) (w : World) (e : Ending) (w' : World) : Prop := e = .returned (.int .i64 ((k + ns.sum : Nat) : Int)) ∧ Own2W w' B v vs (mk2 k ns) ∧ Below B w w' ∧ w.heap.size ≤ w'.heap.size ∧ Frm vs ns.length w w'
theorem row_cellW {w : World} {B b N c j : Nat} {vs : List Value} {ys : List (List Int)} (h : Own2W w B (.slice (some ⟨b, 0, none⟩) N c) vs ys) (hl : ys.length = N) (hj : j < N) : w.cell? ⟨b, j, none⟩ = some (vs.getD j s0) := by
  rcases h.cases with ⟨h, _⟩ | ⟨g, cap, he, _, _, _, hc, _⟩
  · cases h
  · injection he with h1 h2 h3
    injection h1 with h1
    injection h1 with h1
    subst h1
    exact hc j (by omega)
set_option maxHeartbeats 800000 in
theorem mark2_cellsW (B b c k : Nat) (vs : List Value) (xss : List (List Int)) (w : World) (hk : k + (xss.map List.length).sum ≤ 9223372036854775807) (hB : B ≤ w.heap.size)
    (h : Own2W w B (.slice (some ⟨b, 0, none⟩) xss.length c) vs xss) (hm : xss.length ≤ 9223372036854775807) :
    Calls Try.prog 55 #[.slice (some ⟨b, 0, none⟩) xss.length c, .int .i64 k] w (Marked2W B (.slice (some ⟨b, 0, none⟩) xss.length c) vs k (xss.map List.length) w) := by
  have HH := Lib.hid h
  have hnl : (xss.map List.length).length = xss.length := by simp
  have HX := Lib.hid (show ∀ j, j < xss.length → (xss.map List.length).getD j 0 = (xss.getD j []).length from fun j hj => by
    rw [List.getD_eq_getElem?_getD, List.getElem?_map, List.getElem?_eq_getElem hj, List.getD_eq_getElem?_getD, List.getElem?_eq_getElem hj]; rfl)
  clear h
  generalize hns : xss.map List.length = ns at *
  clear hns
  have HS := Lib.hid (fun j (h : j < xss.length) => sum_step ns j (by omega))
  have HT := Lib.hid (fun j => sum_take_le ns j)
  have HA := Lib.hid (show (ns.take xss.length).sum = ns.sum by rw [List.take_of_length_le (by omega)])
  have HM := Lib.hid (fun j ys (h : Mid k j ns xss ys) (hj : j < xss.length) => h.step hj hnl)
  have HE := Lib.hid (fun ys (h : Mid k xss.length ns xss ys) => h.stop hnl)
  have H0 := Lib.hid (Mid.start k ns xss)
  go_enter Try.func55, Try.ntmps55
  go_wp2
  go_loopw [1, 5] (fun m i wr => ∃ (j r : Nat) (ys : List (List Int)), j ≤ xss.length ∧ i = .int .i64 j ∧ m = .int .i64 ((k + r : Nat) : Int) ∧ Hid (r = (ns.take j).sum) ∧ Hid (Mid k j ns xss ys) ∧ Hid (Own2W wr B (.slice (some ⟨b, 0, none⟩) xss.length c) vs ys) ∧ Below B w wr ∧ w.heap.size ≤ wr.heap.size ∧ Hid (Frm vs xss.length w wr)) (fun _ i _ => xss.length - (intOf i).toNat)
  case atStart => exact ⟨0, 0, xss, Nat.zero_le _, rfl, rfl, Lib.hid (by simp), H0, HH, Below.refl _ _, Nat.le_refl _, Frm.refl _ _ _⟩
  case round =>
    obtain ⟨j, r, ys, hj, rfl, rfl, hr, hmid, how, hbw, hsz, hfr⟩ := hrel
    by_cases hlt : j < xss.length
    · have g1 : wr.cell? ⟨b, j, none⟩ = some (vs.getD j s0) := row_cellW how.out hmid.out.1 hlt
      have ho : OwnW wr B (vs.getD j s0) (xss.getD j []) := by
        have := how.out.2.2.1 j (by rw [hmid.out.1]; exact hlt)
        rwa [hmid.out.2.2 j (Nat.le_refl _)] at this
      have hs := HS.out j hlt
      have hb := HT.out (j + 1)
      have hx := HX.out j hlt
      have hms := Lib.hid (HM.out j ys hmid.out hlt)
      have hjy : j < ys.length := by rw [hmid.out.1]; exact hlt
      have ge := Lib.hid (mark_ownW (k + r) ho (by have := hr.out; omega))
      have hwd := Lib.hid (fun w' zs (o : OwnW w' B (vs.getD j s0) zs) (g : wr.grownBy w' (vs.getD j s0).ownBlock) => how.out.marked hjy o g)
      have hbk := Lib.hid (ho.block)
      have hfs := Lib.hid (fun w' (g : wr.grownBy w' (vs.getD j s0).ownBlock) => hfr.out.step hlt hsz g)
      rw [← hx] at ge
      rw [← hr.out] at hms hs
      clear ho hx hjy
      generalize vs.getD j s0 = u1 at *
      generalize ns.getD j 0 = d at *
      go_wp2_with (go_at_call 18; refine ge.out.mono ?_; rintro e w' ⟨rfl, o1, gr⟩)
      go_roundw
      case rel => exact ⟨j + 1, r + d, _, by omega, by go_num, by rw [← Nat.add_assoc]; rfl, Lib.hid hs.symm, hms, Lib.hid (hwd.out _ _ o1 gr), hbw.grown gr (Nat.le_trans hB hsz) (fun q hq => (hbk.out q hq).1), Nat.le_trans hsz gr.size, hfs.out _ gr⟩
      case measure => simp [intOf]; omega
    · have ej : j = xss.length := by omega
      subst ej
      have hx := HA.out
      rw [← hr.out] at hx
      subst hx
      have hy := HE.out ys hmid.out
      subst hy
      have hw2 := how.out
      go_wp2
      go_ret
      exact ⟨rfl, how.out, hbw, hsz, by rw [hnl]; exact hfr.out⟩
theorem mark2_ownW {w : World} {B : Nat} {v : Value} {vs : List Value} {xss : List (List Int)} (k : Nat) (h : Own2W w B v vs xss) (hk : k + (xss.map List.length).sum ≤ 9223372036854775807) (hB : B ≤ w.heap.size) :
    Calls Try.prog 55 #[v, .int .i64 k] w (Marked2W B v vs k (xss.map List.length) w) := by
  rcases h.cases with ⟨rfl, rfl⟩ | ⟨g, c, rfl, _, _, hm, _, _⟩
  · exact (mark2_zero none 0 k w).mono fun e w' ⟨he, hw⟩ => ⟨by rw [he]; simp, by rw [← hw]; exact h, by rw [← hw]; exact Below.refl _ _, by rw [← hw]; exact Nat.le_refl _, by rw [← hw]; exact Frm.refl _ _ _⟩
  · exact mark2_cellsW B g c k vs xss w hk hB h hm
theorem wpList_app2W {ops : Array Oper} {rest : List Oper} {o : Oper} {a : Act} {Q : Exit → Act → World → Prop} (wr : World) (hgd : o.guard = none) (s x : Operand)
    (ho : o.op = .call { callee := .builtin .append, args := #[s, x], argTypes := #[22, 22] })
    (B : Nat) (v : Value) (vs : List Value) (xss : List (List Int)) (u : Value) (zs : List Int) (hs : a.eval s = v) (hx : a.eval x = .slice (some ⟨wr.heap.size, 0, none⟩) 1 1) (hown : Own2W wr B v vs xss) (hu : OwnW wr B u zs)
    (hfar : ∀ i k, i < xss.length → (vs.getD i s0).ownBlock = some k → u.ownBlock ≠ some k) (hfar2 : ∀ k, u.ownBlock = some k → v.ownBlock ≠ some k)
    (hlen : xss.length + 1 ≤ 1000000000) (hB : B ≤ wr.heap.size)
    (h : ∀ v' w', Own2W w' B v' (vs ++ [u]) (xss ++ [zs]) → Below B wr w' → (∀ b, b < wr.heap.size → v.ownBlock ≠ some b → w'.heap[b]? = wr.heap[b]?) → (∀ k, v'.ownBlock = some k → v.ownBlock = some k ∨ wr.heap.size ≤ k) → wpList Try.prog ops Q rest (a.put o.dst v') w') :
    wpList Try.prog ops Q (o :: rest) a (wr.alloc (.cells #[u] 23)) := by
  obtain ⟨i0, hi, hz0, hz1, hz2⟩ := info_parts infoL
  have hown' := hown
  obtain ⟨hl, h0, h1, h2, h3⟩ := hown'
  refine wpList_append_own_at _ hgd s x 22 ho B 23 i0 (.slice none 0 0) 1 24 Try.underlying22 hi hz0 hz1 hz2 rfl (by decide) v vs.length vs hs (World.ownsRow.alloc h0 _)
    ⟨wr.heap.size, 0, none⟩ 1 1 [u] hx rfl (cell_one_new _ _ _) ?_ ?_ ?_ ?_ ?_
  · intro u' hu'; simp at hu'; subst hu'
    rcases hu.cases with ⟨rfl, _⟩ | ⟨g, c, rfl, _⟩ <;> rfl
  · unfold maxLen; omega
  · omega
  · simp; omega
  · intro v' w' hrow hgrow hnil hblk
    have hsz : (wr.alloc (.cells #[u] 23)).heap.size = wr.heap.size + 1 := Array.size_push _
    have gl : ∀ i, i < xss.length → (vs ++ [u]).getD i s0 = vs.getD i s0 := fun i hi => by
      rw [List.getD_eq_getElem?_getD, List.getElem?_append_left (by omega), ← List.getD_eq_getElem?_getD]
    have gx : ∀ i, i < xss.length → (xss ++ [zs]).getD i [] = xss.getD i [] := fun i hi => by
      rw [List.getD_eq_getElem?_getD, List.getElem?_append_left hi, ← List.getD_eq_getElem?_getD]
    have gu : (vs ++ [u]).getD xss.length s0 = u := by rw [← hl, List.getD_eq_getElem?_getD, List.getElem?_append_right (Nat.le_refl _)]; simp
    have gz : (xss ++ [zs]).getD xss.length [] = zs := by rw [List.getD_eq_getElem?_getD, List.getElem?_append_right (Nat.le_refl _)]; simp
    have old : ∀ (y : Value) (ys : List Int), OwnW wr B y ys → (∀ k, y.ownBlock = some k → v.ownBlock ≠ some k) → OwnW w' B y ys := fun y ys hy hne =>
      OwnW.kept (rowW.alloc hy _) hgrow fun k hk e => hne k hk e.symm
    have nblk : ∀ (y : Value) (ys : List Int) k, OwnW wr B y ys → y.ownBlock = some k → v.ownBlock ≠ some k → v'.ownBlock ≠ some k := fun y ys k hy hk hne e => by
      rcases hblk with hb | hb
      · exact hne (hb ▸ e)
      · rw [hb] at e
        have := (hy.block k hk).2
        injection e with e
        omega
    refine h v' w' ⟨by simp [hl], ?_, fun i hi => ?_, fun i j k hij hj hk => ?_, fun i k hi hk => ?_⟩ ?_ (fun b hb hne => (hgrow.block b (by omega) (fun e => hne e.symm)).trans (Below.heap_alloc wr _ b hb)) (fun k hk => by
        rcases hblk with hb | hb
        · exact .inl (hb ▸ hk)
        · rw [hb] at hk; injection hk with hk; right; omega)
    · rw [List.length_append]; exact hrow
    · rw [List.length_append, List.length_singleton] at hi
      rcases Nat.lt_or_eq_of_le (Nat.le_of_lt_succ hi) with hlt | rfl
      · rw [gl i hlt, gx i hlt]; exact old _ _ (h1 i hlt) (fun k hk => h3 i k hlt hk)
      · rw [gu, gz]; exact old _ _ hu hfar2
    · rw [List.length_append, List.length_singleton] at hj
      rcases Nat.lt_or_eq_of_le (Nat.le_of_lt_succ hj) with hlt | rfl
      · rw [gl i (by omega)] at hk; rw [gl j hlt]; exact h2 i j k hij hlt hk
      · rw [gl i hij] at hk; rw [gu]; exact hfar i k hij hk
    · rw [List.length_append, List.length_singleton] at hi
      rcases Nat.lt_or_eq_of_le (Nat.le_of_lt_succ hi) with hlt | rfl
      · rw [gl i hlt] at hk; exact nblk _ _ k (h1 i hlt) hk (h3 i k hlt hk)
      · rw [gu] at hk; exact nblk _ _ k hu hk (hfar2 k hk)
    · refine ((Below.refl B wr).alloc hB _).grown hgrow (by omega) (fun k hk => ?_)
      exact (World.ownsRow.lt h0 k hk).1
end Go.Proofs.Ytngbddmbmkphcaa
namespace Go.Proofs.Ytngbddmbmkphcaa
open Go.RowKit
/-- Only blocks from B to T have been written, and new ones made. -/
structure Wr (B T : Nat) (w w' : World) : Prop where
  os : w'.os = w.os
  tape : w'.tape = w.tape
  output : w'.output = w.output
  size : w.heap.size ≤ w'.heap.size
  block : ∀ b, b < w.heap.size → b < B ∨ T ≤ b → w'.heap[b]? = w.heap[b]?
theorem Wr.below {B T : Nat} {w w' : World} (h : Wr B T w w') (hB : B ≤ w.heap.size) : Below B w w' := ⟨h.os, h.tape, h.output, h.size, fun b hb => h.block b (by omega) (.inl hb)⟩
theorem Wr.belowT {B T C : Nat} {w0 w w' : World} (h : Wr B T w w') (hb : Below C w0 w) (hC : C ≤ B) (hw : C ≤ w.heap.size) : Below C w0 w' :=
  hb.trans ⟨h.os, h.tape, h.output, h.size, fun b hb => h.block b (by omega) (.inl (by omega))⟩
theorem Wr.trans {B T : Nat} {a b c : World} (h : Wr B T a b) (k : Wr B T b c) : Wr B T a c :=
  ⟨k.os.trans h.os, k.tape.trans h.tape, k.output.trans h.output, Nat.le_trans h.size k.size, fun i hi hr => (k.block i (Nat.lt_of_lt_of_le hi h.size) hr).trans (h.block i hi hr)⟩
theorem Wr.alloc (B T : Nat) (w : World) (o : Obj) : Wr B T w (w.alloc o) := ⟨rfl, rfl, rfl, by simp, fun b hb _ => Below.heap_alloc w o b hb⟩
theorem OwnW.wr {w w' : World} {B T C U : Nat} {v : Value} {xs : List Int} (h : OwnW w C v xs) (hW : Wr B T w w') (hU : ∀ k, v.ownBlock = some k → k < U) (hd : U ≤ B ∨ T ≤ C) : OwnW w' C v xs :=
  h.same fun b hb hlt => hW.block b hlt (by have h1 := h.block b hb; have h2 := hU b hb; omega)
theorem Own2W.wr {w w' : World} {B T C U : Nat} {v : Value} {vs : List Value} {xss : List (List Int)} (h : Own2W w C v vs xss) (hW : Wr B T w w') (hU : ∀ k, v.ownBlock = some k → k < U) (hV : ∀ i k, i < xss.length → (vs.getD i s0).ownBlock = some k → k < U) (hd : U ≤ B ∨ T ≤ C) : Own2W w' C v vs xss := by
  obtain ⟨hl, h0, h1, h2, h3⟩ := h
  refine ⟨hl, ⟨h0.1, ?_⟩, fun i hi => (h1 i hi).wr hW (fun k hk => hV i k hi hk) hd, h2, h3⟩
  rcases h0.2 with hn | ⟨g, cap, cur, hv, hg, hh, r⟩
  · exact .inl hn
  · refine .inr ⟨g, cap, cur, hv, hg, ?_, r⟩
    have := hU g (by rw [hv]; rfl)
    rw [hW.block g (Array.getElem?_eq_some_iff.1 hh).1 (by omega)]
    exact hh
/-- v is a policy of the call's own, in blocks from B to T. -/
def OwnP (w : World) (B T : Nat) (v : Value) (hs : List (List Int)) (ms : List Int) : Prop :=
  ∃ h m vs, v = .agg #[h, m] ∧ Own2W w B h vs hs ∧ OwnW w B m ms ∧ (∀ b, m.ownBlock = some b → h.ownBlock ≠ some b ∧ ∀ i, i < hs.length → (vs.getD i s0).ownBlock ≠ some b) ∧
    (∀ k, m.ownBlock = some k → k < T) ∧ (∀ k, h.ownBlock = some k → k < T) ∧ ∀ i k, i < hs.length → (vs.getD i s0).ownBlock = some k → k < T
theorem OwnP.wr {w w' : World} {B T C U : Nat} {v : Value} {hs : List (List Int)} {ms : List Int} (h : OwnP w C U v hs ms) (hW : Wr B T w w') (hd : U ≤ B ∨ T ≤ C) : OwnP w' C U v hs ms := by
  obtain ⟨hh, m, vs, e, h1, h2, h3, h4, h5, h6⟩ := h
  exact ⟨hh, m, vs, e, h1.wr hW h5 h6 hd, h2.wr hW h4 hd, h3, h4, h5, h6⟩
theorem OwnP.below {w w' : World} {B T C : Nat} {v : Value} {hs : List (List Int)} {ms : List Int} (h : OwnP w B T v hs ms) (hb : Below C w w') (hC : w.heap.size ≤ C) : OwnP w' B T v hs ms := by
  obtain ⟨hh, m, vs, e, h1, h2, h3, h4⟩ := h
  exact ⟨hh, m, vs, e, Own2W.below h1 hb hC, h2.below hb hC, h3, h4⟩
theorem OwnP.form {w : World} {B T : Nat} {v : Value} {hs : List (List Int)} {ms : List Int} (h : OwnP w B T v hs ms) : ∃ a n c a' n' c', v = .agg #[.slice a n c, .slice a' n' c'] := by
  obtain ⟨hh, m, vs, e, h1, h2, _⟩ := h
  obtain ⟨a, n, c, e1⟩ : ∃ a n c, hh = .slice a n c := by
    rcases h1.cases with ⟨rfl, _⟩ | ⟨g, cap, rfl, _⟩ <;> exact ⟨_, _, _, rfl⟩
  obtain ⟨a', n', c', e2⟩ : ∃ a n c, m = .slice a n c := by
    rcases h2.cases with ⟨rfl, _⟩ | ⟨g, cap, rfl, _⟩ <;> exact ⟨_, _, _, rfl⟩
  exact ⟨a, n, c, a', n', c', by rw [e, e1, e2]⟩
/-- What a function leaves that returns a policy of its own and whether it succeeded. -/
def ResP (hs : List (List Int)) (ms : List Int) (ok : Bool) (w : World) (e : Ending) (w' : World) : Prop := ∃ v, e = .returned (.tuple #[v, .bool ok]) ∧ OwnP w' w.heap.size w'.heap.size v hs ms ∧ Below w.heap.size w w'
theorem OwnP.nil (w : World) (B T : Nat) : OwnP w B T (.agg #[.slice none 0 0, .slice none 0 0]) [] [] :=
  ⟨_, _, [], rfl, Own2W.nil w B, OwnW.nil w B, fun b h => by simp [Value.ownBlock] at h, fun k h => by simp [Value.ownBlock] at h, fun k h => by simp [Value.ownBlock] at h, fun i k h => by simp at h⟩
def BbP (b : Bool) (w : World) (e : Ending) (w' : World) : Prop := e = .returned (.bool b) ∧ Below w.heap.size w w'
theorem eqP_own {w : World} {B1 T1 B2 T2 : Nat} {v1 v2 : Value} {hs : List (List Int)} {ms : List Int} (o1 : OwnP w B1 T1 v1 hs ms) (o2 : OwnP w B2 T2 v2 hs ms) :
    Calls Try.prog 33 #[v1, v2] w (BbP true w) := by
  obtain ⟨h1, m1, vs1, rfl, p1, q1, _⟩ := o1
  obtain ⟨h2, m2, vs2, rfl, p2, q2, _⟩ := o2
  have HH := Lib.hid (fun (w' : World) (hb : Below w.heap.size w w') => eq2_ownW (Own2W.below p1 hb (Nat.le_refl _)) (Own2W.below p2 hb (Nat.le_refl _)))
  have HM := Lib.hid (fun (w' : World) (hb : Below w.heap.size w w') => eq_ownW (q1.below hb (Nat.le_refl _)) (q2.below hb (Nat.le_refl _)))
  have b0 : Below w.heap.size w ((w.alloc (.cells #[h1, m1] 33)).alloc (.cells #[h2, m2] 33)) := ((Below.refl _ _).alloc (Nat.le_refl _) _).alloc (by simp) _
  clear p1 q1 p2 q2
  go_enter Try.func33, Try.ntmps33
  go_wp2_with fail
  refine (HH.out _ b0).mono ?_; rintro e w1 ⟨k1, rfl, rfl⟩
  have b1 := below_drewN k1 b0
  go_wp2_with fail
  refine (HM.out _ b1).mono ?_; rintro e w2 ⟨k2, rfl, rfl⟩
  have b2 := below_drewN k2 b1
  go_wp2
  go_ret
  exact ⟨rfl, by first | exact b2 | (rw [← World.drewN_drewN]; exact b2)⟩
/-- The marks that a policy holds when it has been marked from 1 on. -/
def mkH (hs : List (List Int)) : List (List Int) := mk2 1 (hs.map List.length)
def mkN (hs : List (List Int)) : Nat := 1 + (hs.map List.length).sum
theorem mkH_length (hs : List (List Int)) : (mkH hs).length = hs.length := by unfold mkH; rw [mk2_length, List.length_map]
def MarkedP (B T : Nat) (v : Value) (hs : List (List Int)) (ms : List Int) (K : Nat) (w : World) (e : Ending) (w' : World) : Prop :=
  e = .returned (.int .i64 ((K : Nat) + (ms.length : Int))) ∧ OwnP w' B T v (mkH hs) (marks K ms.length) ∧ Wr B T w w'
theorem markP_own {w : World} {B T : Nat} {v : Value} {hs : List (List Int)} {ms : List Int} (o : OwnP w B T v hs ms) (hs1 : (hs.map List.length).sum ≤ 1048576) (hs2 : ms.length ≤ 1048576) (hB : B ≤ w.heap.size) :
    Calls Try.prog 35 #[v, .int .i64 1] w (MarkedP B T v hs ms (mkN hs) w) := by
  obtain ⟨h, m, vs, rfl, p, q, ha, hm, hh, hv⟩ := o
  have p0 := Own2W.below p ((Below.refl w.heap.size w).alloc (Nat.le_refl _) (.cells #[h, m] 33)) (Nat.le_refl _)
  have q0 := q.below ((Below.refl w.heap.size w).alloc (Nat.le_refl _) (.cells #[h, m] 33)) (Nat.le_refl _)
  have W0 := Wr.alloc B T w (.cells #[h, m] 33)
  have hsz : (w.alloc (.cells #[h, m] 33)).heap.size = w.heap.size + 1 := Array.size_push _
  have HH := Lib.hid (mark2_ownW 1 p0 (by omega) (by omega))
  have hcell : ∀ w', Below (w.heap.size + 1) (w.alloc (.cells #[h, m] 33)) w' → w'.cell? ⟨w.heap.size, 1, none⟩ = some m := fun w' hb => by
    rw [hb.cell (p := ⟨w.heap.size, 1, none⟩) (by simp)]; simp [go_sem]
  have HF := Lib.hid (fun (w1 : World) (hf : Frm vs (hs.map List.length).length (w.alloc (.cells #[h, m] 33)) w1) => (show w1.cell? ⟨w.heap.size, 1, none⟩ = some m ∧ OwnW w1 B m ms by
    rw [List.length_map] at hf
    refine ⟨?_, q0.same fun b hb hlt => hf b hlt fun i hi => (ha b hb).2 i hi⟩
    have h1 := World.cell?_of_block (a := ⟨w.heap.size, 1, none⟩) (hf w.heap.size (by omega) fun i hi e => by have := (p.2.2.1 i hi).block _ e; omega)
    rw [h1]; simp [go_sem]))
  have HR := Lib.hid (fun (w1 : World) (B1 : Below B (w.alloc (.cells #[h, m] 33)) w1) (hf : Frm vs (hs.map List.length).length (w.alloc (.cells #[h, m] 33)) w1) => (show Wr B T w w1 from by
    rw [List.length_map] at hf
    refine W0.trans ⟨B1.os, B1.tape, B1.output, B1.size, fun b hb hr => hf b hb fun i hi e => ?_⟩
    have h1 := (p.2.2.1 i hi).block _ e
    have h2 := hv i b hi e
    omega))
  have HQ := Lib.hid (fun (w1 w2 : World) (o : Own2W w1 B h vs (mkH hs)) (g : w1.grownBy w2 m.ownBlock) => (show Own2W w2 B h vs (mkH hs) from by
    obtain ⟨g1, g2, g3, g4, g5⟩ := o
    have hne : ∀ k, m.ownBlock = some k → h.ownBlock ≠ some k := fun k hk => (ha k hk).1
    refine ⟨g1, World.ownsRow.kept g2 g ?_, fun i hi => (g3 i hi).kept g (fun k hk e => ?_), g4, g5⟩
    · cases hv : h.ownBlock with
      | none => exact .inl rfl
      | some k => exact .inr (fun e => hne k e.symm hv)
    · rw [mkH_length] at hi
      exact (ha k e.symm).2 i hi hk))
  have HW := Lib.hid (fun (w1 w2 : World) (h1 : Wr B T w w1) (o : OwnW w1 B m ms) (g : w1.grownBy w2 m.ownBlock) => (show Wr B T w w2 from
    h1.trans ⟨g.os, g.tape, g.output, g.size, fun b hb hr => g.block b hb fun e => by
      have h1 := (o.block b e.symm).1
      have h2 := hm b e.symm
      omega⟩))
  have hk2 : ((mkN hs : Nat) : Int) ≤ 1048577 := by unfold mkN; omega
  have HMK := Lib.hid (fun (w1 : World) (o : OwnW w1 B m ms) => mark_ownW (mkN hs) o (by omega))
  have HEND := Lib.hid (fun (w2 : World) (o1 : Own2W w2 B h vs (mkH hs)) (o2 : OwnW w2 B m (marks (mkN hs) ms.length)) => (show OwnP w2 B T (.agg #[h, m]) (mkH hs) (marks (mkN hs) ms.length) from
    ⟨h, m, vs, rfl, o1, o2, fun b hb => ⟨(ha b hb).1, fun i hi => (ha b hb).2 i (by rwa [mkH_length] at hi)⟩, hm, hh, fun i k hi hk => hv i k (by rwa [mkH_length] at hi) hk⟩))
  have HH2 : Hid (Calls Try.prog 55 #[h, .int .i64 1] (w.alloc (.cells #[h, m] 33)) fun e w1 => e = .returned (.int .i64 ((mkN hs : Nat) : Int)) ∧ Own2W w1 B h vs (mkH hs) ∧ Below B (w.alloc (.cells #[h, m] 33)) w1 ∧ Frm vs (hs.map List.length).length (w.alloc (.cells #[h, m] 33)) w1) :=
    HH.out.mono fun e w1 ⟨h1, h2, h3, h4, h5⟩ => ⟨h1, h2, h3, h5⟩
  clear HH p q p0 q0 ha hm hh hv hcell W0 hs1
  generalize mkN hs = K at *
  go_enter Try.func35, Try.ntmps35
  go_wp2_with fail
  refine HH2.out.mono ?_; rintro e w1 ⟨rfl, o1, b1, f1⟩
  obtain ⟨hc, om⟩ := HF.out w1 f1
  have W1 := HR.out w1 b1 f1
  clear b1 f1
  go_wp2_with fail
  refine (HMK.out w1 om).mono ?_; rintro e w2 ⟨rfl, o2, g2⟩
  have E2 := HEND.out w2 (HQ.out w1 w2 o1 g2) o2
  have W2 := HW.out w1 w2 W1 om g2
  go_wp2
  go_ret
  exact ⟨rfl, E2, W2⟩
end Go.Proofs.Ytngbddmbmkphcaa
namespace Go.Proofs.Ytngbddmbmkphcaa
open Go.RowKit
theorem getD_mem (zs : List Int) (i : Nat) (h : i < zs.length) : zs.getD i 0 ∈ zs := by
  rw [List.getD_eq_getElem?_getD, List.getElem?_eq_getElem h]
  exact List.getElem_mem h
/-- An element's cell of a row that came in, and that the number is one of its kind. -/
theorem IsRow.at {k : IntKind} {w : World} {a : Option Addr} {len cap : Nat} {zs : List Int} (h : IsRow k w a len cap zs) (h0 : 0 < len) :
    ∃ b off, a = some ⟨b, off, none⟩ ∧ len ≤ cap ∧ cap ≤ 9223372036854775807 ∧ zs.length = cap ∧ (∀ i, i < len → w.cell? ⟨b, off + i, none⟩ = some (.int k (zs.getD i 0))) ∧ ∀ i, i < len → (Lit.int k (zs.getD i 0)).wf = true := by
  rcases h with ⟨_, rfl, _, _⟩ | ⟨x, rfl, hl, hm, hz, hcell, hwz⟩
  · omega
  · obtain ⟨b, off, rfl, hc⟩ := ints_at hcell (by omega)
    unfold maxLen at hm
    exact ⟨b, off, rfl, hl, hm, hz, fun i hi => hc i (by omega), fun i hi => hwz _ (getD_mem _ _ (by omega))⟩
theorem IsRow.le {k : IntKind} {w : World} {a : Option Addr} {len cap : Nat} {zs : List Int} (h : IsRow k w a len cap zs) : len ≤ 9223372036854775807 ∧ len ≤ zs.length := by
  rcases h with ⟨_, rfl, _, rfl⟩ | ⟨x, rfl, hl, hm, hz, _, _⟩
  · simp
  · unfold maxLen at hm; omega
end Go.Proofs.Ytngbddmbmkphcaa
namespace Go.Proofs.Ytngbddmbmkphcaa
open Go.RowKit
def Copied (xs : List Int) (w : World) (e : Ending) (w' : World) : Prop := ∃ v, e = .returned v ∧ Own w' w.heap.size v xs ∧ Below w.heap.size w w'
/-- After j rounds: the first j numbers, and noughts. -/
def tk (zs : List Int) (n j : Nat) : List Int := zs.take j ++ List.replicate (n - j) 0
theorem tk_length (zs : List Int) (n j : Nat) (hj : j ≤ n) (hn : n ≤ zs.length) : (tk zs n j).length = n := by simp [tk]; omega
theorem tk_step (zs : List Int) (n j : Nat) (hj : j < n) (hn : n ≤ zs.length) : (tk zs n j).set j (zs.getD j 0) = tk zs n (j + 1) := by
  have hl : (zs.take j).length = j := by simp; omega
  unfold tk
  rw [List.set_append_right _ _ (by omega), hl, Nat.sub_self, show n - j = (n - (j + 1)) + 1 by omega, List.replicate_succ, List.set_cons_zero,
    List.take_succ_eq_append_getElem (by omega), List.append_assoc, List.getD_eq_getElem?_getD, List.getElem?_eq_getElem (by omega)]
  rfl
theorem tk_end (zs : List Int) (n : Nat) : tk zs n n = zs.take n := by simp [tk]
def CopyRel (g n : Nat) (zs : List Int) (w0 : World) (j : Nat) (wr : World) : Prop :=
  wr.ownsRow g 2 1 (.slice (some ⟨g, 0, none⟩) n n) n ((tk zs n j).map (Value.int .i64)) ∧ Below g w0 wr
theorem CopyRel.step {g n : Nat} {zs : List Int} {w0 : World} {j : Nat} {wr : World} (h : CopyRel g n zs w0 j wr) (hn : n ≤ zs.length) (hj : j < n) :
    (∃ old, wr.cell? ⟨g, j, none⟩ = some old) ∧ wr.frozen? ⟨g, j, none⟩ = false ∧ CopyRel g n zs w0 (j + 1) (wr.setCell ⟨g, j, none⟩ (.int .i64 (zs.getD j 0))) := by
  have hst := World.ownsRow.stored h.1 j (.int .i64 (zs.getD j 0))
  rw [← List.map_set, tk_step zs n j hj hn] at hst
  refine ⟨?_, h.1.frozenAt j, hst.1, h.2.setCell (Nat.le_refl _) _⟩
  rw [h.1.cellAt j (by omega), List.getElem?_eq_getElem (by simp [tk_length zs n j (by omega) hn]; exact hj)]
  exact ⟨_, rfl⟩
theorem made_zero (n : Nat) : (madeCells #[Value.int .i64 0] n).toList = (List.replicate n 0).map (Value.int .i64) := by
  rw [List.map_replicate]
  exact toList_madeCells_one _ _
set_option maxHeartbeats 1000000 in
theorem to_any (a : Option Addr) (n cap : Nat) (zs : List Int) (w : World) (h : IsRow .i64 w a n cap zs) (hn : n ≤ 1048576) :
    Calls Try.prog 48 #[.slice a n cap] w (Copied (zs.take n) w) := by
  have hle := (h.le).2
  have hcell : ∀ i, i < n → ∃ b off, a = some ⟨b, off, none⟩ ∧ w.cell? ⟨b, off + i, none⟩ = some (.int .i64 (zs.getD i 0)) ∧ b < w.heap.size := fun i hi => by
    obtain ⟨b, off, ha, _, _, _, hc, _⟩ := h.at (by omega)
    exact ⟨b, off, ha, hc i hi, World.block_lt_of_cell? w _ (hc i hi)⟩
  have HC := Lib.hid hcell
  clear hcell h
  obtain ⟨i0, hi, hz0, hz1, hz2⟩ := info_parts infoI
  go_enter Try.func48, Try.ntmps48
  go_wp2_with (at_make; refine wpList_make_full _ rfl _ _ 23 rfl w.heap.size 2 i0 (.int .i64 0) 1 Try.underlying23 hi hz0 hz1 .i64 .i64 (n : Int) (n : Int) n ?_ ?_ rfl rfl ?_ ?_ ?_ ?_; rfl; rfl)
  · rw [hz2]; omega
  · unfold maxLen; omega
  · exact Nat.le_refl _
  intro w1 hown hgr
  have hr : CopyRel w.heap.size n zs w 0 w1 := ⟨by rw [made_zero] at hown; simpa [tk] using hown, (Below.refl _ _).grown hgr (Nat.le_refl _) (by simp)⟩
  clear hown hgr
  go_wp2
  go_loopw [4] (fun i wr => ∃ j : Nat, j ≤ n ∧ i = .int .i64 j ∧ CopyRel w.heap.size n zs w j wr) (fun i _ => n - (intOf i).toNat)
  case atStart => exact ⟨0, Nat.zero_le _, rfl, hr⟩
  case round =>
    obtain ⟨j, hj, rfl, hr⟩ := hrel
    by_cases hlt : j < n
    · obtain ⟨b, off, rfl, hc, hb⟩ := HC.out j hlt
      obtain ⟨⟨old, h1⟩, h2, h3⟩ := hr.step hle hlt
      have hc2 : wr.cell? ⟨b, off + j, none⟩ = some (.int .i64 (zs.getD j 0)) := (hr.2.cell (p := ⟨b, off + j, none⟩) hb).trans hc
      clear hc hr
      generalize zs.getD j 0 = u at *
      go_wp2
      go_roundw
      case rel => exact ⟨j + 1, by omega, by go_num, h3⟩
      case measure => simp [intOf]; omega
    · have e : j = n := by omega
      subst e
      obtain ⟨h1, h2⟩ := hr
      rw [tk_end] at h1
      have hl : (zs.take j).length = j := by simp; omega
      go_wp2
      go_ret
      refine ⟨_, rfl, ?_, h2⟩
      show World.ownsRow _ _ _ _ _ (zs.take j).length _
      rw [hl]
      exact h1
end Go.Proofs.Ytngbddmbmkphcaa
namespace Go.Proofs.Ytngbddmbmkphcaa
open Go.RowKit
/-- What the walk is told of a slice of slices of integers that came in. -/
def IsMatL (w : World) (a : Option Addr) (xss : List (List Int)) : Prop :=
  xss.length ≤ 9223372036854775807 ∧ ∀ i, i < xss.length → ∃ b off A C zs, a = some ⟨b, off, none⟩ ∧ w.cell? ⟨b, off + i, none⟩ = some (.slice A (xss.getD i []).length C) ∧ IsRow .i64 w A (xss.getD i []).length C zs ∧ zs.take (xss.getD i []).length = xss.getD i []
/-- As the shell tells it. -/
def IsMat (w : World) (a : Option Addr) (len : Nat) : Prop :=
  len ≤ 9223372036854775807 ∧ ∀ i, i < len → ∃ b off A L C zs, a = some ⟨b, off, none⟩ ∧ w.cell? ⟨b, off + i, none⟩ = some (.slice A L C) ∧ IsRow .i64 w A L C zs
theorem IsMat.list {w : World} {a : Option Addr} {len : Nat} (h : IsMat w a len) : ∃ xss : List (List Int), xss.length = len ∧ IsMatL w a xss := by
  obtain ⟨hl, h⟩ := h
  have hex : ∀ i, ∃ xs : List Int, i < len → ∃ b off A C zs, a = some ⟨b, off, none⟩ ∧ w.cell? ⟨b, off + i, none⟩ = some (.slice A xs.length C) ∧ IsRow .i64 w A xs.length C zs ∧ zs.take xs.length = xs := fun i => by
    by_cases hi : i < len
    · obtain ⟨b, off, A, L, C, zs, h1, h2, h3⟩ := h i hi
      have hle := (h3.le).2
      have e : (zs.take L).length = L := by rw [List.length_take]; omega
      exact ⟨zs.take L, fun _ => ⟨b, off, A, C, zs, h1, by rw [e]; exact h2, by rw [e]; exact h3, by rw [e]⟩⟩
    · exact ⟨[], fun h => absurd h hi⟩
  refine ⟨(List.range len).map fun i => Classical.choose (hex i), by simp, by simpa using hl, fun i hi => ?_⟩
  have hi' : i < len := by simpa using hi
  have e : ((List.range len).map fun i => Classical.choose (hex i)).getD i [] = Classical.choose (hex i) := by
    rw [List.getD_eq_getElem?_getD, List.getElem?_eq_getElem hi]; simp
  rw [e]
  exact Classical.choose_spec (hex i) hi'
theorem IsMatL.below {w w' : World} {a : Option Addr} {xss : List (List Int)} (h : IsMatL w a xss) (hb : Below w.heap.size w w') : IsMatL w' a xss :=
  ⟨h.1, fun i hi => by
    obtain ⟨b, off, A, C, zs, h1, h2, h3, h4⟩ := h.2 i hi
    exact ⟨b, off, A, C, zs, h1, (hb.cell (p := ⟨b, off + i, none⟩) (World.block_lt_of_cell? w _ h2)).trans h2, isRow_below h3 hb, h4⟩⟩
/-- How much is left of a size when lists have been counted, or -1. -/
def lens (xss : List (List Int)) : List Nat := xss.map List.length
theorem lens_length (xss : List (List Int)) : (lens xss).length = xss.length := by simp [lens]
theorem lens_get (xss : List (List Int)) (j : Nat) (h : j < xss.length) : (lens xss).getD j 0 = (xss.getD j []).length := by
  unfold lens
  rw [List.getD_eq_getElem?_getD, List.getElem?_map, List.getElem?_eq_getElem h, List.getD_eq_getElem?_getD, List.getElem?_eq_getElem h]; rfl
theorem szI_yes (a : Option Addr) (len cap : Nat) (left : Int) (w : World) (h : (len : Int) ≤ left) (hl : left ≤ 1048576) :
    Calls Try.prog 39 #[.slice a len cap, .int .i64 left] w (Count (left - (len : Int)) w) := by
  have h1 : ¬ (left - (len : Int)) < 0 := by omega
  go_enter Try.func39, Try.ntmps39
  go_wp2
  go_ret
  exact ⟨rfl, rfl⟩
theorem szI_no (a : Option Addr) (len cap : Nat) (left : Int) (w : World) (h0 : 0 ≤ left) (h : left < (len : Int)) (hl : left ≤ 1048576) (hm : len ≤ 9223372036854775807) :
    Calls Try.prog 39 #[.slice a len cap, .int .i64 left] w (Count (-1) w) := by
  have h1 : (left - (len : Int)) < 0 := by omega
  go_enter Try.func39, Try.ntmps39
  go_wp2
  go_ret
  exact ⟨rfl, rfl⟩
/-- What szInt64SS answers. -/
def szV (left : Int) (xss : List (List Int)) : Int := if (xss.length : Int) + ((lens xss).sum : Nat) ≤ left then left - xss.length - ((lens xss).sum : Nat) else -1
set_option maxHeartbeats 2000000 in
theorem szM_yes (a : Option Addr) (cap : Nat) (xss : List (List Int)) (left : Int) (w : World) (hm : IsMatL w a xss) (hl : left ≤ 1048576) (h : (xss.length : Int) + ((lens xss).sum : Nat) ≤ left) :
    Calls Try.prog 38 #[.slice a xss.length cap, .int .i64 left] w (Count (left - xss.length - ((lens xss).sum : Nat)) w) := by
  have HC := Lib.hid hm.2
  have HS := Lib.hid (fun j (hj : j < xss.length) => sum_step (lens xss) j (by rw [lens_length]; exact hj))
  have HG := Lib.hid (fun j (hj : j < xss.length) => lens_get xss j hj)
  have HT := Lib.hid (fun j => sum_take_le (lens xss) j)
  have HE := Lib.hid (show ((lens xss).take xss.length).sum = (lens xss).sum by rw [List.take_of_length_le (by rw [lens_length]; exact Nat.le_refl _)])
  clear hm
  generalize (lens xss).sum = T at *
  generalize hN : xss.length = N at *
  clear hN
  have h0 : ¬ (left - (N : Int)) < 0 := by omega
  go_enter Try.func38, Try.ntmps38
  go_wp2
  go_loop [1, 5] (fun m i => ∃ j r : Nat, j ≤ N ∧ i = .int .i64 (j : Nat) ∧ m = .int .i64 (left - (N : Int) - (r : Nat)) ∧ r ≤ T ∧ Hid (r = ((lens xss).take j).sum)) (fun _ i => N - (intOf i).toNat)
  case atStart => exact ⟨0, 0, Nat.zero_le _, rfl, by simp, Nat.zero_le _, Lib.hid (by simp)⟩
  case round =>
    obtain ⟨j, r, hj, rfl, rfl, hrT, hr⟩ := hrel
    by_cases hlt : j < N
    · obtain ⟨b, off, A, C, zs, rfl, hc, _, _⟩ := HC.out j hlt
      have hs := HS.out j hlt
      have hg := HG.out j hlt
      have ht := HT.out (j + 1)
      rw [← hr.out, hg] at hs
      rw [hs] at ht
      have HR := Lib.hid hs.symm
      clear hs hg
      generalize (xss.getD j []).length = d at *
      have HZ := Lib.hid (szI_yes A d C (left - (N : Int) - (r : Nat)) w (by omega) (by omega))
      have hneg : ¬ (left - (N : Int) - (r : Nat) - (d : Nat)) < 0 := by omega
      go_wp2_with (go_at_call 39; refine HZ.out.mono ?_; rintro e w' ⟨rfl, rfl⟩)
      go_round
      case rel => exact ⟨j + 1, r + d, by omega, by go_num, by go_num, ht, HR⟩
      case measure => simp [intOf]; omega
    · have e : j = N := by omega
      subst e
      have hrE : r = T := by rw [hr.out, HE.out]
      subst hrE
      go_wp2
      go_ret
      exact ⟨rfl, rfl⟩
set_option maxHeartbeats 2000000 in
theorem szM_no (a : Option Addr) (cap : Nat) (xss : List (List Int)) (left : Int) (w : World) (hm : IsMatL w a xss) (hl0 : 0 ≤ left) (hl : left ≤ 1048576) (h : left < (xss.length : Int) + ((lens xss).sum : Nat)) :
    Calls Try.prog 38 #[.slice a xss.length cap, .int .i64 left] w (Count (-1) w) := by
  have HC := Lib.hid hm.2
  have hNm := hm.1
  have HS := Lib.hid (fun j (hj : j < xss.length) => sum_step (lens xss) j (by rw [lens_length]; exact hj))
  have HG := Lib.hid (fun j (hj : j < xss.length) => lens_get xss j hj)
  have HE := Lib.hid (show ((lens xss).take xss.length).sum = (lens xss).sum by rw [List.take_of_length_le (by rw [lens_length]; exact Nat.le_refl _)])
  clear hm
  generalize (lens xss).sum = T at *
  generalize hN : xss.length = N at *
  clear hN
  by_cases h0 : (left - (N : Int)) < 0
  · go_enter Try.func38, Try.ntmps38
    go_wp2
    go_ret
    exact ⟨rfl, rfl⟩
  go_enter Try.func38, Try.ntmps38
  go_wp2
  go_loop [1, 5] (fun m i => ∃ j r : Nat, j ≤ N ∧ i = .int .i64 (j : Nat) ∧ m = .int .i64 (left - (N : Int) - (r : Nat)) ∧ ((N : Int) + (r : Nat) ≤ left) ∧ Hid (r = ((lens xss).take j).sum)) (fun _ i => N - (intOf i).toNat)
  case atStart => exact ⟨0, 0, Nat.zero_le _, rfl, by simp, by omega, Lib.hid (by simp)⟩
  case round =>
    obtain ⟨j, r, hj, rfl, rfl, hrT, hr⟩ := hrel
    by_cases hlt : j < N
    · obtain ⟨b, off, A, C, zs, rfl, hc, hrow, _⟩ := HC.out j hlt
      have hdm := (hrow.le).1
      have hs := HS.out j hlt
      have hg := HG.out j hlt
      rw [← hr.out, hg] at hs
      have HR := Lib.hid hs.symm
      clear hs hg hrow
      generalize (xss.getD j []).length = d at *
      by_cases hd : (d : Int) ≤ left - (N : Int) - (r : Nat)
      · have HZ := Lib.hid (szI_yes A d C (left - (N : Int) - (r : Nat)) w hd (by omega))
        have hneg : ¬ (left - (N : Int) - (r : Nat) - (d : Nat)) < 0 := by omega
        go_wp2_with (go_at_call 39; refine HZ.out.mono ?_; rintro e w' ⟨rfl, rfl⟩)
        go_round
        case rel => exact ⟨j + 1, r + d, by omega, by go_num, by go_num, by omega, HR⟩
        case measure => simp [intOf]; omega
      · have HZ := Lib.hid (szI_no A d C (left - (N : Int) - (r : Nat)) w (by omega) (by omega) (by omega) hdm)
        clear hd
        go_wp2_with (go_at_call 39; refine HZ.out.mono ?_; rintro e w' ⟨rfl, rfl⟩)
        go_ret
        exact ⟨rfl, rfl⟩
    · have e : j = N := by omega
      subst e
      have hrE : r = T := by rw [hr.out, HE.out]
      omega
end Go.Proofs.Ytngbddmbmkphcaa
