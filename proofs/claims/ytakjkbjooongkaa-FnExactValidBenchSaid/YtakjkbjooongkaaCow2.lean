/- Lists of lists of the call's own whose inner lists lie in blocks of whatever type and size: the law's comparison, marks, look-through, append. -/
import Derived.Test.YtakjkbjooongkaaCss
import Derived.Test.YtakjkbjooongkaaCheld2
import Derived.Test.YtakjkbjooongkaaCmark2
import Derived.Test.YtakjkbjooongkaaCapp2
import Derived.Test.YtakjkbjooongkaaCow
namespace Go.Proofs.Ytakjkbjooongkaa
open Go.RowKit
/-- A list of lists of the call's own: the row holds slices, each of the call's own, each in a block of its own. -/
def Own2W (w : World) (B : Nat) (v : Value) (vs : List Value) (xss : List (List Int)) : Prop :=
  vs.length = xss.length ∧ w.ownsRow B 24 1 v vs.length vs ∧ (∀ i, i < xss.length → OwnW w B (vs.getD i s0) (xss.getD i [])) ∧
    (∀ i j k, i < j → j < xss.length → (vs.getD i s0).ownBlock = some k → (vs.getD j s0).ownBlock ≠ some k) ∧ ∀ i k, i < xss.length → (vs.getD i s0).ownBlock = some k → v.ownBlock ≠ some k
theorem Own2W.nil (w : World) (B : Nat) : Own2W w B (.slice none 0 0) [] [] := ⟨rfl, World.ownsRow_nil _ _ _ _, fun i h => by simp at h, fun i j k _ h => by simp at h, fun i k h => by simp at h⟩
theorem Own2W.cases {w : World} {B : Nat} {v : Value} {vs : List Value} {xss : List (List Int)} (h : Own2W w B v vs xss) :
    (v = .slice none 0 0 ∧ xss = []) ∨ ∃ g cap, v = .slice (some ⟨g, 0, none⟩) xss.length cap ∧ B ≤ g ∧ g < w.heap.size ∧ xss.length ≤ 9223372036854775807 ∧
      (∀ i, i < xss.length → w.cell? ⟨g, i, none⟩ = some (vs.getD i s0)) ∧ ∀ i, w.frozen? ⟨g, i, none⟩ = false := by
  obtain ⟨hl, h0, _⟩ := h
  rcases h0.2 with ⟨rfl, hn⟩ | ⟨g, cap, cur, rfl, hB, hg, hnc, hcm, hcs, htake⟩
  · exact .inl ⟨rfl, List.eq_nil_of_length_eq_zero (by omega)⟩
  · refine .inr ⟨g, cap, by rw [hl], hB, (Array.getElem?_eq_some_iff.1 hg).1, by unfold maxLen at hcm; omega, fun i hi => ?_, fun i => h0.frozenAt i⟩
    rw [h0.cellAt i (by omega), List.getElem?_eq_getElem (by omega), List.getD_eq_getElem?_getD, List.getElem?_eq_getElem (by omega)]
    rfl
theorem Own2W.below {w w' : World} {B : Nat} {v : Value} {vs : List Value} {xss : List (List Int)} (h : Own2W w B v vs xss) {C : Nat} (hb : Below C w w') (hC : w.heap.size ≤ C) : Own2W w' B v vs xss := by
  obtain ⟨hl, h0, h1, h2⟩ := h
  refine ⟨hl, ?_, fun i hi => (h1 i hi).below hb hC, h2⟩
  refine ⟨h0.1, ?_⟩
  rcases h0.2 with hn | ⟨g, cap, cur, hv, hg, hh, r⟩
  · exact .inl hn
  · exact .inr ⟨g, cap, cur, hv, hg, by rw [hb.block g (Nat.lt_of_lt_of_le (Array.getElem?_eq_some_iff.1 hh).1 hC)]; exact hh, r⟩
theorem Own2W.drewN {w : World} {B : Nat} {v : Value} {vs : List Value} {xss : List (List Int)} (h : Own2W w B v vs xss) (k : Nat) : Own2W (w.drewN k) B v vs xss := h
theorem eq2_ownW {w : World} {B1 B2 : Nat} {v1 v2 : Value} {vs1 vs2 : List Value} {xss : List (List Int)} (h1 : Own2W w B1 v1 vs1 xss) (h2 : Own2W w B2 v2 vs2 xss) :
    Calls Try.prog 29 #[v1, v2] w (Drew w) := by
  rcases h1.cases with ⟨rfl, rfl⟩ | ⟨g1, c1, rfl, _, _, hm, hc1, _⟩
  · rcases h2.cases with ⟨rfl, _⟩ | ⟨g2, c2, rfl, _, _, _, hc2, _⟩
    · exact eq2_zero _ _ _ _ _
    · exact eq2_zero _ _ _ _ _
  · rcases h2.cases with ⟨rfl, rfl⟩ | ⟨g2, c2, rfl, _, _, _, hc2, _⟩
    · exact eq2_zero _ _ _ _ _
    · exact eq2_cells _ _ _ _ _ vs1 vs2 w hm hc1 hc2 (fun i q hi => eq_ownW ((h1.2.2.1 i hi).drewN q) ((h2.2.2.1 i hi).drewN q))
theorem Own2W.marked {w w' : World} {B j : Nat} {v : Value} {vs : List Value} {ys : List (List Int)} {zs : List Int} (h : Own2W w B v vs ys) (hj : j < ys.length) (ho : OwnW w' B (vs.getD j s0) zs)
    (hg : w.grownBy w' (vs.getD j s0).ownBlock) : Own2W w' B v vs (ys.set j zs) := by
  obtain ⟨hl, h0, h1, h2, h3⟩ := h
  refine ⟨by rw [List.length_set]; exact hl, ?_, fun i hi => ?_, fun i i' k hii hi' => h2 i i' k hii (by simpa using hi'), fun i k hi => h3 i k (by simpa using hi)⟩
  · refine World.ownsRow.kept h0 hg ?_
    cases hv : (vs.getD j s0).ownBlock with
    | none =>
      cases hv2 : v.ownBlock with
      | none => exact .inl rfl
      | some k => exact .inr (fun e => by cases e)
    | some k =>
      cases hv2 : v.ownBlock with
      | none => exact .inl rfl
      | some k2 => exact .inr (fun e => h3 j k hj hv (by rw [hv2]; exact e))
  · rw [List.length_set] at hi
    by_cases e : i = j
    · subst e
      have e2 : (ys.set i zs).getD i [] = zs := by rw [List.getD_eq_getElem?_getD, List.getElem?_set_self hi]; rfl
      rw [e2]
      exact ho
    · have e2 : (ys.set j zs).getD i [] = ys.getD i [] := by rw [List.getD_eq_getElem?_getD, List.getElem?_set_ne (fun h => e h.symm), ← List.getD_eq_getElem?_getD]
      rw [e2]
      refine (h1 i hi).kept hg fun k hk hne => ?_
      rcases Nat.lt_or_gt_of_ne e with hlt | hlt
      · exact h2 i j k hlt hj hk hne.symm
      · exact h2 j i k hlt hi hne.symm hk
/-- All blocks but those of the inner lists are as they were. -/
def Frm (vs : List Value) (n : Nat) (w w' : World) : Prop := ∀ b, b < w.heap.size → (∀ i, i < n → (vs.getD i s0).ownBlock ≠ some b) → w'.heap[b]? = w.heap[b]?
theorem Frm.refl (vs : List Value) (n : Nat) (w : World) : Frm vs n w w := fun _ _ _ => rfl
theorem Frm.step {vs : List Value} {n j : Nat} {w wr w' : World} (h : Frm vs n w wr) (hj : j < n) (hsz : w.heap.size ≤ wr.heap.size) (hg : wr.grownBy w' (vs.getD j s0).ownBlock) : Frm vs n w w' := fun b hb hne =>
  (hg.block b (by omega) (fun e => hne j hj e.symm)).trans (h b hb hne)
def Marked2W (B : Nat) (v : Value) (vs : List Value) (k : Nat) (ns : List Nat) (w : World) (e : Ending) (w' : World) : Prop := e = .returned (.int .i64 ((k + ns.sum : Nat) : Int)) ∧ Own2W w' B v vs (mk2 k ns) ∧ Below B w w' ∧ w.heap.size ≤ w'.heap.size ∧ Frm vs ns.length w w'
theorem row_cellW {w : World} {B b N c j : Nat} {vs : List Value} {ys : List (List Int)} (h : Own2W w B (.slice (some ⟨b, 0, none⟩) N c) vs ys) (hl : ys.length = N) (hj : j < N) : w.cell? ⟨b, j, none⟩ = some (vs.getD j s0) := by
  rcases h.cases with ⟨h, _⟩ | ⟨g, cap, he, _, _, _, hc, _⟩
  · cases h
  · injection he with h1 h2 h3
    injection h1 with h1
    injection h1 with h1
    subst h1
    exact hc j (by omega)
theorem wpList_app2W {ops : Array Oper} {rest : List Oper} {o : Oper} {a : Act} {Q : Exit → Act → World → Prop} (wr : World) (hgd : o.guard = none) (s x : Operand)
    (ho : o.op = .call { callee := .builtin .append, args := #[s, x], argTypes := #[23, 23] })
    (B : Nat) (v : Value) (vs : List Value) (xss : List (List Int)) (u : Value) (zs : List Int) (hs : a.eval s = v) (hx : a.eval x = .slice (some ⟨wr.heap.size, 0, none⟩) 1 1) (hown : Own2W wr B v vs xss) (hu : OwnW wr B u zs)
    (hfar : ∀ i k, i < xss.length → (vs.getD i s0).ownBlock = some k → u.ownBlock ≠ some k) (hfar2 : ∀ k, u.ownBlock = some k → v.ownBlock ≠ some k)
    (hlen : xss.length + 1 ≤ 1000000000) (hB : B ≤ wr.heap.size)
    (h : ∀ v' w', Own2W w' B v' (vs ++ [u]) (xss ++ [zs]) → Below B wr w' → (∀ b, b < wr.heap.size → v.ownBlock ≠ some b → w'.heap[b]? = wr.heap[b]?) → (∀ k, v'.ownBlock = some k → v.ownBlock = some k ∨ wr.heap.size ≤ k) → wpList Try.prog ops Q rest (a.put o.dst v') w') :
    wpList Try.prog ops Q (o :: rest) a (wr.alloc (.cells #[u] 24)) := by
  obtain ⟨i0, hi, hz0, hz1, hz2⟩ := info_parts infoL
  have hown' := hown
  obtain ⟨hl, h0, h1, h2, h3⟩ := hown'
  refine wpList_append_own_at _ hgd s x 23 ho B 24 i0 (.slice none 0 0) 1 24 Try.underlying23 hi hz0 hz1 hz2 rfl (by decide) v vs.length vs hs (World.ownsRow.alloc h0 _)
    ⟨wr.heap.size, 0, none⟩ 1 1 [u] hx rfl (cell_one_new _ _ _) ?_ ?_ ?_ ?_ ?_
  · intro u' hu'; simp at hu'; subst hu'
    rcases hu.cases with ⟨rfl, _⟩ | ⟨g, c, rfl, _⟩ <;> rfl
  · unfold maxLen; omega
  · omega
  · simp; omega
  · intro v' w' hrow hgrow hnil hblk
    have hsz : (wr.alloc (.cells #[u] 24)).heap.size = wr.heap.size + 1 := Array.size_push _
    have gl : ∀ i, i < xss.length → (vs ++ [u]).getD i s0 = vs.getD i s0 := fun i hi => by
      rw [List.getD_eq_getElem?_getD, List.getElem?_append_left (by omega), ← List.getD_eq_getElem?_getD]
    have gx : ∀ i, i < xss.length → (xss ++ [zs]).getD i [] = xss.getD i [] := fun i hi => by
      rw [List.getD_eq_getElem?_getD, List.getElem?_append_left hi, ← List.getD_eq_getElem?_getD]
    have gu : (vs ++ [u]).getD xss.length s0 = u := by rw [← hl, List.getD_eq_getElem?_getD, List.getElem?_append_right (Nat.le_refl _)]; simp
    have gz : (xss ++ [zs]).getD xss.length [] = zs := by rw [List.getD_eq_getElem?_getD, List.getElem?_append_right (Nat.le_refl _)]; simp
    have old : ∀ (y : Value) (ys : List Int), OwnW wr B y ys → (∀ k, y.ownBlock = some k → v.ownBlock ≠ some k) → OwnW w' B y ys := fun y ys hy hne =>
      OwnW.kept (rowW.alloc hy _) hgrow fun k hk e => hne k hk e.symm
    have nblk : ∀ (y : Value) (ys : List Int) k, OwnW wr B y ys → y.ownBlock = some k → v.ownBlock ≠ some k → v'.ownBlock ≠ some k := fun y ys k hy hk hne e => by
      rcases hblk with hb | hb
      · exact hne (hb ▸ e)
      · rw [hb] at e
        have := (hy.block k hk).2
        injection e with e
        omega
    refine h v' w' ⟨by simp [hl], ?_, fun i hi => ?_, fun i j k hij hj hk => ?_, fun i k hi hk => ?_⟩ ?_ (fun b hb hne => (hgrow.block b (by omega) (fun e => hne e.symm)).trans (Below.heap_alloc wr _ b hb)) (fun k hk => by
        rcases hblk with hb | hb
        · exact .inl (hb ▸ hk)
        · rw [hb] at hk; injection hk with hk; right; omega)
    · rw [List.length_append]; exact hrow
    · rw [List.length_append, List.length_singleton] at hi
      rcases Nat.lt_or_eq_of_le (Nat.le_of_lt_succ hi) with hlt | rfl
      · rw [gl i hlt, gx i hlt]; exact old _ _ (h1 i hlt) (fun k hk => h3 i k hlt hk)
      · rw [gu, gz]; exact old _ _ hu hfar2
    · rw [List.length_append, List.length_singleton] at hj
      rcases Nat.lt_or_eq_of_le (Nat.le_of_lt_succ hj) with hlt | rfl
      · rw [gl i (by omega)] at hk; rw [gl j hlt]; exact h2 i j k hij hlt hk
      · rw [gl i hij] at hk; rw [gu]; exact hfar i k hij hk
    · rw [List.length_append, List.length_singleton] at hi
      rcases Nat.lt_or_eq_of_le (Nat.le_of_lt_succ hi) with hlt | rfl
      · rw [gl i hlt] at hk; exact nblk _ _ k (h1 i hlt) hk (h3 i k hlt hk)
      · rw [gu] at hk; exact nblk _ _ k hu hk (hfar2 k hk)
    · refine ((Below.refl B wr).alloc hB _).grown hgrow (by omega) (fun k hk => ?_)
      exact (World.ownsRow.lt h0 k hk).1
end Go.Proofs.Ytakjkbjooongkaa
