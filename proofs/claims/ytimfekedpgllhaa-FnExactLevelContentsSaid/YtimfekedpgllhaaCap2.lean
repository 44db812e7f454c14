/- append of one list to a list of lists of the call's own, inside a region that draws its order. -/
import Derived.Test.YtimfekedpgllhaaCow2
import Derived.Deep.AppendLies
namespace Go.Proofs.Ytimfekedpgllhaa
open Go.RowKit
theorem app2W_post {wr w' : World} {B : Nat} {v v' u : Value} {vs : List Value} {xss : List (List Int)} {zs : List Int} (hown : Own2W wr B v vs xss) (hu : OwnW wr B u zs)
    (hfar : ∀ i k, i < xss.length → (vs.getD i s0).ownBlock = some k → u.ownBlock ≠ some k) (hfar2 : ∀ k, u.ownBlock = some k → v.ownBlock ≠ some k) (hB : B ≤ wr.heap.size)
    (hrow : w'.ownsRow B 23 1 v' (vs.length + 1) (vs ++ [u])) (hgrow : (wr.alloc (.cells #[u] 23)).grownBy w' v.ownBlock) (hblk : v'.ownBlock = v.ownBlock ∨ v'.ownBlock = some (wr.alloc (.cells #[u] 23)).heap.size) :
    Own2W w' B v' (vs ++ [u]) (xss ++ [zs]) ∧ Below B wr w' ∧ (∀ b, b < wr.heap.size → v.ownBlock ≠ some b → w'.heap[b]? = wr.heap[b]?) ∧ (∀ k, v'.ownBlock = some k → v.ownBlock = some k ∨ wr.heap.size ≤ k) := by
  obtain ⟨hl, h0, h1, h2, h3⟩ := hown
  have hsz : (wr.alloc (.cells #[u] 23)).heap.size = wr.heap.size + 1 := Array.size_push _
  have gl : ∀ i, i < xss.length → (vs ++ [u]).getD i s0 = vs.getD i s0 := fun i hi => by
    rw [List.getD_eq_getElem?_getD, List.getElem?_append_left (by omega), ← List.getD_eq_getElem?_getD]
  have gx : ∀ i, i < xss.length → (xss ++ [zs]).getD i [] = xss.getD i [] := fun i hi => by
    rw [List.getD_eq_getElem?_getD, List.getElem?_append_left hi, ← List.getD_eq_getElem?_getD]
  have gu : (vs ++ [u]).getD xss.length s0 = u := by rw [← hl, List.getD_eq_getElem?_getD, List.getElem?_append_right (Nat.le_refl _)]; simp
  have gz : (xss ++ [zs]).getD xss.length [] = zs := by rw [List.getD_eq_getElem?_getD, List.getElem?_append_right (Nat.le_refl _)]; simp
  have old : ∀ (y : Value) (ys : List Int), OwnW wr B y ys → (∀ k, y.ownBlock = some k → v.ownBlock ≠ some k) → OwnW w' B y ys := fun y ys hy hne =>
    OwnW.kept (rowW.alloc hy _) hgrow fun k hk e => hne k hk e.symm
  have nblk : ∀ (y : Value) (ys : List Int) k, OwnW wr B y ys → y.ownBlock = some k → v.ownBlock ≠ some k → v'.ownBlock ≠ some k := fun y ys k hy hk hne e => by
    rcases hblk with hb | hb
    · exact hne (hb ▸ e)
    · rw [hb] at e
      have := (hy.block k hk).2
      injection e with e
      omega
  refine ⟨⟨by simp [hl], ?_, fun i hi => ?_, fun i j k hij hj hk => ?_, fun i k hi hk => ?_⟩, ?_, (fun b hb hne => (hgrow.block b (by omega) (fun e => hne e.symm)).trans (Below.heap_alloc wr _ b hb)), fun k hk => ?_⟩
  rotate_right
  · rcases hblk with hb | hb
    · exact .inl (hb ▸ hk)
    · rw [hb] at hk; injection hk with hk; right; omega
  · rw [List.length_append]; exact hrow
  · rw [List.length_append, List.length_singleton] at hi
    rcases Nat.lt_or_eq_of_le (Nat.le_of_lt_succ hi) with hlt | rfl
    · rw [gl i hlt, gx i hlt]; exact old _ _ (h1 i hlt) (fun k hk => h3 i k hlt hk)
    · rw [gu, gz]; exact old _ _ hu hfar2
  · rw [List.length_append, List.length_singleton] at hj
    rcases Nat.lt_or_eq_of_le (Nat.le_of_lt_succ hj) with hlt | rfl
    · rw [gl i (by omega)] at hk; rw [gl j hlt]; exact h2 i j k hij hlt hk
    · rw [gl i hij] at hk; rw [gu]; exact hfar i k hij hk
  · rw [List.length_append, List.length_singleton] at hi
    rcases Nat.lt_or_eq_of_le (Nat.le_of_lt_succ hi) with hlt | rfl
    · rw [gl i hlt] at hk; exact nblk _ _ k (h1 i hlt) hk (h3 i k hlt hk)
    · rw [gu] at hk; exact nblk _ _ k hu hk (hfar2 k hk)
  · refine ((Below.refl B wr).alloc hB _).grown hgrow (by omega) (fun k hk => ?_)
    exact (World.ownsRow.lt h0 k hk).1
theorem step_app2W {ops : Array Oper} {o : Oper} {a : Act} {K : Act → World → Prop} {Q : Exit → Act → World → Prop} {E : Prop} (wr : World) (hgd : o.guard = none) (s x : Operand)
    (ho : o.op = .call { callee := .builtin .append, args := #[s, x], argTypes := #[22, 22] })
    (B : Nat) (v : Value) (vs : List Value) (xss : List (List Int)) (u : Value) (zs : List Int) (hs : a.eval s = v) (hx : a.eval x = .slice (some ⟨wr.heap.size, 0, none⟩) 1 1) (hown : Own2W wr B v vs xss) (hu : OwnW wr B u zs)
    (hfar : ∀ i k, i < xss.length → (vs.getD i s0).ownBlock = some k → u.ownBlock ≠ some k) (hfar2 : ∀ k, u.ownBlock = some k → v.ownBlock ≠ some k)
    (hlen : xss.length + 1 ≤ 1000000000) (hB : B ≤ wr.heap.size)
    (h : ∀ g cap w', Own2W w' B (.slice (some ⟨g, 0, none⟩) (xss.length + 1) cap) (vs ++ [u]) (xss ++ [zs]) → Below B wr w' → (∀ b, b < wr.heap.size → v.ownBlock ≠ some b → w'.heap[b]? = wr.heap[b]?) → (v.ownBlock = some g ∨ wr.heap.size ≤ g) → K (a.put o.dst (.slice (some ⟨g, 0, none⟩) (xss.length + 1) cap)) w') :
    if Region.wanted o (yielded ops a.tmps) = true then Oper.wp Try.prog o a (wr.alloc (.cells #[u] 23)) K Q else E := by
  obtain ⟨i0, hi, hz0, hz1, hz2⟩ := info_parts infoL
  obtain ⟨hl, h0, h1, h2, h3⟩ := id hown
  refine step_append_lies _ hgd s x 22 ho B 23 i0 (.slice none 0 0) 1 24 Try.underlying22 hi hz0 hz1 hz2 rfl (by decide) v vs.length vs hs (World.ownsRow.alloc h0 _)
    ⟨wr.heap.size, 0, none⟩ 1 1 [u] hx rfl (cell_one_new _ _ _) ?_ (by decide) ?_ ?_ ?_ _ rfl ?_
  · intro u' hu'; simp at hu'; subst hu'
    rcases hu.cases with ⟨rfl, _⟩ | ⟨g, c, rfl, _⟩ <;> rfl
  · unfold maxLen; omega
  · omega
  · simp; omega
  · intro g cap w' hrow hgrow hat _
    have hp := app2W_post (v' := .slice (some ⟨g, 0, none⟩) (vs.length + 1) cap) hown hu hfar hfar2 hB hrow hgrow (by
      rcases hat with h | h
      · exact .inl h.symm
      · exact .inr (by rw [h]; rfl))
    rw [hl] at hp ⊢
    exact h g cap w' hp.1 hp.2.1 hp.2.2.1 (hp.2.2.2 g rfl)
end Go.Proofs.Ytimfekedpgllhaa
