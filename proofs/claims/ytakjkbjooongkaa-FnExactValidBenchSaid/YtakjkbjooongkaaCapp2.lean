/- append of one list to a list of lists of the call's own. -/
import Derived.Test.YtakjkbjooongkaaCss
import Derived.Test.YtakjkbjooongkaaCapp
import Derived.Maps.AppendAt
namespace Go.Proofs.Ytakjkbjooongkaa
open Go.RowKit
theorem infoL : (Try.prog.info? 24).map (fun i => (i.zero, i.size, i.bytes)) = some (some (.slice none 0 0), 1, 24) := by kernel_rfl
theorem wpList_app2 {ops : Array Oper} {rest : List Oper} {o : Oper} {a : Act} {Q : Exit → Act → World → Prop} (wr : World) (hgd : o.guard = none) (s x : Operand)
    (ho : o.op = .call { callee := .builtin .append, args := #[s, x], argTypes := #[23, 23] })
    (B : Nat) (v : Value) (vs : List Value) (xss : List (List Int)) (u : Value) (zs : List Int) (hs : a.eval s = v) (hx : a.eval x = .slice (some ⟨wr.heap.size, 0, none⟩) 1 1) (hown : Own2 wr B v vs xss) (hu : Own wr B u zs)
    (hfar : ∀ i k, i < xss.length → (vs.getD i s0).ownBlock = some k → u.ownBlock ≠ some k) (hfar2 : ∀ k, u.ownBlock = some k → v.ownBlock ≠ some k)
    (hlen : xss.length + 1 ≤ 1000000000) (hB : B ≤ wr.heap.size)
    (h : ∀ v' w', Own2 w' B v' (vs ++ [u]) (xss ++ [zs]) → Below B wr w' → wpList Try.prog ops Q rest (a.put o.dst v') w') :
    wpList Try.prog ops Q (o :: rest) a (wr.alloc (.cells #[u] 24)) := by
  obtain ⟨i0, hi, hz0, hz1, hz2⟩ := info_parts infoL
  have hown' := hown
  obtain ⟨hl, h0, h1, h2, h3⟩ := hown'
  refine wpList_append_own_at _ hgd s x 23 ho B 24 i0 (.slice none 0 0) 1 24 Try.underlying23 hi hz0 hz1 hz2 rfl (by decide) v vs.length vs hs (World.ownsRow.alloc h0 _)
    ⟨wr.heap.size, 0, none⟩ 1 1 [u] hx rfl (cell_one_new _ _ _) ?_ ?_ ?_ ?_ ?_
  · intro u' hu'; simp at hu'; subst hu'
    rcases hu.cases with ⟨rfl, _⟩ | ⟨g, c, rfl, _⟩ <;> rfl
  · unfold maxLen; omega
  · omega
  · simp; omega
  · intro v' w' hrow hgrow hnil hblk
    have hsz : (wr.alloc (.cells #[u] 24)).heap.size = wr.heap.size + 1 := Array.size_push _
    have gl : ∀ i, i < xss.length → (vs ++ [u]).getD i s0 = vs.getD i s0 := fun i hi => by
      rw [List.getD_eq_getElem?_getD, List.getElem?_append_left (by omega), ← List.getD_eq_getElem?_getD]
    have gx : ∀ i, i < xss.length → (xss ++ [zs]).getD i [] = xss.getD i [] := fun i hi => by
      rw [List.getD_eq_getElem?_getD, List.getElem?_append_left hi, ← List.getD_eq_getElem?_getD]
    have gu : (vs ++ [u]).getD xss.length s0 = u := by rw [← hl, List.getD_eq_getElem?_getD, List.getElem?_append_right (Nat.le_refl _)]; simp
    have gz : (xss ++ [zs]).getD xss.length [] = zs := by rw [List.getD_eq_getElem?_getD, List.getElem?_append_right (Nat.le_refl _)]; simp
    have old : ∀ (y : Value) (ys : List Int), Own wr B y ys → (∀ k, y.ownBlock = some k → v.ownBlock ≠ some k) → Own w' B y ys := fun y ys hy hne =>
      Own.kept (World.ownsRow.alloc hy _) hgrow fun k hk e => hne k hk e.symm
    have nblk : ∀ (y : Value) (ys : List Int) k, Own wr B y ys → y.ownBlock = some k → v.ownBlock ≠ some k → v'.ownBlock ≠ some k := fun y ys k hy hk hne e => by
      rcases hblk with hb | hb
      · exact hne (hb ▸ e)
      · rw [hb] at e
        have := (hy.block k hk).2
        injection e with e
        omega
    refine h v' w' ⟨by simp [hl], ?_, fun i hi => ?_, fun i j k hij hj hk => ?_, fun i k hi hk => ?_⟩ ?_
    · rw [List.length_append]; exact hrow
    · rw [List.length_append, List.length_singleton] at hi
      rcases Nat.lt_or_eq_of_le (Nat.le_of_lt_succ hi) with hlt | rfl
      · rw [gl i hlt, gx i hlt]; exact old _ _ (h1 i hlt) (fun k hk => h3 i k hlt hk)
      · rw [gu, gz]; exact old _ _ hu hfar2
    · rw [List.length_append, List.length_singleton] at hj
      rcases Nat.lt_or_eq_of_le (Nat.le_of_lt_succ hj) with hlt | rfl
      · rw [gl i (by omega)] at hk; rw [gl j hlt]; exact h2 i j k hij hlt hk
      · rw [gl i hij] at hk; rw [gu]; exact hfar i k hij hk
    · rw [List.length_append, List.length_singleton] at hi
      rcases Nat.lt_or_eq_of_le (Nat.le_of_lt_succ hi) with hlt | rfl
      · rw [gl i hlt] at hk; exact nblk _ _ k (h1 i hlt) hk (h3 i k hlt hk)
      · rw [gu] at hk; exact nblk _ _ k hu hk (hfar2 k hk)
    · refine ((Below.refl B wr).alloc hB _).grown hgrow (by omega) (fun k hk => ?_)
      exact (World.ownsRow.lt h0 k hk).1
end Go.Proofs.Ytakjkbjooongkaa
