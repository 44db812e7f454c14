/- append of one number to a list of the call's own: what lies elsewhere stays. A literal of one number. -/
import Derived.Test.YtakjkbjooongkaaCapp
import Derived.Maps.AppendAt
namespace Go.Proofs.Ytakjkbjooongkaa
open Go.RowKit
/-- The two lists lie in different blocks. -/
def Apart (v y : Value) : Prop := ∀ k, y.ownBlock = some k → v.ownBlock ≠ some k
theorem Apart.nil (y : Value) : Apart (.slice none 0 0) y := fun k _ h => by cases h
theorem Apart.symm {v y : Value} (h : Apart v y) : Apart y v := fun k hk hy => h k hy hk
theorem Apart.new {w : World} {B C : Nat} {v y : Value} {xs : List Int} (hv : Own w B v xs) (hy : ∀ k, y.ownBlock = some k → C ≤ k) (hC : w.heap.size ≤ C) : Apart v y := fun k hk hv' => by
  have h1 := (hv.block k hv').2
  have h2 := hy k hk
  omega
theorem wpList_appG {ops : Array Oper} {rest : List Oper} {o : Oper} {a : Act} {Q : Exit → Act → World → Prop} (wr : World) (hgd : o.guard = none) (s x : Operand)
    (ho : o.op = .call { callee := .builtin .append, args := #[s, x], argTypes := #[24, 24] })
    (B : Nat) (v : Value) (xs : List Int) (u : Int) (hs : a.eval s = v) (hx : a.eval x = .slice (some ⟨wr.heap.size, 0, none⟩) 1 1) (hown : Own wr B v xs)
    (hlen : xs.length + 1 ≤ 1000000000) (hB : B ≤ wr.heap.size)
    (h : ∀ v' w', Own w' B v' (xs ++ [u]) → Below B wr w' → (∀ y C ys, Own wr C y ys → Apart v y → Own w' C y ys ∧ Apart v' y) → wpList Try.prog ops Q rest (a.put o.dst v') w') :
    wpList Try.prog ops Q (o :: rest) a (wr.alloc (.cells #[.int .i64 u] 2)) := by
  obtain ⟨i0, hi, hz0, hz1, hz2⟩ := info_parts infoI
  refine wpList_append_own_at _ hgd s x 24 ho B 2 i0 (.int .i64 0) 1 8 Try.underlying24 hi hz0 hz1 hz2 rfl (by decide) v xs.length (xs.map (Value.int .i64)) hs (World.ownsRow.alloc hown _)
    ⟨wr.heap.size, 0, none⟩ 1 1 [.int .i64 u] hx rfl (cell_one_new _ _ _) ?_ ?_ ?_ ?_ ?_
  · intro u' hu; simp at hu; subst hu; rfl
  · unfold maxLen; omega
  · omega
  · simp; omega
  · intro v' w' hown' hgrow _ hblk
    have hsz : (wr.alloc (.cells #[.int .i64 u] 2)).heap.size = wr.heap.size + 1 := Array.size_push _
    refine h v' w' ?_ ?_ ?_
    · show World.ownsRow _ _ _ _ _ (xs ++ [u]).length _
      rw [List.length_append, List.map_append]
      exact hown'
    · exact ((Below.refl B wr).alloc hB _).grown hgrow (by omega) (fun k hk => (Own.block hown k hk).1)
    · intro y C ys hy hap
      refine ⟨Own.kept (World.ownsRow.alloc hy _) hgrow fun k hk e => hap k hk e.symm, fun k hk e => ?_⟩
      rcases hblk with hb | hb
      · exact hap k hk (hb ▸ e)
      · rw [hb] at e
        have := (hy.block k hk).2
        injection e with e
        omega
theorem Own.lit (w : World) (u : Int) : Own (w.alloc (.cells #[.int .i64 u] 2)) w.heap.size (.slice (some ⟨w.heap.size, 0, none⟩) 1 1) [u] :=
  World.ownsRow_lit w #[.int .i64 u] 1 (Nat.le_refl _) (by unfold maxLen; omega) rfl
theorem Own.lit0 (w : World) : Own (w.alloc (.cells #[] 2)) w.heap.size (.slice (some ⟨w.heap.size, 0, none⟩) 0 0) [] :=
  World.ownsRow_lit w #[] 0 (Nat.le_refl _) (by unfold maxLen; omega) rfl
theorem Own.form {w : World} {B : Nat} {v : Value} {xs : List Int} (h : Own w B v xs) : ∃ a c, v = .slice a xs.length c := by
  rcases h.cases with ⟨rfl, rfl⟩ | ⟨g, cap, rfl, _⟩
  · exact ⟨_, _, rfl⟩
  · exact ⟨_, _, rfl⟩
end Go.Proofs.Ytakjkbjooongkaa
