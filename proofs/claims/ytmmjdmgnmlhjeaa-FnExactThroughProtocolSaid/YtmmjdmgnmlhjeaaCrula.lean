/- Rows of Rule: append, stores. -/
import Derived.Test.YtmmjdmgnmlhjeaaCrul
import Derived.Deep.AppendLies
import Derived.Deep.RegionLaw
namespace Go.Proofs.Ytmmjdmgnmlhjeaa.Ru
open Go.RowKit
theorem step_appR {ops : Array Oper} {o : Oper} {a : Act} {K : Act → World → Prop} {Q : Exit → Act → World → Prop} {E : Prop} (wr : World) (hgd : o.guard = none) (s x : Operand)
    (ho : o.op = .call { callee := .builtin .append, args := #[s, x], argTypes := #[22, 22] })
    (B : Nat) (v : Value) (rs : List R) (r : R) (hs : a.eval s = v) (hx : a.eval x = .slice (some ⟨wr.heap.size, 0, none⟩) 1 1) (hown : OwnR wr B v rs)
    (hlen : rs.length + 1 ≤ 100000000) (hB : B ≤ wr.heap.size)
    (h : ∀ g cap w', OwnR w' B (.slice (some ⟨g, 0, none⟩) (rs.length + 1) cap) (rs ++ [r]) → Below B wr w' → (∀ b, b < wr.heap.size → v.ownBlock ≠ some b → w'.heap[b]? = wr.heap[b]?) → (v.ownBlock = some g ∨ wr.heap.size ≤ g) → K (a.put o.dst (.slice (some ⟨g, 0, none⟩) (rs.length + 1) cap)) w') :
    if Region.wanted o (yielded ops a.tmps) = true then Oper.wp Try.prog o a (wr.alloc (.cells #[.int .i64 r.1, .int .i64 r.2.1, .bool r.2.2] 40)) K Q else E := by
  obtain ⟨i0, hi, hz0, hz1, hz2⟩ := info_parts infoA
  have hsz : (wr.alloc (.cells #[.int .i64 r.1, .int .i64 r.2.1, .bool r.2.2] 40)).heap.size = wr.heap.size + 1 := Array.size_push _
  refine step_append_lies _ hgd s x 22 ho B 40 i0 (.agg #[.int .i64 0, .int .i64 0, .bool false]) 3 24 Try.underlying22 hi hz0 hz1 hz2 rfl (by decide) v rs.length (cl rs) hs (World.ownsRow.alloc hown _)
    ⟨wr.heap.size, 0, none⟩ 1 1 [.int .i64 r.1, .int .i64 r.2.1, .bool r.2.2] hx rfl ?_ ?_ (by decide) ?_ ?_ ?_ _ rfl ?_
  · intro j u' hj
    match j, hj with
    | 0, hj => simp at hj; subst hj; simp [Addr.add]
    | 1, hj => simp at hj; subst hj; simp [Addr.add]
    | 2, hj => simp at hj; subst hj; simp [Addr.add]
  · intro u' hu'; simp at hu'; rcases hu' with hu' | hu' | hu' <;> subst hu' <;> rfl
  · unfold maxLen; omega
  · omega
  · omega
  · intro g cap w' hrow hgrow hat hblk
    have hO : OwnR w' B (.slice (some ⟨g, 0, none⟩) (rs.length + 1) cap) (rs ++ [r]) := by
      show World.ownsRow _ _ _ _ _ (rs ++ [r]).length _
      rw [List.length_append, cl_app]
      exact hrow
    refine h g cap w' hO (((Below.refl B wr).alloc hB _).grown hgrow (by omega) (fun k hk => (OwnR.block hown k hk).1)) (fun b hb hne => (hgrow.block b (by omega) (fun e => hne e.symm)).trans (Below.heap_alloc wr _ b hb)) ?_
    exact hat.imp id fun e => by omega
theorem wpList_appR {ops : Array Oper} {rest : List Oper} {o : Oper} {a : Act} {Q : Exit → Act → World → Prop} (wr : World) (hgd : o.guard = none) (s x : Operand)
    (ho : o.op = .call { callee := .builtin .append, args := #[s, x], argTypes := #[22, 22] })
    (B : Nat) (v : Value) (rs : List R) (r : R) (hs : a.eval s = v) (hx : a.eval x = .slice (some ⟨wr.heap.size, 0, none⟩) 1 1) (hown : OwnR wr B v rs)
    (hlen : rs.length + 1 ≤ 100000000) (hB : B ≤ wr.heap.size)
    (h : ∀ v' w', OwnR w' B v' (rs ++ [r]) → Below B wr w' → (∀ b, b < wr.heap.size → v.ownBlock ≠ some b → w'.heap[b]? = wr.heap[b]?) → (∀ q, v'.ownBlock = some q → v.ownBlock = some q ∨ wr.heap.size ≤ q) → wpList Try.prog ops Q rest (a.put o.dst v') w') :
    wpList Try.prog ops Q (o :: rest) a (wr.alloc (.cells #[.int .i64 r.1, .int .i64 r.2.1, .bool r.2.2] 40)) := by
  obtain ⟨i0, hi, hz0, hz1, hz2⟩ := info_parts infoA
  have hsz : (wr.alloc (.cells #[.int .i64 r.1, .int .i64 r.2.1, .bool r.2.2] 40)).heap.size = wr.heap.size + 1 := Array.size_push _
  refine wpList_append_own_at _ hgd s x 22 ho B 40 i0 (.agg #[.int .i64 0, .int .i64 0, .bool false]) 3 24 Try.underlying22 hi hz0 hz1 hz2 rfl (by decide) v rs.length (cl rs) hs (World.ownsRow.alloc hown _)
    ⟨wr.heap.size, 0, none⟩ 1 1 [.int .i64 r.1, .int .i64 r.2.1, .bool r.2.2] hx rfl ?_ ?_ ?_ ?_ ?_ ?_
  · intro j u' hj
    match j, hj with
    | 0, hj => simp at hj; subst hj; simp [Addr.add]
    | 1, hj => simp at hj; subst hj; simp [Addr.add]
    | 2, hj => simp at hj; subst hj; simp [Addr.add]
  · intro u' hu'; simp at hu'; rcases hu' with hu' | hu' | hu' <;> subst hu' <;> rfl
  · unfold maxLen; omega
  · omega
  · simp; omega
  · intro v' w' hown' hgrow _ hblk
    refine h v' w' ?_ ?_ ?_ ?_
    · show World.ownsRow _ _ _ _ _ (rs ++ [r]).length _
      rw [List.length_append, cl_app]
      exact hown'
    · exact ((Below.refl B wr).alloc hB _).grown hgrow (by omega) (fun k hk => (OwnR.block hown k hk).1)
    · exact fun b hb hne => (hgrow.block b (by omega) (fun e => hne e.symm)).trans (Below.heap_alloc wr _ b hb)
    · intro q hq
      rcases hblk with hb | hb
      · exact .inl (hb ▸ hq)
      · rw [hb] at hq; injection hq with hq; right; omega
/-- One cell of a row is written: what the row is then. -/
theorem OwnR.put {w : World} {B g c : Nat} {rs ys : List R} (h : OwnR w B (.slice (some ⟨g, 0, none⟩) rs.length c) rs) (j : Nat) (u : Value) (e : (cl rs).set j u = cl ys) (hn : ys.length = rs.length) :
    OwnR (w.setCell ⟨g, j, none⟩ u) B (.slice (some ⟨g, 0, none⟩) rs.length c) ys ∧ w.grownBy (w.setCell ⟨g, j, none⟩ u) (some g) := by
  have s := World.ownsRow.stored h j u
  rw [e] at s
  exact ⟨by unfold OwnR; rw [hn]; exact s.1, s.2⟩
end Go.Proofs.Ytmmjdmgnmlhjeaa.Ru
