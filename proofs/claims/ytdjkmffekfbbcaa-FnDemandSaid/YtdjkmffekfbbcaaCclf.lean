/- Lists of frames of a clock that the call owns: their cells, a store, an append. -/
import Derived.Test.YtdjkmffekfbbcaaCappg
import Derived.Test.YtdjkmffekfbbcaaCrd
import Derived.Test.YtdjkmffekfbbcaaPlainClk
import Derived.Laws.OwnMore
import Derived.Deep.AppendLies
namespace Go.Proofs.Ytdjkmffekfbbcaa.Ck
open Go.RowKit
def fcells : List Pf → List Value
  | [] => []
  | f :: p => .int .i64 f.1 :: .bool f.2.1 :: .bool f.2.2 :: fcells p
theorem fcells_app (a b : List Pf) : fcells (a ++ b) = fcells a ++ fcells b := by
  induction a with
  | nil => rfl
  | cons f a ih => simp [fcells, ih]
theorem fcells_length (a : List Pf) : (fcells a).length = a.length * 3 := by
  induction a with
  | nil => rfl
  | cons f a ih => simp [fcells, ih]; omega
theorem fcells_get : ∀ (p : List Pf) (j : Nat), j < p.length → (fcells p)[j * 3]? = some (.int .i64 (pgA p j)) ∧ (fcells p)[j * 3 + 1]? = some (.bool (mkd p j)) ∧ (fcells p)[j * 3 + 2]? = some (.bool (wrt p j))
  | f :: p, 0, _ => ⟨rfl, rfl, rfl⟩
  | f :: p, j + 1, h => by
    have ih := fcells_get p j (by simpa using h)
    have e : (j + 1) * 3 = j * 3 + 1 + 1 + 1 := by omega
    rw [e]
    exact ih
theorem fcells_set : ∀ (p : List Pf) (j : Nat), j < p.length → (∀ x, (fcells p).set (j * 3) (.int .i64 x) = fcells (p.set j (x, mkd p j, wrt p j))) ∧ (∀ b, (fcells p).set (j * 3 + 1) (.bool b) = fcells (p.set j (pgA p j, b, wrt p j))) ∧ (∀ b, (fcells p).set (j * 3 + 2) (.bool b) = fcells (p.set j (pgA p j, mkd p j, b)))
  | f :: p, 0, _ => ⟨fun _ => rfl, fun _ => rfl, fun _ => rfl⟩
  | f :: p, j + 1, h => by
    have ih := fcells_set p j (by simpa using h)
    have e : (j + 1) * 3 = j * 3 + 1 + 1 + 1 := by omega
    rw [e]
    refine ⟨fun x => ?_, fun b => ?_, fun b => ?_⟩
    · show Value.int .i64 f.1 :: .bool f.2.1 :: .bool f.2.2 :: (fcells p).set (j * 3) (.int .i64 x) = _
      rw [ih.1 x]; rfl
    · show Value.int .i64 f.1 :: .bool f.2.1 :: .bool f.2.2 :: (fcells p).set (j * 3 + 1) (.bool b) = _
      rw [ih.2.1 b]; rfl
    · show Value.int .i64 f.1 :: .bool f.2.1 :: .bool f.2.2 :: (fcells p).set (j * 3 + 2) (.bool b) = _
      rw [ih.2.2 b]; rfl
def OwnF (w : World) (B : Nat) (v : Value) (p : List Pf) : Prop := w.ownsRow B 80 3 v p.length (fcells p)
theorem OwnF.block {w : World} {B : Nat} {v : Value} {p : List Pf} (h : OwnF w B v p) : ∀ k, v.ownBlock = some k → B ≤ k ∧ k < w.heap.size := World.ownsRow.lt h
theorem OwnF.same {w w' : World} {B : Nat} {v : Value} {p : List Pf} (h : OwnF w B v p) (he : ∀ k, v.ownBlock = some k → w'.heap[k]? = w.heap[k]?) : OwnF w' B v p := by
  refine ⟨h.1, ?_⟩
  rcases h.2 with hn | ⟨g, cap, cur, hv, hg, hh, r⟩
  · exact .inl hn
  · exact .inr ⟨g, cap, cur, hv, hg, by rw [he g (by rw [hv]; rfl)]; exact hh, r⟩
theorem OwnF.nil (w : World) (B : Nat) : OwnF w B (.slice none 0 0) [] := World.ownsRow_nil _ _ _ _
theorem own_same1 {w w' : World} {B : Nat} {v : Value} {xs : List Int} (h : Own w B v xs) (he : ∀ k, v.ownBlock = some k → w'.heap[k]? = w.heap[k]?) : Own w' B v xs := by
  refine ⟨h.1, ?_⟩
  rcases h.2 with hn | ⟨g, cap, cur, hv, hg, hh, r⟩
  · exact .inl hn
  · exact .inr ⟨g, cap, cur, hv, hg, by rw [he g (by rw [hv]; rfl)]; exact hh, r⟩
theorem OwnF.form {w : World} {B : Nat} {v : Value} {p : List Pf} (h : OwnF w B v p) : ∃ a c, v = .slice a p.length c := by
  rcases h.2 with ⟨rfl, hn⟩ | ⟨g, cap, cur, rfl, _⟩
  · exact ⟨none, 0, by rw [hn]⟩
  · exact ⟨_, cap, rfl⟩
/-- A frame's cells, and the stores to them. -/
theorem OwnF.elem {w : World} {B : Nat} {v : Value} {p : List Pf} (h : OwnF w B v p) (j : Nat) (hj : j < p.length) :
    ∃ g c, v = .slice (some ⟨g, 0, none⟩) p.length c ∧ B ≤ g ∧ g < w.heap.size ∧
      (w.cell? ⟨g, j * 3, none⟩ = some (.int .i64 (pgA p j)) ∧ w.cell? ⟨g, j * 3 + 1, none⟩ = some (.bool (mkd p j)) ∧ w.cell? ⟨g, j * 3 + 2, none⟩ = some (.bool (wrt p j))) ∧ (∀ i, w.frozen? ⟨g, i, none⟩ = false) ∧
      (∀ x, OwnF (w.setCell ⟨g, j * 3, none⟩ (.int .i64 x)) B v (p.set j (x, mkd p j, wrt p j))) ∧ (∀ b, OwnF (w.setCell ⟨g, j * 3 + 1, none⟩ (.bool b)) B v (p.set j (pgA p j, b, wrt p j))) ∧ (∀ b, OwnF (w.setCell ⟨g, j * 3 + 2, none⟩ (.bool b)) B v (p.set j (pgA p j, mkd p j, b))) := by
  have h0 : w.ownsRow B 80 3 v p.length (fcells p) := h
  rcases h0.2 with ⟨_, hn⟩ | ⟨g, cap, cur, hv, hB, hg, _⟩
  · omega
  · subst hv
    obtain ⟨e1, e2, e3⟩ := fcells_get p j hj
    obtain ⟨s1, s2, s3⟩ := fcells_set p j hj
    refine ⟨g, cap, rfl, hB, (Array.getElem?_eq_some_iff.1 hg).1, ⟨?_, ?_, ?_⟩, fun i => h0.frozenAt i, fun x => ?_, fun b => ?_, fun b => ?_⟩
    · rw [h0.cellAt (j * 3) (by omega), e1]
    · rw [h0.cellAt (j * 3 + 1) (by omega), e2]
    · rw [h0.cellAt (j * 3 + 2) (by omega), e3]
    · have t := (World.ownsRow.stored h0 (j * 3) (.int .i64 x)).1
      rw [s1] at t
      show World.ownsRow _ _ _ _ _ (p.set j _).length _
      rw [List.length_set]; exact t
    · have t := (World.ownsRow.stored h0 (j * 3 + 1) (.bool b)).1
      rw [s2] at t
      show World.ownsRow _ _ _ _ _ (p.set j _).length _
      rw [List.length_set]; exact t
    · have t := (World.ownsRow.stored h0 (j * 3 + 2) (.bool b)).1
      rw [s3] at t
      show World.ownsRow _ _ _ _ _ (p.set j _).length _
      rw [List.length_set]; exact t
theorem infoF : (Try.prog.info? 80).map (fun i => (i.zero, i.size, i.bytes)) = some (some (.agg #[.int .i64 0, .bool false, .bool false]), 3, 16) := by kernel_rfl
theorem wpList_appF {ops : Array Oper} {rest : List Oper} {o : Oper} {a : Act} {Q : Exit → Act → World → Prop} (wr : World) (hgd : o.guard = none) (s x : Operand)
    (ho : o.op = .call { callee := .builtin .append, args := #[s, x], argTypes := #[55, 55] })
    (B : Nat) (v : Value) (p : List Pf) (hs : a.eval s = v) (hx : a.eval x = .slice (some ⟨wr.heap.size, 0, none⟩) 1 1) (hown : OwnF wr B v p)
    (hlen : p.length + 1 ≤ 1000) (hB : B ≤ wr.heap.size)
    (h : ∀ v' w', OwnF w' B v' (p ++ [f0]) → Below B wr w' → (∀ b, b < wr.heap.size → v.ownBlock ≠ some b → w'.heap[b]? = wr.heap[b]?) → (∀ q, v'.ownBlock = some q → v.ownBlock = some q ∨ wr.heap.size ≤ q) → wpList Try.prog ops Q rest (a.put o.dst v') w') :
    wpList Try.prog ops Q (o :: rest) a (wr.alloc (.cells #[.int .i64 0, .bool false, .bool false] 80)) := by
  obtain ⟨i0, hi, hz0, hz1, hz2⟩ := info_parts infoF
  have hsz : (wr.alloc (.cells #[.int .i64 0, .bool false, .bool false] 80)).heap.size = wr.heap.size + 1 := Array.size_push _
  refine wpList_append_own_at _ hgd s x 55 ho B 80 i0 (.agg #[.int .i64 0, .bool false, .bool false]) 3 16 (show Try.prog.underlying 55 = some (TypeDesc.slice 80) by kernel_rfl) hi hz0 hz1 hz2 rfl (by decide) v p.length (fcells p) hs (World.ownsRow.alloc hown _)
    ⟨wr.heap.size, 0, none⟩ 1 1 [.int .i64 0, .bool false, .bool false] hx rfl ?_ ?_ ?_ ?_ ?_ ?_
  · intro j u' hj
    match j, hj with
    | 0, hj => simp at hj; subst hj; simp [Addr.add]
    | 1, hj => simp at hj; subst hj; simp [Addr.add]
    | 2, hj => simp at hj; subst hj; simp [Addr.add]
  · intro u' hu; simp at hu; rcases hu with hu | hu <;> subst hu <;> rfl
  · unfold maxLen; omega
  · omega
  · simp; omega
  · intro v' w' hown' hgrow _ hblk
    refine h v' w' ?_ ?_ (fun b hb hne => (hgrow.block b (by omega) (fun e => hne e.symm)).trans (Below.heap_alloc wr _ b hb)) ?_
    · show World.ownsRow _ _ _ _ _ (p ++ [f0]).length _
      rw [List.length_append, fcells_app]
      exact hown'
    · exact ((Below.refl B wr).alloc hB _).grown hgrow (by omega) (fun k hk => (OwnF.block hown k hk).1)
    · intro q hq
      rcases hblk with hb | hb
      · exact .inl (hb ▸ hq)
      · rw [hb] at hq; injection hq with hq; right; omega
end Go.Proofs.Ytdjkmffekfbbcaa.Ck
