/- A list of the call's own in a variable of a structure: what a use of it keeps. append of one number: which blocks stay. -/
import Derived.Test.YtaeaffddmohjgaaCappg
import Derived.Test.YtaeaffddmohjgaaCrd
import Derived.Test.YtaeaffddmohjgaaPlainStk
import Derived.Laws.Rows
namespace Go.Proofs.Ytaeaffddmohjgaa
open Go.RowKit
/-- The stack's variable: its list and its function value. -/
def Stk (w : World) (p : Nat) (v fv : Value) : Prop := w.heap[p]? = some (.cells #[v, fv] 74 (0, 0))
theorem Stk.lt {w : World} {p : Nat} {v fv : Value} (h : Stk w p v fv) : p < w.heap.size := (Array.getElem?_eq_some_iff.1 h).1
theorem Stk.cells {w : World} {p : Nat} {v fv : Value} (h : Stk w p v fv) : w.cell? ⟨p, 0, none⟩ = some v ∧ w.cell? ⟨p, 1, none⟩ = some fv ∧ w.frozen? ⟨p, 0, none⟩ = false := by
  refine ⟨?_, ?_, frozen_of_row w p 0 _ _ h⟩
  · rw [cell_of_row w p 0 _ _ (0, 0) h]; rfl
  · rw [cell_of_row w p 1 _ _ (0, 0) h]; rfl
theorem Stk.set {w : World} {p : Nat} {v fv : Value} (h : Stk w p v fv) (u : Value) : Stk (w.setCell ⟨p, 0, none⟩ u) p u fv := by
  unfold Stk; rw [heap_setCell_same w p 0 _ _ u h]; rfl
theorem Stk.same {w w' : World} {p : Nat} {v fv : Value} (h : Stk w p v fv) (he : w'.heap[p]? = w.heap[p]?) : Stk w' p v fv := he.trans h
theorem Own.same {w w' : World} {B : Nat} {v : Value} {xs : List Int} (h : Own w B v xs) (he : ∀ k, v.ownBlock = some k → w'.heap[k]? = w.heap[k]?) : Own w' B v xs := by
  refine ⟨h.1, ?_⟩
  rcases h.2 with hn | ⟨g, cap, cur, hv, hg, hh, r⟩
  · exact .inl hn
  · exact .inr ⟨g, cap, cur, hv, hg, by rw [he g (by rw [hv]; rfl)]; exact hh, r⟩
theorem Own.at {w : World} {B : Nat} {sa : Option Addr} {N cap : Nat} {L : List Int} (h : Own w B (.slice sa N cap) L) (hl : L.length = N) (j : Nat) (hj : j < N) :
    ∃ g, sa = some ⟨g, 0, none⟩ ∧ B ≤ g ∧ g < w.heap.size ∧ w.cell? ⟨g, j, none⟩ = some (.int .i64 (L.getD j 0)) ∧ w.frozen? ⟨g, j, none⟩ = false ∧
      ∀ u, Own (w.setCell ⟨g, j, none⟩ (.int .i64 u)) B (.slice sa N cap) (L.set j u) ∧ w.grownBy (w.setCell ⟨g, j, none⟩ (.int .i64 u)) (some g) := by
  rcases h.cases with ⟨hv, hx⟩ | ⟨g, c, hv, h1, h2, h3, h4, h5⟩
  · subst hx; simp at hl; omega
  · injection hv with e1 e2 e3
    subst e1 e3
    refine ⟨g, rfl, h1, h2, h4 j (by omega), h5 j, fun u => ?_⟩
    have h0 : w.ownsRow B 2 1 (.slice (some ⟨g, 0, none⟩) N cap) L.length (L.map (Value.int .i64)) := h
    rw [hl] at h0
    have hst := World.ownsRow.stored h0 j (.int .i64 u)
    rw [← List.map_set] at hst
    refine ⟨?_, hst.2⟩
    show World.ownsRow _ _ _ _ _ (L.set j u).length _
    rw [List.length_set, hl]
    exact hst.1
/-- What is written elsewhere leaves the block. -/
theorem set_other {w : World} {b : Nat} {a : Addr} (u : Value) (h : b ≠ a.block) : (w.setCell a u).heap[b]? = w.heap[b]? := heap_setCell_other w a b u h
theorem wpList_appB {ops : Array Oper} {rest : List Oper} {o : Oper} {a : Act} {Q : Exit → Act → World → Prop} (wr : World) (hgd : o.guard = none) (s x : Operand)
    (ho : o.op = .call { callee := .builtin .append, args := #[s, x], argTypes := #[22, 22] })
    (B : Nat) (v : Value) (xs : List Int) (u : Int) (hs : a.eval s = v) (hx : a.eval x = .slice (some ⟨wr.heap.size, 0, none⟩) 1 1) (hown : Own wr B v xs)
    (hlen : xs.length + 1 ≤ 1000000000) (hB : B ≤ wr.heap.size)
    (h : ∀ v' w', Own w' B v' (xs ++ [u]) → Below B wr w' → (∀ k, k < wr.heap.size → v.ownBlock ≠ some k → w'.heap[k]? = wr.heap[k]?) → (∀ k, v'.ownBlock = some k → v.ownBlock = some k ∨ wr.heap.size ≤ k) → wpList Try.prog ops Q rest (a.put o.dst v') w') :
    wpList Try.prog ops Q (o :: rest) a (wr.alloc (.cells #[.int .i64 u] 2)) := by
  obtain ⟨i0, hi, hz0, hz1, hz2⟩ := info_parts infoI
  refine wpList_append_own_at _ hgd s x 22 ho B 2 i0 (.int .i64 0) 1 8 Try.underlying22 hi hz0 hz1 hz2 rfl (by decide) v xs.length (xs.map (Value.int .i64)) hs (World.ownsRow.alloc hown _)
    ⟨wr.heap.size, 0, none⟩ 1 1 [.int .i64 u] hx rfl (cell_one_new _ _ _) ?_ ?_ ?_ ?_ ?_
  · intro u' hu; simp at hu; subst hu; rfl
  · unfold maxLen; omega
  · omega
  · simp; omega
  · intro v' w' hown' hgrow _ hblk
    have hsz : (wr.alloc (.cells #[.int .i64 u] 2)).heap.size = wr.heap.size + 1 := Array.size_push _
    refine h v' w' ?_ ?_ ?_ ?_
    · show World.ownsRow _ _ _ _ _ (xs ++ [u]).length _
      rw [List.length_append, List.map_append]
      exact hown'
    · exact ((Below.refl B wr).alloc hB _).grown hgrow (by omega) (fun k hk => (Own.block hown k hk).1)
    · intro k hk hne
      rw [hgrow.block k (by omega) (fun e => hne e.symm)]
      exact Below.heap_alloc wr _ k hk
    · intro k hk
      rcases hblk with hb | hb
      · exact .inl (hb ▸ hk)
      · right; rw [hb, hsz] at hk; injection hk with hk; omega
theorem below_of {B : Nat} {w w' : World} {row : Option Nat} (hg : w.grownBy w' row) (hr : ∀ k, row = some k → B ≤ k) (hB : B ≤ w.heap.size) : Below B w w' := (Below.refl B w).grown hg hB hr
theorem World.grownBy.rfl' (w : World) (row : Option Nat) : w.grownBy w row := ⟨rfl, rfl, rfl, Nat.le_refl _, fun _ _ _ => rfl⟩
end Go.Proofs.Ytaeaffddmohjgaa
namespace Go.Proofs.Ytaeaffddmohjgaa.Tr
theorem carry_nil (f : Int → Int → Bool) (a c : Int) (k : Nat) : carry f a c k [] = ([c], -1) := rfl
theorem carry_hit (f : Int → Int → Bool) (a c : Int) (k : Nat) (r : List Int) : carry f a c k (a :: r) = (c :: r, (k : Int)) := by unfold carry; rw [if_pos rfl]
theorem carry_swap (f : Int → Int → Bool) (a c t : Int) (k : Nat) (r : List Int) (h : t ≠ a) (h2 : k = 0 ∨ f c t = true) : carry f a c k (t :: r) = (c :: (carry f a t (k + 1) r).1, (carry f a t (k + 1) r).2) := by
  show (if t = a then _ else _) = _
  rw [if_neg h, if_pos h2]
theorem carry_keep (f : Int → Int → Bool) (a c t : Int) (k : Nat) (r : List Int) (h : t ≠ a) (h1 : k ≠ 0) (h2 : f c t = false) : carry f a c k (t :: r) = (t :: (carry f a c (k + 1) r).1, (carry f a c (k + 1) r).2) := by
  show (if t = a then _ else _) = _
  rw [if_neg h, if_neg (by rw [h2]; simp [h1])]
/-- The rest from j on, taken apart. -/
theorem drop_at (st : List Int) (j : Nat) (h : j < st.length) : st.drop j = st.getD j 0 :: st.drop (j + 1) := by
  rw [List.drop_eq_getElem_cons h, getD_get' st j h]
theorem pre_get (pre r : List Int) (t : Int) (j : Nat) (h : pre.length = j) : (pre ++ t :: r).getD j 0 = t := by
  subst h; simp [List.getD_eq_getElem?_getD]
theorem pre_set (pre r : List Int) (t c : Int) (j : Nat) (h : pre.length = j) : (pre ++ t :: r).set j c = pre ++ c :: r := by
  subst h; simp
end Go.Proofs.Ytaeaffddmohjgaa.Tr
namespace Go.Proofs.Ytaeaffddmohjgaa
/-- What a test leaves that reads alone, in an order that is drawn. -/
def Dw (b : Bool) (w : World) (e : Ending) (w' : World) : Prop := e = .returned (.bool b) ∧ ∃ k, w' = w.drewN k
end Go.Proofs.Ytaeaffddmohjgaa
