/- Index values: blocks of known cells, an index that is read and one of the call's own; its size, its copy, comparison, marks. -/
import Derived.Test.YtepobkflahjldaaCrd
import Derived.Test.YtepobkflahjldaaCto
import Derived.Test.YtepobkflahjldaaCmark1
import Derived.Test.YtepobkflahjldaaCmarkE
import Derived.Test.YtepobkflahjldaaCbt
namespace Go.Proofs.Ytepobkflahjldaa.Ix
open Go.RowKit
/-- A block of known cells. -/
def Kb (w : World) (b : Nat) (cs : List Value) (t : TypeId) : Prop := w.heap[b]? = some (.cells cs.toArray t (0, 0))
theorem Kb.cell {w : World} {b : Nat} {cs : List Value} {t : TypeId} (h : Kb w b cs t) (j : Nat) : w.cell? ⟨b, j, none⟩ = cs[j]? := by
  rw [cell_of_row w b j _ _ (0, 0) h]; simp
theorem Kb.froz {w : World} {b : Nat} {cs : List Value} {t : TypeId} (h : Kb w b cs t) (j : Nat) : w.frozen? ⟨b, j, none⟩ = false := frozen_of_row w b j _ _ h
theorem Kb.lt {w : World} {b : Nat} {cs : List Value} {t : TypeId} (h : Kb w b cs t) : b < w.heap.size := (Array.getElem?_eq_some_iff.1 h).1
theorem Kb.below {w w' : World} {b B : Nat} {cs : List Value} {t : TypeId} (h : Kb w b cs t) (hb : Below B w w') (hB : b < B) : Kb w' b cs t := (hb.block b hB).trans h
theorem Kb.set {w : World} {b : Nat} {cs : List Value} {t : TypeId} (h : Kb w b cs t) (j : Nat) (u : Value) : Kb (w.setCell ⟨b, j, none⟩ u) b (cs.set j u) t := by
  unfold Kb
  rw [Go.heap_setCell_same w b j _ _ u h]; simp
theorem Kb.off {w : World} {b c : Nat} {cs : List Value} {t : TypeId} (h : Kb w b cs t) (j : Nat) (u : Value) (hne : b ≠ c) : Kb (w.setCell ⟨c, j, none⟩ u) b cs t := (Go.heap_setCell_other w ⟨c, j, none⟩ b u hne).trans h
theorem Kb.new (w : World) (b : Nat) (cs : List Value) (t : TypeId) (hb : b = w.heap.size) : Kb (w.alloc (.cells cs.toArray t)) b cs t := by subst hb; exact heap_alloc_new w _
theorem Kb.alloc {w : World} {b : Nat} {cs : List Value} {t : TypeId} (h : Kb w b cs t) (o : Obj) : Kb (w.alloc o) b cs t := (Below.heap_alloc w o b h.lt).trans h
theorem own_setx {w : World} {B b j : Nat} {v u : Value} {xs : List Int} (h : Own w B v xs) (hne : ∀ k, v.ownBlock = some k → k ≠ b) : Own (w.setCell ⟨b, j, none⟩ u) B v xs :=
  h.kept (row := some b) ⟨rfl, rfl, rfl, by simp [World.setCell], fun k _ hk => Go.heap_setCell_other w ⟨b, j, none⟩ k u (fun e => hk (by simp [e]))⟩ (fun k hk e => hne k hk (by injection e))
theorem own_allocx {w : World} {B : Nat} {v : Value} {xs : List Int} (h : Own w B v xs) (o : Obj) : Own (w.alloc o) B v xs := h.below ((Below.refl w.heap.size w).alloc (Nat.le_refl _) o) (Nat.le_refl _)
theorem _root_.Go.Proofs.Ytepobkflahjldaa.Own.formx {w : World} {B : Nat} {v : Value} {xs : List Int} (h : Own w B v xs) : ∃ a c, v = .slice a xs.length c := by
  rcases h.cases with ⟨rfl, rfl⟩ | ⟨g, c, rfl, _⟩
  · exact ⟨_, _, rfl⟩
  · exact ⟨_, _, rfl⟩
/-- An index that is read. -/
def RdX (w : World) (v : Value) (xs : List Int) : Prop := ∃ a c, v = .agg #[.slice a xs.length c] ∧ Row w a xs ∧ xs.length ≤ 1048576 ∧ xs.length ≤ c
theorem RdX.below {w w' : World} {v : Value} {xs : List Int} (h : RdX w v xs) (hb : Below w.heap.size w w') : RdX w' v xs := by
  obtain ⟨a, c, e, h1, h3⟩ := h
  exact ⟨a, c, e, h1.below hb, h3⟩
/-- An index of the call's own. -/
def OwnX (w : World) (B : Nat) (v : Value) (xs : List Int) : Prop := ∃ u, v = .agg #[u] ∧ Own w B u xs
theorem OwnX.below {w w' : World} {B C : Nat} {v : Value} {xs : List Int} (h : OwnX w B v xs) (hb : Below C w w') (hC : w.heap.size ≤ C) : OwnX w' B v xs := by
  obtain ⟨u, e, h1⟩ := h
  exact ⟨u, e, h1.below hb hC⟩
theorem OwnX.rd {w : World} {B : Nat} {v : Value} {xs : List Int} (h : OwnX w B v xs) (h1 : xs.length ≤ 1048576) : RdX w v xs := by
  obtain ⟨u, rfl, o1⟩ := h
  obtain ⟨a, c, e1, l1, _, r1⟩ := o1.rd
  exact ⟨a, c, by rw [e1], r1, h1, l1⟩
theorem OwnX.blockX {w : World} {B : Nat} {v : Value} {xs : List Int} (h : OwnX w B v xs) : ∀ u, v = .agg #[u] → ∀ k, u.ownBlock = some k → B ≤ k ∧ k < w.heap.size := fun u e k hk => by
  obtain ⟨t, rfl, o⟩ := h
  injection e with e
  injection e with e
  injection e with e _
  subst e
  exact o.block k hk
theorem _root_.Go.Proofs.Ytepobkflahjldaa.Own.keepB {w w' : World} {B : Nat} {v : Value} {xs : List Int} (h : Own w B v xs) (hk : ∀ b, B ≤ b → b < w.heap.size → w'.heap[b]? = w.heap[b]?) : Own w' B v xs := by
  refine ⟨h.1, ?_⟩
  rcases h.2 with hn | ⟨g, cap, cur, hv, hg, hh, r⟩
  · exact .inl hn
  · exact .inr ⟨g, cap, cur, hv, hg, (hk g hg (Array.getElem?_eq_some_iff.1 hh).1).trans hh, r⟩
theorem _root_.Go.Proofs.Ytepobkflahjldaa.Own.keepX {w w' : World} {B : Nat} {v : Value} {xs : List Int} (h : Own w B v xs) (hk : ∀ b, v.ownBlock = some b → b < w.heap.size → w'.heap[b]? = w.heap[b]?) : Own w' B v xs := by
  refine ⟨h.1, ?_⟩
  rcases h.2 with hn | ⟨g, cap, cur, hv, hg, hh, r⟩
  · exact .inl hn
  · exact .inr ⟨g, cap, cur, hv, hg, (hk g (by rw [hv]; rfl) (Array.getElem?_eq_some_iff.1 hh).1).trans hh, r⟩
theorem OwnX.keepB {w w' : World} {B : Nat} {v : Value} {xs : List Int} (h : OwnX w B v xs) (hk : ∀ b, B ≤ b → b < w.heap.size → w'.heap[b]? = w.heap[b]?) : OwnX w' B v xs := by
  obtain ⟨u, e, o⟩ := h
  exact ⟨u, e, o.keepB hk⟩
/-- What a function leaves that returns a number and whether it succeeded. -/
def IbX (q : Int) (ok : Bool) (w : World) (e : Ending) (w' : World) : Prop := e = .returned (.tuple #[.int .i64 q, .bool ok]) ∧ Below w.heap.size w w'
/-- What a function leaves that returns an index and whether it succeeded. -/
def ResX (ys : List Int) (ok : Bool) (w : World) (e : Ending) (w' : World) : Prop := ∃ v, e = .returned (.tuple #[v, .bool ok]) ∧ OwnX w' w.heap.size v ys ∧ Below w.heap.size w w'
theorem szi_x (a : Option Addr) (len cap : Nat) (w : World) (h : len ≤ 1048576) :
    Calls Try.prog 35 #[.slice a len cap, .int .i64 1048576] w fun e w' => e = .returned (.int .i64 (1048576 - (len : Int))) ∧ w = w' := by
  have h1 : ¬ (1048576 - (len : Int)) < 0 := by omega
  go_enter Try.func35, Try.ntmps35
  go_wp2
  go_ret
  exact ⟨rfl, rfl⟩
theorem szi_nx (a : Option Addr) (len cap : Nat) (w : World) (h : ¬ len ≤ 1048576) (hm : len ≤ 9223372036854775807) :
    Calls Try.prog 35 #[.slice a len cap, .int .i64 1048576] w fun e w' => e = .returned (.int .i64 (-1)) ∧ w = w' := by
  have h1 : (1048576 - (len : Int)) < 0 := by omega
  go_enter Try.func35, Try.ntmps35
  go_wp2
  go_ret
  exact ⟨rfl, rfl⟩
/-- What a mark leaves: the number, the index with the marks, and that only its own block is written. -/
def MarkX (B : Nat) (v : Value) (N : Nat) (w : World) (e : Ending) (w' : World) : Prop :=
  e = .returned (.int .i64 (1 + (N : Int))) ∧ OwnX w' B v (marks 1 N) ∧ ∃ u W1, v = .agg #[u] ∧ Below w.heap.size w W1 ∧ w.heap.size ≤ W1.heap.size ∧ W1.grownBy w' u.ownBlock
end Go.Proofs.Ytepobkflahjldaa.Ix
