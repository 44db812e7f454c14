/- Blocks as lists of cells: many cells stored and loaded at once, the world behind it a new one. No program. -/
import Derived.Test.YtakjkbjooongkaaCage
import Derived.Deep.MidRow
import Derived.Laws.CopyOwn
import Derived.Deep.Upon
namespace Go.Proofs.Ytakjkbjooongkaa
open Go.RowKit
/-- The block b holds these cells, and may be written. -/
def Blk (w : World) (b : Nat) (cs : List Value) (t : TypeId) : Prop := w.heap[b]? = some (.cells cs.toArray t (0, 0))
theorem Blk.cell {w : World} {b : Nat} {cs : List Value} {t : TypeId} (h : Blk w b cs t) (j : Nat) : w.cell? ⟨b, j, none⟩ = cs[j]? := by
  rw [cell_of_row w b j _ _ (0, 0) h]; simp
theorem Blk.froz {w : World} {b : Nat} {cs : List Value} {t : TypeId} (h : Blk w b cs t) (j : Nat) : w.frozen? ⟨b, j, none⟩ = false := frozen_of_row w b j _ _ h
theorem Blk.lt {w : World} {b : Nat} {cs : List Value} {t : TypeId} (h : Blk w b cs t) : b < w.heap.size := (Array.getElem?_eq_some_iff.1 h).1
theorem Blk.there {w : World} {b : Nat} {cs : List Value} {t : TypeId} (h : Blk w b cs t) (o n : Nat) (hn : o + n ≤ cs.length) : w.there b o n := fun j hj => by
  refine ⟨?_, h.froz _⟩
  rw [h.cell, List.getElem?_eq_getElem (by omega)]; rfl
theorem Blk.range {w : World} {b : Nat} {cs : List Value} {t : TypeId} (h : Blk w b cs t) (o n : Nat) : w.rangeAt b o ((cs.drop o).take n) := fun j v hv => by
  rw [h.cell]
  rw [List.getElem?_take] at hv
  split at hv
  · rwa [List.getElem?_drop] at hv
  · cases hv
theorem Blk.new (w : World) (cs : List Value) (t : TypeId) : Blk (w.alloc (.cells cs.toArray t)) w.heap.size cs t := heap_alloc_new w _
theorem Blk.newAt (w : World) (b : Nat) (cs : List Value) (t : TypeId) (hb : b = w.heap.size) : Blk (w.alloc (.cells cs.toArray t)) b cs t := by subst hb; exact Blk.new w cs t
theorem Blk.alloc {w : World} {b : Nat} {cs : List Value} {t : TypeId} (h : Blk w b cs t) (o : Obj) : Blk (w.alloc o) b cs t := (Below.heap_alloc w o b h.lt).trans h
theorem Blk.below {w w' : World} {b B : Nat} {cs : List Value} {t : TypeId} (h : Blk w b cs t) (hb : Below B w w') (hB : b < B) : Blk w' b cs t := (hb.block b hB).trans h
/-- One block has been written, and nothing else. -/
structure Keep (b : Nat) (w w' : World) : Prop where
  os : w'.os = w.os
  tape : w'.tape = w.tape
  output : w'.output = w.output
  size : w'.heap.size = w.heap.size
  block : ∀ i, i ≠ b → w'.heap[i]? = w.heap[i]?
theorem Keep.below {b B : Nat} {w w' : World} (h : Keep b w w') (hB : B ≤ b) : Below B w w' := ⟨h.os, h.tape, h.output, Nat.le_of_eq h.size.symm, fun i hi => h.block i (by omega)⟩
theorem Keep.blk {b c : Nat} {w w' : World} {cs : List Value} {t : TypeId} (h : Keep b w w') (hc : Blk w c cs t) (hne : c ≠ b) : Blk w' c cs t := (h.block c hne).trans hc
theorem keep_set (b : Nat) : ∀ (vs : List Value) (o : Nat) (w : World), Keep b w (w.setCells b o vs)
  | [], _, w => ⟨rfl, rfl, rfl, rfl, fun _ _ => rfl⟩
  | v :: r, o, w => by
    have h := keep_set b r (o + 1) (w.setCell ⟨b, o, none⟩ v)
    exact ⟨h.os, h.tape, h.output, by rw [World.setCells, h.size]; simp, fun i hi => by rw [World.setCells, h.block i hi]; exact Go.heap_setCell_other w ⟨b, o, none⟩ i v (fun e => hi (by simp [e]))⟩
theorem splice_cons (cs : List Value) (o : Nat) (v : Value) (r : List Value) (h : o < cs.length) : Go.splice (cs.set o v) (o + 1) r = Go.splice cs o (v :: r) := by
  unfold Go.splice
  rw [List.take_succ_eq_append_getElem (by simpa using h), List.take_set_of_le (Nat.le_refl o)]
  simp only [List.getElem_set_self, List.length_cons, List.append_assoc, List.cons_append, List.nil_append]
  congr 2
  rw [List.drop_set_of_lt (by omega)]
  rw [show o + 1 + r.length = o + (r.length + 1) by omega]
theorem blk_set (b : Nat) (t : TypeId) : ∀ (vs : List Value) (o : Nat) (cs : List Value) (w : World), Blk w b cs t → o + vs.length ≤ cs.length → Blk (w.setCells b o vs) b (Go.splice cs o vs) t
  | [], o, cs, w, h, _ => by
    have e : Go.splice cs o [] = cs := by simp [Go.splice]
    rw [e]; exact h
  | v :: r, o, cs, w, h, hl => by
    rw [List.length_cons] at hl
    have h2 : Blk (w.setCell ⟨b, o, none⟩ v) b (cs.set o v) t := by
      have := Go.heap_setCell_same w b o cs.toArray t v h
      unfold Blk
      rw [this]; simp
    have h3 := blk_set b t r (o + 1) (cs.set o v) _ h2 (by simp; omega)
    rw [splice_cons cs o v r (by omega)] at h3
    exact h3
theorem wpList_storeB {P : Program} {ops : Array Oper} {rest : List Oper} {op : Oper} {a : Act} {w : World} {Q : Exit → Act → World → Prop} (hgd : op.guard = none) (ty : TypeId) (x y : Operand) (ho : op.op = .store ty x y)
    (b o : Nat) (cells : List Value) (hx : a.eval x = .pointer (some ⟨b, o, none⟩)) (hy : a.eval y = .agg cells.toArray) (cs : List Value) (t : TypeId) (hb : Blk w b cs t) (hfit : o + cells.length ≤ cs.length)
    (hi : (P.info? ty).map (·.size) = some cells.length) (h1 : ∀ v ∈ cells, v.oneCell' = true)
    (h : ∀ w', Hid (Blk w' b (Go.splice cs o cells) t) → Hid (Keep b w w') → wpList P ops Q rest (a.put op.dst undef) w') : wpList P ops Q (op :: rest) a w := by
  refine wpList_store_mid hgd ty x y ho b o cells.toArray hx hy (hb.there o _ (by simpa using hfit)) (by simpa using hi) (all_oneCell_toArray h1) ?_
  exact h _ (show Blk _ _ _ _ by simpa using blk_set b t cells o cs w hb hfit) (show Keep _ _ _ by simpa using keep_set b cells o w)
theorem wpList_loadB {P : Program} {ops : Array Oper} {rest : List Oper} {op : Oper} {a : Act} {w : World} {Q : Exit → Act → World → Prop} (hgd : op.guard = none) (ty : TypeId) (x : Operand) (ho : op.op = .load ty x)
    (b : Nat) (hx : a.eval x = .pointer (some ⟨b, 0, none⟩)) (cs : List Value) (t : TypeId) (hb : Blk w b cs t) (d : TypeDesc) (hu : P.underlying ty = some d) (hd : d.isRow = true) (hi : (P.info? ty).map (·.size) = some cs.length)
    (h : wpList P ops Q rest (a.put op.dst (.agg cs.toArray)) w) : wpList P ops Q (op :: rest) a w :=
  wpList_load_mid hgd ty x ho b 0 hx cs d (by have := hb.range 0 cs.length; simpa using this) hu hd hi h
theorem results2 {P : Program} {fn : Func} {tmps : Array Value} {w : World} {a k : Nat} {t : TypeId} (hr : fn.results = #[.cell a t, .tmp k]) {p : Addr} (hp : tmps.getD a undef = .pointer (some p)) {v : Value}
    (hl : (loadVar t p).run P w = .ok v w) {u : Value} (hu : tmps.getD k undef = u) : (results fn tmps).run P w = .ok (.tuple #[v, u]) w := by
  subst hu
  unfold results
  rw [hr]
  have hp' : tmps[a]?.getD undef = .pointer (some p) := by simpa using hp
  simp [asAddr, hp', hl]
theorem Blk.loadVar {P : Program} {w : World} {b : Nat} {cs : List Value} {t : TypeId} (hb : Blk w b cs t) (ty : TypeId) (d : TypeDesc) (hu : P.underlying ty = some d) (hd : d.isRow = true) (hi : (P.info? ty).map (·.size) = some cs.length) :
    (loadVar ty ⟨b, 0, none⟩).run P w = .ok (.agg cs.toArray) w :=
  run_loadVar_mid w b 0 ty cs d (by have := hb.range 0 cs.length; simpa using this) hu hd hi
end Go.Proofs.Ytakjkbjooongkaa
