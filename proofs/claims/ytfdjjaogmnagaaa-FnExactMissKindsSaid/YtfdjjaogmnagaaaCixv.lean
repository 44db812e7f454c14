/- Index values: blocks of known cells, an index that is read and one of the call's own; its size, its copy, comparison, marks. -/
import Derived.Test.YtfdjjaogmnagaaaCrd
import Derived.Test.YtfdjjaogmnagaaaCto
import Derived.Test.YtfdjjaogmnagaaaCmark1
import Derived.Test.YtfdjjaogmnagaaaCmarkE
import Derived.Test.YtfdjjaogmnagaaaCbt
namespace Go.Proofs.Ytfdjjaogmnagaaa.Ix
open Go.RowKit
/-- A block of known cells. -/
def Kb (w : World) (b : Nat) (cs : List Value) (t : TypeId) : Prop := w.heap[b]? = some (.cells cs.toArray t (0, 0))
theorem Kb.cell {w : World} {b : Nat} {cs : List Value} {t : TypeId} (h : Kb w b cs t) (j : Nat) : w.cell? ⟨b, j, none⟩ = cs[j]? := by
  rw [cell_of_row w b j _ _ (0, 0) h]; simp
theorem Kb.froz {w : World} {b : Nat} {cs : List Value} {t : TypeId} (h : Kb w b cs t) (j : Nat) : w.frozen? ⟨b, j, none⟩ = false := frozen_of_row w b j _ _ h
theorem Kb.lt {w : World} {b : Nat} {cs : List Value} {t : TypeId} (h : Kb w b cs t) : b < w.heap.size := (Array.getElem?_eq_some_iff.1 h).1
theorem Kb.below {w w' : World} {b B : Nat} {cs : List Value} {t : TypeId} (h : Kb w b cs t) (hb : Below B w w') (hB : b < B) : Kb w' b cs t := (hb.block b hB).trans h
theorem Kb.set {w : World} {b : Nat} {cs : List Value} {t : TypeId} (h : Kb w b cs t) (j : Nat) (u : Value) : Kb (w.setCell ⟨b, j, none⟩ u) b (cs.set j u) t := by
  unfold Kb
  rw [Go.heap_setCell_same w b j _ _ u h]; simp
theorem Kb.off {w : World} {b c : Nat} {cs : List Value} {t : TypeId} (h : Kb w b cs t) (j : Nat) (u : Value) (hne : b ≠ c) : Kb (w.setCell ⟨c, j, none⟩ u) b cs t := (Go.heap_setCell_other w ⟨c, j, none⟩ b u hne).trans h
theorem Kb.new (w : World) (b : Nat) (cs : List Value) (t : TypeId) (hb : b = w.heap.size) : Kb (w.alloc (.cells cs.toArray t)) b cs t := by subst hb; exact heap_alloc_new w _
theorem Kb.alloc {w : World} {b : Nat} {cs : List Value} {t : TypeId} (h : Kb w b cs t) (o : Obj) : Kb (w.alloc o) b cs t := (Below.heap_alloc w o b h.lt).trans h
theorem own_setx {w : World} {B b j : Nat} {v u : Value} {xs : List Int} (h : Own w B v xs) (hne : ∀ k, v.ownBlock = some k → k ≠ b) : Own (w.setCell ⟨b, j, none⟩ u) B v xs :=
  h.kept (row := some b) ⟨rfl, rfl, rfl, by simp [World.setCell], fun k _ hk => Go.heap_setCell_other w ⟨b, j, none⟩ k u (fun e => hk (by simp [e]))⟩ (fun k hk e => hne k hk (by injection e))
theorem own_allocx {w : World} {B : Nat} {v : Value} {xs : List Int} (h : Own w B v xs) (o : Obj) : Own (w.alloc o) B v xs := h.below ((Below.refl w.heap.size w).alloc (Nat.le_refl _) o) (Nat.le_refl _)
theorem _root_.Go.Proofs.Ytfdjjaogmnagaaa.Own.formx {w : World} {B : Nat} {v : Value} {xs : List Int} (h : Own w B v xs) : ∃ a c, v = .slice a xs.length c := by
  rcases h.cases with ⟨rfl, rfl⟩ | ⟨g, c, rfl, _⟩
  · exact ⟨_, _, rfl⟩
  · exact ⟨_, _, rfl⟩
/-- An index that is read. -/
def RdX (w : World) (v : Value) (xs : List Int) : Prop := ∃ a c, v = .agg #[.slice a xs.length c] ∧ Row w a xs ∧ xs.length ≤ 1048576 ∧ xs.length ≤ c
theorem RdX.below {w w' : World} {v : Value} {xs : List Int} (h : RdX w v xs) (hb : Below w.heap.size w w') : RdX w' v xs := by
  obtain ⟨a, c, e, h1, h3⟩ := h
  exact ⟨a, c, e, h1.below hb, h3⟩
/-- An index of the call's own. -/
def OwnX (w : World) (B : Nat) (v : Value) (xs : List Int) : Prop := ∃ u, v = .agg #[u] ∧ Own w B u xs
theorem OwnX.below {w w' : World} {B C : Nat} {v : Value} {xs : List Int} (h : OwnX w B v xs) (hb : Below C w w') (hC : w.heap.size ≤ C) : OwnX w' B v xs := by
  obtain ⟨u, e, h1⟩ := h
  exact ⟨u, e, h1.below hb hC⟩
theorem OwnX.rd {w : World} {B : Nat} {v : Value} {xs : List Int} (h : OwnX w B v xs) (h1 : xs.length ≤ 1048576) : RdX w v xs := by
  obtain ⟨u, rfl, o1⟩ := h
  obtain ⟨a, c, e1, l1, _, r1⟩ := o1.rd
  exact ⟨a, c, by rw [e1], r1, h1, l1⟩
theorem OwnX.blockX {w : World} {B : Nat} {v : Value} {xs : List Int} (h : OwnX w B v xs) : ∀ u, v = .agg #[u] → ∀ k, u.ownBlock = some k → B ≤ k ∧ k < w.heap.size := fun u e k hk => by
  obtain ⟨t, rfl, o⟩ := h
  injection e with e
  injection e with e
  injection e with e _
  subst e
  exact o.block k hk
theorem _root_.Go.Proofs.Ytfdjjaogmnagaaa.Own.keepB {w w' : World} {B : Nat} {v : Value} {xs : List Int} (h : Own w B v xs) (hk : ∀ b, B ≤ b → b < w.heap.size → w'.heap[b]? = w.heap[b]?) : Own w' B v xs := by
  refine ⟨h.1, ?_⟩
  rcases h.2 with hn | ⟨g, cap, cur, hv, hg, hh, r⟩
  · exact .inl hn
  · exact .inr ⟨g, cap, cur, hv, hg, (hk g hg (Array.getElem?_eq_some_iff.1 hh).1).trans hh, r⟩
theorem _root_.Go.Proofs.Ytfdjjaogmnagaaa.Own.keepX {w w' : World} {B : Nat} {v : Value} {xs : List Int} (h : Own w B v xs) (hk : ∀ b, v.ownBlock = some b → b < w.heap.size → w'.heap[b]? = w.heap[b]?) : Own w' B v xs := by
  refine ⟨h.1, ?_⟩
  rcases h.2 with hn | ⟨g, cap, cur, hv, hg, hh, r⟩
  · exact .inl hn
  · exact .inr ⟨g, cap, cur, hv, hg, (hk g (by rw [hv]; rfl) (Array.getElem?_eq_some_iff.1 hh).1).trans hh, r⟩
theorem OwnX.keepB {w w' : World} {B : Nat} {v : Value} {xs : List Int} (h : OwnX w B v xs) (hk : ∀ b, B ≤ b → b < w.heap.size → w'.heap[b]? = w.heap[b]?) : OwnX w' B v xs := by
  obtain ⟨u, e, o⟩ := h
  exact ⟨u, e, o.keepB hk⟩
/-- What a function leaves that returns a number and whether it succeeded. -/
def IbX (q : Int) (ok : Bool) (w : World) (e : Ending) (w' : World) : Prop := e = .returned (.tuple #[.int .i64 q, .bool ok]) ∧ Below w.heap.size w w'
/-- What a function leaves that returns an index and whether it succeeded. -/
def ResX (ys : List Int) (ok : Bool) (w : World) (e : Ending) (w' : World) : Prop := ∃ v, e = .returned (.tuple #[v, .bool ok]) ∧ OwnX w' w.heap.size v ys ∧ Below w.heap.size w w'
set_option maxHeartbeats 2000000 in
theorem toindex_any (a : Option Addr) (n cap : Nat) (zs : List Int) (w : World) (h1 : IsRow .i64 w a n cap zs) (hn : n ≤ 1048576) :
    Calls Try.prog 6 #[.agg #[.slice a n cap]] w (fun e w' => ∃ v, e = .returned v ∧ OwnX w' w.heap.size v (zs.take n) ∧ Below w.heap.size w w') := by
  have HT1 := Lib.hid (fun (w1 : World) (hb : Below w.heap.size w w1) => Go.Proofs.Ytfdjjaogmnagaaa.to_any a n cap zs w1 (isRow_below h1 hb) hn)
  have hz1 : (w.alloc (.cells #[.slice a n cap] 24)).heap.size = w.heap.size + 1 := Array.size_push _
  have hz2 : ((w.alloc (.cells #[.slice a n cap] 24)).alloc (.cells #[.slice none 0 0] 28)).heap.size = w.heap.size + 1 + 1 := (Array.size_push _).trans (by rw [hz1])
  have hz3 : (((w.alloc (.cells #[.slice a n cap] 24)).alloc (.cells #[.slice none 0 0] 28)).alloc (.cells #[.slice none 0 0] 28)).heap.size = w.heap.size + 1 + 1 + 1 := (Array.size_push _).trans (by rw [hz2])
  have b0 : Below w.heap.size w (((w.alloc (.cells #[.slice a n cap] 24)).alloc (.cells #[.slice none 0 0] 28)).alloc (.cells #[.slice none 0 0] 28)) := ((((Below.refl _ w).alloc (Nat.le_refl _) _).alloc (by omega) _).alloc (by omega) _)
  have x1 := (Kb.new (w.alloc (.cells #[.slice a n cap] 24)) (w.heap.size + 1) [.slice none 0 0] 28 hz1.symm).alloc (.cells #[.slice none 0 0] 28)
  have x2 := Kb.new ((w.alloc (.cells #[.slice a n cap] 24)).alloc (.cells #[.slice none 0 0] 28)) (w.heap.size + 1 + 1) [.slice none 0 0] 28 hz2.symm
  have HX := Lib.hid (And.intro x1 x2)
  have HB0 := Lib.hid (And.intro b0 hz3)
  clear x1 x2 b0 hz1 hz2 hz3
  generalize hW : (((w.alloc (.cells #[.slice a n cap] 24)).alloc (.cells #[.slice none 0 0] 28)).alloc (.cells #[.slice none 0 0] 28)) = W at *
  have HW := Lib.hid hW
  clear hW
  go_enter Try.func6, Try.ntmps6
  go_wp2_with fail
  rw [HW.out]
  obtain ⟨x1, x2⟩ := HX.out
  obtain ⟨b0, hz⟩ := HB0.out
  refine (HT1.out W b0).mono ?_; rintro e w1 ⟨v1, rfl, o1, b1⟩
  obtain ⟨a1, c1, rfl⟩ := o1.formx
  have y1 := x1.below b1 x1.lt
  have y2 := x2.below b1 x2.lt
  have s1 := b1.size
  have B1 := b0.trans (b1.mono (by omega))
  have r2 : w1.cell? ⟨w.heap.size + 1 + 1, 0, none⟩ = some (.slice none 0 0) := y2.cell 0
  have rf := y2.froz 0
  have t0 : w1.cell? ⟨w.heap.size + 1, 0, none⟩ = some (.slice none 0 0) := y1.cell 0
  have f0 := y1.froz 0
  have hA1 : ∀ k, (Value.slice a1 (zs.take n).length c1).ownBlock = some k → k ≠ w.heap.size + 1 := fun k hk => by have := (o1.block k hk).1; omega
  have hA2 : ∀ k, (Value.slice a1 (zs.take n).length c1).ownBlock = some k → k ≠ w.heap.size + 1 + 1 := fun k hk => by have := (o1.block k hk).1; omega
  have HO := Lib.hid (And.intro (o1.mono (B' := w.heap.size) (by omega)) B1)
  have HA := Lib.hid (And.intro hA1 hA2)
  clear x1 x2 b0 y1 y2 o1 b1 B1 HX HB0 hA1 hA2 hz s1
  generalize hL1 : (zs.take n).length = L1 at *
  clear hL1
  go_wp2
  obtain ⟨p1, p4⟩ := HO.out
  obtain ⟨hA1, hA2⟩ := HA.out
  refine bodyPost_ret (v := .agg #[.slice a1 L1 c1]) (by simp [results, Try.results6, go_sem, r2, t0, f0, rf]) rfl ⟨_, rfl, ⟨_, rfl, ?_⟩, ?_⟩
  · repeat (first | with_reducible exact p1 | with_reducible refine own_setx ?_ hA1 | with_reducible refine own_setx ?_ hA2)
  · repeat (first | with_reducible exact p4 | with_reducible refine Below.setCell ?_ (Nat.le_succ_of_le (Nat.le_refl _)) _ | with_reducible refine Below.setCell ?_ (Nat.le_succ_of_le (Nat.le_succ_of_le (Nat.le_refl _))) _)
theorem szi_x (a : Option Addr) (len cap : Nat) (w : World) (h : len ≤ 1048576) :
    Calls Try.prog 14 #[.slice a len cap, .int .i64 1048576] w fun e w' => e = .returned (.int .i64 (1048576 - (len : Int))) ∧ w = w' := by
  have h1 : ¬ (1048576 - (len : Int)) < 0 := by omega
  go_enter Try.func14, Try.ntmps14
  go_wp2
  go_ret
  exact ⟨rfl, rfl⟩
theorem szi_nx (a : Option Addr) (len cap : Nat) (w : World) (h : ¬ len ≤ 1048576) (hm : len ≤ 9223372036854775807) :
    Calls Try.prog 14 #[.slice a len cap, .int .i64 1048576] w fun e w' => e = .returned (.int .i64 (-1)) ∧ w = w' := by
  have h1 : (1048576 - (len : Int)) < 0 := by omega
  go_enter Try.func14, Try.ntmps14
  go_wp2
  go_ret
  exact ⟨rfl, rfl⟩
theorem szX (a : Option Addr) (n cap : Nat) (w : World) (h : n ≤ 1048576) :
    Calls Try.prog 4 #[.agg #[.slice a n cap], .int .i64 1048576] w fun e w' => e = .returned (.int .i64 (1048576 - (n : Int))) ∧ Below w.heap.size w w' := by
  have H1 := Lib.hid (fun w9 => szi_x a n cap w9 h)
  have hz1 : ¬ ((1048576 : Int) - (n : Int)) < 0 := by omega
  go_enter Try.func4, Try.ntmps4
  go_wp2_with fail
  refine (H1.out _).mono ?_; rintro e w1 ⟨rfl, rfl⟩
  go_wp2
  go_ret
  exact ⟨rfl, (Below.refl _ _).alloc (Nat.le_refl _) _⟩
theorem szX_no (a : Option Addr) (n cap : Nat) (w : World) (hm : n ≤ 9223372036854775807) (h : ¬ n ≤ 1048576) :
    Calls Try.prog 4 #[.agg #[.slice a n cap], .int .i64 1048576] w fun e w' => e = .returned (.int .i64 (-1)) ∧ Below w.heap.size w w' := by
  have H1 := Lib.hid (fun w9 => szi_nx a n cap w9 h hm)
  go_enter Try.func4, Try.ntmps4
  go_wp2_with fail
  refine (H1.out _).mono ?_; rintro e w1 ⟨rfl, rfl⟩
  go_wp2
  go_ret
  exact ⟨rfl, (Below.refl _ _).alloc (Nat.le_refl _) _⟩
set_option maxHeartbeats 1000000 in
theorem eqX {w : World} {B B' : Nat} {v v' : Value} {xs : List Int} (h : OwnX w B v xs) (h' : OwnX w B' v' xs) :
    Calls Try.prog 10 #[v, v'] w (Bb true w) := by
  obtain ⟨u, rfl, o1⟩ := h
  obtain ⟨t, rfl, p1⟩ := h'
  obtain ⟨a, c, rfl⟩ := o1.formx
  obtain ⟨b, d, rfl⟩ := p1.formx
  have b0 : Below w.heap.size w ((w.alloc (.cells #[.slice a xs.length c] 28)).alloc (.cells #[.slice b xs.length d] 28)) := ((Below.refl _ w).alloc (Nat.le_refl _) _).alloc (by simp) _
  have H1 := Lib.hid (eq_below (o1.below b0 (Nat.le_refl _)) (p1.below b0 (Nat.le_refl _)))
  have B0 := Lib.hid b0
  clear o1 p1 b0
  generalize xs.length = L1 at *
  go_enter Try.func10, Try.ntmps10
  go_wp2_with fail
  refine H1.out.mono ?_; rintro e w1 ⟨rfl, b1⟩
  go_wp2
  go_ret
  exact ⟨rfl, bt B0.out b1⟩
/-- What a mark leaves: the number, the index with the marks, and that only its own block is written. -/
def MarkX (B : Nat) (v : Value) (N : Nat) (w : World) (e : Ending) (w' : World) : Prop :=
  e = .returned (.int .i64 (1 + (N : Int))) ∧ OwnX w' B v (marks 1 N) ∧ ∃ u W1, v = .agg #[u] ∧ Below w.heap.size w W1 ∧ w.heap.size ≤ W1.heap.size ∧ W1.grownBy w' u.ownBlock
theorem markX {w : World} {B : Nat} {v : Value} {xs : List Int} (h : OwnX w B v xs) (hn : xs.length ≤ 1048576) :
    Calls Try.prog 11 #[v, .int .i64 1] w (MarkX B v xs.length w) := by
  obtain ⟨u, rfl, o1⟩ := h
  obtain ⟨a, c, rfl⟩ := o1.formx
  have b0 : Below w.heap.size w (w.alloc (.cells #[.slice a xs.length c] 28)) := (Below.refl _ w).alloc (Nat.le_refl _) _
  have H1 := Lib.hid (mark1 (o1.below b0 (Nat.le_refl _)) (by omega))
  have B0 := Lib.hid b0
  clear o1 b0
  generalize xs.length = L1 at *
  go_enter Try.func11, Try.ntmps11
  go_wp2_with fail
  refine H1.out.mono ?_; rintro e w1 ⟨rfl, om, gm⟩
  go_wp2
  go_ret
  exact ⟨rfl, ⟨_, rfl, om⟩, _, _, rfl, B0.out, by simp, gm⟩
end Go.Proofs.Ytfdjjaogmnagaaa.Ix
