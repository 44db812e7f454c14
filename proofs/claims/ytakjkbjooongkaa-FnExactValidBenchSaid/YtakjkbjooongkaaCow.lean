/- Lists of int64 in blocks of the call's own, of whatever type and size the block is: what it is to hold one, and the contracts of the helpers that compare, mark and look such a list through. -/
import Derived.Test.YtakjkbjooongkaaCrd
import Derived.Test.YtakjkbjooongkaaCbt
import Derived.Laws.OwnMore
namespace Go.Proofs.Ytakjkbjooongkaa
open Go.RowKit
/-- v is a slice of n cells in a block from B on that can be written. -/
def rowW (w : World) (B : Nat) (v : Value) (n : Nat) (xs : List Value) : Prop :=
  xs.length = n ∧ ((v = .slice none 0 0 ∧ n = 0) ∨
    ∃ g cap cur e, v = .slice (some ⟨g, 0, none⟩) n cap ∧ B ≤ g ∧ w.heap[g]? = some (.cells cur e (0, 0)) ∧ n ≤ cap ∧ cap ≤ maxLen ∧ n ≤ cur.size ∧ cur.toList.take n = xs)
theorem rowW.of {w : World} {B e : Nat} {v : Value} {n : Nat} {xs : List Value} (h : w.ownsRow B e 1 v n xs) : rowW w B v n xs := by
  refine ⟨by simpa using h.1, ?_⟩
  rcases h.2 with hn | ⟨g, cap, cur, hv, hB, hg, h1, h2, h3, h4⟩
  · exact .inl hn
  · exact .inr ⟨g, cap, cur, e, hv, hB, hg, h1, h2, by omega, by simpa using h4⟩
theorem rowW.cellAt {w : World} {B g n cap : Nat} {xs : List Value} (h : rowW w B (.slice (some ⟨g, 0, none⟩) n cap) n xs) (j : Nat) (hj : j < n) : w.cell? ⟨g, j, none⟩ = xs[j]? := by
  rcases h.2 with ⟨h', _⟩ | ⟨g', cap', cur, e, h', _, hg, _, _, _, htake⟩
  · simp at h'
  · simp only [Value.slice.injEq, Option.some.injEq, Addr.mk.injEq, and_true, true_and] at h'
    obtain ⟨rfl, rfl⟩ := h'
    rw [cell_of_row w g j cur e (0, 0) hg, ← htake, List.getElem?_take, if_pos hj]
    simp
theorem rowW.frozenAt {w : World} {B g n cap : Nat} {xs : List Value} (h : rowW w B (.slice (some ⟨g, 0, none⟩) n cap) n xs) (j : Nat) : w.frozen? ⟨g, j, none⟩ = false := by
  rcases h.2 with ⟨h', _⟩ | ⟨g', cap', cur, e, h', _, hg, _⟩
  · simp at h'
  · simp only [Value.slice.injEq, Option.some.injEq, Addr.mk.injEq, and_true, true_and] at h'
    obtain ⟨rfl, rfl⟩ := h'
    exact frozen_of_row w g j cur e hg
theorem rowW.stored {w : World} {B g n cap : Nat} {xs : List Value} (h : rowW w B (.slice (some ⟨g, 0, none⟩) n cap) n xs) (j : Nat) (u : Value) :
    rowW (w.setCell ⟨g, j, none⟩ u) B (.slice (some ⟨g, 0, none⟩) n cap) n (xs.set j u) ∧ w.grownBy (w.setCell ⟨g, j, none⟩ u) (some g) := by
  rcases h.2 with ⟨h', _⟩ | ⟨g', cap', cur, e, h', hb, hg, hnc, hcm, hcs, htake⟩
  · simp at h'
  · simp only [Value.slice.injEq, Option.some.injEq, Addr.mk.injEq, and_true, true_and] at h'
    obtain ⟨rfl, rfl⟩ := h'
    refine ⟨⟨by simpa using h.1, .inr ⟨g, cap, cur.setIfInBounds j u, e, rfl, hb, Go.heap_setCell_same w g j cur e u hg, hnc, hcm, by simpa using hcs, ?_⟩⟩,
      ⟨rfl, rfl, rfl, by simp, fun k _ hk => Go.heap_setCell_other w ⟨g, j, none⟩ k u (fun e => hk (by simp [e]))⟩⟩
    rw [Array.toList_setIfInBounds, ← htake, List.take_set]
theorem rowW.lt {w : World} {B : Nat} {v : Value} {n : Nat} {xs : List Value} (h : rowW w B v n xs) : ∀ k, v.ownBlock = some k → B ≤ k ∧ k < w.heap.size := by
  intro k hk
  rcases h.2 with ⟨rfl, _⟩ | ⟨g, cap, cur, e, rfl, hb, hg, _⟩
  · simp [Value.ownBlock] at hk
  · simp [Value.ownBlock] at hk
    subst hk
    exact ⟨hb, (Array.getElem?_eq_some_iff.1 hg).1⟩
theorem rowW.kept {w w' : World} {B : Nat} {v : Value} {n : Nat} {xs : List Value} {row : Option Nat} (h : rowW w B v n xs) (hg : w.grownBy w' row) (hne : v.ownBlock = none ∨ v.ownBlock ≠ row) : rowW w' B v n xs := by
  refine ⟨h.1, ?_⟩
  rcases h.2 with hn | ⟨g, cap, cur, e, rfl, hb, hgg, rest⟩
  · exact .inl hn
  · refine .inr ⟨g, cap, cur, e, rfl, hb, ?_, rest⟩
    rw [hg.block g (Array.getElem?_eq_some_iff.1 hgg).1 (by simpa [Value.ownBlock] using hne)]
    exact hgg
theorem rowW.alloc {w : World} {B : Nat} {v : Value} {n : Nat} {xs : List Value} (h : rowW w B v n xs) (o : Obj) : rowW (w.alloc o) B v n xs :=
  h.kept (World.grownBy_alloc w o none) (by cases hv : v.ownBlock <;> simp)
/-- What says that one block is as it was. -/
theorem rowW.same {w w' : World} {B : Nat} {v : Value} {n : Nat} {xs : List Value} (h : rowW w B v n xs) (hb : ∀ b, v.ownBlock = some b → b < w.heap.size → w'.heap[b]? = w.heap[b]?) : rowW w' B v n xs := by
  refine ⟨h.1, ?_⟩
  rcases h.2 with hn | ⟨g, cap, cur, e, rfl, hB, hg, r⟩
  · exact .inl hn
  · exact .inr ⟨g, cap, cur, e, rfl, hB, by rw [hb g rfl (Array.getElem?_eq_some_iff.1 hg).1]; exact hg, r⟩
/-- v is a list of int64 in a block from B on, with the numbers xs. -/
def OwnW (w : World) (B : Nat) (v : Value) (xs : List Int) : Prop := rowW w B v xs.length (xs.map (Value.int .i64))
theorem Own.weak {w : World} {B : Nat} {v : Value} {xs : List Int} (h : Own w B v xs) : OwnW w B v xs := rowW.of h
theorem OwnW.nil (w : World) (B : Nat) : OwnW w B (.slice none 0 0) [] := ⟨rfl, .inl ⟨rfl, rfl⟩⟩
theorem OwnW.cases {w : World} {B : Nat} {v : Value} {xs : List Int} (h : OwnW w B v xs) :
    (v = .slice none 0 0 ∧ xs = []) ∨ ∃ g cap, v = .slice (some ⟨g, 0, none⟩) xs.length cap ∧ B ≤ g ∧ g < w.heap.size ∧ xs.length ≤ 9223372036854775807 ∧
      (∀ i, i < xs.length → w.cell? ⟨g, i, none⟩ = some (.int .i64 (xs.getD i 0))) ∧ ∀ i, w.frozen? ⟨g, i, none⟩ = false := by
  have h0 : rowW w B v xs.length (xs.map (Value.int .i64)) := h
  rcases h0.2 with ⟨rfl, hn⟩ | ⟨g, cap, cur, e, rfl, hB, hg, hnc, hcm, hcs, htake⟩
  · exact .inl ⟨rfl, List.eq_nil_of_length_eq_zero hn⟩
  · refine .inr ⟨g, cap, rfl, hB, (Array.getElem?_eq_some_iff.1 hg).1, by unfold maxLen at hcm; omega, fun i hi => ?_, fun i => h0.frozenAt i⟩
    rw [h0.cellAt i (by omega), List.getElem?_map, List.getElem?_eq_getElem hi, List.getD_eq_getElem?_getD, List.getElem?_eq_getElem hi]
    rfl
theorem OwnW.below {w w' : World} {B : Nat} {v : Value} {xs : List Int} (h : OwnW w B v xs) {C : Nat} (hb : Below C w w') (hC : w.heap.size ≤ C) : OwnW w' B v xs := by
  refine ⟨h.1, ?_⟩
  rcases h.2 with hn | ⟨g, cap, cur, e, hv, hg, hh, r⟩
  · exact .inl hn
  · exact .inr ⟨g, cap, cur, e, hv, hg, by rw [hb.block g (Nat.lt_of_lt_of_le (Array.getElem?_eq_some_iff.1 hh).1 hC)]; exact hh, r⟩
theorem OwnW.drewN {w : World} {B : Nat} {v : Value} {xs : List Int} (h : OwnW w B v xs) (k : Nat) : OwnW (w.drewN k) B v xs := h
theorem OwnW.block {w : World} {B : Nat} {v : Value} {xs : List Int} (h : OwnW w B v xs) : ∀ k, v.ownBlock = some k → B ≤ k ∧ k < w.heap.size := rowW.lt h
theorem OwnW.kept {w w' : World} {B : Nat} {v : Value} {xs : List Int} {row : Option Nat} (h : OwnW w B v xs) (hg : w.grownBy w' row) (hne : ∀ k, v.ownBlock = some k → some k ≠ row) : OwnW w' B v xs := by
  refine rowW.kept h hg ?_
  cases hv : v.ownBlock with
  | none => exact .inl rfl
  | some k => exact .inr (hne k hv)
theorem OwnW.mono {w : World} {B B' : Nat} {v : Value} {xs : List Int} (h : OwnW w B v xs) (hB : B' ≤ B) : OwnW w B' v xs := by
  refine ⟨h.1, ?_⟩
  rcases h.2 with hn | ⟨g, cap, cur, e, hv, hg, r⟩
  · exact .inl hn
  · exact .inr ⟨g, cap, cur, e, hv, by omega, r⟩
theorem eq_ownW {w : World} {B1 B2 : Nat} {v1 v2 : Value} {xs : List Int} (h1 : OwnW w B1 v1 xs) (h2 : OwnW w B2 v2 xs) :
    Calls Try.prog 30 #[v1, v2] w (Drew w) := by
  rcases h1.cases with ⟨rfl, rfl⟩ | ⟨g1, c1, rfl, _, _, hm, hc1, _⟩
  · rcases h2.cases with ⟨rfl, _⟩ | ⟨g2, c2, rfl, _, _, _, hc2, _⟩
    · exact eq_zero _ _ _ _ _
    · exact eq_zero _ _ _ _ _
  · rcases h2.cases with ⟨rfl, rfl⟩ | ⟨g2, c2, rfl, _, _, _, hc2, _⟩
    · exact eq_zero _ _ _ _ _
    · exact eq_cells _ _ _ _ _ _ hm hc1 hc2
def MarkedW (B : Nat) (v : Value) (k N : Nat) (w : World) (e : Ending) (w' : World) : Prop := e = .returned (.int .i64 ((k : Int) + N)) ∧ OwnW w' B v (marks k N) ∧ w.grownBy w' v.ownBlock
def MarkRelW (B g c k N : Nat) (xs : List Int) (w : World) (j : Nat) (wr : World) : Prop := rowW wr B (.slice (some ⟨g, 0, none⟩) N c) N ((mixed k j xs).map (Value.int .i64)) ∧ w.grownBy wr (some g)
theorem MarkRelW.step {B g c k N : Nat} {xs : List Int} {w : World} {j : Nat} {wr : World} (h : MarkRelW B g c k N xs w j wr) (hx : xs.length = N) (hj : j < N) :
    (∃ old, wr.cell? ⟨g, j, none⟩ = some old) ∧ wr.frozen? ⟨g, j, none⟩ = false ∧ MarkRelW B g c k N xs w (j + 1) (wr.setCell ⟨g, j, none⟩ (.int .i64 ((k : Int) + j))) := by
  subst hx
  have hst := rowW.stored h.1 j (.int .i64 ((k : Int) + j))
  rw [mixed_step k j xs hj] at hst
  refine ⟨?_, h.1.frozenAt j, hst.1, grownBy_trans h.2 hst.2⟩
  rw [h.1.cellAt j (by omega), List.getElem?_eq_getElem (by simp [mixed_length k j xs (by omega)]; exact hj)]
  exact ⟨_, rfl⟩
theorem OwnW.same {w w' : World} {B : Nat} {v : Value} {xs : List Int} (h : OwnW w B v xs) (hb : ∀ b, v.ownBlock = some b → b < w.heap.size → w'.heap[b]? = w.heap[b]?) : OwnW w' B v xs := rowW.same h hb
/-- A weak list of the call's own, read. -/
theorem OwnW.rd {w : World} {B : Nat} {v : Value} {xs : List Int} (h : OwnW w B v xs) : Rd w v xs := by
  have h0 : rowW w B v xs.length (xs.map (Value.int .i64)) := h
  rcases h.cases with ⟨rfl, rfl⟩ | ⟨g, cap, rfl, hB, hg, hm, hc, _⟩
  · exact Rd.nil w
  · refine ⟨_, cap, rfl, ?_, ⟨?_, .inr ⟨g, 0, rfl⟩⟩, fun i hi => ⟨g, 0, rfl, by rw [Nat.zero_add]; exact hc i hi, hg⟩⟩
    · rcases h0.2 with ⟨hn, _⟩ | ⟨g', cap', cur, e, he, _, _, hnc, _⟩
      · cases hn
      · injection he with _ _ e3; omega
    · rcases h0.2 with ⟨hn, _⟩ | ⟨g', cap', cur, e, he, _, _, _, hcm, _⟩
      · cases hn
      · injection he with _ _ e3; unfold maxLen at hcm; omega
theorem eqW_below {w : World} {B1 B2 : Nat} {v1 v2 : Value} {xs : List Int} (h1 : OwnW w B1 v1 xs) (h2 : OwnW w B2 v2 xs) :
    Calls Try.prog 30 #[v1, v2] w (Bb true w) :=
  (eq_ownW h1 h2).mono fun e w' ⟨k, he, hw⟩ => ⟨he, by rw [hw]; exact below_drewN k (Below.refl _ _)⟩
end Go.Proofs.Ytakjkbjooongkaa
