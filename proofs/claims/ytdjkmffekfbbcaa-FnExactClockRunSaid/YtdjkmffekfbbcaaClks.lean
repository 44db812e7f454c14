/- The model's clock: its four lists. -/
import Derived.Test.YtdjkmffekfbbcaaCclm
namespace Go.Proofs.Ytdjkmffekfbbcaa.Ck
open Go.RowKit
def OwnB (w : World) (B : Nat) (v : Value) (ds : List Bool) : Prop := w.ownsRow B 4 1 v ds.length (ds.map Value.bool)
theorem ownB_same {w w' : World} {B : Nat} {v : Value} {xs : List Bool} (h : OwnB w B v xs) (he : ∀ k, v.ownBlock = some k → w'.heap[k]? = w.heap[k]?) : OwnB w' B v xs := by
  refine ⟨h.1, ?_⟩
  rcases h.2 with hn | ⟨g, cap, cur, hv, hg, hh, r⟩
  · exact .inl hn
  · exact .inr ⟨g, cap, cur, hv, hg, by rw [he g (by rw [hv]; rfl)]; exact hh, r⟩
theorem ownB_block {w : World} {B : Nat} {v : Value} {xs : List Bool} (h : OwnB w B v xs) : ∀ k, v.ownBlock = some k → B ≤ k ∧ k < w.heap.size := World.ownsRow.lt h
theorem own_elem {w : World} {B : Nat} {v : Value} {xs : List Int} (h : Own w B v xs) (a : Nat) (ha : a < xs.length) :
    ∃ g c, v = .slice (some ⟨g, 0, none⟩) xs.length c ∧ B ≤ g ∧ g < w.heap.size ∧ w.cell? ⟨g, a, none⟩ = some (.int .i64 (xs.getD a 0)) ∧ w.frozen? ⟨g, a, none⟩ = false ∧
      ∀ u, Own (w.setCell ⟨g, a, none⟩ (.int .i64 u)) B v (xs.set a u) := by
  rcases h.cases with ⟨_, hx⟩ | ⟨g, c, hv, h1, h2, _, h4, h5⟩
  · subst hx; simp at ha
  · subst hv
    refine ⟨g, c, rfl, h1, h2, h4 a ha, h5 a, fun u => ?_⟩
    have h0 : w.ownsRow B 2 1 (.slice (some ⟨g, 0, none⟩) xs.length c) xs.length (xs.map (Value.int .i64)) := h
    have s1 := (World.ownsRow.stored h0 a (.int .i64 u)).1
    show World.ownsRow _ _ _ _ _ (xs.set a u).length _
    rw [List.length_set, List.map_set]
    exact s1
theorem ownB_elem {w : World} {B : Nat} {v : Value} {xs : List Bool} (h : OwnB w B v xs) (a : Nat) (ha : a < xs.length) :
    ∃ g c, v = .slice (some ⟨g, 0, none⟩) xs.length c ∧ B ≤ g ∧ g < w.heap.size ∧ w.cell? ⟨g, a, none⟩ = some (.bool (xs.getD a false)) ∧ w.frozen? ⟨g, a, none⟩ = false ∧
      ∀ u, OwnB (w.setCell ⟨g, a, none⟩ (.bool u)) B v (xs.set a u) := by
  have h0 : w.ownsRow B 4 1 v xs.length (xs.map Value.bool) := h
  rcases h0.2 with ⟨_, hn⟩ | ⟨g, cap, cur, hv, hB, hg, _⟩
  · omega
  · subst hv
    refine ⟨g, cap, rfl, hB, (Array.getElem?_eq_some_iff.1 hg).1, ?_, h0.frozenAt a, fun u => ?_⟩
    · rw [h0.cellAt a (by omega), List.getElem?_map, List.getElem?_eq_getElem ha, List.getD_eq_getElem?_getD, List.getElem?_eq_getElem ha]
      rfl
    · have s1 := (World.ownsRow.stored h0 a (.bool u)).1
      show World.ownsRow _ _ _ _ _ (xs.set a u).length _
      rw [List.length_set, List.map_set]
      exact s1
def pgs (p : List Pf) : List Int := p.map Prod.fst
def mks (n : Nat) (p : List Pf) : List Bool := (List.range n).map fun j => mkd p j
def wts (n : Nat) (p : List Pf) : List Bool := (List.range n).map fun j => wrt p j
theorem mks_len (n : Nat) (p : List Pf) : (mks n p).length = n := by simp [mks]
theorem wts_len (n : Nat) (p : List Pf) : (wts n p).length = n := by simp [wts]
theorem mks_get (n : Nat) (p : List Pf) (j : Nat) (h : j < n) : (mks n p).getD j false = mkd p j := by simp [mks, List.getD_eq_getElem?_getD, h]
theorem wts_get (n : Nat) (p : List Pf) (j : Nat) (h : j < n) : (wts n p).getD j false = wrt p j := by simp [wts, List.getD_eq_getElem?_getD, h]
theorem pgs_get (p : List Pf) (j : Nat) (h : j < p.length) : (pgs p).getD j 0 = pgA p j := by
  unfold pgs pgA
  rw [List.getD_eq_getElem?_getD, List.getElem?_map, List.getElem?_eq_getElem h, List.getD_eq_getElem?_getD, List.getElem?_eq_getElem h]; rfl
theorem getD_setF (p : List Pf) (h j : Nat) (hh : h < p.length) (f : Pf) : (p.set h f).getD j f0 = if j = h then f else p.getD j f0 := by
  by_cases e : j = h
  · subst e
    rw [if_pos rfl, List.getD_eq_getElem?_getD, List.getElem?_set_self hh]; rfl
  · rw [if_neg e, List.getD_eq_getElem?_getD, List.getElem?_set_ne (fun e2 => e e2.symm), ← List.getD_eq_getElem?_getD]
theorem mks_set (n : Nat) (p : List Pf) (h : Nat) (hh : h < p.length) (f : Pf) : mks n (p.set h f) = (mks n p).set h f.2.1 := by
  refine List.ext_getElem (by rw [List.length_set, mks_len, mks_len]) fun j h1 h2 => ?_
  rw [mks_len] at h1
  rw [List.getElem_set]
  simp only [mks, List.getElem_map, List.getElem_range]
  unfold mkd
  rw [getD_setF p h j hh f]
  by_cases e : h = j
  · rw [if_pos e.symm, if_pos e]
  · rw [if_neg (fun e2 => e e2.symm), if_neg e]
theorem wts_set (n : Nat) (p : List Pf) (h : Nat) (hh : h < p.length) (f : Pf) : wts n (p.set h f) = (wts n p).set h f.2.2 := by
  refine List.ext_getElem (by rw [List.length_set, wts_len, wts_len]) fun j h1 h2 => ?_
  rw [wts_len] at h1
  rw [List.getElem_set]
  simp only [wts, List.getElem_map, List.getElem_range]
  unfold wrt
  rw [getD_setF p h j hh f]
  by_cases e : h = j
  · rw [if_pos e.symm, if_pos e]
  · rw [if_neg (fun e2 => e e2.symm), if_neg e]
theorem pgs_set (p : List Pf) (h : Nat) (f : Pf) : pgs (p.set h f) = (pgs p).set h f.1 := by unfold pgs; rw [List.map_set]
theorem set_same {α : Type} (l : List α) (h : Nat) (d : α) : l.set h (l.getD h d) = l := by
  refine List.ext_getElem (by rw [List.length_set]) fun j h1 h2 => ?_
  rw [List.getElem_set]
  split
  · rename_i e; subst e
    rw [List.getD_eq_getElem?_getD, List.getElem?_eq_getElem h2]; rfl
  · rfl
theorem pgs_keep (p : List Pf) (h : Nat) (hh : h < p.length) (m v : Bool) : pgs (p.set h (pgA p h, m, v)) = pgs p := by
  rw [pgs_set, ← pgs_get p h hh, set_same]
theorem mks_keep (n : Nat) (p : List Pf) (h : Nat) (hh : h < p.length) (hn : h < n) (x : Int) (v : Bool) : mks n (p.set h (x, mkd p h, v)) = mks n p := by
  rw [mks_set n p h hh, ← mks_get n p h hn, set_same]
theorem wts_keep (n : Nat) (p : List Pf) (h : Nat) (hh : h < p.length) (hn : h < n) (x : Int) (m : Bool) : wts n (p.set h (x, m, wrt p h)) = wts n p := by
  rw [wts_set n p h hh, ← wts_get n p h hn, set_same]
theorem getD_app (p : List Pf) (x : Int) (j : Nat) : ((p ++ [(x, false, false)]).getD j f0).2 = (p.getD j f0).2 := by
  by_cases h : j < p.length
  · rw [List.getD_eq_getElem?_getD, List.getElem?_append_left h, ← List.getD_eq_getElem?_getD]
  · have e1 : (p.getD j f0) = f0 := by rw [List.getD_eq_getElem?_getD, List.getElem?_eq_none (by omega)]; rfl
    rw [e1, List.getD_eq_getElem?_getD, List.getElem?_append_right (by omega)]
    by_cases e : j - p.length = 0
    · rw [e]; rfl
    · rw [List.getElem?_eq_none (by simp; omega)]; rfl
theorem mks_app (n : Nat) (p : List Pf) (x : Int) : mks n (p ++ [(x, false, false)]) = mks n p := by unfold mks mkd; simp only [getD_app]
theorem wts_app (n : Nat) (p : List Pf) (x : Int) : wts n (p ++ [(x, false, false)]) = wts n p := by unfold wts wrt; simp only [getD_app]
theorem pgs_app (p : List Pf) (x : Int) : pgs (p ++ [(x, false, false)]) = pgs p ++ [x] := by unfold pgs; rw [List.map_append]; rfl
def PRk (n B : Nat) (S : CkS) (j : Nat) (w : World) (v : Value) : Prop :=
  match j with
  | 0 => Own w B v (pgs S.p)
  | 1 => OwnB w B v (mks n S.p)
  | 2 => OwnB w B v (wts n S.p)
  | _ => Own w B v S.fl
theorem PRk.same {n B : Nat} {S : CkS} {j : Nat} {w w' : World} {v : Value} (h : PRk n B S j w v) (he : ∀ k, v.ownBlock = some k → w'.heap[k]? = w.heap[k]?) : PRk n B S j w' v := by
  unfold PRk at h ⊢
  split at h
  · exact own_same1 h he
  · exact ownB_same h he
  · exact ownB_same h he
  · exact own_same1 h he
theorem PRk.lt {n B : Nat} {S : CkS} {j : Nat} {w : World} {v : Value} (h : PRk n B S j w v) : ∀ k, v.ownBlock = some k → B ≤ k ∧ k < w.heap.size := by
  unfold PRk at h
  split at h
  · exact Own.block h
  · exact ownB_block h
  · exact ownB_block h
  · exact Own.block h
def upF (x : Nat → Value) (j : Nat) (v : Value) (i : Nat) : Value := if i = j then v else x i
theorem below4 {n : Nat} (h : n < 4) : n = 0 ∨ n = 1 ∨ n = 2 ∨ n = 3 := by omega
/-- The model's memory with a clock. -/
structure Cs (n B : Nat) (x : Nat → Value) (S : CkS) (w0 w : World) : Prop where
  own : ∀ j, j < 4 → PRk n B S j w (x j)
  sep : ∀ i j, i < 4 → j < 4 → i ≠ j → ∀ k, (x i).ownBlock = some k → (x j).ownBlock ≠ some k
  bl : Below B w0 w
  sz : B ≤ w.heap.size
theorem Cs.drewN {n B : Nat} {x : Nat → Value} {S : CkS} {w0 w : World} (h : Cs n B x S w0 w) (q : Nat) : Cs n B x S w0 (w.drewN q) := ⟨fun j hj => (h.own j hj).same fun _ _ => rfl, h.sep, h.bl.trans (below_drewN q (Below.refl _ _)), h.sz⟩
theorem Cs.drew {n B : Nat} {x : Nat → Value} {S : CkS} {w0 w : World} (h : Cs n B x S w0 w) : Cs n B x S w0 w.drew := ⟨fun j hj => (h.own j hj).same fun _ _ => rfl, h.sep, h.bl.trans (Below.refl _ _).drew, h.sz⟩
theorem upF_same (x : Nat → Value) (j : Nat) : upF x j (x j) = x := by funext i; unfold upF; split <;> simp_all
theorem Cs.upd {n B : Nat} {x : Nat → Value} {S : CkS} {w0 w : World} (h : Cs n B x S w0 w) (j : Nat) (hj : j < 4) {w' : World} {v' : Value} {S' : CkS}
    (hst : ∀ b, b < w.heap.size → (x j).ownBlock ≠ some b → w'.heap[b]? = w.heap[b]?) (hbl : Below B w w') (hv : PRk n B S' j w' v') (hk : ∀ k, v'.ownBlock = some k → (x j).ownBlock = some k ∨ w.heap.size ≤ k)
    (hsame : ∀ i, i < 4 → i ≠ j → ∀ w v, PRk n B S i w v → PRk n B S' i w v) : Cs n B (upF x j v') S' w0 w' := by
  refine ⟨fun i hi => ?_, fun i i' hi hi' hne k hk1 hk2 => ?_, h.bl.trans hbl, Nat.le_trans h.sz hbl.size⟩
  · by_cases e : i = j
    · subst e; unfold upF; rw [if_pos rfl]; exact hv
    · unfold upF; rw [if_neg e]
      exact hsame i hi e _ _ ((h.own i hi).same fun k hk => hst k ((h.own i hi).lt k hk).2 (fun e2 => h.sep i j hi hj e k hk e2))
  · unfold upF at hk1 hk2
    by_cases e : i = j
    · subst e
      rw [if_pos rfl] at hk1
      rw [if_neg (fun e => hne e.symm)] at hk2
      rcases hk k hk1 with h1 | h1
      · exact h.sep i i' hi hi' hne k h1 hk2
      · have := ((h.own i' hi').lt k hk2).2; omega
    · rw [if_neg e] at hk1
      by_cases e' : i' = j
      · subst e'
        rw [if_pos rfl] at hk2
        rcases hk k hk2 with h1 | h1
        · exact h.sep i i' hi hi' hne k hk1 h1
        · have := ((h.own i hi).lt k hk1).2; omega
      · rw [if_neg e'] at hk2
        exact h.sep i i' hi hi' hne k hk1 hk2
theorem Cs.elem {n B : Nat} {x : Nat → Value} {S : CkS} {w0 w : World} (h : Cs n B x S w0 w) (j : Nat) (hj : j < 4) {g a : Nat} {u : Value} {S' : CkS} (hx : (x j).ownBlock = some g) (hBg : B ≤ g) (hv : PRk n B S' j (w.setCell ⟨g, a, none⟩ u) (x j))
    (hsame : ∀ i, i < 4 → i ≠ j → ∀ w v, PRk n B S i w v → PRk n B S' i w v) : Cs n B x S' w0 (w.setCell ⟨g, a, none⟩ u) := by
  have hkp : Keep g w (w.setCell ⟨g, a, none⟩ u) := keep_set g [u] a w
  have h1 := h.upd j hj (w' := w.setCell ⟨g, a, none⟩ u) (v' := x j) (S' := S') (fun b _ hb => hkp.block b (fun e => hb (by rw [hx, e]))) (hkp.below hBg) hv (fun k hk => .inl hk) hsame
  rw [upF_same] at h1
  exact h1
theorem Cs.pg {n B : Nat} {x : Nat → Value} {S : CkS} {w0 w : World} (h : Cs n B x S w0 w) (j : Nat) (hj : j < S.p.length) (hn : j < n) : ∃ g c, x 0 = .slice (some ⟨g, 0, none⟩) S.p.length c ∧ w.cell? ⟨g, j, none⟩ = some (.int .i64 (pgA S.p j)) ∧ w.frozen? ⟨g, j, none⟩ = false ∧
    ∀ u, Cs n B x { S with p := S.p.set j (u, mkd S.p j, wrt S.p j) } w0 (w.setCell ⟨g, j, none⟩ (.int .i64 u)) := by
  have hl : (pgs S.p).length = S.p.length := List.length_map _
  obtain ⟨g, c, hv, hB, hg, h1, h2, h3⟩ := own_elem (show Own w B (x 0) (pgs S.p) from h.own 0 (by decide)) j (by rw [hl]; exact hj)
  rw [hl] at hv
  rw [pgs_get S.p j hj] at h1
  refine ⟨g, c, hv, h1, h2, fun u => h.elem 0 (by decide) (by rw [hv]; rfl) hB (by show Own _ _ _ (pgs (S.p.set j (u, mkd S.p j, wrt S.p j))); rw [pgs_set]; exact h3 u) fun i hi hne w v hp => ?_⟩
  rcases below4 hi with rfl | rfl | rfl | rfl
  · exact absurd rfl hne
  · show OwnB w B v (mks n (S.p.set j (u, mkd S.p j, wrt S.p j))); rw [mks_keep n S.p j hj hn]; exact hp
  · show OwnB w B v (wts n (S.p.set j (u, mkd S.p j, wrt S.p j))); rw [wts_keep n S.p j hj hn]; exact hp
  · exact hp
theorem Cs.mk9 {n B : Nat} {x : Nat → Value} {S : CkS} {w0 w : World} (h : Cs n B x S w0 w) (j : Nat) (hn : j < n) : ∃ g c, x 1 = .slice (some ⟨g, 0, none⟩) n c ∧ B ≤ g ∧ w.cell? ⟨g, j, none⟩ = some (.bool (mkd S.p j)) ∧ w.frozen? ⟨g, j, none⟩ = false ∧
    ∀ b, j < S.p.length → Cs n B x { S with p := S.p.set j (pgA S.p j, b, wrt S.p j) } w0 (w.setCell ⟨g, j, none⟩ (.bool b)) := by
  obtain ⟨g, c, hv, hB, hg, h1, h2, h3⟩ := ownB_elem (show OwnB w B (x 1) (mks n S.p) from h.own 1 (by decide)) j (by rw [mks_len]; exact hn)
  rw [mks_len] at hv
  rw [mks_get n S.p j hn] at h1
  refine ⟨g, c, hv, hB, h1, h2, fun b hj => h.elem 1 (by decide) (by rw [hv]; rfl) hB (by show OwnB _ _ _ (mks n (S.p.set j (pgA S.p j, b, wrt S.p j))); rw [mks_set n S.p j hj]; exact h3 b) fun i hi hne w v hp => ?_⟩
  rcases below4 hi with rfl | rfl | rfl | rfl
  · show Own w B v (pgs (S.p.set j (pgA S.p j, b, wrt S.p j))); rw [pgs_keep S.p j hj]; exact hp
  · exact absurd rfl hne
  · show OwnB w B v (wts n (S.p.set j (pgA S.p j, b, wrt S.p j))); rw [wts_keep n S.p j hj hn]; exact hp
  · exact hp
theorem Cs.wr9 {n B : Nat} {x : Nat → Value} {S : CkS} {w0 w : World} (h : Cs n B x S w0 w) (j : Nat) (hn : j < n) : ∃ g c, x 2 = .slice (some ⟨g, 0, none⟩) n c ∧ B ≤ g ∧ w.cell? ⟨g, j, none⟩ = some (.bool (wrt S.p j)) ∧ w.frozen? ⟨g, j, none⟩ = false ∧
    ∀ b, j < S.p.length → Cs n B x { S with p := S.p.set j (pgA S.p j, mkd S.p j, b) } w0 (w.setCell ⟨g, j, none⟩ (.bool b)) := by
  obtain ⟨g, c, hv, hB, hg, h1, h2, h3⟩ := ownB_elem (show OwnB w B (x 2) (wts n S.p) from h.own 2 (by decide)) j (by rw [wts_len]; exact hn)
  rw [wts_len] at hv
  rw [wts_get n S.p j hn] at h1
  refine ⟨g, c, hv, hB, h1, h2, fun b hj => h.elem 2 (by decide) (by rw [hv]; rfl) hB (by show OwnB _ _ _ (wts n (S.p.set j (pgA S.p j, mkd S.p j, b))); rw [wts_set n S.p j hj]; exact h3 b) fun i hi hne w v hp => ?_⟩
  rcases below4 hi with rfl | rfl | rfl | rfl
  · show Own w B v (pgs (S.p.set j (pgA S.p j, mkd S.p j, b))); rw [pgs_keep S.p j hj]; exact hp
  · show OwnB w B v (mks n (S.p.set j (pgA S.p j, mkd S.p j, b))); rw [mks_keep n S.p j hj hn]; exact hp
  · exact absurd rfl hne
  · exact hp
/-- The same, where the list is known. -/
theorem Cs.pgg {n B : Nat} {x : Nat → Value} {S : CkS} {w0 w : World} (h : Cs n B x S w0 w) {g m c : Nat} (e : x 0 = .slice (some ⟨g, 0, none⟩) m c) (j : Nat) (hj : j < S.p.length) (hn : j < n) : w.cell? ⟨g, j, none⟩ = some (.int .i64 (pgA S.p j)) ∧ w.frozen? ⟨g, j, none⟩ = false ∧ ∀ u, Cs n B x { S with p := S.p.set j (u, mkd S.p j, wrt S.p j) } w0 (w.setCell ⟨g, j, none⟩ (.int .i64 u)) := by
  obtain ⟨g', c', e', r⟩ := h.pg j hj hn
  rw [e] at e'
  injection e' with e1
  injection e1 with e1
  injection e1 with e1
  subst e1
  exact r
theorem Cs.mkg {n B : Nat} {x : Nat → Value} {S : CkS} {w0 w : World} (h : Cs n B x S w0 w) {g m c : Nat} (e : x 1 = .slice (some ⟨g, 0, none⟩) m c) (j : Nat) (hn : j < n) : w.cell? ⟨g, j, none⟩ = some (.bool (mkd S.p j)) ∧ w.frozen? ⟨g, j, none⟩ = false ∧ ∀ b, j < S.p.length → Cs n B x { S with p := S.p.set j (pgA S.p j, b, wrt S.p j) } w0 (w.setCell ⟨g, j, none⟩ (.bool b)) := by
  obtain ⟨g', c', e', _, r⟩ := h.mk9 j hn
  rw [e] at e'
  injection e' with e1
  injection e1 with e1
  injection e1 with e1
  subst e1
  exact r
theorem Cs.wrg {n B : Nat} {x : Nat → Value} {S : CkS} {w0 w : World} (h : Cs n B x S w0 w) {g m c : Nat} (e : x 2 = .slice (some ⟨g, 0, none⟩) m c) (j : Nat) (hn : j < n) : w.cell? ⟨g, j, none⟩ = some (.bool (wrt S.p j)) ∧ w.frozen? ⟨g, j, none⟩ = false ∧ ∀ b, j < S.p.length → Cs n B x { S with p := S.p.set j (pgA S.p j, mkd S.p j, b) } w0 (w.setCell ⟨g, j, none⟩ (.bool b)) := by
  obtain ⟨g', c', e', _, r⟩ := h.wr9 j hn
  rw [e] at e'
  injection e' with e1
  injection e1 with e1
  injection e1 with e1
  subst e1
  exact r
/-- A list that has grown. -/
theorem Cs.app {n B : Nat} {x : Nat → Value} {S : CkS} {w0 w : World} (h : Cs n B x S w0 w) {w' : World} {v' : Value} {u : Int} (hst : ∀ b, b < w.heap.size → (x 3).ownBlock ≠ some b → w'.heap[b]? = w.heap[b]?) (hbl : Below B w w') (hv : Own w' B v' (S.fl ++ [u])) (hk : ∀ k, v'.ownBlock = some k → (x 3).ownBlock = some k ∨ w.heap.size ≤ k) :
    Cs n B (upF x 3 v') { S with fl := S.fl ++ [u] } w0 w' :=
  h.upd 3 (by decide) hst hbl hv hk fun i hi hne w v hp => by rcases below4 hi with rfl | rfl | rfl | rfl <;> first | exact hp | exact absurd rfl hne
theorem Cs.grow {n B : Nat} {x : Nat → Value} {S : CkS} {w0 w : World} (h : Cs n B x S w0 w) {w' : World} {v' : Value} {u : Int} (hst : ∀ b, b < w.heap.size → (x 0).ownBlock ≠ some b → w'.heap[b]? = w.heap[b]?) (hbl : Below B w w') (hv : Own w' B v' (pgs S.p ++ [u])) (hk : ∀ k, v'.ownBlock = some k → (x 0).ownBlock = some k ∨ w.heap.size ≤ k) :
    Cs n B (upF x 0 v') { S with p := S.p ++ [(u, false, false)] } w0 w' :=
  h.upd 0 (by decide) hst hbl (by show Own w' B v' (pgs (S.p ++ [(u, false, false)])); rw [pgs_app]; exact hv) hk fun i hi hne w v hp => by
    rcases below4 hi with rfl | rfl | rfl | rfl
    · exact absurd rfl hne
    · show OwnB w B v (mks n (S.p ++ [(u, false, false)])); rw [mks_app]; exact hp
    · show OwnB w B v (wts n (S.p ++ [(u, false, false)])); rw [wts_app]; exact hp
    · exact hp
/-- How many marks there are, as the memory tells. -/
def mB (g : Nat) (w : World) : Nat → Nat
  | 0 => 0
  | j + 1 => mB g w j + (match w.cell? ⟨g, j, none⟩ with | some (.bool true) => 1 | _ => 0)
theorem mB_dec (g : Nat) (w w' : World) (h : Nat) (he : ∀ j, j ≠ h → w'.cell? ⟨g, j, none⟩ = w.cell? ⟨g, j, none⟩) (h1 : w.cell? ⟨g, h, none⟩ = some (.bool true)) (h2 : w'.cell? ⟨g, h, none⟩ = some (.bool false)) :
    ∀ n, mB g w' n + (if h < n then 1 else 0) = mB g w n
  | 0 => rfl
  | n + 1 => by
    have ih := mB_dec g w w' h he h1 h2 n
    rw [mB, mB]
    by_cases e : n = h
    · subst e
      rw [h1, h2]
      rw [if_neg (Nat.lt_irrefl _)] at ih
      rw [if_pos (Nat.lt_succ_self _)]
      simp only []
      omega
    · rw [he n e]
      by_cases hl : h < n
      · rw [if_pos hl] at ih
        rw [if_pos (by omega)]
        omega
      · rw [if_neg hl] at ih
        rw [if_neg (by omega)]
        omega
theorem tch_of (p : List Pf) (j : Nat) (hj : j < p.length) (b : Bool) : (p.set j (pgA p j, true, wrt p j)).set j (pgA (p.set j (pgA p j, true, wrt p j)) j, mkd (p.set j (pgA p j, true, wrt p j)) j, wrt p j || b) = tch p j b := by
  obtain ⟨q1, q2, q3⟩ := pgA_set p j hj (pgA p j, true, wrt p j)
  rw [q1, q2, List.set_set]
  rfl
end Go.Proofs.Ytdjkmffekfbbcaa.Ck
