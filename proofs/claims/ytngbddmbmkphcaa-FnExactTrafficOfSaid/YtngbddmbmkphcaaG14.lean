/- The model's run of a cache: its block of eleven cells and its six slices. The model's run of a cache: out and fill. -/
import Derived.Test.YtngbddmbmkphcaaG13
namespace Go.Proofs.Ytngbddmbmkphcaa.Pv
open Go.RowKit Ac Tr
theorem own_same {w w' : World} {B : Nat} {v : Value} {xs : List Int} (h : Own w B v xs) (he : ∀ k, v.ownBlock = some k → w'.heap[k]? = w.heap[k]?) : Own w' B v xs := by
  refine ⟨h.1, ?_⟩
  rcases h.2 with hn | ⟨g, cap, cur, hv, hg, hh, r⟩
  · exact .inl hn
  · exact .inr ⟨g, cap, cur, hv, hg, by rw [he g (by rw [hv]; rfl)]; exact hh, r⟩
theorem ownB_same {w w' : World} {B : Nat} {v : Value} {xs : List Bool} (h : OwnB w B v xs) (he : ∀ k, v.ownBlock = some k → w'.heap[k]? = w.heap[k]?) : OwnB w' B v xs := by
  refine ⟨h.1, ?_⟩
  rcases h.2 with hn | ⟨g, cap, cur, hv, hg, hh, r⟩
  · exact .inl hn
  · exact .inr ⟨g, cap, cur, hv, hg, by rw [he g (by rw [hv]; rfl)]; exact hh, r⟩
/-- An element of an owned list, and a store to it. -/
theorem own_elem {w : World} {B : Nat} {v : Value} {xs : List Int} (h : Own w B v xs) (a : Nat) (ha : a < xs.length) :
    ∃ g c, v = .slice (some ⟨g, 0, none⟩) xs.length c ∧ B ≤ g ∧ g < w.heap.size ∧ w.cell? ⟨g, a, none⟩ = some (.int .i64 (xs.getD a 0)) ∧ w.frozen? ⟨g, a, none⟩ = false ∧
      ∀ u, Own (w.setCell ⟨g, a, none⟩ (.int .i64 u)) B v (xs.set a u) := by
  rcases h.cases with ⟨_, hx⟩ | ⟨g, c, hv, h1, h2, _, h4, h5⟩
  · subst hx; simp at ha
  · subst hv
    refine ⟨g, c, rfl, h1, h2, h4 a ha, h5 a, fun u => ?_⟩
    have h0 : w.ownsRow B 2 1 (.slice (some ⟨g, 0, none⟩) xs.length c) xs.length (xs.map (Value.int .i64)) := h
    have s1 := (World.ownsRow.stored h0 a (.int .i64 u)).1
    show World.ownsRow _ _ _ _ _ (xs.set a u).length _
    rw [List.length_set, List.map_set]
    exact s1
theorem ownB_elem {w : World} {B : Nat} {v : Value} {xs : List Bool} (h : OwnB w B v xs) (a : Nat) (ha : a < xs.length) :
    ∃ g c, v = .slice (some ⟨g, 0, none⟩) xs.length c ∧ B ≤ g ∧ g < w.heap.size ∧ w.cell? ⟨g, a, none⟩ = some (.bool (xs.getD a false)) ∧ w.frozen? ⟨g, a, none⟩ = false ∧
      ∀ u, OwnB (w.setCell ⟨g, a, none⟩ (.bool u)) B v (xs.set a u) := by
  have h0 : w.ownsRow B 4 1 v xs.length (xs.map Value.bool) := h
  rcases h0.2 with ⟨_, hn⟩ | ⟨g, cap, cur, hv, hB, hg, _⟩
  · omega
  · subst hv
    refine ⟨g, cap, rfl, hB, (Array.getElem?_eq_some_iff.1 hg).1, ?_, h0.frozenAt a, fun u => ?_⟩
    · rw [h0.cellAt a (by omega), List.getElem?_map, List.getElem?_eq_getElem ha, List.getD_eq_getElem?_getD, List.getElem?_eq_getElem ha]
      rfl
    · have s1 := (World.ownsRow.stored h0 a (.bool u)).1
      show World.ownsRow _ _ _ _ _ (xs.set a u).length _
      rw [List.length_set, List.map_set]
      exact s1
theorem ownB_block {w : World} {B : Nat} {v : Value} {xs : List Bool} (h : OwnB w B v xs) : ∀ k, v.ownBlock = some k → B ≤ k ∧ k < w.heap.size := World.ownsRow.lt h
/-- What the six slices hold. -/
def PRs (M B : Nat) (S : CaS) (ls : List Int) (j : Nat) (w : World) (v : Value) : Prop :=
  match j with
  | 0 => Own w B v S.ws
  | 1 => Own w B v S.cs
  | 2 => OwnB w B v S.ds
  | 3 => Own w B v (rowL M S.k)
  | 4 => Own w B v S.rs
  | _ => Own w B v ls
theorem PRs.same {M B : Nat} {S : CaS} {ls : List Int} {j : Nat} {w w' : World} {v : Value} (h : PRs M B S ls j w v) (he : ∀ k, v.ownBlock = some k → w'.heap[k]? = w.heap[k]?) : PRs M B S ls j w' v := by
  unfold PRs at h ⊢
  split at h
  · exact own_same h he
  · exact own_same h he
  · exact ownB_same h he
  · exact own_same h he
  · exact own_same h he
  · exact own_same h he
theorem PRs.lt {M B : Nat} {S : CaS} {ls : List Int} {j : Nat} {w : World} {v : Value} (h : PRs M B S ls j w v) : ∀ k, v.ownBlock = some k → B ≤ k ∧ k < w.heap.size := by
  unfold PRs at h
  split at h
  · exact Own.block h
  · exact Own.block h
  · exact ownB_block h
  · exact Own.block h
  · exact Own.block h
  · exact Own.block h
def mdC (x : Nat → Value) (S : CaS) : List Value := [x 0, x 1, x 2, x 3, x 4, x 5, .int .i64 (S.h : Int), .int .i64 (S.m : Int), .int .i64 (S.i : Int), .int .i64 (S.o : Int), .int .i64 (S.f : Int)]
/-- The model's run. -/
structure Md (M B r : Nat) (x : Nat → Value) (S : CaS) (ls : List Int) (w0 w : World) : Prop where
  blk : Blk w r (mdC x S) 56
  own : ∀ j, j < 6 → PRs M B S ls j w (x j)
  ne : ∀ j, j < 6 → (x j).ownBlock ≠ some r
  sep : ∀ i j, i < 6 → j < 6 → i ≠ j → ∀ k, (x i).ownBlock = some k → (x j).ownBlock ≠ some k
  hB : B ≤ r
  wf : CaW S
  bl : Below B w0 w
theorem Md.hd {M B r : Nat} {x : Nat → Value} {S : CaS} {ls : List Int} {w0 w : World} (h : Md M B r x S ls w0 w) (j : Nat) (hj : j < 6) : w.cell? ⟨r, j, none⟩ = some (x j) ∧ w.frozen? ⟨r, j, none⟩ = false := by
  refine ⟨?_, h.blk.froz j⟩
  rw [h.blk.cell j]
  rcases below6 hj with rfl | rfl | rfl | rfl | rfl | rfl <;> rfl
theorem Md.drewN {M B r : Nat} {x : Nat → Value} {S : CaS} {ls : List Int} {w0 w : World} (h : Md M B r x S ls w0 w) (q : Nat) : Md M B r x S ls w0 (w.drewN q) :=
  ⟨h.blk, fun j hj => (h.own j hj).same fun _ _ => rfl, h.ne, h.sep, h.hB, h.wf, h.bl.trans (below_drewN q (Below.refl _ _))⟩
theorem Md.drew {M B r : Nat} {x : Nat → Value} {S : CaS} {ls : List Int} {w0 w : World} (h : Md M B r x S ls w0 w) : Md M B r x S ls w0 w.drew :=
  ⟨h.blk, fun j hj => (h.own j hj).same fun _ _ => rfl, h.ne, h.sep, h.hB, h.wf, h.bl.trans ((Below.refl _ _).drew)⟩
theorem Md.below {M B r : Nat} {x : Nat → Value} {S : CaS} {ls : List Int} {w0 w w' : World} (h : Md M B r x S ls w0 w) (hb : Below w.heap.size w w') : Md M B r x S ls w0 w' :=
  ⟨h.blk.below hb h.blk.lt, fun j hj => (h.own j hj).same fun k hk => hb.block k ((h.own j hj).lt k hk).2, h.ne, h.sep, h.hB, h.wf, h.bl.trans (hb.mono (by have := h.blk.lt; have := h.hB; omega))⟩
theorem upd_same {α : Type} (x : Nat → α) (j : Nat) : updF x j (x j) = x := by funext i; unfold updF; split <;> simp_all
theorem upd_at {α : Type} (x : Nat → α) (j : Nat) (v : α) : updF x j v j = v := if_pos rfl
theorem upd_ne {α : Type} (x : Nat → α) (j i : Nat) (v : α) (h : i ≠ j) : updF x j v i = x i := if_neg h
/-- One slice has become another one, in a world in which the others are as they were. -/
theorem Md.upd {M B r : Nat} {x : Nat → Value} {S : CaS} {ls : List Int} {w0 w : World} (h : Md M B r x S ls w0 w) (j : Nat) (hj : j < 6) {w' : World} {v' : Value} {S' : CaS} {ls' : List Int}
    (hst : ∀ b, b < w.heap.size → (x j).ownBlock ≠ some b → w'.heap[b]? = w.heap[b]?) (hbl : Below B w w') (hv : PRs M B S' ls' j w' v') (hk : ∀ k, v'.ownBlock = some k → (x j).ownBlock = some k ∨ w.heap.size ≤ k)
    (hsame : ∀ i, i < 6 → i ≠ j → ∀ w v, PRs M B S ls i w v → PRs M B S' ls' i w v) :
    Blk w' r (mdC x S) 56 ∧ (∀ i, i < 6 → PRs M B S' ls' i w' (updF x j v' i)) ∧ (∀ i, i < 6 → (updF x j v' i).ownBlock ≠ some r) ∧
      (∀ i i', i < 6 → i' < 6 → i ≠ i' → ∀ k, (updF x j v' i).ownBlock = some k → (updF x j v' i').ownBlock ≠ some k) ∧ Below B w0 w' := by
  refine ⟨(hst r h.blk.lt (h.ne j hj)).trans h.blk, fun i hi => ?_, fun i hi => ?_, fun i i' hi hi' hne k hk1 hk2 => ?_, h.bl.trans hbl⟩
  · by_cases e : i = j
    · subst e; rw [upd_at]; exact hv
    · rw [upd_ne _ _ _ _ e]
      exact hsame i hi e _ _ ((h.own i hi).same fun k hk => hst k ((h.own i hi).lt k hk).2 (fun e2 => h.sep i j hi hj e k hk e2))
  · by_cases e : i = j
    · subst e; rw [upd_at]
      intro hr
      rcases hk r hr with h1 | h1
      · exact h.ne i hi h1
      · have := h.blk.lt; omega
    · rw [upd_ne _ _ _ _ e]; exact h.ne i hi
  · by_cases e : i = j
    · subst e
      rw [upd_at] at hk1
      rw [upd_ne _ _ _ _ (fun e => hne e.symm)] at hk2
      rcases hk k hk1 with h1 | h1
      · exact h.sep i i' hi hi' hne k h1 hk2
      · have := ((h.own i' hi').lt k hk2).2; omega
    · rw [upd_ne _ _ _ _ e] at hk1
      by_cases e' : i' = j
      · subst e'
        rw [upd_at] at hk2
        rcases hk k hk2 with h1 | h1
        · exact h.sep i i' hi hi' hne k hk1 h1
        · have := ((h.own i hi).lt k hk1).2; omega
      · rw [upd_ne _ _ _ _ e'] at hk2
        exact h.sep i i' hi hi' hne k hk1 hk2
/-- A store to an element. -/
theorem Md.elem {M B r : Nat} {x : Nat → Value} {S : CaS} {ls : List Int} {w0 w : World} (h : Md M B r x S ls w0 w) (j : Nat) (hj : j < 6) {g a : Nat} {u : Value} {S' : CaS} {ls' : List Int}
    (hx : (x j).ownBlock = some g) (hBg : B ≤ g) (hv : PRs M B S' ls' j (w.setCell ⟨g, a, none⟩ u) (x j))
    (hsame : ∀ i, i < 6 → i ≠ j → ∀ w v, PRs M B S ls i w v → PRs M B S' ls' i w v) (hc : mdC x S' = mdC x S) (hw : CaW S') : Md M B r x S' ls' w0 (w.setCell ⟨g, a, none⟩ u) := by
  have hkp : Keep g w (w.setCell ⟨g, a, none⟩ u) := keep_set g [u] a w
  obtain ⟨h1, h2, h3, h4, h5⟩ := h.upd j hj (w' := w.setCell ⟨g, a, none⟩ u) (v' := x j) (S' := S') (ls' := ls') (fun b _ hb => hkp.block b (fun e => hb (by rw [hx, e]))) (hkp.below hBg) hv (fun k hk => .inl hk) hsame
  rw [upd_same] at h2 h3 h4
  exact ⟨by rw [hc]; exact h1, h2, h3, h4, h.hB, hw, h5⟩
theorem mdC_set (x : Nat → Value) (S : CaS) (j : Nat) (hj : j < 6) (v : Value) : (mdC x S).set j v = mdC (updF x j v) S := by
  rcases below6 hj with rfl | rfl | rfl | rfl | rfl | rfl <;> rfl
/-- A new slice, stored in the block. -/
theorem Md.repl {M B r : Nat} {x : Nat → Value} {S : CaS} {ls : List Int} {w0 w : World} (h : Md M B r x S ls w0 w) (j : Nat) (hj : j < 6) {w' : World} {v' : Value} {S' : CaS} {ls' : List Int}
    (hst : ∀ b, b < w.heap.size → (x j).ownBlock ≠ some b → w'.heap[b]? = w.heap[b]?) (hbl : Below B w w') (hv : PRs M B S' ls' j w' v') (hk : ∀ k, v'.ownBlock = some k → (x j).ownBlock = some k ∨ w.heap.size ≤ k)
    (hsame : ∀ i, i < 6 → i ≠ j → ∀ w v, PRs M B S ls i w v → PRs M B S' ls' i w v) (hc : ∀ y, mdC y S' = mdC y S) (hw : CaW S') :
    (∃ o, w'.cell? ⟨r, j, none⟩ = some o) ∧ w'.frozen? ⟨r, j, none⟩ = false ∧ Md M B r (updF x j v') S' ls' w0 (w'.setCell ⟨r, j, none⟩ v') := by
  obtain ⟨h1, h2, h3, h4, h5⟩ := h.upd j hj hst hbl hv hk hsame
  have hkp : Keep r w' (w'.setCell ⟨r, j, none⟩ v') := keep_set r [v'] j w'
  refine ⟨⟨x j, ?_⟩, h1.froz j, ⟨?_, fun i hi => (h2 i hi).same fun k hk => hkp.block k (fun e => h3 i hi (by rw [hk, e])), h3, h4, h.hB, hw, h5.trans (hkp.below h.hB)⟩⟩
  · rw [h1.cell j]
    rcases below6 hj with rfl | rfl | rfl | rfl | rfl | rfl <;> rfl
  · have := blk_set1 (j := j) h1 v'
    rw [mdC_set x S j hj, ← hc] at this
    exact this

theorem Md.w {M B r : Nat} {x : Nat → Value} {S : CaS} {ls : List Int} {w0 w : World} (h : Md M B r x S ls w0 w) (a : Nat) (ha : a < 64) : ∃ g c, x 0 = .slice (some ⟨g, 0, none⟩) 64 c ∧ g < w.heap.size ∧ w.cell? ⟨g, a, none⟩ = some (.int .i64 (S.ws.getD a 0)) ∧ w.frozen? ⟨g, a, none⟩ = false ∧
    ∀ u, Md M B r x { S with ws := S.ws.set a u } ls w0 (w.setCell ⟨g, a, none⟩ (.int .i64 u)) := by
  obtain ⟨g, c, hv, hB, hg, h1, h2, h3⟩ := own_elem (show Own w B (x 0) S.ws from h.own 0 (by decide)) a (by rw [h.wf.ws]; exact ha)
  rw [h.wf.ws] at hv
  exact ⟨g, c, hv, hg, h1, h2, fun u => h.elem 0 (by decide) (by rw [hv]; rfl) hB (h3 u) (fun i hi hne w v hp => by rcases below6 hi with rfl | rfl | rfl | rfl | rfl | rfl <;> first | exact hp | exact absurd rfl hne) rfl ⟨by rw [List.length_set]; exact h.wf.ws, h.wf.cs, h.wf.ds, h.wf.k⟩⟩
theorem Md.c {M B r : Nat} {x : Nat → Value} {S : CaS} {ls : List Int} {w0 w : World} (h : Md M B r x S ls w0 w) (a : Nat) (ha : a < 64) : ∃ g c, x 1 = .slice (some ⟨g, 0, none⟩) 64 c ∧ g < w.heap.size ∧ w.cell? ⟨g, a, none⟩ = some (.int .i64 (S.cs.getD a 0)) ∧ w.frozen? ⟨g, a, none⟩ = false ∧
    ∀ u, Md M B r x { S with cs := S.cs.set a u } ls w0 (w.setCell ⟨g, a, none⟩ (.int .i64 u)) := by
  obtain ⟨g, c, hv, hB, hg, h1, h2, h3⟩ := own_elem (show Own w B (x 1) S.cs from h.own 1 (by decide)) a (by rw [h.wf.cs]; exact ha)
  rw [h.wf.cs] at hv
  exact ⟨g, c, hv, hg, h1, h2, fun u => h.elem 1 (by decide) (by rw [hv]; rfl) hB (h3 u) (fun i hi hne w v hp => by rcases below6 hi with rfl | rfl | rfl | rfl | rfl | rfl <;> first | exact hp | exact absurd rfl hne) rfl ⟨h.wf.ws, by rw [List.length_set]; exact h.wf.cs, h.wf.ds, h.wf.k⟩⟩
theorem Md.d {M B r : Nat} {x : Nat → Value} {S : CaS} {ls : List Int} {w0 w : World} (h : Md M B r x S ls w0 w) (a : Nat) (ha : a < 16) : ∃ g c, x 2 = .slice (some ⟨g, 0, none⟩) 16 c ∧ g < w.heap.size ∧ w.cell? ⟨g, a, none⟩ = some (.bool (S.ds.getD a false)) ∧ w.frozen? ⟨g, a, none⟩ = false ∧
    ∀ u, Md M B r x { S with ds := S.ds.set a u } ls w0 (w.setCell ⟨g, a, none⟩ (.bool u)) := by
  obtain ⟨g, c, hv, hB, hg, h1, h2, h3⟩ := ownB_elem (show OwnB w B (x 2) S.ds from h.own 2 (by decide)) a (by rw [h.wf.ds]; exact ha)
  rw [h.wf.ds] at hv
  exact ⟨g, c, hv, hg, h1, h2, fun u => h.elem 2 (by decide) (by rw [hv]; rfl) hB (h3 u) (fun i hi hne w v hp => by rcases below6 hi with rfl | rfl | rfl | rfl | rfl | rfl <;> first | exact hp | exact absurd rfl hne) rfl ⟨h.wf.ws, h.wf.cs, by rw [List.length_set]; exact h.wf.ds, h.wf.k⟩⟩
theorem Md.n0 {M B r : Nat} {x : Nat → Value} {S : CaS} {ls : List Int} {w0 w : World} (h : Md M B r x S ls w0 w) : w.cell? ⟨r, 6, none⟩ = some (.int .i64 (S.h : Int)) ∧ w.frozen? ⟨r, 6, none⟩ = false ∧ ∀ n : Nat, Md M B r x { S with h := n } ls w0 (w.setCell ⟨r, 6, none⟩ (.int .i64 (n : Int))) := by
  refine ⟨by rw [h.blk.cell 6]; rfl, h.blk.froz 6, fun n => ?_⟩
  have hkp : Keep r w (w.setCell ⟨r, 6, none⟩ (.int .i64 (n : Int))) := keep_set r [_] 6 w
  refine ⟨?_, fun i hi => ?_, h.ne, h.sep, h.hB, ⟨h.wf.ws, h.wf.cs, h.wf.ds, h.wf.k⟩, h.bl.trans (hkp.below h.hB)⟩
  · exact blk_set1 (j := 6) h.blk (.int .i64 (n : Int))
  · have h1 := (h.own i hi).same (w' := w.setCell ⟨r, 6, none⟩ (.int .i64 (n : Int))) fun k hk => hkp.block k (fun e => h.ne i hi (by rw [hk, e]))
    rcases below6 hi with rfl | rfl | rfl | rfl | rfl | rfl <;> exact h1
theorem Md.n1 {M B r : Nat} {x : Nat → Value} {S : CaS} {ls : List Int} {w0 w : World} (h : Md M B r x S ls w0 w) : w.cell? ⟨r, 7, none⟩ = some (.int .i64 (S.m : Int)) ∧ w.frozen? ⟨r, 7, none⟩ = false ∧ ∀ n : Nat, Md M B r x { S with m := n } ls w0 (w.setCell ⟨r, 7, none⟩ (.int .i64 (n : Int))) := by
  refine ⟨by rw [h.blk.cell 7]; rfl, h.blk.froz 7, fun n => ?_⟩
  have hkp : Keep r w (w.setCell ⟨r, 7, none⟩ (.int .i64 (n : Int))) := keep_set r [_] 7 w
  refine ⟨?_, fun i hi => ?_, h.ne, h.sep, h.hB, ⟨h.wf.ws, h.wf.cs, h.wf.ds, h.wf.k⟩, h.bl.trans (hkp.below h.hB)⟩
  · exact blk_set1 (j := 7) h.blk (.int .i64 (n : Int))
  · have h1 := (h.own i hi).same (w' := w.setCell ⟨r, 7, none⟩ (.int .i64 (n : Int))) fun k hk => hkp.block k (fun e => h.ne i hi (by rw [hk, e]))
    rcases below6 hi with rfl | rfl | rfl | rfl | rfl | rfl <;> exact h1
theorem Md.n2 {M B r : Nat} {x : Nat → Value} {S : CaS} {ls : List Int} {w0 w : World} (h : Md M B r x S ls w0 w) : w.cell? ⟨r, 8, none⟩ = some (.int .i64 (S.i : Int)) ∧ w.frozen? ⟨r, 8, none⟩ = false ∧ ∀ n : Nat, Md M B r x { S with i := n } ls w0 (w.setCell ⟨r, 8, none⟩ (.int .i64 (n : Int))) := by
  refine ⟨by rw [h.blk.cell 8]; rfl, h.blk.froz 8, fun n => ?_⟩
  have hkp : Keep r w (w.setCell ⟨r, 8, none⟩ (.int .i64 (n : Int))) := keep_set r [_] 8 w
  refine ⟨?_, fun i hi => ?_, h.ne, h.sep, h.hB, ⟨h.wf.ws, h.wf.cs, h.wf.ds, h.wf.k⟩, h.bl.trans (hkp.below h.hB)⟩
  · exact blk_set1 (j := 8) h.blk (.int .i64 (n : Int))
  · have h1 := (h.own i hi).same (w' := w.setCell ⟨r, 8, none⟩ (.int .i64 (n : Int))) fun k hk => hkp.block k (fun e => h.ne i hi (by rw [hk, e]))
    rcases below6 hi with rfl | rfl | rfl | rfl | rfl | rfl <;> exact h1
theorem Md.n3 {M B r : Nat} {x : Nat → Value} {S : CaS} {ls : List Int} {w0 w : World} (h : Md M B r x S ls w0 w) : w.cell? ⟨r, 9, none⟩ = some (.int .i64 (S.o : Int)) ∧ w.frozen? ⟨r, 9, none⟩ = false ∧ ∀ n : Nat, Md M B r x { S with o := n } ls w0 (w.setCell ⟨r, 9, none⟩ (.int .i64 (n : Int))) := by
  refine ⟨by rw [h.blk.cell 9]; rfl, h.blk.froz 9, fun n => ?_⟩
  have hkp : Keep r w (w.setCell ⟨r, 9, none⟩ (.int .i64 (n : Int))) := keep_set r [_] 9 w
  refine ⟨?_, fun i hi => ?_, h.ne, h.sep, h.hB, ⟨h.wf.ws, h.wf.cs, h.wf.ds, h.wf.k⟩, h.bl.trans (hkp.below h.hB)⟩
  · exact blk_set1 (j := 9) h.blk (.int .i64 (n : Int))
  · have h1 := (h.own i hi).same (w' := w.setCell ⟨r, 9, none⟩ (.int .i64 (n : Int))) fun k hk => hkp.block k (fun e => h.ne i hi (by rw [hk, e]))
    rcases below6 hi with rfl | rfl | rfl | rfl | rfl | rfl <;> exact h1
theorem Md.n4 {M B r : Nat} {x : Nat → Value} {S : CaS} {ls : List Int} {w0 w : World} (h : Md M B r x S ls w0 w) : w.cell? ⟨r, 10, none⟩ = some (.int .i64 (S.f : Int)) ∧ w.frozen? ⟨r, 10, none⟩ = false ∧ ∀ n : Nat, Md M B r x { S with f := n } ls w0 (w.setCell ⟨r, 10, none⟩ (.int .i64 (n : Int))) := by
  refine ⟨by rw [h.blk.cell 10]; rfl, h.blk.froz 10, fun n => ?_⟩
  have hkp : Keep r w (w.setCell ⟨r, 10, none⟩ (.int .i64 (n : Int))) := keep_set r [_] 10 w
  refine ⟨?_, fun i hi => ?_, h.ne, h.sep, h.hB, ⟨h.wf.ws, h.wf.cs, h.wf.ds, h.wf.k⟩, h.bl.trans (hkp.below h.hB)⟩
  · exact blk_set1 (j := 10) h.blk (.int .i64 (n : Int))
  · have h1 := (h.own i hi).same (w' := w.setCell ⟨r, 10, none⟩ (.int .i64 (n : Int))) fun k hk => hkp.block k (fun e => h.ne i hi (by rw [hk, e]))
    rcases below6 hi with rfl | rfl | rfl | rfl | rfl | rfl <;> exact h1
end Go.Proofs.Ytngbddmbmkphcaa.Pv
namespace Go.Proofs.Ytngbddmbmkphcaa.Pv
open Go.RowKit Ac Tr
/-- A line of words out of others, of which some words have been taken. -/
def lineK (ws cs : List Int) (L j : Nat) : List Int := ws.take (L * 4) ++ ((cs.drop (L * 4)).take j ++ ws.drop (L * 4 + j))
theorem lineK_zero (ws cs : List Int) (L : Nat) : lineK ws cs L 0 = ws := by unfold lineK; simp
theorem lineK_end (ws cs : List Int) (L : Nat) : lineK ws cs L 4 = lineTo ws cs L := rfl
theorem lineK_step (ws cs : List Int) (L j : Nat) (h1 : ws.length = 64) (h2 : cs.length = 64) (hL : L < 16) (hj : j < 4) : (lineK ws cs L j).set (L * 4 + j) (cs.getD (L * 4 + j) 0) = lineK ws cs L (j + 1) := by
  have e1 : (ws.take (L * 4)).length = L * 4 := by rw [List.length_take]; omega
  have e2 : ((cs.drop (L * 4)).take j).length = j := by rw [List.length_take, List.length_drop]; omega
  unfold lineK
  rw [List.set_append_right _ _ (by omega), e1, List.set_append_right _ _ (by omega), e2, show L * 4 + j - L * 4 - j = 0 by omega, List.drop_eq_getElem_cons (l := ws) (i := L * 4 + j) (by omega), List.set_cons_zero,
    List.take_succ_eq_append_getElem (by rw [List.length_drop]; omega), List.append_assoc, List.getElem_drop, List.getD_eq_getElem?_getD, List.getElem?_eq_getElem (by omega)]
  rfl
/-- An element of a line that was taken over. -/
theorem lineTo_get (ws cs : List Int) (L a : Nat) (h1 : ws.length = 64) (h2 : cs.length = 64) (hL : L < 16) : (lineTo ws cs L)[a]? = if L * 4 ≤ a ∧ a < L * 4 + 4 then cs[a]? else ws[a]? := by
  unfold lineTo
  have e1 : (ws.take (L * 4)).length = L * 4 := by rw [List.length_take]; omega
  have e2 : ((cs.drop (L * 4)).take 4).length = 4 := by rw [List.length_take, List.length_drop]; omega
  by_cases ha : a < L * 4
  · rw [List.getElem?_append_left (by omega), List.getElem?_take_of_lt ha, if_neg (by omega)]
  · rw [List.getElem?_append_right (by omega), e1]
    by_cases hb : a < L * 4 + 4
    · rw [List.getElem?_append_left (by omega), List.getElem?_take_of_lt (by omega), List.getElem?_drop, if_pos ⟨by omega, hb⟩]
      congr 1; omega
    · rw [List.getElem?_append_right (by omega), e2, List.getElem?_drop, if_neg (by omega)]
      congr 1; omega
theorem lineTo_apart (ws cs us : List Int) (L G : Nat) (h1 : ws.length = 64) (h2 : cs.length = 64) (h3 : us.length = 64) (hL : L < 16) (hG : G < 16) (hne : G ≠ L) : lineTo ws (lineTo cs us L) G = lineTo ws cs G := by
  have h4 := lineTo_len h2 h3 hL
  refine List.ext_getElem? fun a => ?_
  rw [lineTo_get _ _ _ _ h1 h4 hG, lineTo_get _ _ _ _ h1 h2 hG]
  split
  · rw [lineTo_get _ _ _ _ h2 h3 hL, if_neg (by omega)]
  · rfl
def outN (S : CaS) (y : Int) : Nat := if y < 0 then 0 else cleanN S y.toNat
def outS (S : CaS) (y : Int) : CaS := if y < 0 then S else cleanS S y.toNat
theorem outN_le (S : CaS) (y : Int) : outN S y ≤ 4 := by
  unfold outN; split
  · omega
  · exact cleanN_le _ _
theorem outS_k (S : CaS) (y : Int) : (outS S y).k = S.k := by unfold outS; split; rfl; exact cleanS_k _ _
theorem outS_o (S : CaS) (y : Int) : (outS S y).o = S.o := by unfold outS; split; rfl; exact cleanS_o _ _
theorem cleanS_i (S : CaS) (L : Nat) : (cleanS S L).i = S.i := by unfold cleanS; split <;> rfl
theorem outS_i (S : CaS) (y : Int) : (outS S y).i = S.i := by unfold outS; split; rfl; exact cleanS_i _ _
theorem outS_f (S : CaS) (y : Int) : (outS S y).f = S.f := by unfold outS; split; rfl; exact cleanS_f _ _
theorem cleanS_cs (S : CaS) (L : Nat) : (cleanS S L).cs = S.cs := by unfold cleanS; split <;> rfl
theorem outS_cs (S : CaS) (y : Int) : (outS S y).cs = S.cs := by unfold outS; split; rfl; exact cleanS_cs _ _
set_option maxRecDepth 100000 in
set_option maxHeartbeats 4000000 in
theorem out_s {M B r : Nat} {x : Nat → Value} {S : CaS} {ls : List Int} {w0 w : World} (h : Md M B r x S ls w0 w) (y : Int) (hy : -1 ≤ y ∧ y ≤ 15) :
    Calls Try.prog 46 #[.pointer (some ⟨r, 0, none⟩), .int .i64 y] w (fun e w' => e = .returned (.int .i64 (outN S y : Int)) ∧ Md M B r x (outS S y) ls w0 w') := by
  by_cases hneg : y < 0
  · have e1 : outN S y = 0 := if_pos hneg
    have e2 : outS S y = S := if_pos hneg
    rw [e1, e2]
    clear e1 e2
    have HH := Lib.hid h
    have e3 : y = -1 := by omega
    clear h hy hneg
    subst e3
    go_enter Try.func46, Try.ntmps46
    go_wp2
    go_ret
    exact ⟨rfl, HH.out⟩
  · obtain ⟨L, rfl⟩ : ∃ L : Nat, y = (L : Int) := ⟨y.toNat, by omega⟩
    have e1 : outN S (L : Int) = cleanN S L := (if_neg hneg).trans (by rw [Int.toNat_natCast])
    have e2 : outS S (L : Int) = cleanS S L := (if_neg hneg).trans (by rw [Int.toNat_natCast])
    rw [e1, e2]
    have hL : L < 16 := by omega
    clear e1 e2 hneg hy
    obtain ⟨gd, cd, ed, hgd, kd, fd, sd⟩ := h.d L hL
    have h2 := (h.hd 2 (by decide)).1
    rw [ed] at h2
    have hLi : (L : Int) < 16 := by omega
    have HH := Lib.hid h
    cases hr : S.ds.getD L false
    · have e3 : cleanN S L = 0 := if_neg (by rw [hr]; exact Bool.false_ne_true)
      have e4 : cleanS S L = S := if_neg (by rw [hr]; exact Bool.false_ne_true)
      rw [e3, e4]
      rw [hr] at kd
      clear e3 e4 hr sd h
      go_enter Try.func46, Try.ntmps46
      go_wp2
      go_ret
      exact ⟨rfl, HH.out⟩
    · have e3 : cleanN S L = 4 := if_pos hr
      have e4 : cleanS S L = { S with ds := S.ds.set L false, ws := lineTo S.ws S.cs L } := if_pos hr
      rw [e3, e4]
      rw [hr] at kd
      have HLK := Lib.hid (fun j (hj : j < 4) => lineK_step S.ws S.cs L j h.wf.ws h.wf.cs hL hj)
      have HL0 := Lib.hid (lineK_zero S.ws S.cs L)
      have HL4 := Lib.hid (lineK_end S.ws S.cs L)
      have HI0 : Hid (Md M B r x { S with ws := lineK S.ws S.cs L 0 } ls w0 w) := by show Md _ _ _ _ _ _ _ _; rw [lineK_zero]; exact h
      generalize hlk : lineK S.ws S.cs L = LK at *
      generalize lineTo S.ws S.cs L = LT at *
      clear hlk e3 e4 hr sd h HH
      have e5 : ((L : Int) + 1) * 4 = (L : Int) * 4 + 4 := by omega
      have E5 := Lib.hid e5
      clear e5
      go_enter Try.func46, Try.ntmps46
      go_wp2
      go_loopw [5] (fun k wr => ∃ j p : Nat, j ≤ 4 ∧ Hid (p = L * 4 + j) ∧ k = .int .i64 (p : Int) ∧ p ≤ L * 4 + 4 ∧ Hid (Md M B r x { S with ws := LK j } ls w0 wr)) (fun k _ => L * 4 + 4 - (intOf k).toNat)
      case atStart => exact ⟨0, L * 4, by omega, Lib.hid rfl, by go_num, by omega, HI0⟩
      case round =>
        obtain ⟨j, p, hj, hp, rfl, hp4, hI⟩ := hrel
        by_cases hlt : j < 4
        · have hpo := hp.out
          have hlt2 : p < L * 4 + 4 := by omega
          have hp64 : p < 64 := by omega
          have hpi : (p : Int) < ((L : Int) + 1) * 4 := by omega
          have h0 := (hI.out.hd 0 (by decide)).1
          have h1 := (hI.out.hd 1 (by decide)).1
          obtain ⟨gc, cc, ec, hgc, kc, _, _⟩ := hI.out.c p hp64
          obtain ⟨gw, cw, ew, hgw, kw, fw, sw⟩ := hI.out.drew.w p hp64
          rw [ec] at h1
          rw [ew] at h0
          have hs := sw (S.cs.getD p 0)
          have hlk := HLK.out j hlt
          rw [← hpo] at hlk
          have hs2 := Lib.hid (show Md M B r x { S with ws := LK (j + 1) } ls w0 _ by rw [← hlk]; exact hs)
          clear hs sw hlk
          generalize S.cs.getD p 0 = u at *
          generalize (LK j).getD p 0 = u0 at *
          clear hpo
          go_wp2
          go_region
          all_goals
            go_wp2
            go_roundw
            case rel => exact ⟨j + 1, p + 1, by omega, Lib.hid (by have := hp.out; omega), by go_num, by omega, hs2⟩
            case measure => simp [intOf]; omega
        · have e : j = 4 := by omega
          subst e
          have hpo := hp.out
          have hpi : ¬ (p : Int) < ((L : Int) + 1) * 4 := by omega
          have h2' := (hI.out.hd 2 (by decide)).1
          obtain ⟨gd', cd', ed', hgd', kd', fd', sd'⟩ := hI.out.d L hL
          rw [ed'] at h2'
          have hs := Lib.hid (sd' false)
          rw [HL4.out] at hs
          clear sd' hpo
          go_wp2
          go_ret
          exact ⟨rfl, hs.out⟩
end Go.Proofs.Ytngbddmbmkphcaa.Pv
