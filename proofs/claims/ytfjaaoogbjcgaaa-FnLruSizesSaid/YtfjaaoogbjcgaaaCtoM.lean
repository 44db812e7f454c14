/- A copy of a list of lists of integers that came in. -/
import Derived.Test.YtfjaaoogbjcgaaaCmat
namespace Go.Proofs.Ytfjaaoogbjcgaaa
open Go.RowKit
theorem getD_set_ne {α : Type} (l : List α) (i j : Nat) (u d : α) (h : i ≠ j) : (l.set j u).getD i d = l.getD i d := by
  rw [List.getD_eq_getElem?_getD, List.getElem?_set_ne (fun e => h e.symm), ← List.getD_eq_getElem?_getD]
theorem getD_set_eq {α : Type} (l : List α) (j : Nat) (u d : α) (h : j < l.length) : (l.set j u).getD j d = u := by
  rw [List.getD_eq_getElem?_getD, List.getElem?_set_self h]; rfl
/-- A list of the call's own is put into a place of a list of lists. -/
theorem Own2.stored {w : World} {B g N c j : Nat} {vs : List Value} {yss : List (List Int)} {u : Value} {zs : List Int} (h : Own2 w B (.slice (some ⟨g, 0, none⟩) N c) vs yss) (hN : yss.length = N) (hj : j < N) (hu : Own w B u zs)
    (hfar : ∀ i k, i < yss.length → (vs.getD i s0).ownBlock = some k → u.ownBlock ≠ some k) (hg : u.ownBlock ≠ some g) :
    (∃ old, w.cell? ⟨g, j, none⟩ = some old) ∧ w.frozen? ⟨g, j, none⟩ = false ∧ Own2 (w.setCell ⟨g, j, none⟩ u) B (.slice (some ⟨g, 0, none⟩) N c) (vs.set j u) (yss.set j zs) := by
  obtain ⟨hl, h0, h1, h2, h3⟩ := h
  have h0' : w.ownsRow B 24 1 (.slice (some ⟨g, 0, none⟩) N c) N vs := by rw [hl, hN] at h0; exact h0
  obtain ⟨s1, s2⟩ := World.ownsRow.stored h0' j u
  have hk : ∀ (y : Value) (ys : List Int), Own w B y ys → y.ownBlock ≠ some g → Own (w.setCell ⟨g, j, none⟩ u) B y ys := fun y ys hy hne => hy.kept s2 fun k hk e => hne (by rw [hk, e])
  refine ⟨⟨_, by rw [World.ownsRow.cellAt h0' j (by omega), List.getElem?_eq_getElem (by omega)]⟩, World.ownsRow.frozenAt h0' j, by rw [List.length_set, List.length_set]; exact hl, by rw [List.length_set, hl, hN]; exact s1, fun i hi => ?_, fun i i' k hii hi' hk' => ?_, fun i k hi hk' => ?_⟩
  · rw [List.length_set] at hi
    by_cases e : i = j
    · subst e
      rw [getD_set_eq _ _ _ _ (by omega), getD_set_eq _ _ _ _ hi]
      exact hk _ _ hu hg
    · rw [getD_set_ne _ _ _ _ _ e, getD_set_ne _ _ _ _ _ e]
      exact hk _ _ (h1 i hi) (fun e => h3 i g hi e rfl)
  · rw [List.length_set] at hi'
    by_cases e : i = j
    · subst e
      rw [getD_set_eq _ _ _ _ (by omega)] at hk'
      rw [getD_set_ne _ _ _ _ _ (by omega)]
      exact fun e => hfar i' k hi' e hk'
    · rw [getD_set_ne _ _ _ _ _ e] at hk'
      by_cases e' : i' = j
      · subst e'
        rw [getD_set_eq _ _ _ _ (by omega)]
        exact hfar i k (by omega) hk'
      · rw [getD_set_ne _ _ _ _ _ e']
        exact h2 i i' k hii hi' hk'
  · rw [List.length_set] at hi
    by_cases e : i = j
    · subst e
      rw [getD_set_eq _ _ _ _ (by omega)] at hk'
      exact fun e => hg (by injection e with e; rw [hk', ← e])
    · rw [getD_set_ne _ _ _ _ _ e] at hk'
      exact h3 i k hi hk'
def tkM (xss : List (List Int)) (n j : Nat) : List (List Int) := xss.take j ++ List.replicate (n - j) []
theorem tkM_length (xss : List (List Int)) (n j : Nat) (hj : j ≤ n) (hn : n = xss.length) : (tkM xss n j).length = n := by simp [tkM]; omega
theorem tkM_step (xss : List (List Int)) (n j : Nat) (hj : j < n) (hn : n = xss.length) : (tkM xss n j).set j (xss.getD j []) = tkM xss n (j + 1) := by
  have hl : (xss.take j).length = j := by simp; omega
  unfold tkM
  rw [List.set_append_right _ _ (by omega), hl, Nat.sub_self, show n - j = (n - (j + 1)) + 1 by omega, List.replicate_succ, List.set_cons_zero,
    List.take_succ_eq_append_getElem (by omega), List.append_assoc, List.getD_eq_getElem?_getD, List.getElem?_eq_getElem (by omega)]
  rfl
theorem infoLL : (Try.prog.info? 24).map (fun i => (i.zero, i.size, i.bytes)) = some (some (.slice none 0 0), 1, 24) := by kernel_rfl
theorem Own2.fresh {w : World} {B g N : Nat} (h : w.ownsRow B 24 1 (.slice (some ⟨g, 0, none⟩) N N) N (List.replicate N s0)) : Own2 w B (.slice (some ⟨g, 0, none⟩) N N) (List.replicate N s0) (List.replicate N []) := by
  have hs : ∀ i, (List.replicate N s0).getD i s0 = s0 := fun i => by
    by_cases hi : i < N
    · rw [List.getD_eq_getElem?_getD, List.getElem?_replicate, if_pos hi]; rfl
    · rw [List.getD_eq_getElem?_getD, List.getElem?_replicate, if_neg hi]; rfl
  have hx : ∀ i, (List.replicate N ([] : List Int)).getD i [] = [] := fun i => by
    by_cases hi : i < N
    · rw [List.getD_eq_getElem?_getD, List.getElem?_replicate, if_pos hi]; rfl
    · rw [List.getD_eq_getElem?_getD, List.getElem?_replicate, if_neg hi]; rfl
  refine ⟨by simp, by simpa using h, fun i hi => ?_, fun i j k _ _ hk => ?_, fun i k _ hk => ?_⟩
  · rw [hs, hx]; exact Own.nil w B
  · rw [hs] at hk; cases hk
  · rw [hs] at hk; cases hk
def CopiedM (xss : List (List Int)) (w : World) (e : Ending) (w' : World) : Prop := ∃ v vs, e = .returned v ∧ Own2 w' w.heap.size v vs xss ∧ Below w.heap.size w w'
theorem CopyM_next {Z N j : Nat} {xss : List (List Int)} {wr w1 : World} {vs : List Value} {u : Value} {c : Nat} (h : Own2 wr Z (.slice (some ⟨Z, 0, none⟩) N c) vs (tkM xss N j)) (hN : N = xss.length) (hj : j < N) (hZ : Z < wr.heap.size) (bb : Below wr.heap.size wr w1) (hu : Own w1 wr.heap.size u (xss.getD j [])) :
    (∃ old, w1.cell? ⟨Z, j, none⟩ = some old) ∧ w1.frozen? ⟨Z, j, none⟩ = false ∧ Own2 (w1.setCell ⟨Z, j, none⟩ u) Z (.slice (some ⟨Z, 0, none⟩) N c) (vs.set j u) (tkM xss N (j + 1)) := by
  have h1 := Own2.below h bb (Nat.le_refl _)
  have hh := Own2.stored (u := u) (zs := xss.getD j []) h1 (tkM_length xss N j (by omega) hN) hj (hu.mono (by omega)) (fun i k hi hk e => by
    have a1 := ((h.2.2.1 i hi).block k hk).2
    have a2 := (hu.block k e).1
    omega) (fun e => by have a2 := (hu.block Z e).1; omega)
  rw [tkM_step xss N j hj hN] at hh
  exact hh
end Go.Proofs.Ytfjaaoogbjcgaaa
