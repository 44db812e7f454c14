/- A copy of a list of lists of integers that came in. -/
import Derived.Test.YtakjkbjooongkaaCmat
namespace Go.Proofs.Ytakjkbjooongkaa
open Go.RowKit
theorem getD_set_ne {α : Type} (l : List α) (i j : Nat) (u d : α) (h : i ≠ j) : (l.set j u).getD i d = l.getD i d := by
  rw [List.getD_eq_getElem?_getD, List.getElem?_set_ne (fun e => h e.symm), ← List.getD_eq_getElem?_getD]
theorem getD_set_eq {α : Type} (l : List α) (j : Nat) (u d : α) (h : j < l.length) : (l.set j u).getD j d = u := by
  rw [List.getD_eq_getElem?_getD, List.getElem?_set_self h]; rfl
/-- A list of the call's own is put into a place of a list of lists. -/
theorem Own2.stored {w : World} {B g N c j : Nat} {vs : List Value} {yss : List (List Int)} {u : Value} {zs : List Int} (h : Own2 w B (.slice (some ⟨g, 0, none⟩) N c) vs yss) (hN : yss.length = N) (hj : j < N) (hu : Own w B u zs)
    (hfar : ∀ i k, i < yss.length → (vs.getD i s0).ownBlock = some k → u.ownBlock ≠ some k) (hg : u.ownBlock ≠ some g) :
    (∃ old, w.cell? ⟨g, j, none⟩ = some old) ∧ w.frozen? ⟨g, j, none⟩ = false ∧ Own2 (w.setCell ⟨g, j, none⟩ u) B (.slice (some ⟨g, 0, none⟩) N c) (vs.set j u) (yss.set j zs) := by
  obtain ⟨hl, h0, h1, h2, h3⟩ := h
  have h0' : w.ownsRow B 24 1 (.slice (some ⟨g, 0, none⟩) N c) N vs := by rw [hl, hN] at h0; exact h0
  obtain ⟨s1, s2⟩ := World.ownsRow.stored h0' j u
  have hk : ∀ (y : Value) (ys : List Int), Own w B y ys → y.ownBlock ≠ some g → Own (w.setCell ⟨g, j, none⟩ u) B y ys := fun y ys hy hne => hy.kept s2 fun k hk e => hne (by rw [hk, e])
  refine ⟨⟨_, by rw [World.ownsRow.cellAt h0' j (by omega), List.getElem?_eq_getElem (by omega)]⟩, World.ownsRow.frozenAt h0' j, by rw [List.length_set, List.length_set]; exact hl, by rw [List.length_set, hl, hN]; exact s1, fun i hi => ?_, fun i i' k hii hi' hk' => ?_, fun i k hi hk' => ?_⟩
  · rw [List.length_set] at hi
    by_cases e : i = j
    · subst e
      rw [getD_set_eq _ _ _ _ (by omega), getD_set_eq _ _ _ _ hi]
      exact hk _ _ hu hg
    · rw [getD_set_ne _ _ _ _ _ e, getD_set_ne _ _ _ _ _ e]
      exact hk _ _ (h1 i hi) (fun e => h3 i g hi e rfl)
  · rw [List.length_set] at hi'
    by_cases e : i = j
    · subst e
      rw [getD_set_eq _ _ _ _ (by omega)] at hk'
      rw [getD_set_ne _ _ _ _ _ (by omega)]
      exact fun e => hfar i' k hi' e hk'
    · rw [getD_set_ne _ _ _ _ _ e] at hk'
      by_cases e' : i' = j
      · subst e'
        rw [getD_set_eq _ _ _ _ (by omega)]
        exact hfar i k (by omega) hk'
      · rw [getD_set_ne _ _ _ _ _ e']
        exact h2 i i' k hii hi' hk'
  · rw [List.length_set] at hi
    by_cases e : i = j
    · subst e
      rw [getD_set_eq _ _ _ _ (by omega)] at hk'
      exact fun e => hg (by injection e with e; rw [hk', ← e])
    · rw [getD_set_ne _ _ _ _ _ e] at hk'
      exact h3 i k hi hk'
def tkM (xss : List (List Int)) (n j : Nat) : List (List Int) := xss.take j ++ List.replicate (n - j) []
theorem tkM_length (xss : List (List Int)) (n j : Nat) (hj : j ≤ n) (hn : n = xss.length) : (tkM xss n j).length = n := by simp [tkM]; omega
theorem tkM_step (xss : List (List Int)) (n j : Nat) (hj : j < n) (hn : n = xss.length) : (tkM xss n j).set j (xss.getD j []) = tkM xss n (j + 1) := by
  have hl : (xss.take j).length = j := by simp; omega
  unfold tkM
  rw [List.set_append_right _ _ (by omega), hl, Nat.sub_self, show n - j = (n - (j + 1)) + 1 by omega, List.replicate_succ, List.set_cons_zero,
    List.take_succ_eq_append_getElem (by omega), List.append_assoc, List.getD_eq_getElem?_getD, List.getElem?_eq_getElem (by omega)]
  rfl
theorem infoLL : (Try.prog.info? 24).map (fun i => (i.zero, i.size, i.bytes)) = some (some (.slice none 0 0), 1, 24) := by kernel_rfl
theorem Own2.fresh {w : World} {B g N : Nat} (h : w.ownsRow B 24 1 (.slice (some ⟨g, 0, none⟩) N N) N (List.replicate N s0)) : Own2 w B (.slice (some ⟨g, 0, none⟩) N N) (List.replicate N s0) (List.replicate N []) := by
  have hs : ∀ i, (List.replicate N s0).getD i s0 = s0 := fun i => by
    by_cases hi : i < N
    · rw [List.getD_eq_getElem?_getD, List.getElem?_replicate, if_pos hi]; rfl
    · rw [List.getD_eq_getElem?_getD, List.getElem?_replicate, if_neg hi]; rfl
  have hx : ∀ i, (List.replicate N ([] : List Int)).getD i [] = [] := fun i => by
    by_cases hi : i < N
    · rw [List.getD_eq_getElem?_getD, List.getElem?_replicate, if_pos hi]; rfl
    · rw [List.getD_eq_getElem?_getD, List.getElem?_replicate, if_neg hi]; rfl
  refine ⟨by simp, by simpa using h, fun i hi => ?_, fun i j k _ _ hk => ?_, fun i k _ hk => ?_⟩
  · rw [hs, hx]; exact Own.nil w B
  · rw [hs] at hk; cases hk
  · rw [hs] at hk; cases hk
def CopiedM (xss : List (List Int)) (w : World) (e : Ending) (w' : World) : Prop := ∃ v vs, e = .returned v ∧ Own2 w' w.heap.size v vs xss ∧ Below w.heap.size w w'
theorem CopyM_next {Z N j : Nat} {xss : List (List Int)} {wr w1 : World} {vs : List Value} {u : Value} {c : Nat} (h : Own2 wr Z (.slice (some ⟨Z, 0, none⟩) N c) vs (tkM xss N j)) (hN : N = xss.length) (hj : j < N) (hZ : Z < wr.heap.size) (bb : Below wr.heap.size wr w1) (hu : Own w1 wr.heap.size u (xss.getD j [])) :
    (∃ old, w1.cell? ⟨Z, j, none⟩ = some old) ∧ w1.frozen? ⟨Z, j, none⟩ = false ∧ Own2 (w1.setCell ⟨Z, j, none⟩ u) Z (.slice (some ⟨Z, 0, none⟩) N c) (vs.set j u) (tkM xss N (j + 1)) := by
  have h1 := Own2.below h bb (Nat.le_refl _)
  have hh := Own2.stored (u := u) (zs := xss.getD j []) h1 (tkM_length xss N j (by omega) hN) hj (hu.mono (by omega)) (fun i k hi hk e => by
    have a1 := ((h.2.2.1 i hi).block k hk).2
    have a2 := (hu.block k e).1
    omega) (fun e => by have a2 := (hu.block Z e).1; omega)
  rw [tkM_step xss N j hj hN] at hh
  exact hh
set_option maxHeartbeats 2000000 in
theorem toM_any (a : Option Addr) (cap : Nat) (xss : List (List Int)) (w : World) (h : IsMatL w a xss) (hn : xss.length + (lens xss).sum ≤ 1048576) :
    Calls Try.prog 23 #[.slice a xss.length cap] w (CopiedM xss w) := by
  have HH := Lib.hid (fun (w' : World) (hb : Below w.heap.size w w') => (h.below hb).2)
  have HLT := Lib.hid (fun j (hj : j < xss.length) => (show (xss.getD j []).length ≤ 1048576 by
    have h1 := sum_step (lens xss) j (by rw [lens_length]; exact hj)
    have h2 := sum_take_le (lens xss) (j + 1)
    rw [lens_get xss j hj] at h1
    omega))
  have hN1 : xss.length ≤ 1048576 := by omega
  clear h hn
  obtain ⟨i0, hi, hz0, hz1, hz2⟩ := info_parts infoLL
  have HNX := Lib.hid (fun (Z j c : Nat) (wr w1 : World) (vs : List Value) (u : Value) (h : Own2 wr Z (.slice (some ⟨Z, 0, none⟩) xss.length c) vs (tkM xss xss.length j)) (hj : j < xss.length) (hZ : Z < wr.heap.size) (bb : Below wr.heap.size wr w1) (hu : Own w1 wr.heap.size u (xss.getD j [])) => CopyM_next h rfl hj hZ bb hu)
  have HEND : Hid (tkM xss xss.length xss.length = xss) := by show _ = _; simp [tkM]
  have H0 : Hid (List.replicate xss.length [] = tkM xss xss.length 0) := by show _ = _; simp [tkM]
  generalize hN : xss.length = n at *
  clear hN
  go_enter Try.func23, Try.ntmps23
  go_wp2_with (at_make; refine wpList_make_full _ rfl _ _ 23 rfl w.heap.size 24 i0 (.slice none 0 0) 1 Try.underlying23 hi hz0 hz1 .i64 .i64 (n : Int) (n : Int) n ?_ ?_ rfl rfl ?_ ?_ ?_ ?_; rfl; rfl)
  · rw [hz2]; omega
  · unfold maxLen; omega
  · exact Nat.le_refl _
  intro w1 hown hgr
  have hr := Lib.hid (show Own2 w1 w.heap.size (.slice (some ⟨w.heap.size, 0, none⟩) n n) (List.replicate n s0) (tkM xss n 0) by
    have h3 : w1.ownsRow w.heap.size 24 1 (.slice (some ⟨w.heap.size, 0, none⟩) n n) n (madeCells #[Value.slice none 0 0] n).toList := by simpa using hown
    rw [toList_madeCells_one] at h3
    rw [← H0.out]
    exact Own2.fresh h3)
  have hb0 := Lib.hid ((Below.refl w.heap.size w).grown hgr (Nat.le_refl _) (by simp))
  have hZ1 := Lib.hid (show w.heap.size < w1.heap.size from (World.ownsRow.lt hr.out.2.1 w.heap.size rfl).2)
  clear hown hgr
  go_wp2
  go_loopw [4] (fun i wr => ∃ (j : Nat) (vs : List Value), j ≤ n ∧ i = .int .i64 (j : Nat) ∧ Hid (Own2 wr w.heap.size (.slice (some ⟨w.heap.size, 0, none⟩) n n) vs (tkM xss n j)) ∧ Hid (Below w.heap.size w wr) ∧ Hid (w.heap.size < wr.heap.size)) (fun i _ => n - (intOf i).toNat)
  case atStart => exact ⟨0, _, Nat.zero_le _, rfl, hr, hb0, hZ1⟩
  case round =>
    obtain ⟨j, vs, hj, rfl, hO, hb, hZ⟩ := hrel
    by_cases hlt : j < n
    · obtain ⟨b, off, A, C, zs, rfl, hc, hrow, hzs⟩ := HH.out wr hb.out j hlt
      have HT := Lib.hid (to_any A _ C zs wr hrow (HLT.out j hlt))
      rw [hzs] at HT
      have HN := Lib.hid (fun w1 u bb hu => HNX.out w.heap.size j n wr w1 vs u hO.out hlt hZ.out bb hu)
      clear hzs hrow
      generalize xss.getD j [] = xs at *
      go_wp2_with fail
      refine HT.out.mono ?_
      rintro e w2 ⟨u, rfl, hu, bb⟩
      obtain ⟨au, cu, eu⟩ := hu.rd
      obtain ⟨eu, _, _, _⟩ := eu
      subst eu
      obtain ⟨⟨old, h1⟩, h2, h3⟩ := HN.out w2 _ bb hu
      have H3 := Lib.hid h3
      have HB := Lib.hid ((hb.out.trans (bb.mono (Nat.le_of_lt hZ.out))).setCell (p := ⟨w.heap.size, j, none⟩) (Nat.le_refl _) (.slice au xs.length cu))
      have HZ2 := Lib.hid (show w.heap.size < (w2.setCell ⟨w.heap.size, j, none⟩ (.slice au xs.length cu)).heap.size by have := hZ.out; have := bb.size; simp [World.setCell]; omega)
      clear h3 hu bb
      go_wp2
      go_roundw
      case rel => exact ⟨j + 1, _, by omega, by go_num, H3, HB, HZ2⟩
      case measure => simp [intOf]; omega
    · have e : j = n := by omega
      subst e
      have hE := hO.out
      rw [HEND.out] at hE
      have HE := Lib.hid hE
      clear hE
      go_wp2
      go_ret
      exact ⟨_, vs, rfl, HE.out, hb.out⟩
end Go.Proofs.Ytakjkbjooongkaa
