/- Tables: rows of rows of entries: what is read, what the call owns, the law's size, copy and comparison. -/
import Derived.Test.YtmmjdmgnmlhjeaaCstp
import Derived.Test.YtmmjdmgnmlhjeaaCheld2
namespace Go.Proofs.Ytmmjdmgnmlhjeaa.Sq
open Go.RowKit
/-- Rows of entries that are read, wherever they lie. -/
def RdT (w : World) (a : Option Addr) (xss : List (List R)) : Prop :=
  xss.length ≤ 9223372036854775807 ∧ ∀ i, i < xss.length → ∃ b off A C, a = some ⟨b, off, none⟩ ∧ w.cell? ⟨b, off + i, none⟩ = some (.slice A (xss.getD i []).length C) ∧ RdR w A (xss.getD i []) ∧ (xss.getD i []).length ≤ 9223372036854775807 ∧ b < w.heap.size
theorem RdT.below {w w' : World} {a : Option Addr} {xss : List (List R)} (h : RdT w a xss) (hb : Below w.heap.size w w') : RdT w' a xss :=
  ⟨h.1, fun i hi => by
    obtain ⟨b, off, A, C, h1, h2, h3, h4, h5⟩ := h.2 i hi
    exact ⟨b, off, A, C, h1, (hb.cell (p := ⟨b, off + i, none⟩) h5).trans h2, h3.below hb, h4, Nat.lt_of_lt_of_le h5 hb.size⟩⟩
def lensT (xss : List (List R)) : List Nat := xss.map List.length
theorem lensT_length (xss : List (List R)) : (lensT xss).length = xss.length := by simp [lensT]
theorem lensT_get (xss : List (List R)) (j : Nat) (h : j < xss.length) : (lensT xss).getD j 0 = (xss.getD j []).length := by
  unfold lensT
  rw [List.getD_eq_getElem?_getD, List.getElem?_map, List.getElem?_eq_getElem h, List.getD_eq_getElem?_getD, List.getElem?_eq_getElem h]; rfl
set_option maxHeartbeats 2000000 in
theorem szT_yes (a : Option Addr) (cap : Nat) (xss : List (List R)) (left : Int) (w : World) (hm : RdT w a xss) (hl : left ≤ 1048576) (h : (xss.length : Int) + ((lensT xss).sum : Nat) ≤ left) :
    Calls Try.prog 28 #[.slice a xss.length cap, .int .i64 left] w (Count (left - xss.length - ((lensT xss).sum : Nat)) w) := by
  have HC := Lib.hid hm.2
  have HS := Lib.hid (fun j (hj : j < xss.length) => sum_step (lensT xss) j (by rw [lensT_length]; exact hj))
  have HG := Lib.hid (fun j (hj : j < xss.length) => lensT_get xss j hj)
  have HT := Lib.hid (fun j => sum_take_le (lensT xss) j)
  have HE := Lib.hid (show ((lensT xss).take xss.length).sum = (lensT xss).sum by rw [List.take_of_length_le (by rw [lensT_length]; exact Nat.le_refl _)])
  clear hm
  generalize (lensT xss).sum = T at *
  generalize hN : xss.length = N at *
  clear hN
  have h0 : ¬ (left - (N : Int)) < 0 := by omega
  go_enter Try.func28, Try.ntmps28
  go_wp2
  go_loop [1, 5] (fun m i => ∃ j r : Nat, j ≤ N ∧ i = .int .i64 (j : Nat) ∧ m = .int .i64 (left - (N : Int) - (r : Nat)) ∧ r ≤ T ∧ Hid (r = ((lensT xss).take j).sum)) (fun _ i => N - (intOf i).toNat)
  case atStart => exact ⟨0, 0, Nat.zero_le _, rfl, by simp, Nat.zero_le _, Lib.hid (by simp)⟩
  case round =>
    obtain ⟨j, r, hj, rfl, rfl, hrT, hr⟩ := hrel
    by_cases hlt : j < N
    · obtain ⟨b, off, A, C, rfl, hc, _, _⟩ := HC.out j hlt
      have hs := HS.out j hlt
      have hg := HG.out j hlt
      have ht := HT.out (j + 1)
      rw [← hr.out, hg] at hs
      rw [hs] at ht
      have HR := Lib.hid hs.symm
      clear hs hg
      generalize (xss.getD j []).length = d at *
      have HZ := Lib.hid (sz_yes A d C (left - (N : Int) - (r : Nat)) w (by omega) (by omega))
      have hneg : ¬ (left - (N : Int) - (r : Nat) - (d : Nat)) < 0 := by omega
      go_wp2_with (go_at_call 58; refine HZ.out.mono ?_; rintro e w' ⟨rfl, rfl⟩)
      go_round
      case rel => exact ⟨j + 1, r + d, by omega, by go_num, by go_num, ht, HR⟩
      case measure => simp [intOf]; omega
    · have e : j = N := by omega
      subst e
      have hrE : r = T := by rw [hr.out, HE.out]
      subst hrE
      go_wp2
      go_ret
      exact ⟨rfl, rfl⟩
set_option maxHeartbeats 2000000 in
theorem szT_no (a : Option Addr) (cap : Nat) (xss : List (List R)) (left : Int) (w : World) (hm : RdT w a xss) (hl0 : 0 ≤ left) (hl : left ≤ 1048576) (h : left < (xss.length : Int) + ((lensT xss).sum : Nat)) :
    Calls Try.prog 28 #[.slice a xss.length cap, .int .i64 left] w (Count (-1) w) := by
  have HC := Lib.hid hm.2
  have hNm := hm.1
  have HS := Lib.hid (fun j (hj : j < xss.length) => sum_step (lensT xss) j (by rw [lensT_length]; exact hj))
  have HG := Lib.hid (fun j (hj : j < xss.length) => lensT_get xss j hj)
  have HE := Lib.hid (show ((lensT xss).take xss.length).sum = (lensT xss).sum by rw [List.take_of_length_le (by rw [lensT_length]; exact Nat.le_refl _)])
  clear hm
  generalize (lensT xss).sum = T at *
  generalize hN : xss.length = N at *
  clear hN
  by_cases h0 : (left - (N : Int)) < 0
  · go_enter Try.func28, Try.ntmps28
    go_wp2
    go_ret
    exact ⟨rfl, rfl⟩
  go_enter Try.func28, Try.ntmps28
  go_wp2
  go_loop [1, 5] (fun m i => ∃ j r : Nat, j ≤ N ∧ i = .int .i64 (j : Nat) ∧ m = .int .i64 (left - (N : Int) - (r : Nat)) ∧ ((N : Int) + (r : Nat) ≤ left) ∧ Hid (r = ((lensT xss).take j).sum)) (fun _ i => N - (intOf i).toNat)
  case atStart => exact ⟨0, 0, Nat.zero_le _, rfl, by simp, by omega, Lib.hid (by simp)⟩
  case round =>
    obtain ⟨j, r, hj, rfl, rfl, hrT, hr⟩ := hrel
    by_cases hlt : j < N
    · obtain ⟨b, off, A, C, rfl, hc, _, hdm, _⟩ := HC.out j hlt
      have hs := HS.out j hlt
      have hg := HG.out j hlt
      rw [← hr.out, hg] at hs
      have HR := Lib.hid hs.symm
      clear hs hg
      generalize (xss.getD j []).length = d at *
      by_cases hd : (d : Int) ≤ left - (N : Int) - (r : Nat)
      · have HZ := Lib.hid (sz_yes A d C (left - (N : Int) - (r : Nat)) w hd (by omega))
        have hneg : ¬ (left - (N : Int) - (r : Nat) - (d : Nat)) < 0 := by omega
        go_wp2_with (go_at_call 58; refine HZ.out.mono ?_; rintro e w' ⟨rfl, rfl⟩)
        go_round
        case rel => exact ⟨j + 1, r + d, by omega, by go_num, by go_num, by omega, HR⟩
        case measure => simp [intOf]; omega
      · have HZ := Lib.hid (sz_no A d C (left - (N : Int) - (r : Nat)) w (by omega) (by omega) (by omega) hdm)
        clear hd
        go_wp2_with (go_at_call 58; refine HZ.out.mono ?_; rintro e w' ⟨rfl, rfl⟩)
        go_ret
        exact ⟨rfl, rfl⟩
    · have e : j = N := by omega
      subst e
      have hrE : r = T := by rw [hr.out, HE.out]
      omega
/-- A list of lists of the call's own: the row holds slices, each of the call's own, each in a block of its own. -/
def Own2E (w : World) (B : Nat) (v : Value) (vs : List Value) (xss : List (List R)) : Prop :=
  vs.length = xss.length ∧ w.ownsRow B 93 1 v vs.length vs ∧ (∀ i, i < xss.length → OwnR w B (vs.getD i s0) (xss.getD i [])) ∧
    (∀ i j k, i < j → j < xss.length → (vs.getD i s0).ownBlock = some k → (vs.getD j s0).ownBlock ≠ some k) ∧ ∀ i k, i < xss.length → (vs.getD i s0).ownBlock = some k → v.ownBlock ≠ some k
theorem Own2E.nil (w : World) (B : Nat) : Own2E w B (.slice none 0 0) [] [] := ⟨rfl, World.ownsRow_nil _ _ _ _, fun i h => by simp at h, fun i j k _ h => by simp at h, fun i k h => by simp at h⟩
theorem Own2E.cases {w : World} {B : Nat} {v : Value} {vs : List Value} {xss : List (List R)} (h : Own2E w B v vs xss) :
    (v = .slice none 0 0 ∧ xss = []) ∨ ∃ g cap, v = .slice (some ⟨g, 0, none⟩) xss.length cap ∧ B ≤ g ∧ g < w.heap.size ∧ xss.length ≤ 9223372036854775807 ∧
      (∀ i, i < xss.length → w.cell? ⟨g, i, none⟩ = some (vs.getD i s0)) ∧ ∀ i, w.frozen? ⟨g, i, none⟩ = false := by
  obtain ⟨hl, h0, _⟩ := h
  rcases h0.2 with ⟨rfl, hn⟩ | ⟨g, cap, cur, rfl, hB, hg, hnc, hcm, hcs, htake⟩
  · exact .inl ⟨rfl, List.eq_nil_of_length_eq_zero (by omega)⟩
  · refine .inr ⟨g, cap, by rw [hl], hB, (Array.getElem?_eq_some_iff.1 hg).1, by unfold maxLen at hcm; omega, fun i hi => ?_, fun i => h0.frozenAt i⟩
    rw [h0.cellAt i (by omega), List.getElem?_eq_getElem (by omega), List.getD_eq_getElem?_getD, List.getElem?_eq_getElem (by omega)]
    rfl
theorem Own2E.below {w w' : World} {B : Nat} {v : Value} {vs : List Value} {xss : List (List R)} (h : Own2E w B v vs xss) {C : Nat} (hb : Below C w w') (hC : w.heap.size ≤ C) : Own2E w' B v vs xss := by
  obtain ⟨hl, h0, h1, h2⟩ := h
  refine ⟨hl, ?_, fun i hi => (h1 i hi).below hb hC, h2⟩
  refine ⟨h0.1, ?_⟩
  rcases h0.2 with hn | ⟨g, cap, cur, hv, hg, hh, r⟩
  · exact .inl hn
  · exact .inr ⟨g, cap, cur, hv, hg, by rw [hb.block g (Nat.lt_of_lt_of_le (Array.getElem?_eq_some_iff.1 hh).1 hC)]; exact hh, r⟩
theorem Own2E.drewN {w : World} {B : Nat} {v : Value} {vs : List Value} {xss : List (List R)} (h : Own2E w B v vs xss) (k : Nat) : Own2E (w.drewN k) B v vs xss := h
theorem getD_set_ne {α : Type} (l : List α) (i j : Nat) (u d : α) (h : i ≠ j) : (l.set j u).getD i d = l.getD i d := by
  rw [List.getD_eq_getElem?_getD, List.getElem?_set_ne (fun e => h e.symm), ← List.getD_eq_getElem?_getD]
theorem getD_set_eq {α : Type} (l : List α) (j : Nat) (u d : α) (h : j < l.length) : (l.set j u).getD j d = u := by
  rw [List.getD_eq_getElem?_getD, List.getElem?_set_self h]; rfl
/-- A list of the call's own is put into a place of a list of lists. -/
theorem Own2E.stored {w : World} {B g N c j : Nat} {vs : List Value} {yss : List (List R)} {u : Value} {zs : List R} (h : Own2E w B (.slice (some ⟨g, 0, none⟩) N c) vs yss) (hN : yss.length = N) (hj : j < N) (hu : OwnR w B u zs)
    (hfar : ∀ i k, i < yss.length → (vs.getD i s0).ownBlock = some k → u.ownBlock ≠ some k) (hg : u.ownBlock ≠ some g) :
    (∃ old, w.cell? ⟨g, j, none⟩ = some old) ∧ w.frozen? ⟨g, j, none⟩ = false ∧ Own2E (w.setCell ⟨g, j, none⟩ u) B (.slice (some ⟨g, 0, none⟩) N c) (vs.set j u) (yss.set j zs) := by
  obtain ⟨hl, h0, h1, h2, h3⟩ := h
  have h0' : w.ownsRow B 93 1 (.slice (some ⟨g, 0, none⟩) N c) N vs := by rw [hl, hN] at h0; exact h0
  obtain ⟨s1, s2⟩ := World.ownsRow.stored h0' j u
  have hk : ∀ (y : Value) (ys : List R), OwnR w B y ys → y.ownBlock ≠ some g → OwnR (w.setCell ⟨g, j, none⟩ u) B y ys := fun y ys hy hne => hy.kept s2 fun k hk e => hne (by rw [hk, e])
  refine ⟨⟨_, by rw [World.ownsRow.cellAt h0' j (by omega), List.getElem?_eq_getElem (by omega)]⟩, World.ownsRow.frozenAt h0' j, by rw [List.length_set, List.length_set]; exact hl, by rw [List.length_set, hl, hN]; exact s1, fun i hi => ?_, fun i i' k hii hi' hk' => ?_, fun i k hi hk' => ?_⟩
  · rw [List.length_set] at hi
    by_cases e : i = j
    · subst e
      rw [getD_set_eq _ _ _ _ (by omega), getD_set_eq _ _ _ _ hi]
      exact hk _ _ hu hg
    · rw [getD_set_ne _ _ _ _ _ e, getD_set_ne _ _ _ _ _ e]
      exact hk _ _ (h1 i hi) (fun e => h3 i g hi e rfl)
  · rw [List.length_set] at hi'
    by_cases e : i = j
    · subst e
      rw [getD_set_eq _ _ _ _ (by omega)] at hk'
      rw [getD_set_ne _ _ _ _ _ (by omega)]
      exact fun e => hfar i' k hi' e hk'
    · rw [getD_set_ne _ _ _ _ _ e] at hk'
      by_cases e' : i' = j
      · subst e'
        rw [getD_set_eq _ _ _ _ (by omega)]
        exact hfar i k (by omega) hk'
      · rw [getD_set_ne _ _ _ _ _ e']
        exact h2 i i' k hii hi' hk'
  · rw [List.length_set] at hi
    by_cases e : i = j
    · subst e
      rw [getD_set_eq _ _ _ _ (by omega)] at hk'
      exact fun e => hg (by injection e with e; rw [hk', ← e])
    · rw [getD_set_ne _ _ _ _ _ e] at hk'
      exact h3 i k hi hk'
def tkT (xss : List (List R)) (n j : Nat) : List (List R) := xss.take j ++ List.replicate (n - j) []
theorem tkT_length (xss : List (List R)) (n j : Nat) (hj : j ≤ n) (hn : n = xss.length) : (tkT xss n j).length = n := by simp [tkT]; omega
theorem tkT_step (xss : List (List R)) (n j : Nat) (hj : j < n) (hn : n = xss.length) : (tkT xss n j).set j (xss.getD j []) = tkT xss n (j + 1) := by
  have hl : (xss.take j).length = j := by simp; omega
  unfold tkT
  rw [List.set_append_right _ _ (by omega), hl, Nat.sub_self, show n - j = (n - (j + 1)) + 1 by omega, List.replicate_succ, List.set_cons_zero,
    List.take_succ_eq_append_getElem (by omega), List.append_assoc, List.getD_eq_getElem?_getD, List.getElem?_eq_getElem (by omega)]
  rfl
theorem infoT : (Try.prog.info? 93).map (fun i => (i.zero, i.size, i.bytes)) = some (some (.slice none 0 0), 1, 24) := by kernel_rfl
theorem Own2E.fresh {w : World} {B g N : Nat} (h : w.ownsRow B 93 1 (.slice (some ⟨g, 0, none⟩) N N) N (List.replicate N s0)) : Own2E w B (.slice (some ⟨g, 0, none⟩) N N) (List.replicate N s0) (List.replicate N []) := by
  have hs : ∀ i, (List.replicate N s0).getD i s0 = s0 := fun i => by
    by_cases hi : i < N
    · rw [List.getD_eq_getElem?_getD, List.getElem?_replicate, if_pos hi]; rfl
    · rw [List.getD_eq_getElem?_getD, List.getElem?_replicate, if_neg hi]; rfl
  have hx : ∀ i, (List.replicate N ([] : List R)).getD i [] = [] := fun i => by
    by_cases hi : i < N
    · rw [List.getD_eq_getElem?_getD, List.getElem?_replicate, if_pos hi]; rfl
    · rw [List.getD_eq_getElem?_getD, List.getElem?_replicate, if_neg hi]; rfl
  refine ⟨by simp, by simpa using h, fun i hi => ?_, fun i j k _ _ hk => ?_, fun i k _ hk => ?_⟩
  · rw [hs, hx]; exact OwnR.nil w B
  · rw [hs] at hk; cases hk
  · rw [hs] at hk; cases hk
def CopiedT (xss : List (List R)) (w : World) (e : Ending) (w' : World) : Prop := ∃ v vs, e = .returned v ∧ Own2E w' w.heap.size v vs xss ∧ Below w.heap.size w w'
theorem CopyT_next {Z N j : Nat} {xss : List (List R)} {wr w1 : World} {vs : List Value} {u : Value} {c : Nat} (h : Own2E wr Z (.slice (some ⟨Z, 0, none⟩) N c) vs (tkT xss N j)) (hN : N = xss.length) (hj : j < N) (hZ : Z < wr.heap.size) (bb : Below wr.heap.size wr w1) (hu : OwnR w1 wr.heap.size u (xss.getD j [])) :
    (∃ old, w1.cell? ⟨Z, j, none⟩ = some old) ∧ w1.frozen? ⟨Z, j, none⟩ = false ∧ Own2E (w1.setCell ⟨Z, j, none⟩ u) Z (.slice (some ⟨Z, 0, none⟩) N c) (vs.set j u) (tkT xss N (j + 1)) := by
  have h1 := Own2E.below h bb (Nat.le_refl _)
  have hh := Own2E.stored (u := u) (zs := xss.getD j []) h1 (tkT_length xss N j (by omega) hN) hj (hu.mono (by omega)) (fun i k hi hk e => by
    have a1 := ((h.2.2.1 i hi).block k hk).2
    have a2 := (hu.block k e).1
    omega) (fun e => by have a2 := (hu.block Z e).1; omega)
  rw [tkT_step xss N j hj hN] at hh
  exact hh
set_option maxHeartbeats 2000000 in
theorem toT_any (a : Option Addr) (cap : Nat) (xss : List (List R)) (w : World) (h : RdT w a xss) (hn : xss.length + (lensT xss).sum ≤ 1048576) :
    Calls Try.prog 30 #[.slice a xss.length cap] w (CopiedT xss w) := by
  have HH := Lib.hid (fun (w' : World) (hb : Below w.heap.size w w') => (h.below hb).2)
  have HLT := Lib.hid (fun j (hj : j < xss.length) => (show (xss.getD j []).length ≤ 1048576 by
    have h1 := sum_step (lensT xss) j (by rw [lensT_length]; exact hj)
    have h2 := sum_take_le (lensT xss) (j + 1)
    rw [lensT_get xss j hj] at h1
    omega))
  have hN1 : xss.length ≤ 1048576 := by omega
  clear h hn
  obtain ⟨i0, hi, hz0, hz1, hz2⟩ := info_parts infoT
  have HNX := Lib.hid (fun (Z j c : Nat) (wr w1 : World) (vs : List Value) (u : Value) (h : Own2E wr Z (.slice (some ⟨Z, 0, none⟩) xss.length c) vs (tkT xss xss.length j)) (hj : j < xss.length) (hZ : Z < wr.heap.size) (bb : Below wr.heap.size wr w1) (hu : OwnR w1 wr.heap.size u (xss.getD j [])) => CopyT_next h rfl hj hZ bb hu)
  have HEND : Hid (tkT xss xss.length xss.length = xss) := by show _ = _; simp [tkT]
  have H0 : Hid (List.replicate xss.length [] = tkT xss xss.length 0) := by show _ = _; simp [tkT]
  generalize hN : xss.length = n at *
  clear hN
  go_enter Try.func30, Try.ntmps30
  go_wp2_with (at_make; refine wpList_make_full _ rfl _ _ 56 rfl w.heap.size 93 i0 (.slice none 0 0) 1 Try.underlying56 hi hz0 hz1 .i64 .i64 (n : Int) (n : Int) n ?_ ?_ rfl rfl ?_ ?_ ?_ ?_; rfl; rfl)
  · rw [hz2]; omega
  · unfold maxLen; omega
  · exact Nat.le_refl _
  intro w1 hown hgr
  have hr := Lib.hid (show Own2E w1 w.heap.size (.slice (some ⟨w.heap.size, 0, none⟩) n n) (List.replicate n s0) (tkT xss n 0) by
    have h3 : w1.ownsRow w.heap.size 93 1 (.slice (some ⟨w.heap.size, 0, none⟩) n n) n (madeCells #[Value.slice none 0 0] n).toList := by simpa using hown
    rw [toList_madeCells_one] at h3
    rw [← H0.out]
    exact Own2E.fresh h3)
  have hb0 := Lib.hid ((Below.refl w.heap.size w).grown hgr (Nat.le_refl _) (by simp))
  have hZ1 := Lib.hid (show w.heap.size < w1.heap.size from (World.ownsRow.lt hr.out.2.1 w.heap.size rfl).2)
  clear hown hgr
  go_wp2
  go_loopw [4] (fun i wr => ∃ (j : Nat) (vs : List Value), j ≤ n ∧ i = .int .i64 (j : Nat) ∧ Hid (Own2E wr w.heap.size (.slice (some ⟨w.heap.size, 0, none⟩) n n) vs (tkT xss n j)) ∧ Hid (Below w.heap.size w wr) ∧ Hid (w.heap.size < wr.heap.size)) (fun i _ => n - (intOf i).toNat)
  case atStart => exact ⟨0, _, Nat.zero_le _, rfl, hr, hb0, hZ1⟩
  case round =>
    obtain ⟨j, vs, hj, rfl, hO, hb, hZ⟩ := hrel
    by_cases hlt : j < n
    · obtain ⟨b, off, A, C, rfl, hc, hrow, _, _⟩ := HH.out wr hb.out j hlt
      have HT := Lib.hid (to_any A C (xss.getD j []) wr hrow (HLT.out j hlt))
      have HN := Lib.hid (fun w1 u bb hu => HNX.out w.heap.size j n wr w1 vs u hO.out hlt hZ.out bb hu)
      clear hrow
      generalize xss.getD j [] = xs at *
      go_wp2_with fail
      refine HT.out.mono ?_
      rintro e w2 ⟨u, rfl, hu, bb⟩
      obtain ⟨au, cu, eu, _⟩ := hu.row
      subst eu
      obtain ⟨⟨old, h1⟩, h2, h3⟩ := HN.out w2 _ bb hu
      have H3 := Lib.hid h3
      have HB := Lib.hid ((hb.out.trans (bb.mono (Nat.le_of_lt hZ.out))).setCell (p := ⟨w.heap.size, j, none⟩) (Nat.le_refl _) (.slice au xs.length cu))
      have HZ2 := Lib.hid (show w.heap.size < (w2.setCell ⟨w.heap.size, j, none⟩ (.slice au xs.length cu)).heap.size by have := hZ.out; have := bb.size; simp [World.setCell]; omega)
      clear h3 hu bb
      go_wp2
      go_roundw
      case rel => exact ⟨j + 1, _, by omega, by go_num, H3, HB, HZ2⟩
      case measure => simp [intOf]; omega
    · have e : j = n := by omega
      subst e
      have hE := hO.out
      rw [HEND.out] at hE
      have HE := Lib.hid hE
      clear hE
      go_wp2
      go_ret
      exact ⟨_, vs, rfl, HE.out, hb.out⟩
/-- The call's own tables, read. -/
theorem Own2E.rd {w : World} {B : Nat} {v : Value} {vs : List Value} {xss : List (List R)} (h : Own2E w B v vs xss) : ∃ a c, v = .slice a xss.length c ∧ RdT w a xss := by
  rcases h.cases with ⟨rfl, rfl⟩ | ⟨g, cap, rfl, hB, hg, hm, hc, _⟩
  · exact ⟨none, 0, rfl, by simp, fun i hi => by simp at hi⟩
  · refine ⟨_, cap, rfl, hm, fun i hi => ?_⟩
    obtain ⟨A, C, e, hr⟩ := (h.2.2.1 i hi).row
    have hc' := hc i hi
    rw [e] at hc'
    exact ⟨g, 0, A, C, rfl, by rw [Nat.zero_add]; exact hc', hr, (h.2.2.1 i hi).le, hg⟩
set_option maxHeartbeats 2000000 in
theorem eqT_any (a1 a2 : Option Addr) (c1 c2 : Nat) (xss : List (List R)) (w : World) (hn : xss.length + (lensT xss).sum ≤ 1048576) (h1 : RdT w a1 xss) (h2 : RdT w a2 xss) :
    Calls Try.prog 32 #[.slice a1 xss.length c1, .slice a2 xss.length c2] w (BbA true w) := by
  have HLT := Lib.hid (fun j (hj : j < xss.length) => (show (xss.getD j []).length ≤ 1048576 by
    have h1 := sum_step (lensT xss) j (by rw [lensT_length]; exact hj)
    have h2 := sum_take_le (lensT xss) (j + 1)
    rw [lensT_get xss j hj] at h1
    omega))
  have hm := h1.1
  have H1 := Lib.hid (fun (w' : World) (hb : Below w.heap.size w w') => (h1.below hb).2)
  have H2 := Lib.hid (fun (w' : World) (hb : Below w.heap.size w w') => (h2.below hb).2)
  clear h1 h2 hn
  generalize hN : xss.length = N at *
  clear hN
  go_enter Try.func32, Try.ntmps32
  go_wp2
  go_loopw [5] (fun i wr => ∃ k : Nat, k ≤ N ∧ i = .int .i64 k ∧ Hid (Below w.heap.size w wr)) (fun i _ => N - (intOf i).toNat)
  case atStart => exact ⟨0, Nat.zero_le _, rfl, Below.refl _ _⟩
  case round =>
    obtain ⟨k, hk, rfl, hb⟩ := hrel
    by_cases hlt : k < N
    · obtain ⟨p1, off1, A1, C1, rfl, q1, r1, _, m1⟩ := H1.out wr hb.out k hlt
      obtain ⟨p2, off2, A2, C2, rfl, q2, r2, _, m2⟩ := H2.out wr hb.out k hlt
      have hlk := HLT.out k hlt
      have HE := Lib.hid (fun (w' : World) (bb : Below wr.heap.size wr w') => eq_any A1 A2 C1 C2 (xss.getD k []) w' hlk (r1.below bb) (r2.below bb))
      clear r1 r2 hlk
      generalize (xss.getD k []).length = d at *
      have HK := Lib.hid (fun (w' : World) (bb : Below wr.heap.size wr w') => (show w'.cell? ⟨p1, off1 + k, none⟩ = some (.slice A1 d C1) ∧ w'.cell? ⟨p2, off2 + k, none⟩ = some (.slice A2 d C2) from
        ⟨(bb.cell (p := ⟨p1, off1 + k, none⟩) m1).trans q1, (bb.cell (p := ⟨p2, off2 + k, none⟩) m2).trans q2⟩))
      have HB := Lib.hid (fun (w' : World) (bb : Below wr.heap.size wr w') => hb.out.trans (bb.mono hb.out.size))
      go_wp2
      go_region_held3 (fun w' => w'.cell? ⟨p1, off1 + k, none⟩ = some (.slice A1 d C1) ∧ w'.cell? ⟨p2, off2 + k, none⟩ = some (.slice A2 d C2)) (first | exact ⟨q1, q2⟩ | exact HK.out _ (drew_below bb)) (first | (go_at_call 62; (with_reducible refine (HE.out _ (Below.refl _ wr).drew).mono ?_); rintro e w1 ⟨rfl, bb⟩))
      go_wp2
      go_roundw
      case rel => exact ⟨k + 1, by omega, by go_num, HB.out _ (drew_below bb)⟩
      case measure => simp [intOf]; omega
    · go_wp2
      go_ret
      exact ⟨rfl, hb.out⟩
end Go.Proofs.Ytmmjdmgnmlhjeaa.Sq
