/- A copy of a list of lists of integers that came in. Policies that came in by value: their size, and a copy of the call's own. Policies that are read, as values; the contracts of both ValidPolicy. append of one list to a list of lists of the call's own, inside a region that draws its order. The program's policyOf. append of one number to a list of the call's own: what lies elsewhere stays. A literal of one number. Contents without addresses: the contracts of both EmptyContents. -/
import Derived.Test.YtngbddmbmkphcaaG5
import Derived.Test.YtngbddmbmkphcaaG4
import Derived.Deep.AppendLies
import Derived.Test.YtngbddmbmkphcaaG1
import Derived.Deep.RegionHeld3
import Derived.Test.YtngbddmbmkphcaaG2
import Derived.Maps.AppendAt
namespace Go.Proofs.Ytngbddmbmkphcaa
open Go.RowKit
theorem getD_set_ne {α : Type} (l : List α) (i j : Nat) (u d : α) (h : i ≠ j) : (l.set j u).getD i d = l.getD i d := by
  rw [List.getD_eq_getElem?_getD, List.getElem?_set_ne (fun e => h e.symm), ← List.getD_eq_getElem?_getD]
theorem getD_set_eq {α : Type} (l : List α) (j : Nat) (u d : α) (h : j < l.length) : (l.set j u).getD j d = u := by
  rw [List.getD_eq_getElem?_getD, List.getElem?_set_self h]; rfl
/-- A list of the call's own is put into a place of a list of lists. -/
theorem Own2.stored {w : World} {B g N c j : Nat} {vs : List Value} {yss : List (List Int)} {u : Value} {zs : List Int} (h : Own2 w B (.slice (some ⟨g, 0, none⟩) N c) vs yss) (hN : yss.length = N) (hj : j < N) (hu : Own w B u zs)
    (hfar : ∀ i k, i < yss.length → (vs.getD i s0).ownBlock = some k → u.ownBlock ≠ some k) (hg : u.ownBlock ≠ some g) :
    (∃ old, w.cell? ⟨g, j, none⟩ = some old) ∧ w.frozen? ⟨g, j, none⟩ = false ∧ Own2 (w.setCell ⟨g, j, none⟩ u) B (.slice (some ⟨g, 0, none⟩) N c) (vs.set j u) (yss.set j zs) := by
  obtain ⟨hl, h0, h1, h2, h3⟩ := h
  have h0' : w.ownsRow B 23 1 (.slice (some ⟨g, 0, none⟩) N c) N vs := by rw [hl, hN] at h0; exact h0
  obtain ⟨s1, s2⟩ := World.ownsRow.stored h0' j u
  have hk : ∀ (y : Value) (ys : List Int), Own w B y ys → y.ownBlock ≠ some g → Own (w.setCell ⟨g, j, none⟩ u) B y ys := fun y ys hy hne => hy.kept s2 fun k hk e => hne (by rw [hk, e])
  refine ⟨⟨_, by rw [World.ownsRow.cellAt h0' j (by omega), List.getElem?_eq_getElem (by omega)]⟩, World.ownsRow.frozenAt h0' j, by rw [List.length_set, List.length_set]; exact hl, by rw [List.length_set, hl, hN]; exact s1, fun i hi => ?_, fun i i' k hii hi' hk' => ?_, fun i k hi hk' => ?_⟩
  · rw [List.length_set] at hi
    by_cases e : i = j
    · subst e
      rw [getD_set_eq _ _ _ _ (by omega), getD_set_eq _ _ _ _ hi]
      exact hk _ _ hu hg
    · rw [getD_set_ne _ _ _ _ _ e, getD_set_ne _ _ _ _ _ e]
      exact hk _ _ (h1 i hi) (fun e => h3 i g hi e rfl)
  · rw [List.length_set] at hi'
    by_cases e : i = j
    · subst e
      rw [getD_set_eq _ _ _ _ (by omega)] at hk'
      rw [getD_set_ne _ _ _ _ _ (by omega)]
      exact fun e => hfar i' k hi' e hk'
    · rw [getD_set_ne _ _ _ _ _ e] at hk'
      by_cases e' : i' = j
      · subst e'
        rw [getD_set_eq _ _ _ _ (by omega)]
        exact hfar i k (by omega) hk'
      · rw [getD_set_ne _ _ _ _ _ e']
        exact h2 i i' k hii hi' hk'
  · rw [List.length_set] at hi
    by_cases e : i = j
    · subst e
      rw [getD_set_eq _ _ _ _ (by omega)] at hk'
      exact fun e => hg (by injection e with e; rw [hk', ← e])
    · rw [getD_set_ne _ _ _ _ _ e] at hk'
      exact h3 i k hi hk'
def tkM (xss : List (List Int)) (n j : Nat) : List (List Int) := xss.take j ++ List.replicate (n - j) []
theorem tkM_length (xss : List (List Int)) (n j : Nat) (hj : j ≤ n) (hn : n = xss.length) : (tkM xss n j).length = n := by simp [tkM]; omega
theorem tkM_step (xss : List (List Int)) (n j : Nat) (hj : j < n) (hn : n = xss.length) : (tkM xss n j).set j (xss.getD j []) = tkM xss n (j + 1) := by
  have hl : (xss.take j).length = j := by simp; omega
  unfold tkM
  rw [List.set_append_right _ _ (by omega), hl, Nat.sub_self, show n - j = (n - (j + 1)) + 1 by omega, List.replicate_succ, List.set_cons_zero,
    List.take_succ_eq_append_getElem (by omega), List.append_assoc, List.getD_eq_getElem?_getD, List.getElem?_eq_getElem (by omega)]
  rfl
theorem infoLL : (Try.prog.info? 23).map (fun i => (i.zero, i.size, i.bytes)) = some (some (.slice none 0 0), 1, 24) := by kernel_rfl
theorem Own2.fresh {w : World} {B g N : Nat} (h : w.ownsRow B 23 1 (.slice (some ⟨g, 0, none⟩) N N) N (List.replicate N s0)) : Own2 w B (.slice (some ⟨g, 0, none⟩) N N) (List.replicate N s0) (List.replicate N []) := by
  have hs : ∀ i, (List.replicate N s0).getD i s0 = s0 := fun i => by
    by_cases hi : i < N
    · rw [List.getD_eq_getElem?_getD, List.getElem?_replicate, if_pos hi]; rfl
    · rw [List.getD_eq_getElem?_getD, List.getElem?_replicate, if_neg hi]; rfl
  have hx : ∀ i, (List.replicate N ([] : List Int)).getD i [] = [] := fun i => by
    by_cases hi : i < N
    · rw [List.getD_eq_getElem?_getD, List.getElem?_replicate, if_pos hi]; rfl
    · rw [List.getD_eq_getElem?_getD, List.getElem?_replicate, if_neg hi]; rfl
  refine ⟨by simp, by simpa using h, fun i hi => ?_, fun i j k _ _ hk => ?_, fun i k _ hk => ?_⟩
  · rw [hs, hx]; exact Own.nil w B
  · rw [hs] at hk; cases hk
  · rw [hs] at hk; cases hk
def CopiedM (xss : List (List Int)) (w : World) (e : Ending) (w' : World) : Prop := ∃ v vs, e = .returned v ∧ Own2 w' w.heap.size v vs xss ∧ Below w.heap.size w w'
theorem CopyM_next {Z N j : Nat} {xss : List (List Int)} {wr w1 : World} {vs : List Value} {u : Value} {c : Nat} (h : Own2 wr Z (.slice (some ⟨Z, 0, none⟩) N c) vs (tkM xss N j)) (hN : N = xss.length) (hj : j < N) (hZ : Z < wr.heap.size) (bb : Below wr.heap.size wr w1) (hu : Own w1 wr.heap.size u (xss.getD j [])) :
    (∃ old, w1.cell? ⟨Z, j, none⟩ = some old) ∧ w1.frozen? ⟨Z, j, none⟩ = false ∧ Own2 (w1.setCell ⟨Z, j, none⟩ u) Z (.slice (some ⟨Z, 0, none⟩) N c) (vs.set j u) (tkM xss N (j + 1)) := by
  have h1 := Own2.below h bb (Nat.le_refl _)
  have hh := Own2.stored (u := u) (zs := xss.getD j []) h1 (tkM_length xss N j (by omega) hN) hj (hu.mono (by omega)) (fun i k hi hk e => by
    have a1 := ((h.2.2.1 i hi).block k hk).2
    have a2 := (hu.block k e).1
    omega) (fun e => by have a2 := (hu.block Z e).1; omega)
  rw [tkM_step xss N j hj hN] at hh
  exact hh
set_option maxHeartbeats 2000000 in
theorem toM_any (a : Option Addr) (cap : Nat) (xss : List (List Int)) (w : World) (h : IsMatL w a xss) (hn : xss.length + (lens xss).sum ≤ 1048576) :
    Calls Try.prog 47 #[.slice a xss.length cap] w (CopiedM xss w) := by
  have HH := Lib.hid (fun (w' : World) (hb : Below w.heap.size w w') => (h.below hb).2)
  have HLT := Lib.hid (fun j (hj : j < xss.length) => (show (xss.getD j []).length ≤ 1048576 by
    have h1 := sum_step (lens xss) j (by rw [lens_length]; exact hj)
    have h2 := sum_take_le (lens xss) (j + 1)
    rw [lens_get xss j hj] at h1
    omega))
  have hN1 : xss.length ≤ 1048576 := by omega
  clear h hn
  obtain ⟨i0, hi, hz0, hz1, hz2⟩ := info_parts infoLL
  have HNX := Lib.hid (fun (Z j c : Nat) (wr w1 : World) (vs : List Value) (u : Value) (h : Own2 wr Z (.slice (some ⟨Z, 0, none⟩) xss.length c) vs (tkM xss xss.length j)) (hj : j < xss.length) (hZ : Z < wr.heap.size) (bb : Below wr.heap.size wr w1) (hu : Own w1 wr.heap.size u (xss.getD j [])) => CopyM_next h rfl hj hZ bb hu)
  have HEND : Hid (tkM xss xss.length xss.length = xss) := by show _ = _; simp [tkM]
  have H0 : Hid (List.replicate xss.length [] = tkM xss xss.length 0) := by show _ = _; simp [tkM]
  generalize hN : xss.length = n at *
  clear hN
  go_enter Try.func47, Try.ntmps47
  go_wp2_with (at_make; refine wpList_make_full _ rfl _ _ 22 rfl w.heap.size 23 i0 (.slice none 0 0) 1 Try.underlying22 hi hz0 hz1 .i64 .i64 (n : Int) (n : Int) n ?_ ?_ rfl rfl ?_ ?_ ?_ ?_; rfl; rfl)
  · rw [hz2]; omega
  · unfold maxLen; omega
  · exact Nat.le_refl _
  intro w1 hown hgr
  have hr := Lib.hid (show Own2 w1 w.heap.size (.slice (some ⟨w.heap.size, 0, none⟩) n n) (List.replicate n s0) (tkM xss n 0) by
    have h3 : w1.ownsRow w.heap.size 23 1 (.slice (some ⟨w.heap.size, 0, none⟩) n n) n (madeCells #[Value.slice none 0 0] n).toList := by simpa using hown
    rw [toList_madeCells_one] at h3
    rw [← H0.out]
    exact Own2.fresh h3)
  have hb0 := Lib.hid ((Below.refl w.heap.size w).grown hgr (Nat.le_refl _) (by simp))
  have hZ1 := Lib.hid (show w.heap.size < w1.heap.size from (World.ownsRow.lt hr.out.2.1 w.heap.size rfl).2)
  clear hown hgr
  go_wp2
  go_loopw [4] (fun i wr => ∃ (j : Nat) (vs : List Value), j ≤ n ∧ i = .int .i64 (j : Nat) ∧ Hid (Own2 wr w.heap.size (.slice (some ⟨w.heap.size, 0, none⟩) n n) vs (tkM xss n j)) ∧ Hid (Below w.heap.size w wr) ∧ Hid (w.heap.size < wr.heap.size)) (fun i _ => n - (intOf i).toNat)
  case atStart => exact ⟨0, _, Nat.zero_le _, rfl, hr, hb0, hZ1⟩
  case round =>
    obtain ⟨j, vs, hj, rfl, hO, hb, hZ⟩ := hrel
    by_cases hlt : j < n
    · obtain ⟨b, off, A, C, zs, rfl, hc, hrow, hzs⟩ := HH.out wr hb.out j hlt
      have HT := Lib.hid (to_any A _ C zs wr hrow (HLT.out j hlt))
      rw [hzs] at HT
      have HN := Lib.hid (fun w1 u bb hu => HNX.out w.heap.size j n wr w1 vs u hO.out hlt hZ.out bb hu)
      clear hzs hrow
      generalize xss.getD j [] = xs at *
      go_wp2_with fail
      refine HT.out.mono ?_
      rintro e w2 ⟨u, rfl, hu, bb⟩
      obtain ⟨au, cu, eu⟩ := hu.rd
      obtain ⟨eu, _, _, _⟩ := eu
      subst eu
      obtain ⟨⟨old, h1⟩, h2, h3⟩ := HN.out w2 _ bb hu
      have H3 := Lib.hid h3
      have HB := Lib.hid ((hb.out.trans (bb.mono (Nat.le_of_lt hZ.out))).setCell (p := ⟨w.heap.size, j, none⟩) (Nat.le_refl _) (.slice au xs.length cu))
      have HZ2 := Lib.hid (show w.heap.size < (w2.setCell ⟨w.heap.size, j, none⟩ (.slice au xs.length cu)).heap.size by have := hZ.out; have := bb.size; simp [World.setCell]; omega)
      clear h3 hu bb
      go_wp2
      go_roundw
      case rel => exact ⟨j + 1, _, by omega, by go_num, H3, HB, HZ2⟩
      case measure => simp [intOf]; omega
    · have e : j = n := by omega
      subst e
      have hE := hO.out
      rw [HEND.out] at hE
      have HE := Lib.hid hE
      clear hE
      go_wp2
      go_ret
      exact ⟨_, vs, rfl, HE.out, hb.out⟩
end Go.Proofs.Ytngbddmbmkphcaa
namespace Go.Proofs.Ytngbddmbmkphcaa
open Go.RowKit
theorem weak2 {w : World} {B : Nat} {v : Value} {vs : List Value} {R : List (List Int)} (h : Own2 w B v vs R) : Own2W w B v vs R := ⟨h.1, h.2.1, fun i hi => (h.2.2.1 i hi).weak, h.2.2.2⟩
def NbI (n : Int) (w : World) (e : Ending) (w' : World) : Prop := e = .returned (.int .i64 n) ∧ Below w.heap.size w w'
theorem szP_yes (a a' : Option Addr) (c c' len' : Nat) (hs : List (List Int)) (w : World) (hm : IsMatL w a hs) (h : hs.length + (lens hs).sum + len' ≤ 1048576) :
    Calls Try.prog 27 #[.agg #[.slice a hs.length c, .slice a' len' c'], .int .i64 1048576] w (NbI (1048576 - hs.length - ((lens hs).sum : Nat) - len') w) := by
  have b0 := (Below.refl w.heap.size w).alloc (Nat.le_refl _) (.cells #[.slice a hs.length c, .slice a' len' c'] 25)
  have H1 := Lib.hid (szM_yes a c hs 1048576 _ (hm.below b0) (by omega) (by omega))
  have H2 := Lib.hid (szI_yes a' len' c' (1048576 - hs.length - ((lens hs).sum : Nat)) (w.alloc (.cells #[.slice a hs.length c, .slice a' len' c'] 25)) (by omega) (by omega))
  have n1 : ¬ ((1048576 : Int) - (hs.length : Int) - ((lens hs).sum : Nat)) < 0 := by omega
  have n2 : ¬ ((1048576 : Int) - (hs.length : Int) - ((lens hs).sum : Nat) - (len' : Int)) < 0 := by omega
  clear hm h
  generalize (lens hs).sum = T at *
  generalize hs.length = N at *
  go_enter Try.func27, Try.ntmps27
  go_wp2_with fail
  refine H1.out.mono ?_; rintro e w' ⟨rfl, rfl⟩
  go_wp2_with fail
  refine H2.out.mono ?_; rintro e w' ⟨rfl, rfl⟩
  go_wp2
  go_ret
  exact ⟨rfl, b0⟩
theorem szP_no (a a' : Option Addr) (c c' len' : Nat) (hs : List (List Int)) (w : World) (hm : IsMatL w a hs) (hl : len' ≤ 9223372036854775807) (h : ¬ hs.length + (lens hs).sum + len' ≤ 1048576) :
    Calls Try.prog 27 #[.agg #[.slice a hs.length c, .slice a' len' c'], .int .i64 1048576] w (NbI (-1) w) := by
  have b0 := (Below.refl w.heap.size w).alloc (Nat.le_refl _) (.cells #[.slice a hs.length c, .slice a' len' c'] 25)
  by_cases h1 : hs.length + (lens hs).sum ≤ 1048576
  · have H1 := Lib.hid (szM_yes a c hs 1048576 _ (hm.below b0) (by omega) (by omega))
    have H2 := Lib.hid (szI_no a' len' c' (1048576 - hs.length - ((lens hs).sum : Nat)) (w.alloc (.cells #[.slice a hs.length c, .slice a' len' c'] 25)) (by omega) (by omega) (by omega) hl)
    have n1 : ¬ ((1048576 : Int) - (hs.length : Int) - ((lens hs).sum : Nat)) < 0 := by omega
    clear hm h h1
    generalize (lens hs).sum = T at *
    generalize hs.length = N at *
    go_enter Try.func27, Try.ntmps27
    go_wp2_with fail
    refine H1.out.mono ?_; rintro e w' ⟨rfl, rfl⟩
    go_wp2_with fail
    refine H2.out.mono ?_; rintro e w' ⟨rfl, rfl⟩
    go_wp2
    go_ret
    exact ⟨rfl, b0⟩
  · have H1 := Lib.hid (szM_no a c hs 1048576 _ (hm.below b0) (by omega) (by omega) (by omega))
    clear hm h h1
    generalize hs.length = N at *
    go_enter Try.func27, Try.ntmps27
    go_wp2_with fail
    refine H1.out.mono ?_; rintro e w' ⟨rfl, rfl⟩
    go_wp2
    go_ret
    exact ⟨rfl, b0⟩
theorem Wr.set (B T : Nat) (w : World) (b o : Nat) (v : Value) (h : B ≤ b ∧ b < T) : Wr B T w (w.setCell ⟨b, o, none⟩ v) :=
  ⟨rfl, rfl, rfl, by simp, fun i _ hi => Go.heap_setCell_other w ⟨b, o, none⟩ i v (fun e => by simp at e; omega)⟩
def CopP (hs : List (List Int)) (ms : List Int) (w : World) (e : Ending) (w' : World) : Prop := ∃ u, e = .returned u ∧ OwnP w' (w.heap.size + 3) w'.heap.size u hs ms ∧ Below w.heap.size w w'
def CopS (hs : List (List Int)) (ms : List Int) (w : World) (e : Ending) (w' : World) : Prop := ∃ u, e = .returned u ∧ OwnP w' (w.heap.size + 3) w'.heap.size u hs ms ∧ Below w.heap.size w w' ∧ w.heap.size + 3 ≤ w'.heap.size
set_option maxHeartbeats 4000000 in
theorem toP_big (a a' : Option Addr) (c c' len' : Nat) (hs : List (List Int)) (zs : List Int) (w : World) (hm : IsMatL w a hs) (hr : IsRow .i64 w a' len' c' zs) (h : hs.length + (lens hs).sum + len' ≤ 1048576) :
    Calls Try.prog 30 #[.agg #[.slice a hs.length c, .slice a' len' c']] w (CopS hs (zs.take len') w) := by
  have HM := Lib.hid (fun (w' : World) (hb : Below w.heap.size w w') => toM_any a c hs w' (hm.below hb) (by omega))
  have HR := Lib.hid (fun (w' : World) (hb : Below w.heap.size w w') => to_any a' len' c' zs w' (isRow_below hr hb) (by omega))
  clear hm hr h
  generalize zs.take len' = ms at *
  generalize hN : hs.length = N at *
  have hNN := Lib.hid hN
  clear hN
  go_enter Try.func30, Try.ntmps30
  go_wp2_with fail
  have b0 : Below w.heap.size w (((w.alloc (.cells #[.slice a N c, .slice a' len' c'] 25)).alloc (.cells #[.slice none 0 0, .slice none 0 0] 33)).alloc (.cells #[.slice none 0 0, .slice none 0 0] 33)) :=
    (((Below.refl _ w).alloc (Nat.le_refl _) _).alloc (by simp) _).alloc (by simp; omega) _
  have BZ : Blk (((w.alloc (.cells #[.slice a N c, .slice a' len' c'] 25)).alloc (.cells #[.slice none 0 0, .slice none 0 0] 33)).alloc (.cells #[.slice none 0 0, .slice none 0 0] 33)) w.heap.size [.slice a N c, .slice a' len' c'] 25 := Blk.alloc (Blk.alloc (Blk.newAt w _ _ _ rfl) _) _
  have BZ1 : Blk (((w.alloc (.cells #[.slice a N c, .slice a' len' c'] 25)).alloc (.cells #[.slice none 0 0, .slice none 0 0] 33)).alloc (.cells #[.slice none 0 0, .slice none 0 0] 33)) (w.heap.size + 1) [.slice none 0 0, .slice none 0 0] 33 := Blk.alloc (Blk.newAt _ _ _ _ (by simp)) _
  have BZ2 : Blk (((w.alloc (.cells #[.slice a N c, .slice a' len' c'] 25)).alloc (.cells #[.slice none 0 0, .slice none 0 0] 33)).alloc (.cells #[.slice none 0 0, .slice none 0 0] 33)) (w.heap.size + 1 + 1) [.slice none 0 0, .slice none 0 0] 33 := Blk.newAt _ _ _ _ (by simp)
  have hz0 : (((w.alloc (.cells #[.slice a N c, .slice a' len' c'] 25)).alloc (.cells #[.slice none 0 0, .slice none 0 0] 33)).alloc (.cells #[.slice none 0 0, .slice none 0 0] 33)).heap.size = w.heap.size + 3 := by simp
  generalize (((w.alloc (.cells #[.slice a N c, .slice a' len' c'] 25)).alloc (.cells #[.slice none 0 0, .slice none 0 0] 33)).alloc (.cells #[.slice none 0 0, .slice none 0 0] 33)) = W0 at *
  refine (HM.out W0 b0).mono ?_; rintro e w1 ⟨v1, vs1, rfl, o1, b1⟩
  have ow1 := weak2 o1
  have hU1 : ∀ k, v1.ownBlock = some k → W0.heap.size ≤ k ∧ k < w1.heap.size := fun k hk => by
    rcases ow1.cases with ⟨rfl, _⟩ | ⟨g, cap, rfl, hB, hg, _⟩
    · simp [Value.ownBlock] at hk
    · simp [Value.ownBlock] at hk; omega
  have hV1 : ∀ i k, i < hs.length → (vs1.getD i s0).ownBlock = some k → k < w1.heap.size := fun i k hi hk => ((ow1.2.2.1 i hi).block k hk).2
  obtain ⟨A1, n1, C1, e1⟩ : ∃ A n C, v1 = .slice A n C := by
    rcases ow1.cases with ⟨rfl, _⟩ | ⟨g, cap, rfl, _⟩ <;> exact ⟨_, _, _, rfl⟩
  subst e1
  have kz := BZ.below b1 (by omega)
  have kz1 := BZ1.below b1 (by omega)
  have kz2 := BZ2.below b1 (by omega)
  have B1 := bt b0 b1
  have s1 := b1.size
  clear o1 b1 b0 BZ BZ1 BZ2
  have p1 : w1.cell? ⟨w.heap.size, 1, none⟩ = some (.slice a' len' c') := kz.cell 1
  have q0 : w1.cell? ⟨w.heap.size + 1 + 1, 0, none⟩ = some (.slice none 0 0) := kz2.cell 0
  have f0 := kz2.froz 0
  go_wp2_with fail
  have kS : Keep (w.heap.size + 1 + 1) w1 (w1.setCell ⟨w.heap.size + 1 + 1, 0, none⟩ (.slice A1 n1 C1)) := keep_set (w.heap.size + 1 + 1) [.slice A1 n1 C1] 0 w1
  have bS : Blk (w1.setCell ⟨w.heap.size + 1 + 1, 0, none⟩ (.slice A1 n1 C1)) (w.heap.size + 1 + 1) [.slice A1 n1 C1, .slice none 0 0] 33 := blk_set (w.heap.size + 1 + 1) _ [.slice A1 n1 C1] 0 _ w1 kz2 (by simp)
  have bS1 := kS.blk kz1 (by omega)
  have wS : Wr (w.heap.size + 1) (w.heap.size + 3) w1 (w1.setCell ⟨w.heap.size + 1 + 1, 0, none⟩ (.slice A1 n1 C1)) := Wr.set _ _ w1 _ 0 _ (by omega)
  generalize w1.setCell ⟨w.heap.size + 1 + 1, 0, none⟩ (.slice A1 n1 C1) = S1 at *
  have oS := ow1.wr wS (U := w1.heap.size) (fun k hk => (hU1 k hk).2) hV1 (.inr (by omega))
  have BS : Below w.heap.size w S1 := B1.trans (kS.below (by omega))
  have sS := kS.size
  clear ow1 kz kz1 kz2 p1 q0 f0 kS wS B1
  refine (HR.out S1 BS).mono ?_; rintro e w2 ⟨v2, rfl, o2, b2⟩
  have ob2 := o2.block
  have oh2 := Own2W.below oS b2 (Nat.le_refl _)
  have om2 := o2.weak
  obtain ⟨A2, C2, e2, _⟩ := o2.rd
  subst e2
  have r0' := bS.below b2 bS.lt
  have r1' := bS1.below b2 bS1.lt
  have B2 := bt BS b2
  have s2 := b2.size
  have c0 : w2.cell? ⟨w.heap.size + 1 + 1, 0, none⟩ = some (.slice A1 n1 C1) := r0'.cell 0
  have c1 : w2.cell? ⟨w.heap.size + 1 + 1, 1, none⟩ = some (.slice none 0 0) := r0'.cell 1
  have f1 := r0'.froz 1
  have z0 : w2.cell? ⟨w.heap.size + 1, 0, none⟩ = some (.slice none 0 0) := r1'.cell 0
  have z1 : w2.cell? ⟨w.heap.size + 1, 1, none⟩ = some (.slice none 0 0) := r1'.cell 1
  have g0 := r1'.froz 0
  have g1 := r1'.froz 1
  have HP : Hid (OwnP w2 (w.heap.size + 3) w2.heap.size (.agg #[.slice A1 n1 C1, .slice A2 ms.length C2]) hs ms) :=
    ⟨_, _, vs1, rfl, by rw [hz0] at oh2; exact oh2, om2.mono (by omega), fun b hb => ⟨fun h => by have h1 := (hU1 b h).2; have h2 := (ob2 b hb).1; omega, fun i hi h => by have h1 := hV1 i b hi h; have h2 := (ob2 b hb).1; omega⟩,
      fun k hk => (ob2 k hk).2, fun k hk => by have h1 := (hU1 k hk).2; omega, fun i k hi hk => by have h1 := hV1 i k hi hk; omega⟩
  have HWr := Lib.hid (fun (w3 : World) (v3 v4 v5 : Value) (e : w3 = ((w2.setCell ⟨w.heap.size + 1 + 1, 1, none⟩ v3).setCell ⟨w.heap.size + 1, 0, none⟩ v4).setCell ⟨w.heap.size + 1, 1, none⟩ v5) => (show Wr (w.heap.size + 1) (w.heap.size + 3) w2 w3 ∧ w3.heap.size = w2.heap.size from by
    subst e
    exact ⟨((Wr.set _ _ w2 _ 1 v3 (by omega)).trans (Wr.set _ _ _ _ 0 v4 (by omega))).trans (Wr.set _ _ _ _ 1 v5 (by omega)), by simp⟩))
  have HB := Lib.hid B2
  clear oS oh2 om2 o2 b2 r0' r1' bS bS1 hU1 hV1 ob2 B2 BS
  go_wp2
  refine bodyPost_ret (v := .agg #[.slice A1 n1 C1, .slice A2 ms.length C2]) (by simp [results, Try.results30, go_sem, c0, c1, z0, z1, f1, g0, g1]) rfl ?_
  obtain ⟨hw, hsz⟩ := HWr.out _ _ _ _ rfl
  refine ⟨_, rfl, ?_, hw.belowT HB.out (by omega) (by omega), by rw [hsz]; omega⟩
  rw [hsz]
  exact HP.out.wr hw (.inr (by omega))
theorem toP_any (a a' : Option Addr) (c c' len' : Nat) (hs : List (List Int)) (zs : List Int) (w : World) (hm : IsMatL w a hs) (hr : IsRow .i64 w a' len' c' zs) (h : hs.length + (lens hs).sum + len' ≤ 1048576) :
    Calls Try.prog 30 #[.agg #[.slice a hs.length c, .slice a' len' c']] w (CopP hs (zs.take len') w) :=
  (toP_big a a' c c' len' hs zs w hm hr h).mono fun _ _ ⟨u, h1, h2, h3, _⟩ => ⟨u, h1, h2, h3⟩
end Go.Proofs.Ytngbddmbmkphcaa
namespace Go.Proofs.Ytngbddmbmkphcaa.Pv
open Go.RowKit
theorem RdR.below {w w' : World} {a : Option Addr} {hs : List (List Int)} (h : RdR w a hs) (hb : Below w.heap.size w w') : RdR w' a hs := fun i hi => by
  obtain ⟨b, off, A, C, h1, h2, h3, h4, r⟩ := h i hi
  exact ⟨b, off, A, C, h1, (hb.cell (p := ⟨b, off + i, none⟩) h4).trans h2, h3.below hb, Nat.lt_of_lt_of_le h4 hb.size, r⟩
/-- v is a policy that is read: orders for hits, and one for a miss. -/
def RdP (w : World) (v : Value) (hs : List (List Int)) (ms : List Int) : Prop :=
  ∃ a c a' c', v = .agg #[.slice a hs.length c, .slice a' ms.length c'] ∧ RdR w a hs ∧ hs.length ≤ 1048576 ∧ Row w a' ms ∧ ms.length ≤ 1048576 ∧ (ms.length ≤ c' ∧ c' ≤ 9223372036854775807)
theorem RdP.of {w : World} {B T : Nat} {v : Value} {hs : List (List Int)} {ms : List Int} (h : OwnP w B T v hs ms) (hl : hs.length ≤ 1048576) (hx : ∀ i, i < hs.length → (hs.getD i []).length ≤ 1048576) (hm : ms.length ≤ 1048576) : RdP w v hs ms := by
  obtain ⟨hh, m, vs, rfl, h1, h2, _⟩ := h
  obtain ⟨a', c', rfl, e1, ⟨e2, _⟩, hr⟩ := h2.rd
  rcases h1.cases with ⟨rfl, rfl⟩ | ⟨g, cap, rfl, _, hg, _, hc, _⟩
  · exact ⟨none, 0, a', c', rfl, fun i hi => by simp at hi, hl, hr, hm, e1, e2⟩
  · refine ⟨_, cap, a', c', rfl, fun i hi => ?_, hl, hr, hm, e1, e2⟩
    obtain ⟨A, C, e, k1, ⟨k2, k3⟩, hri⟩ := (h1.2.2.1 i hi).rd
    exact ⟨g, 0, A, C, rfl, by rw [Nat.zero_add, hc i hi, e], hri, hg, hx i hi, k1, k2, k3⟩
def rulC (b : Bool) (n : Nat) (hs : List (List Int)) (ms : List Int) : List Value := if b then rulesL n hs n (rowC ms) else z43
theorem rulC_len (b : Bool) (n : Nat) (hs : List (List Int)) (ms : List Int) : (rulC b n hs ms).length = 43 := by
  unfold rulC
  split
  · exact rulesL_len _ _ _ _ rfl
  · rfl
theorem one_rulC (b : Bool) (n : Nat) (hs : List (List Int)) (ms : List Int) : ∀ v ∈ rulC b n hs ms, v.oneCell' = true := by
  unfold rulC
  split
  · exact one_rules _ _ _ _ (one_row _)
  · intro v hv; simp [z43, z6l] at hv; rw [hv]; rfl
/-- What rulesOf leaves. -/
def RulR (b : Bool) (n : Nat) (hs : List (List Int)) (ms : List Int) (w : World) (e : Ending) (w' : World) : Prop := e = .returned (.tuple #[.agg (rulC b n hs ms).toArray, .bool b]) ∧ Below w.heap.size w w'
theorem rules_any {v : Value} {hs : List (List Int)} {ms : List Int} {w : World} (h : RdP w v hs ms) : Calls Try.prog 63 #[v] w (RulR (isP hs ms) ms.length hs ms w) := by
  obtain ⟨a, c, a', c', rfl, h1, h2, h3, h4, h5⟩ := h
  exact rules_i a a' c c' hs ms w h3 h5 h4 h1 h2
end Go.Proofs.Ytngbddmbmkphcaa.Pv
namespace Go.Proofs.Ytngbddmbmkphcaa
open Go.RowKit
theorem app2W_post {wr w' : World} {B : Nat} {v v' u : Value} {vs : List Value} {xss : List (List Int)} {zs : List Int} (hown : Own2W wr B v vs xss) (hu : OwnW wr B u zs)
    (hfar : ∀ i k, i < xss.length → (vs.getD i s0).ownBlock = some k → u.ownBlock ≠ some k) (hfar2 : ∀ k, u.ownBlock = some k → v.ownBlock ≠ some k) (hB : B ≤ wr.heap.size)
    (hrow : w'.ownsRow B 23 1 v' (vs.length + 1) (vs ++ [u])) (hgrow : (wr.alloc (.cells #[u] 23)).grownBy w' v.ownBlock) (hblk : v'.ownBlock = v.ownBlock ∨ v'.ownBlock = some (wr.alloc (.cells #[u] 23)).heap.size) :
    Own2W w' B v' (vs ++ [u]) (xss ++ [zs]) ∧ Below B wr w' ∧ (∀ b, b < wr.heap.size → v.ownBlock ≠ some b → w'.heap[b]? = wr.heap[b]?) ∧ (∀ k, v'.ownBlock = some k → v.ownBlock = some k ∨ wr.heap.size ≤ k) := by
  obtain ⟨hl, h0, h1, h2, h3⟩ := hown
  have hsz : (wr.alloc (.cells #[u] 23)).heap.size = wr.heap.size + 1 := Array.size_push _
  have gl : ∀ i, i < xss.length → (vs ++ [u]).getD i s0 = vs.getD i s0 := fun i hi => by
    rw [List.getD_eq_getElem?_getD, List.getElem?_append_left (by omega), ← List.getD_eq_getElem?_getD]
  have gx : ∀ i, i < xss.length → (xss ++ [zs]).getD i [] = xss.getD i [] := fun i hi => by
    rw [List.getD_eq_getElem?_getD, List.getElem?_append_left hi, ← List.getD_eq_getElem?_getD]
  have gu : (vs ++ [u]).getD xss.length s0 = u := by rw [← hl, List.getD_eq_getElem?_getD, List.getElem?_append_right (Nat.le_refl _)]; simp
  have gz : (xss ++ [zs]).getD xss.length [] = zs := by rw [List.getD_eq_getElem?_getD, List.getElem?_append_right (Nat.le_refl _)]; simp
  have old : ∀ (y : Value) (ys : List Int), OwnW wr B y ys → (∀ k, y.ownBlock = some k → v.ownBlock ≠ some k) → OwnW w' B y ys := fun y ys hy hne =>
    OwnW.kept (rowW.alloc hy _) hgrow fun k hk e => hne k hk e.symm
  have nblk : ∀ (y : Value) (ys : List Int) k, OwnW wr B y ys → y.ownBlock = some k → v.ownBlock ≠ some k → v'.ownBlock ≠ some k := fun y ys k hy hk hne e => by
    rcases hblk with hb | hb
    · exact hne (hb ▸ e)
    · rw [hb] at e
      have := (hy.block k hk).2
      injection e with e
      omega
  refine ⟨⟨by simp [hl], ?_, fun i hi => ?_, fun i j k hij hj hk => ?_, fun i k hi hk => ?_⟩, ?_, (fun b hb hne => (hgrow.block b (by omega) (fun e => hne e.symm)).trans (Below.heap_alloc wr _ b hb)), fun k hk => ?_⟩
  rotate_right
  · rcases hblk with hb | hb
    · exact .inl (hb ▸ hk)
    · rw [hb] at hk; injection hk with hk; right; omega
  · rw [List.length_append]; exact hrow
  · rw [List.length_append, List.length_singleton] at hi
    rcases Nat.lt_or_eq_of_le (Nat.le_of_lt_succ hi) with hlt | rfl
    · rw [gl i hlt, gx i hlt]; exact old _ _ (h1 i hlt) (fun k hk => h3 i k hlt hk)
    · rw [gu, gz]; exact old _ _ hu hfar2
  · rw [List.length_append, List.length_singleton] at hj
    rcases Nat.lt_or_eq_of_le (Nat.le_of_lt_succ hj) with hlt | rfl
    · rw [gl i (by omega)] at hk; rw [gl j hlt]; exact h2 i j k hij hlt hk
    · rw [gl i hij] at hk; rw [gu]; exact hfar i k hij hk
  · rw [List.length_append, List.length_singleton] at hi
    rcases Nat.lt_or_eq_of_le (Nat.le_of_lt_succ hi) with hlt | rfl
    · rw [gl i hlt] at hk; exact nblk _ _ k (h1 i hlt) hk (h3 i k hlt hk)
    · rw [gu] at hk; exact nblk _ _ k hu hk (hfar2 k hk)
  · refine ((Below.refl B wr).alloc hB _).grown hgrow (by omega) (fun k hk => ?_)
    exact (World.ownsRow.lt h0 k hk).1
theorem step_app2W {ops : Array Oper} {o : Oper} {a : Act} {K : Act → World → Prop} {Q : Exit → Act → World → Prop} {E : Prop} (wr : World) (hgd : o.guard = none) (s x : Operand)
    (ho : o.op = .call { callee := .builtin .append, args := #[s, x], argTypes := #[22, 22] })
    (B : Nat) (v : Value) (vs : List Value) (xss : List (List Int)) (u : Value) (zs : List Int) (hs : a.eval s = v) (hx : a.eval x = .slice (some ⟨wr.heap.size, 0, none⟩) 1 1) (hown : Own2W wr B v vs xss) (hu : OwnW wr B u zs)
    (hfar : ∀ i k, i < xss.length → (vs.getD i s0).ownBlock = some k → u.ownBlock ≠ some k) (hfar2 : ∀ k, u.ownBlock = some k → v.ownBlock ≠ some k)
    (hlen : xss.length + 1 ≤ 1000000000) (hB : B ≤ wr.heap.size)
    (h : ∀ g cap w', Own2W w' B (.slice (some ⟨g, 0, none⟩) (xss.length + 1) cap) (vs ++ [u]) (xss ++ [zs]) → Below B wr w' → (∀ b, b < wr.heap.size → v.ownBlock ≠ some b → w'.heap[b]? = wr.heap[b]?) → (v.ownBlock = some g ∨ wr.heap.size ≤ g) → K (a.put o.dst (.slice (some ⟨g, 0, none⟩) (xss.length + 1) cap)) w') :
    if Region.wanted o (yielded ops a.tmps) = true then Oper.wp Try.prog o a (wr.alloc (.cells #[u] 23)) K Q else E := by
  obtain ⟨i0, hi, hz0, hz1, hz2⟩ := info_parts infoL
  obtain ⟨hl, h0, h1, h2, h3⟩ := id hown
  refine step_append_lies _ hgd s x 22 ho B 23 i0 (.slice none 0 0) 1 24 Try.underlying22 hi hz0 hz1 hz2 rfl (by decide) v vs.length vs hs (World.ownsRow.alloc h0 _)
    ⟨wr.heap.size, 0, none⟩ 1 1 [u] hx rfl (cell_one_new _ _ _) ?_ (by decide) ?_ ?_ ?_ _ rfl ?_
  · intro u' hu'; simp at hu'; subst hu'
    rcases hu.cases with ⟨rfl, _⟩ | ⟨g, c, rfl, _⟩ <;> rfl
  · unfold maxLen; omega
  · omega
  · simp; omega
  · intro g cap w' hrow hgrow hat _
    have hp := app2W_post (v' := .slice (some ⟨g, 0, none⟩) (vs.length + 1) cap) hown hu hfar hfar2 hB hrow hgrow (by
      rcases hat with h | h
      · exact .inl h.symm
      · exact .inr (by rw [h]; rfl))
    rw [hl] at hp ⊢
    exact h g cap w' hp.1 hp.2.1 hp.2.2.1 (hp.2.2.2 g rfl)
end Go.Proofs.Ytngbddmbmkphcaa
namespace Go.Proofs.Ytngbddmbmkphcaa
open Go.RowKit
theorem drewB {w w' : World} (h : Below w.drew.heap.size w.drew w') : Below w.heap.size w w' := (Below.refl _ w).drew.trans h
def rowL (n : Nat) (o : Nat → Int) : List Int := (List.range n).map o
def polP (n : Nat) (o : Nat → Nat → Int) (j : Nat) : List (List Int) := (List.range j).map fun age => rowL n (o age)
theorem polP_succ (n : Nat) (o : Nat → Nat → Int) (j : Nat) : polP n o (j + 1) = polP n o j ++ [rowL n (o j)] := by
  unfold polP; rw [List.range_succ, List.map_append]; rfl
theorem polP_len (n : Nat) (o : Nat → Nat → Int) (j : Nat) : (polP n o j).length = j := by simp [polP]
theorem rowL_len (n : Nat) (o : Nat → Int) : (rowL n o).length = n := by simp [rowL]
/-- What a function leaves that returns a policy of its own. -/
def RetP (hs : List (List Int)) (ms : List Int) (w : World) (e : Ending) (w' : World) : Prop := ∃ v, e = .returned v ∧ OwnP w' w.heap.size w'.heap.size v hs ms ∧ Below w.heap.size w w'
abbrev c6 (a b c d e f : Int) : Array Value := #[.int .i64 a, .int .i64 b, .int .i64 c, .int .i64 d, .int .i64 e, .int .i64 f]
/-- The first ages of an array, as a slice of the call's own. -/
theorem first_i (n : Nat) (h1 : 1 ≤ n) (h6 : n ≤ 6) (a b c d e f : Int) (w : World) :
    Calls Try.prog 71 #[six a b c d e f, .int .i64 (n : Nat)] w fun e' w' => e' = .returned (.slice (some ⟨w.heap.size, 0, none⟩) n n) ∧ w.alloc (.cells (c6 a b c d e f) 68) = w' := by
  unfold six
  have hn1 : (n : Int) ≤ 6 := by omega
  go_enter Try.func71, Try.ntmps71
  go_wp2
  go_ret
  exact ⟨by simp, rfl⟩
theorem first_row (n : Nat) (h6 : n ≤ 6) (o : Nat → Int) (w : World) (T : TypeId) : OwnW (w.alloc (.cells (c6 (o 0) (o 1) (o 2) (o 3) (o 4) (o 5)) T)) w.heap.size (.slice (some ⟨w.heap.size, 0, none⟩) n n) (rowL n o) := by
  unfold OwnW
  rw [rowL_len]
  refine ⟨by rw [List.length_map, rowL_len], .inr ⟨w.heap.size, n, _, T, rfl, Nat.le_refl _, heap_alloc_new w _, Nat.le_refl _, by unfold maxLen; omega, by show n ≤ 6; exact h6, ?_⟩⟩
  have : n = 0 ∨ n = 1 ∨ n = 2 ∨ n = 3 ∨ n = 4 ∨ n = 5 ∨ n = 6 := by omega
  rcases this with rfl | rfl | rfl | rfl | rfl | rfl | rfl <;> rfl
theorem Own2W.form {w : World} {B : Nat} {v : Value} {vs : List Value} {xss : List (List Int)} (h : Own2W w B v vs xss) : ∃ a c, v = .slice a xss.length c := by
  rcases h.cases with ⟨rfl, rfl⟩ | ⟨g, cap, rfl, _⟩
  · exact ⟨_, _, rfl⟩
  · exact ⟨_, _, rfl⟩
/-- One more row for a policy: what append wants of the world behind firstAges. -/
theorem pol_step (n : Nat) (o : Nat → Nat → Int) (B j : Nat) (wr : World) (v : Value) (vs : List Value) (hj : j < n) (h6 : n ≤ 6) (hO : Own2W wr B v vs (polP n o j)) (hB : B ≤ wr.heap.size) (w1 : World) (bb : Below wr.heap.size wr w1) :
    Own2W (w1.alloc (.cells (c6 (o j 0) (o j 1) (o j 2) (o j 3) (o j 4) (o j 5)) 68)) B v vs (polP n o j) ∧
      OwnW (w1.alloc (.cells (c6 (o j 0) (o j 1) (o j 2) (o j 3) (o j 4) (o j 5)) 68)) B (.slice (some ⟨w1.heap.size, 0, none⟩) n n) (rowL n (o j)) ∧
      (∀ i k, i < (polP n o j).length → (vs.getD i s0).ownBlock = some k → (Value.slice (some ⟨w1.heap.size, 0, none⟩) n n).ownBlock ≠ some k) ∧
      (∀ k, (Value.slice (some ⟨w1.heap.size, 0, none⟩) n n).ownBlock = some k → v.ownBlock ≠ some k) ∧ (polP n o j).length + 1 ≤ 1000000000 ∧ B ≤ (w1.alloc (.cells (c6 (o j 0) (o j 1) (o j 2) (o j 3) (o j 4) (o j 5)) 68)).heap.size := by
  have s1 := bb.size
  have hz : (w1.alloc (.cells (c6 (o j 0) (o j 1) (o j 2) (o j 3) (o j 4) (o j 5)) 68)).heap.size = w1.heap.size + 1 := Array.size_push _
  refine ⟨Own2W.below hO (bb.alloc s1 _) (Nat.le_refl _), (first_row n h6 (o j) w1 _).mono (by omega), fun i k hi hk e => ?_, fun k hk e => ?_, by rw [polP_len]; omega, by omega⟩
  · have h1 := ((hO.2.2.1 i hi).block k hk).2
    injection e with e
    have e : w1.heap.size = k := e
    omega
  · injection hk with hk
    have hk : w1.heap.size = k := hk
    have h1 := (World.ownsRow.lt hO.2.1 k e).2
    omega
theorem OwnP.mono {w : World} {B B' T : Nat} {v : Value} {hs : List (List Int)} {ms : List Int} (h : OwnP w B T v hs ms) (hB : B' ≤ B) : OwnP w B' T v hs ms := by
  obtain ⟨hh, m, vs, e, h1, h2, h3, h4⟩ := h
  obtain ⟨g0, g1, g2, g3⟩ := h1
  refine ⟨hh, m, vs, e, ⟨g0, ⟨g1.1, ?_⟩, fun i hi => (g2 i hi).mono hB, g3⟩, h2.mono hB, h3, h4⟩
  rcases g1.2 with hn | ⟨g, cap, cur, hv, hg, r⟩
  · exact .inl hn
  · exact .inr ⟨g, cap, cur, hv, by omega, r⟩
theorem pol_end (n : Nat) (o : Nat → Nat → Int) (m0 m1 m2 m3 m4 m5 : Int) (ms : List Int) (hM : ∀ w' : World, OwnW (w'.alloc (.cells (c6 m0 m1 m2 m3 m4 m5) 68)) w'.heap.size (.slice (some ⟨w'.heap.size, 0, none⟩) n n) ms)
    (Z : Nat) (wr : World) (v : Value) (vs : List Value) (hO : Own2W wr (Z + 3) v vs (polP n o n)) (hB : Z + 3 ≤ wr.heap.size) (u0 u1 u2 : Value) :
    OwnP ((((wr.setCell ⟨Z + 2, 1, none⟩ u0).setCell ⟨Z + 1, 0, none⟩ u1).setCell ⟨Z + 1, 1, none⟩ u2).alloc (.cells (c6 m0 m1 m2 m3 m4 m5) 68)) Z
      ((((wr.setCell ⟨Z + 2, 1, none⟩ u0).setCell ⟨Z + 1, 0, none⟩ u1).setCell ⟨Z + 1, 1, none⟩ u2).alloc (.cells (c6 m0 m1 m2 m3 m4 m5) 68)).heap.size (.agg #[v, .slice (some ⟨wr.heap.size, 0, none⟩) n n]) (polP n o n) ms := by
  have hW : ∀ (w : World) (b off : Nat) (u : Value) (_ : Z ≤ b) (_ : b < Z + 3), Wr Z (Z + 3) w (w.setCell ⟨b, off, none⟩ u) := fun w b off u h1 h2 => ⟨rfl, rfl, rfl, by simp [World.setCell], fun b' hb hr => Below.heap_setCell _ _ _ _ (by show b' ≠ b; omega)⟩
  have W1 := ((hW wr (Z + 2) 1 u0 (by omega) (by omega)).trans (hW _ (Z + 1) 0 u1 (by omega) (by omega))).trans (hW _ (Z + 1) 1 u2 (by omega) (by omega))
  have hs1 : ((((wr.setCell ⟨Z + 2, 1, none⟩ u0).setCell ⟨Z + 1, 0, none⟩ u1).setCell ⟨Z + 1, 1, none⟩ u2)).heap.size = wr.heap.size := by simp [World.setCell]
  have hm := hM (((wr.setCell ⟨Z + 2, 1, none⟩ u0).setCell ⟨Z + 1, 0, none⟩ u1).setCell ⟨Z + 1, 1, none⟩ u2)
  rw [hs1] at hm
  generalize (((wr.setCell ⟨Z + 2, 1, none⟩ u0).setCell ⟨Z + 1, 0, none⟩ u1).setCell ⟨Z + 1, 1, none⟩ u2) = W at *
  have hz' : (W.alloc (.cells (c6 m0 m1 m2 m3 m4 m5) 68)).heap.size = wr.heap.size + 1 := by rw [← hs1]; exact Array.size_push _
  have hv : ∀ k, v.ownBlock = some k → k < wr.heap.size := fun k hk => (World.ownsRow.lt hO.2.1 k hk).2
  have hvs : ∀ i k, i < (polP n o n).length → (vs.getD i s0).ownBlock = some k → k < wr.heap.size := fun i k hi hk => ((hO.2.2.1 i hi).block k hk).2
  have hO2 := hO.wr W1 hv hvs (.inr (by omega))
  have hO3 := Own2W.below hO2 ((Below.refl W.heap.size W).alloc (Nat.le_refl _) (.cells (c6 m0 m1 m2 m3 m4 m5) 68)) (Nat.le_refl _)
  refine OwnP.mono (B := Z + 3) ⟨v, _, vs, rfl, hO3, hm.mono hB, fun b hb => ⟨fun e => ?_, fun i hi e => ?_⟩, fun k hk => ?_, fun k hk => ?_, fun i k hi hk => ?_⟩ (by omega)
  · injection hb with hb; have hb : wr.heap.size = b := hb; have := hv b e; omega
  · injection hb with hb; have hb : wr.heap.size = b := hb; have := hvs i b hi e; omega
  · injection hk with hk; have hk : wr.heap.size = k := hk; omega
  · have := hv k hk; omega
  · have := hvs i k hi hk; omega
end Go.Proofs.Ytngbddmbmkphcaa
namespace Go.Proofs.Ytngbddmbmkphcaa
open Go.RowKit
/-- The two lists lie in different blocks. -/
def Apart (v y : Value) : Prop := ∀ k, y.ownBlock = some k → v.ownBlock ≠ some k
theorem Apart.nil (y : Value) : Apart (.slice none 0 0) y := fun k _ h => by cases h
theorem Apart.symm {v y : Value} (h : Apart v y) : Apart y v := fun k hk hy => h k hy hk
theorem Apart.new {w : World} {B C : Nat} {v y : Value} {xs : List Int} (hv : Own w B v xs) (hy : ∀ k, y.ownBlock = some k → C ≤ k) (hC : w.heap.size ≤ C) : Apart v y := fun k hk hv' => by
  have h1 := (hv.block k hv').2
  have h2 := hy k hk
  omega
theorem wpList_appG {ops : Array Oper} {rest : List Oper} {o : Oper} {a : Act} {Q : Exit → Act → World → Prop} (wr : World) (hgd : o.guard = none) (s x : Operand)
    (ho : o.op = .call { callee := .builtin .append, args := #[s, x], argTypes := #[23, 23] })
    (B : Nat) (v : Value) (xs : List Int) (u : Int) (hs : a.eval s = v) (hx : a.eval x = .slice (some ⟨wr.heap.size, 0, none⟩) 1 1) (hown : Own wr B v xs)
    (hlen : xs.length + 1 ≤ 1000000000) (hB : B ≤ wr.heap.size)
    (h : ∀ v' w', Own w' B v' (xs ++ [u]) → Below B wr w' → (∀ y C ys, Own wr C y ys → Apart v y → Own w' C y ys ∧ Apart v' y) → wpList Try.prog ops Q rest (a.put o.dst v') w') :
    wpList Try.prog ops Q (o :: rest) a (wr.alloc (.cells #[.int .i64 u] 2)) := by
  obtain ⟨i0, hi, hz0, hz1, hz2⟩ := info_parts infoI
  refine wpList_append_own_at _ hgd s x 23 ho B 2 i0 (.int .i64 0) 1 8 Try.underlying23 hi hz0 hz1 hz2 rfl (by decide) v xs.length (xs.map (Value.int .i64)) hs (World.ownsRow.alloc hown _)
    ⟨wr.heap.size, 0, none⟩ 1 1 [.int .i64 u] hx rfl (cell_one_new _ _ _) ?_ ?_ ?_ ?_ ?_
  · intro u' hu; simp at hu; subst hu; rfl
  · unfold maxLen; omega
  · omega
  · simp; omega
  · intro v' w' hown' hgrow _ hblk
    have hsz : (wr.alloc (.cells #[.int .i64 u] 2)).heap.size = wr.heap.size + 1 := Array.size_push _
    refine h v' w' ?_ ?_ ?_
    · show World.ownsRow _ _ _ _ _ (xs ++ [u]).length _
      rw [List.length_append, List.map_append]
      exact hown'
    · exact ((Below.refl B wr).alloc hB _).grown hgrow (by omega) (fun k hk => (Own.block hown k hk).1)
    · intro y C ys hy hap
      refine ⟨Own.kept (World.ownsRow.alloc hy _) hgrow fun k hk e => hap k hk e.symm, fun k hk e => ?_⟩
      rcases hblk with hb | hb
      · exact hap k hk (hb ▸ e)
      · rw [hb] at e
        have := (hy.block k hk).2
        injection e with e
        omega
theorem Own.lit (w : World) (u : Int) : Own (w.alloc (.cells #[.int .i64 u] 2)) w.heap.size (.slice (some ⟨w.heap.size, 0, none⟩) 1 1) [u] :=
  World.ownsRow_lit w #[.int .i64 u] 1 (Nat.le_refl _) (by unfold maxLen; omega) rfl
theorem Own.lit0 (w : World) : Own (w.alloc (.cells #[] 2)) w.heap.size (.slice (some ⟨w.heap.size, 0, none⟩) 0 0) [] :=
  World.ownsRow_lit w #[] 0 (Nat.le_refl _) (by unfold maxLen; omega) rfl
theorem Own.form {w : World} {B : Nat} {v : Value} {xs : List Int} (h : Own w B v xs) : ∃ a c, v = .slice a xs.length c := by
  rcases h.cases with ⟨rfl, rfl⟩ | ⟨g, cap, rfl, _⟩
  · exact ⟨_, _, rfl⟩
  · exact ⟨_, _, rfl⟩
end Go.Proofs.Ytngbddmbmkphcaa
namespace Go.Proofs.Ytngbddmbmkphcaa.Pv
open Go.RowKit
def emptyL (n : Nat) : List Int := List.replicate n (-1)
theorem emptyL_len (n : Nat) : (emptyL n).length = n := by simp [emptyL]
def empV (b : Bool) (n : Nat) : List Int := if b then emptyL n else []
theorem empV_len (b : Bool) (n : Nat) : (empV b n).length ≤ n := by cases b <;> simp [empV, emptyL]
theorem emptyL_succ (n : Nat) : emptyL (n + 1) = emptyL n ++ [-1] := by simp [emptyL, List.replicate_succ']
set_option maxHeartbeats 1000000 in
set_option maxRecDepth 100000 in
theorem empty6_i (w : World) : Calls Try.prog 64 #[] w (RetB (six (-1) (-1) (-1) (-1) (-1) (-1)) w) := by
  go_enter Try.func64, Try.ntmps64
  go_wp2
  refine wp_loop_rounds 7 ?_
  rw [rounds_succ]
  go_wp2
  rw [rounds_succ]
  go_wp2
  rw [rounds_succ]
  go_wp2
  rw [rounds_succ]
  go_wp2
  rw [rounds_succ]
  go_wp2
  rw [rounds_succ]
  go_wp2
  rw [rounds_succ]
  go_wp2
  refine bodyPost_ret (v := six (-1) (-1) (-1) (-1) (-1) (-1)) (by simp [six, results, Try.results64, go_sem]) rfl ⟨rfl, ?_⟩
  go_grown
/-- What a function leaves that returns a list of its own in a block of whatever type, and whether it succeeded. -/
def ResW (xs : List Int) (ok : Bool) (w : World) (e : Ending) (w' : World) : Prop := ∃ v, e = .returned (.tuple #[v, .bool ok]) ∧ OwnW w' w.heap.size v xs ∧ Below w.heap.size w w'
set_option maxHeartbeats 1000000 in
theorem l03Empty_s (g M c' : Nat) (a' : Option Addr) (w : World) (hg : g < w.heap.size) (h1 : w.cell? ⟨g, 1, none⟩ = some (.slice a' M c')) (hM : M ≤ 1000) :
    Calls Try.prog 42 #[.pointer (some ⟨g, 0, none⟩)] w (Lb (emptyL M) w) := by
  have H0 := Lib.hid (Own.lit0 w)
  go_enter Try.func42, Try.ntmps42
  go_wp2
  go_loopw [3, 4] (fun v i wr => ∃ j : Nat, j ≤ M ∧ i = .int .i64 (j : Nat) ∧ Hid (Own wr w.heap.size v (emptyL j)) ∧ Hid (Below w.heap.size w wr)) (fun _ i _ => M - (intOf i).toNat)
  case atStart => exact ⟨0, Nat.zero_le _, rfl, H0, (Below.refl _ _).alloc (Nat.le_refl _) _⟩
  case round =>
    obtain ⟨j, hj, rfl, hO, hb⟩ := hrel
    have c1 : wr.cell? ⟨g, 1, none⟩ = some (.slice a' M c') := (hb.out.cell (p := ⟨g, 1, none⟩) hg).trans h1
    by_cases hlt : j < M
    · have ho := hO.out
      have hsz := hb.out.size
      have hq1 : (emptyL j).length + 1 ≤ 1000000000 := by rw [emptyL_len]; omega
      have HE := Lib.hid (emptyL_succ j)
      generalize emptyL j = L at *
      go_wp2_with (at_builtin; refine wpList_app _ rfl _ _ rfl w.heap.size _ L _ ?_ ?_ ho hq1 hsz ?_; rfl; rfl)
      intro v1 w1 ho1 hb1
      go_wp2
      go_roundw
      case rel => exact ⟨j + 1, by omega, by go_num, (by rw [HE.out]; exact ho1), hb.out.trans hb1⟩
      case measure => simp [intOf]; omega
    · have e : j = M := by omega
      subst e
      go_wp2
      go_ret
      exact ⟨_, rfl, hO.out, hb.out⟩
theorem rowL_empty (n : Nat) : rowL n (fun _ => -1) = emptyL n := by
  unfold rowL emptyL
  rw [List.map_const', List.length_range]
theorem rulC_ways (n : Nat) (hs : List (List Int)) (ms : List Int) : (rulC true n hs ms)[0]? = some (.int .i64 n) := rfl
end Go.Proofs.Ytngbddmbmkphcaa.Pv
