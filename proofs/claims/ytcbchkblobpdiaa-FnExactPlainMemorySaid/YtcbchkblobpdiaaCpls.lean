/- The model's walk over accesses without a cache; its PlainReads and PlainMemory. -/
import Derived.Test.YtcbchkblobpdiaaPlainPl
import Derived.Test.YtcbchkblobpdiaaCvt
import Derived.Test.YtcbchkblobpdiaaCto
import Derived.Test.YtcbchkblobpdiaaCown
namespace Go.Proofs.Ytcbchkblobpdiaa.Pl
open Go.RowKit Ac Tr
theorem okT_get {xs : List (Int × Int)} (h : okT xs = true) (j : Nat) (hj : j < xs.length) : isK (xs.getD j (0, 0)).1 = true ∧ isA (xs.getD j (0, 0)).2 = true := by
  unfold okT at h
  rw [Bool.and_eq_true, List.all_eq_true] at h
  have h2 := h.2 _ (List.getElem_mem hj)
  rw [List.getD_eq_getElem?_getD, List.getElem?_eq_getElem hj]
  unfold okE at h2
  rw [Bool.and_eq_true] at h2
  exact h2
theorem okT_at {xs : List (Int × Int)} (h : okT xs = true) (j : Nat) (hj : j < xs.length) : ∃ a : Nat, a < 64 ∧ (xs.getD j (0, 0)).2 = (a : Int) := by
  have h2 := (okT_get h j hj).2
  unfold isA at h2
  rw [Bool.and_eq_true, decide_eq_true_eq, decide_eq_true_eq] at h2
  exact ⟨(xs.getD j (0, 0)).2.toNat, by omega, by omega⟩
theorem own_apart {w : World} {b : Nat} {v : Value} {xs : List Int} (h : Own w (b + 1) v xs) (j : Nat) (u : Value) : Own (w.setCell ⟨b, j, none⟩ u) (b + 1) v xs :=
  h.kept (row := some b) ⟨rfl, rfl, rfl, by simp, fun k _ hk => Go.heap_setCell_other w ⟨b, j, none⟩ k u (fun e => hk (by simp [e]))⟩ (fun k hk e => by have := (Own.block h k hk).1; injection e; omega)
theorem own_later {w w' : World} {b n c : Nat} {xs : List Int} (h : Own w b (.slice (some ⟨b, 0, none⟩) n c) xs) (hb : Below (b + 1) w w') : Own w' b (.slice (some ⟨b, 0, none⟩) n c) xs := by
  refine ⟨h.1, ?_⟩
  rcases h.2 with ⟨h', _⟩ | ⟨g, cap, cur, hv', hg, hh, r⟩
  · cases h'
  · refine .inr ⟨g, cap, cur, hv', hg, ?_, r⟩
    rw [hb.block g (by injection hv' with e; injection e with e; injection e with e; omega)]; exact hh
/-- Two lists of one call's own: the words and the reads. -/
def Two (ws rs : List Int) (w : World) (e : Ending) (w' : World) : Prop :=
  ∃ v u, e = .returned (.tuple #[v, u]) ∧ Own w' w.heap.size v rs ∧ Own w' w.heap.size u ws ∧ Below w.heap.size w w'
theorem zeros_map : (List.replicate 64 (0 : Int)).map (Value.int .i64) = List.replicate 64 (.int .i64 0) := by rw [List.map_replicate]
set_option maxRecDepth 100000 in
set_option maxHeartbeats 4000000 in
theorem plain_s (a : Option Addr) (c : Nat) (xs : List (Int × Int)) (w : World) (hok : okT xs = true) (hr : RowA w a xs) :
    Calls Try.prog 28 #[.slice a xs.length c] w (Two (plW xs xs.length) (plR xs xs.length) w) := by
  obtain ⟨i0, hi, hz0, hz1, hz2⟩ := info_parts infoI
  have hn : xs.length ≤ 60 := okT_len hok
  have HC := Lib.hid hr
  have HA := Lib.hid (okT_at hok)
  have HW := Lib.hid (fun j => (show plW xs (j + 1) = if (xs.getD j (0, 0)).1 = 1 then (plW xs j).set (xs.getD j (0, 0)).2.toNat ((j : Int) + 1) else plW xs j from rfl))
  have HR := Lib.hid (fun j => (show plR xs (j + 1) = if (xs.getD j (0, 0)).1 = 1 then plR xs j else plR xs j ++ [(plW xs j).getD (xs.getD j (0, 0)).2.toNat 0] from rfl))
  have HWL := Lib.hid (plW_len xs)
  have HRL := Lib.hid (plR_len xs)
  have H0 := Lib.hid (show plW xs 0 = List.replicate 64 0 from rfl)
  have H1 := Lib.hid (show plR xs 0 = [] from rfl)
  clear hr hok
  unfold RowA at HC
  generalize plW xs = W at *
  generalize plR xs = R at *
  generalize hN : xs.length = N at *
  clear hN
  go_enter Try.func28, Try.ntmps28
  go_wp2_with (at_make; refine wpList_make_full _ rfl _ _ 23 rfl w.heap.size 2 i0 (.int .i64 0) 1 Try.underlying23 hi hz0 hz1 .i64 .i64 64 64 64 ?_ ?_ rfl rfl ?_ ?_ ?_ ?_; rfl; rfl)
  · rw [hz2]; omega
  · unfold maxLen; omega
  · exact Nat.le_refl _
  intro w1 hown hgr
  have hO : Own w1 w.heap.size (.slice (some ⟨w.heap.size, 0, none⟩) 64 64) (W 0) := by
    rw [H0.out]
    show World.ownsRow _ _ _ _ _ _ _
    rw [zeros_map]
    have e2 : (madeCells #[Value.int .i64 0] 64).toList = List.replicate 64 (Value.int .i64 0) := toList_madeCells_one _ _
    rw [← e2]; exact hown
  have hB1 : Below w.heap.size w w1 := (Below.refl _ _).grown hgr (Nat.le_refl _) (by simp)
  have hs1 : w.heap.size < w1.heap.size := (Own.block hO _ rfl).2
  clear hown hgr
  go_wp2
  go_loopw [5, 6] (fun v i wr => ∃ j : Nat, j ≤ N ∧ i = .int .i64 j ∧ Hid (Own wr w.heap.size (.slice (some ⟨w.heap.size, 0, none⟩) 64 64) (W j)) ∧ Hid (Own wr (w.heap.size + 1) v (R j)) ∧ Hid (Below w.heap.size w wr)) (fun _ i _ => N - (intOf i).toNat)
  case atStart => exact ⟨0, Nat.zero_le _, rfl, Lib.hid (hO.below ((Below.refl _ w1).alloc (Nat.le_refl _) _) (Nat.le_refl _)), (by rw [H1.out]; exact (Own.lit0 w1).mono (by omega)), Lib.hid (hB1.alloc (by omega) _)⟩
  case round =>
    obtain ⟨j, hj, rfl, ho, hv, hb⟩ := hrel
    by_cases hlt : j < N
    · obtain ⟨b, off, rfl, g1, g2, hbl⟩ := HC.out j hlt
      have c1 := (hb.out.cell (p := ⟨b, off + j * 2, none⟩) hbl).trans g1
      have c2 := (hb.out.cell (p := ⟨b, off + j * 2 + 1, none⟩) hbl).trans g2
      obtain ⟨ad, had, e2⟩ := HA.out j hlt
      have hw := Lib.hid (HW.out j)
      have hrr := Lib.hid (HR.out j)
      have hwl := HWL.out j
      have hrl := HRL.out j
      have hsz := hb.out.size
      rw [e2] at c2 hw hrr
      clear g1 g2 e2
      obtain ⟨g, eg, _, _, k1, k2, k3⟩ := Own.cellAt ho.out hwl ad had
      have eg2 : w.heap.size = g := by simpa using eg
      subst eg2
      clear eg
      generalize (xs.getD j (0, 0)).1 = k at *
      by_cases hk : k = 1
      · subst hk
        have hst := Lib.hid (k3 ((j : Int) + 1))
        have hvp := Lib.hid (fun u => own_apart hv.out ad u)
        clear k3
        go_wp2
        go_roundw
        case rel => exact ⟨j + 1, by omega, by go_num, (by rw [hw.out, if_pos rfl]; exact hst.out.1), (by rw [hrr.out, if_pos rfl]; exact hvp.out _), Lib.hid (hb.out.grown hst.out.2 (by omega) (fun k hk => by injection hk; omega))⟩
        case measure => simp [intOf]; omega
      · have hk' : (k == 1) = false := by simp [hk]
        have hv5 := hv.out
        have hsz1 : w.heap.size + 1 ≤ wr.heap.size := (Own.block ho.out _ rfl).2
        have hrr2 : Hid (R (j + 1) = R j ++ [(W j).getD ad 0]) := by show _ = _; rw [hrr.out, if_neg hk]; rfl
        have hw2 : Hid (W (j + 1) = W j) := by show _ = _; rw [hw.out, if_neg hk]
        clear hw hrr
        generalize (W j).getD ad 0 = u at *
        have hq : (R j).length + 1 ≤ 1000000000 := by omega
        have hoA := Lib.hid (fun (w' : World) (hb' : Below (w.heap.size + 1) wr w') => own_later ho.out hb')
        clear k3
        go_wp2_with (at_builtin; refine wpList_app _ rfl _ _ rfl (w.heap.size + 1) _ (R j) _ ?_ ?_ hv5 hq hsz1 ?_; rfl; rfl)
        intro v' w6 ho6 hb6
        have ho7 := Lib.hid (hoA.out w6 hb6)
        have hb7 := Lib.hid (hb.out.trans (hb6.mono (by omega)))
        go_wp2
        go_roundw
        case rel => exact ⟨j + 1, by omega, by go_num, (by rw [hw2.out]; exact ho7.out), (by rw [hrr2.out]; exact ho6), hb7⟩
        case measure => simp [intOf]; omega
    · have e : j = N := by omega
      subst e
      go_wp2
      go_ret2
      exact ⟨_, _, rfl, hv.out.mono (by omega), ho.out, hb.out⟩
theorem preads_s (a : Option Addr) (c : Nat) (xs : List (Int × Int)) (w : World) (hn : xs.length ≤ 1048576) (hr : RowA w a xs) :
    Calls Try.prog 12 #[.slice a xs.length c] w (Res (if okT xs then plR xs xs.length else []) (okT xs) w) := by
  have hI := Lib.hid (is_s a c xs w hn hr)
  cases hok : okT xs
  · rw [hok] at hI
    clear hr
    generalize xs.length = N at *
    go_enter Try.func12, Try.ntmps12
    go_wp2_with (go_at_call 27; refine hI.out.mono ?_; rintro e w' ⟨rfl, rfl⟩)
    go_ret2
    exact ⟨_, rfl, Own.nil _ _, Below.refl _ _⟩
  · have hL := Lib.hid (plain_s a c xs w hok hr)
    rw [hok] at hI
    rw [if_pos rfl]
    clear hr
    generalize plR xs xs.length = L at *
    generalize plW xs xs.length = M at *
    generalize xs.length = N at *
    go_enter Try.func12, Try.ntmps12
    go_wp2_with (go_at_call 27; refine hI.out.mono ?_; rintro e w' ⟨rfl, rfl⟩)
    refine hL.out.mono ?_
    rintro e w1 ⟨v1, u1, rfl, o1, o2, b1⟩
    go_wp2
    go_ret2
    exact ⟨_, rfl, o1, b1⟩
theorem pmem_s (a : Option Addr) (c : Nat) (xs : List (Int × Int)) (w : World) (hn : xs.length ≤ 1048576) (hr : RowA w a xs) :
    Calls Try.prog 20 #[.slice a xs.length c] w (Res (if okT xs then plW xs xs.length else []) (okT xs) w) := by
  have hI := Lib.hid (is_s a c xs w hn hr)
  cases hok : okT xs
  · rw [hok] at hI
    clear hr
    generalize xs.length = N at *
    go_enter Try.func20, Try.ntmps20
    go_wp2_with (go_at_call 27; refine hI.out.mono ?_; rintro e w' ⟨rfl, rfl⟩)
    go_ret2
    exact ⟨_, rfl, Own.nil _ _, Below.refl _ _⟩
  · have hL := Lib.hid (plain_s a c xs w hok hr)
    rw [hok] at hI
    rw [if_pos rfl]
    clear hr
    generalize plR xs xs.length = L at *
    generalize plW xs xs.length = M at *
    generalize xs.length = N at *
    go_enter Try.func20, Try.ntmps20
    go_wp2_with (go_at_call 27; refine hI.out.mono ?_; rintro e w' ⟨rfl, rfl⟩)
    refine hL.out.mono ?_
    rintro e w1 ⟨v1, u1, rfl, o1, o2, b1⟩
    go_wp2
    go_ret2
    exact ⟨_, rfl, o2, b1⟩
end Go.Proofs.Ytcbchkblobpdiaa.Pl
