/- Ranks: the program's test and the model's. -/
import Derived.Test.YtbajnkojjeakgaaCuses
import Derived.Test.YtbajnkojjeakgaaCto
import Derived.Laws.Rows
namespace Go.Proofs.Ytbajnkojjeakgaa.Tr
open Go.RowKit
def okRk (rs : List Int) : Bool := decide (rs.length = 64) && (rs.all isA && decide rs.Nodup)
theorem rk_addr (rs : List Int) (j : Nat) (hj : j < rs.length) (h : isA (rs.getD j 0) = false) : okRk rs = false := by
  unfold okRk; rw [all_no rs j hj h, Bool.false_and, Bool.and_false]
theorem rk_dup (rs : List Int) (j : Nat) (hj : j < rs.length) (h : rs.getD j 0 ∈ rs.take j) : okRk rs = false := by
  have hn : ¬ rs.Nodup := fun hd => by
    have h2 : (rs.take (j + 1)).Nodup := (List.take_sublist _ _).nodup hd
    rw [List.take_succ_eq_append_getElem hj, ← getD_get' rs j hj] at h2
    exact (List.nodup_append.1 h2).2.2 _ h _ (by simp) rfl
  unfold okRk; rw [decide_eq_false hn, Bool.and_false, Bool.and_false]
/-- So far each is an address, and none is there twice. -/
def GoodK (rs : List Int) (j : Nat) : Prop := (rs.take j).all isA = true ∧ (rs.take j).Nodup
theorem good_zero (rs : List Int) : GoodK rs 0 := by simp [GoodK]
theorem good_succ (rs : List Int) (j : Nat) (hj : j < rs.length) (h : GoodK rs j) (h1 : isA (rs.getD j 0) = true) (h2 : rs.getD j 0 ∉ rs.take j) : GoodK rs (j + 1) := by
  refine ⟨by rw [all_step rs j hj, h.1, h1]; rfl, ?_⟩
  rw [List.take_succ_eq_append_getElem hj, ← getD_get' rs j hj]
  refine List.nodup_append.2 ⟨h.2, by simp, fun a ha b hb e => ?_⟩
  rw [List.mem_singleton] at hb
  rw [e, hb] at ha
  exact h2 ha
theorem good_end (rs : List Int) (h : GoodK rs rs.length) : okRk rs = decide (rs.length = 64) := by
  obtain ⟨h1, h2⟩ := h
  rw [List.take_length] at h1 h2
  unfold okRk; rw [h1, decide_eq_true h2]; simp
theorem okRk_at {rs : List Int} (h : okRk rs = true) : rs.length = 64 := by
  unfold okRk at h; rw [Bool.and_eq_true] at h; exact of_decide_eq_true h.1
/-- Which numbers have been taken. -/
def seenB (rs : List Int) (j : Nat) : List Value := (List.range 64).map fun i => Value.bool (decide (((i : Nat) : Int) ∈ rs.take j))
theorem seenB_len (rs : List Int) (j : Nat) : (seenB rs j).length = 64 := by simp [seenB]
theorem seenB_get (rs : List Int) (j q : Nat) (hq : q < 64) : (seenB rs j)[q]? = some (.bool (decide (((q : Nat) : Int) ∈ rs.take j))) := by simp [seenB, hq]
theorem seenB_zero (rs : List Int) : seenB rs 0 = List.replicate 64 (.bool false) := by
  unfold seenB
  rw [List.take_zero]
  rfl
theorem seenB_set (rs : List Int) (j q : Nat) (hj : j < rs.length) (hx : rs.getD j 0 = ((q : Nat) : Int)) (hq : q < 64) : (seenB rs j).set q (.bool true) = seenB rs (j + 1) := by
  apply List.ext_getElem?
  intro i
  by_cases hi : i < 64
  · rw [seenB_get rs (j + 1) i hi, List.take_succ_eq_append_getElem hj, ← getD_get' rs j hj, hx]
    by_cases e : q = i
    · subst e; rw [List.getElem?_set_self (by rw [seenB_len]; exact hi)]; simp
    · rw [List.getElem?_set_ne e, seenB_get rs j i hi]
      have e2 : ¬ (i : Int) = (q : Int) := by omega
      simp [e2]
  · rw [List.getElem?_eq_none (by rw [List.length_set, seenB_len]; omega), List.getElem?_eq_none (by rw [seenB_len]; omega)]
/-- The block that remembers it. -/
def Seen (w : World) (g : Nat) (t : TypeId) (rs : List Int) (j : Nat) : Prop := w.heap[g]? = some (.cells (seenB rs j).toArray t (0, 0))
theorem Seen.cell {w : World} {g : Nat} {t : TypeId} {rs : List Int} {j : Nat} (h : Seen w g t rs j) (q : Nat) (hq : q < 64) : w.cell? ⟨g, q, none⟩ = some (.bool (decide (((q : Nat) : Int) ∈ rs.take j))) ∧ w.frozen? ⟨g, q, none⟩ = false := by
  refine ⟨?_, frozen_of_row w g q _ _ h⟩
  rw [cell_of_row w g q _ _ (0, 0) h, List.getElem?_toArray]; exact seenB_get rs j q hq
theorem Seen.set {w : World} {g : Nat} {t : TypeId} {rs : List Int} {j : Nat} (h : Seen w g t rs j) (q : Nat) (hj : j < rs.length) (hx : rs.getD j 0 = ((q : Nat) : Int)) (hq : q < 64) : Seen (w.setCell ⟨g, q, none⟩ (.bool true)) g t rs (j + 1) := by
  unfold Seen
  rw [heap_setCell_same w g q _ _ _ h, List.setIfInBounds_toArray, seenB_set rs j q hj hx hq]
set_option maxHeartbeats 1000000 in
set_option maxRecDepth 100000 in
theorem ranks_i {v : Value} {rs : List Int} {w : World} (h : Rd w v rs) (hn : rs.length ≤ 1048576) :
    Calls Try.prog 25 #[v] w (Bb (okRk rs) w) := by
  obtain ⟨a, c, rfl, _, _, hr⟩ := h
  by_cases h64 : rs.length = 64
  · have HC := Lib.hid hr
    have HA := Lib.hid (rk_addr rs)
    have HDu := Lib.hid (rk_dup rs)
    have HG := Lib.hid (good_succ rs)
    have HE : Hid (GoodK rs 64 → okRk rs = true) := by
      show _ → _
      intro hg
      have h2 := good_end rs (by rw [h64]; exact hg)
      rw [h2, decide_eq_true h64]
    have HZ := Lib.hid (seenB_zero rs)
    rw [h64] at HA HDu HG
    have H64 := Lib.hid h64
    rw [h64]
    clear h64 hr
    unfold Row at HC
    rw [H64.out] at HC
    generalize okRk rs = ok at *
    go_enter Try.func25, Try.ntmps25
    go_wp2
    go_loopw [11] (fun i wr => ∃ j : Nat, j ≤ 64 ∧ i = .int .i64 j ∧ Hid (GoodK rs j) ∧ Hid (Seen wr w.heap.size 76 rs j) ∧ Hid (Below w.heap.size w wr)) (fun i _ => 64 - (intOf i).toNat)
    case atStart => exact ⟨0, Nat.zero_le _, rfl, Lib.hid (good_zero rs), Lib.hid (by unfold Seen; rw [HZ.out]; exact heap_alloc_new w _), Lib.hid ((Below.refl _ w).alloc (Nat.le_refl _) _)⟩
    case round =>
      obtain ⟨j, hj, rfl, hgd, hsn, hB⟩ := hrel
      by_cases hlt : j < 64
      · obtain ⟨b, off, rfl, c1, hb⟩ := HC.out j hlt
        have c2 : wr.cell? ⟨b, off + j, none⟩ = some (.int .i64 (rs.getD j 0)) := (hB.out.cell (p := ⟨b, off + j, none⟩) hb).trans c1
        have hbl : ¬ b = w.heap.size := by omega
        have hI := Lib.hid (between_a (rs.getD j 0) wr)
        have hno := Lib.hid (HA.out j hlt)
        have hdu := Lib.hid (HDu.out j hlt)
        have hgs := Lib.hid (HG.out j hlt hgd.out)
        have hst := Lib.hid (fun q hx hq => Seen.set hsn.out q (by rw [H64.out]; exact hlt) hx hq)
        have hce := Lib.hid (fun q hq => Seen.cell hsn.out q hq)
        clear c1 HA HDu HG
        generalize rs.getD j 0 = u at *
        cases hu : isA u
        · have e : ok = false := hno.out hu
          subst e
          rw [hu] at hI
          clear hu
          go_wp2_with (go_at_call 37; (with_reducible refine hI.out.mono ?_); rintro e w' ⟨rfl, rfl⟩)
          go_ret
          exact ⟨rfl, hB.out⟩
        · obtain ⟨u0, u1⟩ := isA_of hu
          obtain ⟨q, rfl⟩ := Int.eq_ofNat_of_zero_le u0
          have hq : q < 64 := by omega
          have hqi : (q : Int) < 64 := by omega
          obtain ⟨d1, d2⟩ := hce.out q hq
          rw [hu] at hI
          by_cases hm : ((q : Nat) : Int) ∈ rs.take j
          · have e : ok = false := hdu.out hm
            subst e
            rw [decide_eq_true hm] at d1
            clear hu hm
            go_wp2_with (go_at_call 37; (with_reducible refine hI.out.mono ?_); rintro e w' ⟨rfl, rfl⟩)
            go_ret
            exact ⟨rfl, hB.out⟩
          · have hgn := Lib.hid (hgs.out hu hm)
            have hsn2 := Lib.hid (hst.out q rfl hq)
            have hB2 := Lib.hid (hB.out.setCell (p := ⟨w.heap.size, q, none⟩) (Nat.le_refl _) (.bool true))
            rw [decide_eq_false hm] at d1
            clear hu hm
            go_wp2_with (go_at_call 37; (with_reducible refine hI.out.mono ?_); rintro e w' ⟨rfl, rfl⟩)
            go_roundw
            case rel => exact ⟨j + 1, by omega, by go_num, hgn, hsn2, hB2⟩
            case measure => simp [intOf]; omega
      · have e : j = 64 := by omega
        subst e
        have e : ok = true := HE.out hgd.out
        subst e
        go_wp2
        go_ret
        exact ⟨rfl, hB.out⟩
  · have e : okRk rs = false := by unfold okRk; rw [decide_eq_false h64, Bool.false_and]
    rw [e]
    have h64' : ¬ ((rs.length : Nat) : Int) = 64 := by omega
    clear h64 e hr
    generalize rs.length = N at *
    go_enter Try.func25, Try.ntmps25
    go_wp2
    go_ret
    exact ⟨rfl, Below.refl _ _⟩
theorem infoB : (Try.prog.info? 4).map (fun i => (i.zero, i.size, i.bytes)) = some (some (.bool false), 1, 1) := by kernel_rfl
theorem Seen.of_made {w : World} {g : Nat} {rs : List Int} (h : w.ownsRow g 4 1 (.slice (some ⟨g, 0, none⟩) 64 64) 64 (List.replicate 64 (.bool false))) : Seen w g 4 rs 0 := by
  rcases h.2 with ⟨hv, _⟩ | ⟨g', cap, cur, hv, _, hh, _, _, hs, ht⟩
  · cases hv
  · injection hv with h1 h2 h3
    injection h1 with h1
    injection h1 with h1
    subst h1 h3
    have e : cur.toList = List.replicate 64 (.bool false) := by
      rw [← ht, List.take_of_length_le]; simp; omega
    unfold Seen
    rw [hh, seenB_zero, ← e]
set_option maxHeartbeats 1000000 in
set_option maxRecDepth 100000 in
theorem ranks_s {v : Value} {rs : List Int} {w : World} (h : Rd w v rs) (hn : rs.length ≤ 1048576) :
    Calls Try.prog 32 #[v] w (Bb (okRk rs) w) := by
  obtain ⟨a, c, rfl, _, _, hr⟩ := h
  have HC := Lib.hid hr
  have HA := Lib.hid (rk_addr rs)
  have HDu := Lib.hid (rk_dup rs)
  have HG := Lib.hid (good_succ rs)
  have HE := Lib.hid (good_end rs)
  clear hr
  unfold Row at HC
  generalize hN : rs.length = N at *
  have H64 := Lib.hid hN
  clear hN
  generalize okRk rs = ok at *
  obtain ⟨i0, hi, hz0, hz1, hz2⟩ := info_parts infoB
  go_enter Try.func32, Try.ntmps32
  go_wp2_with (at_make; refine wpList_make_full _ rfl _ _ 77 rfl w.heap.size 4 i0 (.bool false) 1 Try.underlying77 hi hz0 hz1 .i64 .i64 64 64 64 ?_ ?_ rfl rfl ?_ ?_ ?_ ?_; rfl; rfl)
  · rw [hz2]; omega
  · unfold maxLen; omega
  · exact Nat.le_refl _
  intro w1 hown hgr
  have hS0 : Seen w1 w.heap.size 4 rs 0 := Seen.of_made (by
    have e2 : (madeCells #[Value.bool false] 64).toList = List.replicate 64 (Value.bool false) := toList_madeCells_one _ _
    rw [← e2]; exact hown)
  have hB1 : Below w.heap.size w w1 := (Below.refl _ _).grown hgr (Nat.le_refl _) (by simp)
  clear hown hgr
  go_wp2
  go_loopw [4] (fun i wr => ∃ j : Nat, j ≤ N ∧ i = .int .i64 j ∧ Hid (GoodK rs j) ∧ Hid (Seen wr w.heap.size 4 rs j) ∧ Hid (Below w.heap.size w wr)) (fun i _ => N - (intOf i).toNat)
  case atStart => exact ⟨0, Nat.zero_le _, rfl, Lib.hid (good_zero rs), Lib.hid hS0, Lib.hid hB1⟩
  case round =>
    obtain ⟨j, hj, rfl, hgd, hsn, hB⟩ := hrel
    by_cases hlt : j < N
    · obtain ⟨b, off, rfl, c1, hb⟩ := HC.out j hlt
      have c2 : wr.cell? ⟨b, off + j, none⟩ = some (.int .i64 (rs.getD j 0)) := (hB.out.cell (p := ⟨b, off + j, none⟩) hb).trans c1
      have hbl : ¬ b = w.heap.size := by omega
      have hI := Lib.hid (addr_s (rs.getD j 0) wr)
      have hno := Lib.hid (HA.out j hlt)
      have hdu := Lib.hid (HDu.out j hlt)
      have hgs := Lib.hid (HG.out j hlt hgd.out)
      have hst := Lib.hid (fun q hx hq => Seen.set hsn.out q (by rw [H64.out]; exact hlt) hx hq)
      have hce := Lib.hid (fun q hq => Seen.cell hsn.out q hq)
      clear c1 HA HDu HG
      generalize rs.getD j 0 = u at *
      cases hu : isA u
      · have e : ok = false := hno.out hu
        subst e
        rw [hu] at hI
        clear hu
        go_wp2_with (go_at_call 60; (with_reducible refine hI.out.mono ?_); rintro e w' ⟨rfl, rfl⟩)
        go_ret
        exact ⟨rfl, hB.out⟩
      · obtain ⟨u0, u1⟩ := isA_of hu
        obtain ⟨q, rfl⟩ := Int.eq_ofNat_of_zero_le u0
        have hq : q < 64 := by omega
        have hqi : (q : Int) < 64 := by omega
        obtain ⟨d1, d2⟩ := hce.out q hq
        rw [hu] at hI
        by_cases hm : ((q : Nat) : Int) ∈ rs.take j
        · have e : ok = false := hdu.out hm
          subst e
          rw [decide_eq_true hm] at d1
          clear hu hm
          go_wp2_with (go_at_call 60; (with_reducible refine hI.out.mono ?_); rintro e w' ⟨rfl, rfl⟩)
          go_ret
          exact ⟨rfl, hB.out⟩
        · have hgn := Lib.hid (hgs.out hu hm)
          have hsn2 := Lib.hid (hst.out q rfl hq)
          have hB2 := Lib.hid (hB.out.setCell (p := ⟨w.heap.size, q, none⟩) (Nat.le_refl _) (.bool true))
          rw [decide_eq_false hm] at d1
          clear hu hm
          go_wp2_with (go_at_call 60; (with_reducible refine hI.out.mono ?_); rintro e w' ⟨rfl, rfl⟩)
          go_roundw
          case rel => exact ⟨j + 1, by omega, by go_num, hgn, hsn2, hB2⟩
          case measure => simp [intOf]; omega
    · have e : j = N := by omega
      subst e
      have e := HE.out hgd.out
      by_cases h64 : j = 64
      · rw [decide_eq_true h64] at e
        subst e
        have h64i : (j : Int) = 64 := by omega
        clear H64 h64 HE HA HDu HG HC
        go_wp2
        go_ret
        exact ⟨ret_bool (by simp), hB.out⟩
      · rw [decide_eq_false h64] at e
        subst e
        have h64i : ¬ (j : Int) = 64 := by omega
        clear H64 h64 HE HA HDu HG HC
        go_wp2
        go_ret
        exact ⟨ret_bool (by simp <;> omega), hB.out⟩
end Go.Proofs.Ytbajnkojjeakgaa.Tr
