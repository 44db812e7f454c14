/- Lists of what is told about each use: the model's loops, and the program's loop over a function value. -/
import Derived.Test.YtlpooiihoiddbaaCgaps
namespace Go.Proofs.Ytlpooiihoiddbaa.Tr
open Go.RowKit
theorem gapAt_rng (xs : List Int) (i : Nat) : 0 ≤ gapAt xs i ∧ gapAt xs i ≤ i := by
  unfold gapAt
  have := lastAt_rng xs (xs.getD i 0) i
  simp only
  split <;> omega
theorem gaps_no_s {v : Value} {xs : List Int} {w : World} (h : Rd w v xs) (hn : xs.length ≤ 1048576) (hok : okU xs = false) :
    Calls Try.prog 16 #[v] w (Res [] false w) := by
  have hU := Lib.hid (uses_sR h hn)
  rw [hok] at hU
  go_enter Try.func16, Try.ntmps16
  go_wp2_with (go_at_call 34; refine hU.out.mono ?_; rintro e w' ⟨rfl, rfl⟩)
  go_ret2
  exact ⟨_, rfl, Own.nil _ _, Below.refl _ _⟩
theorem next_no_s {v : Value} {xs : List Int} {w : World} (h : Rd w v xs) (hn : xs.length ≤ 1048576) (hok : okU xs = false) :
    Calls Try.prog 20 #[v] w (Res [] false w) := by
  have hU := Lib.hid (uses_sR h hn)
  rw [hok] at hU
  go_enter Try.func20, Try.ntmps20
  go_wp2_with (go_at_call 34; refine hU.out.mono ?_; rintro e w' ⟨rfl, rfl⟩)
  go_ret2
  exact ⟨_, rfl, Own.nil _ _, Below.refl _ _⟩
set_option maxHeartbeats 1000000 in
theorem gaps_yes_s {v : Value} {xs : List Int} {w : World} (h : Rd w v xs) (hok : okU xs = true) :
    Calls Try.prog 16 #[v] w (Res (told (gapAt xs) xs.length) true w) := by
  have hn : xs.length ≤ 60 := okU_len hok
  have hU := Lib.hid (uses_sR h (by omega))
  rw [hok] at hU
  obtain ⟨a, c, rfl, _, _, hr⟩ := h
  have HC := Lib.hid hr
  have HL := Lib.hid (fun (j : Nat) (wr : World) (_ : j < xs.length) (hb : Below w.heap.size w wr) => last_s a c xs (xs.getD j 0) j wr (by omega) (by omega) (hr.below hb))
  have HG := Lib.hid (fun (i : Nat) => show gapAt xs i = (if lastAt xs (xs.getD i 0) i < 0 then 0 else (i : Int) - lastAt xs (xs.getD i 0) i) ∧ -1 ≤ lastAt xs (xs.getD i 0) i ∧ lastAt xs (xs.getD i 0) i < i from ⟨rfl, lastAt_rng xs (xs.getD i 0) i⟩)
  clear hr
  unfold Row at HC
  generalize hN : xs.length = N at *
  go_enter Try.func16, Try.ntmps16
  go_wp2_with (go_at_call 34; refine hU.out.mono ?_; rintro e w' ⟨rfl, rfl⟩)
  go_loopw [4, 5] (fun v i wr => ∃ j : Nat, j ≤ N ∧ i = .int .i64 j ∧ Own wr w.heap.size v (told (gapAt xs) j) ∧ Below w.heap.size w wr) (fun _ i _ => N - (intOf i).toNat)
  case atStart => exact ⟨0, Nat.zero_le _, rfl, World.ownsRow_lit w #[] 0 (Nat.le_refl _) (by unfold maxLen; omega) rfl, (Below.refl _ _).alloc (Nat.le_refl _) _⟩
  case round =>
    obtain ⟨j, hj, rfl, ho, hb⟩ := hrel
    have hsz := hb.size
    have hlen : (told (gapAt xs) j).length = j := told_length _ _
    have HLEN := Lib.hid hlen
    have hq : (told (gapAt xs) j).length + 1 ≤ 1000000000 := by rw [hlen]; omega
    clear hlen
    by_cases hlt : j < N
    · obtain ⟨b0, off, rfl, c1, hb0⟩ := HC.out j hlt
      have c2 : wr.cell? ⟨b0, off + j, none⟩ = some (.int .i64 (xs.getD j 0)) := (hb.cell (p := ⟨b0, off + j, none⟩) hb0).trans c1
      have hL := Lib.hid (HL.out j wr hlt hb)
      obtain ⟨hg, hr1, hr2⟩ := HG.out j
      have HS := Lib.hid (told_succ (gapAt xs) j)
      have HGJ := Lib.hid hg
      clear c1 hg HL HG
      generalize gapAt xs j = gj at *
      generalize lastAt xs (xs.getD j 0) j = r at *
      generalize xs.getD j 0 = u at *
      by_cases hneg : r < 0
      · have e : gj = (j : Int) - j := by rw [HGJ.out, if_pos hneg]; omega
        clear HGJ
        subst e
        go_wp2_with (first | (go_at_call 36; refine hL.out.mono ?_; rintro e w' ⟨rfl, rfl⟩) | (at_builtin; refine wpList_app _ rfl _ _ rfl w.heap.size _ (told (gapAt xs) j) _ ?_ ?_ ho hq hsz ?_; rfl; rfl))
        intro v' w1 ho1 hb1
        go_wp2
        go_roundw
        case rel => exact ⟨j + 1, by omega, by go_num, by rw [HS.out]; simpa using ho1, hb.trans hb1⟩
        case measure => simp [intOf]; omega
      · have e : gj = (j : Int) - r := by rw [HGJ.out, if_neg hneg]
        clear HGJ
        subst e
        go_wp2_with (first | (go_at_call 36; refine hL.out.mono ?_; rintro e w' ⟨rfl, rfl⟩) | (at_builtin; refine wpList_app _ rfl _ _ rfl w.heap.size _ (told (gapAt xs) j) _ ?_ ?_ ho hq hsz ?_; rfl; rfl))
        intro v' w1 ho1 hb1
        go_wp2
        go_roundw
        case rel => exact ⟨j + 1, by omega, by go_num, by rw [HS.out]; exact ho1, hb.trans hb1⟩
        case measure => simp [intOf]; omega
    · have e : j = N := by omega
      subst e
      go_wp2
      go_ret2
      exact ⟨_, rfl, ho, hb⟩
set_option maxHeartbeats 1000000 in
theorem next_yes_s {v : Value} {xs : List Int} {w : World} (h : Rd w v xs) (hok : okU xs = true) :
    Calls Try.prog 20 #[v] w (Res (told (nextAt xs) xs.length) true w) := by
  have hn : xs.length ≤ 60 := okU_len hok
  have hU := Lib.hid (uses_sR h (by omega))
  rw [hok] at hU
  obtain ⟨a, c, rfl, _, _, hr⟩ := h
  have HC := Lib.hid hr
  have HL := Lib.hid (fun (j : Nat) (wr : World) (_ : j < xs.length) (hb : Below w.heap.size w wr) => next_s a c xs j wr (by omega) (by omega) (hr.below hb))
  have HG := Lib.hid (fun (i : Nat) => (rfl : i = i))
  clear hr
  unfold Row at HC
  generalize hN : xs.length = N at *
  go_enter Try.func20, Try.ntmps20
  go_wp2_with (go_at_call 34; refine hU.out.mono ?_; rintro e w' ⟨rfl, rfl⟩)
  go_loopw [4, 5] (fun v i wr => ∃ j : Nat, j ≤ N ∧ i = .int .i64 j ∧ Own wr w.heap.size v (told (nextAt xs) j) ∧ Below w.heap.size w wr) (fun _ i _ => N - (intOf i).toNat)
  case atStart => exact ⟨0, Nat.zero_le _, rfl, World.ownsRow_lit w #[] 0 (Nat.le_refl _) (by unfold maxLen; omega) rfl, (Below.refl _ _).alloc (Nat.le_refl _) _⟩
  case round =>
    obtain ⟨j, hj, rfl, ho, hb⟩ := hrel
    have hsz := hb.size
    have hlen : (told (nextAt xs) j).length = j := told_length _ _
    have HLEN := Lib.hid hlen
    have hq : (told (nextAt xs) j).length + 1 ≤ 1000000000 := by rw [hlen]; omega
    clear hlen
    by_cases hlt : j < N
    · have hL := Lib.hid (HL.out j wr hlt hb)
      have HS := Lib.hid (told_succ (nextAt xs) j)
      clear HL HG
      generalize nextAt xs j = gj at *
      go_wp2_with (first | (go_at_call 39; refine hL.out.mono ?_; rintro e w2 ⟨rfl, hb2⟩; have ho2 := ho.below hb2 (Nat.le_refl _); have hsz2 : w.heap.size ≤ w2.heap.size := Nat.le_trans hsz hb2.size) | (at_builtin; refine wpList_app _ rfl _ _ rfl w.heap.size _ (told (nextAt xs) j) _ ?_ ?_ ho2 hq hsz2 ?_; rfl; rfl))
      intro v' w1 ho1 hb1
      go_wp2
      go_roundw
      case rel => exact ⟨j + 1, by omega, by go_num, by rw [HS.out]; exact ho1, (hb.trans (hb2.mono hsz)).trans hb1⟩
      case measure => simp [intOf]; omega
    · have e : j = N := by omega
      subst e
      go_wp2
      go_ret2
      exact ⟨_, rfl, ho, hb⟩
end Go.Proofs.Ytlpooiihoiddbaa.Tr
