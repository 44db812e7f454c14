/- Both UsesOf; marks in a list of accesses. -/
import Derived.Test.YtdjkmffekfbbcaaCvt
namespace Go.Proofs.Ytdjkmffekfbbcaa.Ac
open Go.RowKit Tr
def ls (xs : List (Int × Int)) : List Int := xs.map fun r => r.2
theorem ls_succ (xs : List (Int × Int)) (j : Nat) (h : j < xs.length) : ls (xs.take (j + 1)) = ls (xs.take j) ++ [(xs.getD j (0, 0)).2] := by
  unfold ls
  rw [List.take_succ_eq_append_getElem h, List.map_append, List.getD_eq_getElem?_getD, List.getElem?_eq_getElem h]
  rfl
theorem ls_len (xs : List (Int × Int)) (j : Nat) : (ls (xs.take j)).length ≤ j := by unfold ls; simp; omega
set_option maxHeartbeats 2000000 in
theorem uo_i (a : Option Addr) (c : Nat) (xs : List (Int × Int)) (w : World) (hn : xs.length ≤ 1048576) (hr : RowA w a xs) :
    Calls Try.prog 26 #[.slice a xs.length c] w (Res (if okT xs then ls xs else []) (okT xs) w) := by
  have hI := Lib.hid (valid_i a c xs w hn hr)
  cases hok : okT xs
  · rw [hok] at hI
    clear hr
    generalize xs.length = N at *
    go_enter Try.func26, Try.ntmps26
    go_wp2_with (go_at_call 33; refine hI.out.mono ?_; rintro e w' ⟨rfl, b1⟩)
    go_ret2
    exact ⟨_, rfl, Own.nil _ _, b1⟩
  · rw [hok] at hI
    show Calls _ _ _ w (Res (ls xs) true w)
    have h60 := okT_len hok
    have HC := Lib.hid (fun (w' : World) (hb : Below w.heap.size w w') => hr.below hb)
    have HS := Lib.hid (ls_succ xs)
    have HL := Lib.hid (ls_len xs)
    have HE := Lib.hid (show ls (xs.take xs.length) = ls xs by rw [List.take_length])
    clear hr hok
    unfold RowA at HC
    generalize ls xs = L at *
    generalize hN : xs.length = N at *
    clear hN
    go_enter Try.func26, Try.ntmps26
    go_wp2_with (first | (go_at_call 33; refine hI.out.mono ?_; rintro e w1 ⟨rfl, b1⟩) | (at_make; refine wpList_make0 _ rfl _ _ rfl N .i64 .i64 (N : Int) ?_ ?_ rfl ?_ ?_; rfl; rfl; omega))
    intro v2 w2 o2 b2 s2
    have HB2 := Lib.hid (b1.trans (b2.mono b1.size))
    have HW1 := Lib.hid b1.size
    clear b1 b2
    go_wp2
    go_loopw [4, 6, 15] (fun v _ i wr => ∃ j : Nat, j ≤ N ∧ i = .int .i64 j ∧ Hid (Own wr w1.heap.size v (ls (xs.take j))) ∧ Hid (Below w.heap.size w wr) ∧ Hid (w1.heap.size ≤ wr.heap.size)) (fun _ _ i _ => N - (intOf i).toNat)
    case atStart => exact ⟨0, Nat.zero_le _, rfl, o2, HB2, s2⟩
    case round =>
      obtain ⟨j, hj, rfl, ho, hb, hsz0⟩ := hrel
      by_cases hlt : j < N
      · obtain ⟨b, off, rfl, c1, c2, _⟩ := HC.out wr hb.out j hlt
        have hs := HS.out j hlt
        have hq : (ls (xs.take j)).length + 1 ≤ 1000000000 := by have := HL.out j; omega
        generalize xs.getD j (0, 0) = r at *
        obtain ⟨x, y⟩ := r
        have HS2 := Lib.hid hs
        have HB5 := Lib.hid (hb.out.alloc hb.out.size (.cells #[.int .i64 x, .int .i64 y] 49))
        have hal := Below.alloc (Below.refl wr.heap.size wr) (Nat.le_refl _) (.cells #[.int .i64 x, .int .i64 y] 49)
        have ho5 := Own.below ho.out hal (Nat.le_refl _)
        have hsz : w1.heap.size ≤ (wr.alloc (.cells #[.int .i64 x, .int .i64 y] 49)).heap.size := Nat.le_trans hsz0.out hal.size
        have HSZ := Lib.hid hsz
        clear hs ho hb hal
        generalize ls (xs.take j) = l at *
        go_wp2_with (at_builtin; refine wpList_app _ rfl _ _ rfl w1.heap.size _ l _ ?_ ?_ ho5 hq hsz ?_; rfl; exact (show Value.slice (some ⟨wr.heap.size + 1, 0, none⟩) 1 1 = Value.slice (some ⟨(wr.alloc _).heap.size, 0, none⟩) 1 1 from by simp))
        intro v' w6 ho6 hb6
        go_wp2
        go_roundw
        case rel => exact ⟨j + 1, by omega, by go_num, (by rw [HS2.out]; exact ho6), HB5.out.trans (hb6.mono HW1.out), Nat.le_trans HSZ.out hb6.size⟩
        case measure => simp [intOf]; omega
      · have e : j = N := by omega
        subst e
        go_wp2
        go_ret2
        exact ⟨_, rfl, (by rw [← HE.out]; exact ho.out.mono HW1.out), hb.out⟩
def MarkedA (v : Value) (n : Nat) (w : World) (e : Ending) (w' : World) : Prop := e = .returned (.int .i64 (1 + 2 * (n : Int))) ∧ w.grownBy w' v.ownBlock
set_option maxHeartbeats 2000000 in
theorem mark_own {w : World} {B : Nat} {v : Value} {xs : List (Int × Int)} (h : OwnA w B v xs) (hn : xs.length ≤ 1048576) :
    Calls Try.prog 13 #[v, .int .i64 1] w (MarkedA v xs.length w) := by
  rcases h.2 with ⟨rfl, h0⟩ | ⟨g, cap, cur, rfl, _⟩
  · rw [h0]
    go_enter Try.func13, Try.ntmps13
    go_wp2
    refine wp_loop_rounds 1 ?_
    rw [rounds_succ]
    go_wp2
    go_ret
    exact ⟨rfl, ⟨rfl, rfl, rfl, Nat.le_refl _, fun _ _ _ => rfl⟩⟩
  · have h0 : w.ownsRow B 49 2 (.slice (some ⟨g, 0, none⟩) xs.length cap) xs.length (acells xs) := h
    generalize hN : xs.length = N at *
    have HN := Lib.hid hN
    have H0 := Lib.hid h0
    clear hN h0 h
    go_enter Try.func13, Try.ntmps13
    go_wp2
    go_loopw [1, 5] (fun k i wr => ∃ j : Nat, j ≤ N ∧ i = .int .i64 j ∧ k = .int .i64 (1 + 2 * (j : Int)) ∧ ∃ ys : List (Int × Int), Hid (ys.length = N) ∧ Hid (wr.ownsRow B 49 2 (.slice (some ⟨g, 0, none⟩) N cap) N (acells ys)) ∧ Hid (w.grownBy wr (some g))) (fun _ i _ => N - (intOf i).toNat)
    case atStart => exact ⟨0, Nat.zero_le _, rfl, rfl, xs, HN, H0, ⟨rfl, rfl, rfl, Nat.le_refl _, fun _ _ _ => rfl⟩⟩
    case round =>
      obtain ⟨j, hj, rfl, rfl, ys, hy, ho, hg⟩ := hrel
      by_cases hlt : j < N
      · have hl := acells_length ys
        rw [hy.out] at hl
        have s1 := World.ownsRow.stored ho.out (j * 2) (.int .i64 (1 + 2 * (j : Int)))
        have s2 := World.ownsRow.stored s1.1 (j * 2 + 1) (.int .i64 (1 + 2 * (j : Int) + 1))
        rw [acells_set ys j _ _ (by rw [hy.out]; exact hlt)] at s2
        have S2 := Lib.hid s2.1
        have G2 := Lib.hid (grownBy_trans hg.out (grownBy_trans s1.2 s2.2))
        have k1 : ∃ old, wr.cell? ⟨g, j * 2, none⟩ = some old := ⟨_, by rw [ho.out.cellAt (j * 2) (by omega), List.getElem?_eq_getElem (by omega)]⟩
        have k2 : ∃ old, wr.cell? ⟨g, j * 2 + 1, none⟩ = some old := ⟨_, by rw [ho.out.cellAt (j * 2 + 1) (by omega), List.getElem?_eq_getElem (by omega)]⟩
        obtain ⟨o1, k1⟩ := k1
        obtain ⟨o2, k2⟩ := k2
        have f1 := ho.out.frozenAt (j * 2)
        have f2 := ho.out.frozenAt (j * 2 + 1)
        have HY := Lib.hid (show (ys.set j (1 + 2 * (j : Int), 1 + 2 * (j : Int) + 1)).length = N by rw [List.length_set]; exact hy.out)
        clear s1 s2 hl ho hg hy
        go_wp2
        go_roundw
        case rel => exact ⟨j + 1, by omega, by go_num, by go_num, _, HY, S2, G2⟩
        case measure => simp [intOf]; omega
      · have e : j = N := by omega
        subst e
        go_wp2
        go_ret
        exact ⟨rfl, hg.out⟩
end Go.Proofs.Ytdjkmffekfbbcaa.Ac
