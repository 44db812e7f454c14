/- Marks in a list of loads (out of XCuo). -/
import Derived.Test.YtmcnmjkickamkaaCldv
namespace Go.Proofs.Ytmcnmjkickamkaa.Ld
open Go.RowKit Tr
def MarkedA (v : Value) (n : Nat) (w : World) (e : Ending) (w' : World) : Prop := e = .returned (.int .i64 (1 + 2 * (n : Int))) ∧ w.grownBy w' v.ownBlock
set_option maxHeartbeats 2000000 in
theorem mark_own {w : World} {B : Nat} {v : Value} {xs : List (Int × Int)} (h : OwnA w B v xs) (hn : xs.length ≤ 1048576) :
    Calls Try.prog 19 #[v, .int .i64 1] w (MarkedA v xs.length w) := by
  rcases h.2 with ⟨rfl, h0⟩ | ⟨g, cap, cur, rfl, _⟩
  · rw [h0]
    go_enter Try.func19, Try.ntmps19
    go_wp2
    refine wp_loop_rounds 1 ?_
    rw [rounds_succ]
    go_wp2
    go_ret
    exact ⟨rfl, ⟨rfl, rfl, rfl, Nat.le_refl _, fun _ _ _ => rfl⟩⟩
  · have h0 : w.ownsRow B 50 2 (.slice (some ⟨g, 0, none⟩) xs.length cap) xs.length (acells xs) := h
    generalize hN : xs.length = N at *
    have HN := Lib.hid hN
    have H0 := Lib.hid h0
    clear hN h0 h
    go_enter Try.func19, Try.ntmps19
    go_wp2
    go_loopw [1, 5] (fun k i wr => ∃ j : Nat, j ≤ N ∧ i = .int .i64 j ∧ k = .int .i64 (1 + 2 * (j : Int)) ∧ ∃ ys : List (Int × Int), Hid (ys.length = N) ∧ Hid (wr.ownsRow B 50 2 (.slice (some ⟨g, 0, none⟩) N cap) N (acells ys)) ∧ Hid (w.grownBy wr (some g))) (fun _ i _ => N - (intOf i).toNat)
    case atStart => exact ⟨0, Nat.zero_le _, rfl, rfl, xs, HN, H0, ⟨rfl, rfl, rfl, Nat.le_refl _, fun _ _ _ => rfl⟩⟩
    case round =>
      obtain ⟨j, hj, rfl, rfl, ys, hy, ho, hg⟩ := hrel
      by_cases hlt : j < N
      · have hl := acells_length ys
        rw [hy.out] at hl
        have s1 := World.ownsRow.stored ho.out (j * 2) (.int .i64 (1 + 2 * (j : Int)))
        have s2 := World.ownsRow.stored s1.1 (j * 2 + 1) (.int .i64 (1 + 2 * (j : Int) + 1))
        rw [acells_set ys j _ _ (by rw [hy.out]; exact hlt)] at s2
        have S2 := Lib.hid s2.1
        have G2 := Lib.hid (grownBy_trans hg.out (grownBy_trans s1.2 s2.2))
        have k1 : ∃ old, wr.cell? ⟨g, j * 2, none⟩ = some old := ⟨_, by rw [ho.out.cellAt (j * 2) (by omega), List.getElem?_eq_getElem (by omega)]⟩
        have k2 : ∃ old, wr.cell? ⟨g, j * 2 + 1, none⟩ = some old := ⟨_, by rw [ho.out.cellAt (j * 2 + 1) (by omega), List.getElem?_eq_getElem (by omega)]⟩
        obtain ⟨o1, k1⟩ := k1
        obtain ⟨o2, k2⟩ := k2
        have f1 := ho.out.frozenAt (j * 2)
        have f2 := ho.out.frozenAt (j * 2 + 1)
        have HY := Lib.hid (show (ys.set j (1 + 2 * (j : Int), 1 + 2 * (j : Int) + 1)).length = N by rw [List.length_set]; exact hy.out)
        clear s1 s2 hl ho hg hy
        go_wp2
        go_roundw
        case rel => exact ⟨j + 1, by omega, by go_num, by go_num, _, HY, S2, G2⟩
        case measure => simp [intOf]; omega
      · have e : j = N := by omega
        subst e
        go_wp2
        go_ret
        exact ⟨rfl, hg.out⟩
end Go.Proofs.Ytmcnmjkickamkaa.Ld
