/- The program's set without the address with the greatest rank, and what is in a memory with ranks. -/
import Derived.Test.YtbajnkojjeakgaaCgrt
import Derived.Test.YtbajnkojjeakgaaCinsg
import Derived.Test.YtbajnkojjeakgaaCwide
import Derived.Test.YtbajnkojjeakgaaCbtg
namespace Go.Proofs.Ytbajnkojjeakgaa.Tr
open Go.RowKit Go.Lib
theorem but_take (s : List Int) (m : Int) (j : Nat) (h : j < s.length) : but (s.take (j + 1)) m = but (s.take j) m ++ (if s.getD j 0 = m then [] else [s.getD j 0]) := by
  unfold but
  rw [List.take_succ_eq_append_getElem h, List.filter_append, ← getD_get' s j h]
  congr 1
  by_cases e : s.getD j 0 = m
  · rw [if_pos e, List.filter_cons_of_neg (by simpa using e)]; rfl
  · rw [if_neg e, List.filter_cons_of_pos (by simpa using e)]; rfl
set_option maxHeartbeats 1000000 in
set_option maxRecDepth 100000 in
theorem without_i {B br offr cr : Nat} {v : Value} {rs s : List Int} {w : World} (h0 : 0 < s.length) (hn : s.length ≤ 1000) (hs : ∀ y ∈ s, 0 ≤ y ∧ y ≤ 63) (ho : Own w B v s)
    (hbr : br < B) (hr : ∀ j, j < 64 → w.cell? ⟨br, offr + j, none⟩ = some (.int .i64 (rs.getD j 0))) (hB : B ≤ w.heap.size) :
    Calls Try.prog 39 #[v, .slice (some ⟨br, offr, none⟩) 64 cr] w (Lb (but s (grt rs s)) w) := by
  obtain ⟨g, cap, rfl, hBg, hg, hcell⟩ : ∃ g cap, v = .slice (some ⟨g, 0, none⟩) s.length cap ∧ B ≤ g ∧ g < w.heap.size ∧ ∀ i, i < s.length → w.cell? ⟨g, i, none⟩ = some (.int .i64 (s.getD i 0)) := by
    rcases ho.cases with ⟨_, h⟩ | ⟨g, cap, hv, h1, h2, _, h3, _⟩
    · rw [h] at h0; exact absurd h0 (Nat.lt_irrefl _)
    · exact ⟨g, cap, hv, h1, h2, h3⟩
  obtain ⟨W, hW⟩ : ∃ W, W = w.alloc (.cells #[.slice (some ⟨br, offr, none⟩) 64 cr] 22) := ⟨_, rfl⟩
  have hbW : Below w.heap.size w W := by rw [hW]; exact (Below.refl _ w).alloc (Nat.le_refl _) _
  have hMX := Lib.hid (show Calls Try.prog 66 #[.slice (some ⟨g, 0, none⟩) s.length cap, .func (.func 67) #[] #[.pointer (some ⟨w.heap.size, 0, none⟩)]] W (fun e w' => e = .returned (.int .i64 (grt rs s)) ∧ Below W.heap.size W w') from
    max_i h0 hn hs (ho.below hbW (Nat.le_refl _)) (by rw [hW, cell_of_row _ w.heap.size 0 _ _ (0, 0) (heap_alloc_new w _)]; rfl) (by omega) (by omega) (fun j hj => (hbW.cell (p := ⟨br, offr + j, none⟩) (by show br < w.heap.size; omega)).trans (hr j hj)))
  have HC := Lib.hid hcell
  have HBT := Lib.hid (but_take s (grt rs s))
  have HBN : Hid (∀ j, (but (s.take j) (grt rs s)).length ≤ j) := by
    show ∀ j, _
    intro j
    exact Nat.le_trans (List.length_filter_le _ _) (by rw [List.length_take]; omega)
  have hend : Hid (but (s.take s.length) (grt rs s) = but s (grt rs s)) := by show _ = _; rw [List.take_length]
  have HBW := Lib.hid hbW
  clear ho hcell hs hr hbW
  generalize grt rs s = m at *
  generalize hN : s.length = N at *
  clear hN
  subst hW
  go_enter Try.func39, Try.ntmps39
  go_wp2_with (first | (go_at_call 66; (with_reducible refine hMX.out.mono ?_); rintro e w1 ⟨rfl, hb1⟩) | (at_make; refine wpList_make0 _ rfl _ _ rfl N .i64 .i64 (N : Int) ?_ ?_ rfl ?_ ?_; rfl; rfl; omega))
  intro v0 w0 ho0 hb0 hsz0
  have hsz1 : w.heap.size ≤ w1.heap.size := Nat.le_trans HBW.out.size hb1.size
  have hB1 : Below w.heap.size w w1 := HBW.out.trans (hb1.mono HBW.out.size)
  have hB0 : Below w.heap.size w w0 := hB1.trans (hb0.mono hsz1)
  have hov0 : Own w0 w.heap.size v0 [] := ho0.mono hsz1
  clear ho0 hb0 hsz0 hb1 hMX HBW hB1
  go_wp2
  go_loopw [6, 17] (fun v i wr => ∃ j : Nat, j ≤ N ∧ i = .int .i64 j ∧ Hid (Own wr w.heap.size v (but (s.take j) m)) ∧ Hid (Below w.heap.size w wr)) (fun _ i _ => N - (intOf i).toNat)
  case atStart => exact ⟨0, Nat.zero_le _, rfl, Lib.hid hov0, Lib.hid hB0⟩
  case round =>
    obtain ⟨j, hj, rfl, hov, hB9⟩ := hrel
    by_cases hlt : j < N
    · have c2 : wr.cell? ⟨g, j, none⟩ = some (.int .i64 (s.getD j 0)) := (hB9.out.cell (p := ⟨g, j, none⟩) hg).trans (HC.out j hlt)
      have hlt' : (j : Int) < N := by omega
      have hq : (but (s.take j) m).length + 1 ≤ 1000000000 := by have := HBN.out j; omega
      have hbt := HBT.out j hlt
      have hszr := hB9.out.size
      have hov' := hov.out
      generalize s.getD j 0 = u at *
      by_cases hu : u = m
      · rw [if_pos hu, List.append_nil] at hbt
        have HH := Lib.hid hbt
        clear hbt
        go_wp2
        go_roundw
        case rel => exact ⟨j + 1, hlt, by go_num, Lib.hid (by rw [HH.out]; exact hov'), hB9⟩
        case measure => simp [intOf]; omega
      · rw [if_neg hu] at hbt
        have HH := Lib.hid hbt
        clear hbt
        go_wp2_with (at_builtin; refine wpList_app wr rfl _ _ rfl w.heap.size _ (but (s.take j) m) u ?_ ?_ hov' hq hszr ?_; rfl; rfl)
        intro v' w2 ho2 hb2
        go_wp2
        go_roundw
        case rel => exact ⟨j + 1, hlt, by go_num, Lib.hid (by rw [HH.out]; exact ho2), Lib.hid (hB9.out.trans hb2)⟩
        case measure => simp [intOf]; omega
    · have e : j = N := by omega
      subst e
      have hov' := hov.out
      rw [hend.out] at hov'
      go_wp2
      go_ret
      exact ⟨_, rfl, hov', hB9.out⟩
end Go.Proofs.Ytbajnkojjeakgaa.Tr
