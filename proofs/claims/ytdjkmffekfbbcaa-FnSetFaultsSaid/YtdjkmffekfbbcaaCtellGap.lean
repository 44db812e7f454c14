/- The program's tellEach at gapAt, and its GapsOf. -/
import Derived.Test.YtdjkmffekfbbcaaCtell
namespace Go.Proofs.Ytdjkmffekfbbcaa.Tr
open Go.RowKit
set_option maxHeartbeats 1000000 in
theorem each_gap (a : Option Addr) (c : Nat) (xs : List Int) (w : World) (hok : okU xs = true) (hcc : xs.length ≤ c) (hcm : c ≤ 9223372036854775807) (hr : Row w a xs) :
    Calls Try.prog 43 #[.slice a xs.length c, .func (.func 39) #[] #[]] w (Res (told (gapAt xs) xs.length) true w) := by
  have hn : xs.length ≤ 60 := okU_len hok
  have hU := Lib.hid (uses_i a c xs w (by omega) hr)
  rw [hok] at hU
  have HL := Lib.hid (fun (j : Nat) (wr : World) (_ : j < xs.length) (hb : Below w.heap.size w wr) => gap_i a c xs j wr (by omega) (by omega) (hr.below hb))
  clear hr
  generalize hN : xs.length = N at *
  go_enter Try.func43, Try.ntmps43
  go_wp2_with (first | (go_at_call 49; refine hU.out.mono ?_; rintro e w' ⟨rfl, rfl⟩) | (at_make; refine wpList_make0 _ rfl _ _ rfl N .i64 .i64 (N : Int) ?_ ?_ rfl ?_ ?_; rfl; rfl; omega))
  intro v0 w0 ho0 hb0 hsz0
  go_wp2
  go_loopw [6, 16] (fun v i wr => ∃ j : Nat, j ≤ N ∧ i = .int .i64 j ∧ Own wr w.heap.size v (told (gapAt xs) j) ∧ Below w.heap.size w wr) (fun _ i _ => N - (intOf i).toNat)
  case atStart => exact ⟨0, Nat.zero_le _, rfl, ho0, hb0⟩
  case round =>
    obtain ⟨j, hj, rfl, ho, hb⟩ := hrel
    have hsz := hb.size
    have hlen : (told (gapAt xs) j).length = j := told_length _ _
    have hq : (told (gapAt xs) j).length + 1 ≤ 1000000000 := by rw [hlen]; omega
    clear hlen
    by_cases hlt : j < N
    · have hL := Lib.hid (HL.out j wr hlt hb)
      have HS := Lib.hid (told_succ (gapAt xs) j)
      clear HL
      generalize gapAt xs j = gj at *
      go_wp2_with (first | (go_at_call 39; refine hL.out.mono ?_; rintro e w2 ⟨rfl, hb2⟩; have ho2 := ho.below hb2 (Nat.le_refl _); have hsz2 : w.heap.size ≤ w2.heap.size := Nat.le_trans hsz hb2.size) | (at_builtin; refine wpList_app _ rfl _ _ rfl w.heap.size _ (told (gapAt xs) j) _ ?_ ?_ ho2 hq hsz2 ?_; rfl; rfl))
      intro v' w1 ho1 hb1
      go_wp2
      go_roundw
      case rel => exact ⟨j + 1, by omega, by go_num, by rw [HS.out]; exact ho1, (hb.trans (hb2.mono hsz)).trans hb1⟩
      case measure => simp [intOf]; omega
    · have e : j = N := by omega
      subst e
      go_wp2
      go_ret2
      exact ⟨_, rfl, ho, hb⟩
theorem gap_yes_i {v : Value} {xs : List Int} {w : World} (h : Rd w v xs) (hok : okU xs = true) :
    Calls Try.prog 22 #[v] w (Res (told (gapAt xs) xs.length) true w) := by
  obtain ⟨a, c, rfl, h1, h2, hr⟩ := h
  have hE := Lib.hid (each_gap a c xs w hok h1 h2.1 hr)
  generalize told (gapAt xs) xs.length = ys at *
  go_enter Try.func22, Try.ntmps22
  go_wp2_with (go_at_call 43; refine hE.out.mono ?_; rintro e w' ⟨v1, rfl, ho, hb⟩)
  go_ret2
  exact ⟨_, rfl, ho, hb⟩
theorem gap_no_i {v : Value} {xs : List Int} {w : World} (h : Rd w v xs) (hn : xs.length ≤ 1048576) (hok : okU xs = false) :
    Calls Try.prog 22 #[v] w (Res [] false w) := by
  have hU := Lib.hid (uses_iR h hn)
  rw [hok] at hU
  have hE : Hid (Calls Try.prog 43 #[v, .func (.func 39) #[] #[]] w (Res [] false w)) := by
    show Calls _ _ _ _ _
    go_enter Try.func43, Try.ntmps43
    go_wp2_with (go_at_call 49; refine hU.out.mono ?_; rintro e w' ⟨rfl, rfl⟩)
    go_ret2
    exact ⟨_, rfl, Own.nil _ _, Below.refl _ _⟩
  go_enter Try.func22, Try.ntmps22
  go_wp2_with (go_at_call 43; refine hE.out.mono ?_; rintro e w' ⟨v1, rfl, ho, hb⟩)
  go_ret2
  exact ⟨_, rfl, ho, hb⟩
end Go.Proofs.Ytdjkmffekfbbcaa.Tr
