/- The program's tellEach at the size of the working set; both WorkingSizes. -/
import Derived.Test.YtdjkmffekfbbcaaCwset
namespace Go.Proofs.Ytdjkmffekfbbcaa.Tr
open Go.RowKit
def sizeAt (xs : List Int) (q i : Nat) : Int := ((wsL xs q i).length : Nat)
theorem size_i (a : Option Addr) (c : Nat) (xs : List Int) (j q Bw : Nat) (w : World) (hl : xs.length ≤ 60) (hj : j < xs.length) (hq1 : 1 ≤ q) (hq : q ≤ 60) (hcw : w.cell? ⟨Bw, 0, none⟩ = some (.int .i64 (q : Int))) (hr : Row w a xs) :
    Calls Try.prog 45 #[.slice a xs.length c, .int .i64 (j : Int), .pointer (some ⟨Bw, 0, none⟩)] w (Nb (sizeAt xs q j) w) := by
  have hV := Lib.hid (last_value a xs.length c j q w)
  have hS := Lib.hid (work_i a c j q xs hl hj hq1 hq w hr)
  unfold sizeAt
  clear hr
  generalize wsL xs q j = ys at *
  generalize xs.length = N at *
  go_enter Try.func45, Try.ntmps45
  go_wp2_with (first | (go_at_call 47; refine hV.out.mono ?_; rintro e w0 ⟨rfl, rfl⟩) | (go_at_call 46; refine hS.out.mono ?_; rintro e w1 ⟨v1, rfl, ho, hb⟩; obtain ⟨a1, c1, hv1⟩ := ho.form; subst hv1))
  go_ret
  exact ⟨rfl, hb⟩
set_option maxHeartbeats 1000000 in
theorem each_sizes (Bw q : Nat) (hq1 : 1 ≤ q) (hq : q ≤ 60) (a : Option Addr) (c : Nat) (xs : List Int) (w : World) (hBw : Bw < w.heap.size) (hcw : w.cell? ⟨Bw, 0, none⟩ = some (.int .i64 (q : Int))) (hok : okU xs = true) (hcc : xs.length ≤ c) (hcm : c ≤ 9223372036854775807) (hr : Row w a xs) :
    Calls Try.prog 43 #[.slice a xs.length c, .func (.func 45) #[] #[.pointer (some ⟨Bw, 0, none⟩)]] w (Res (told (sizeAt xs q) xs.length) true w) := by
  have hn : xs.length ≤ 60 := okU_len hok
  have hU := Lib.hid (uses_i a c xs w (by omega) hr)
  rw [hok] at hU
  have HL := Lib.hid (fun (j : Nat) (wr : World) (_ : j < xs.length) (hb : Below w.heap.size w wr) => size_i a c xs j q Bw wr (by omega) (by omega) hq1 hq ((hb.cell (p := ⟨Bw, 0, none⟩) hBw).trans hcw) (hr.below hb))
  clear hr
  generalize hN : xs.length = N at *
  go_enter Try.func43, Try.ntmps43
  go_wp2_with (first | (go_at_call 49; refine hU.out.mono ?_; rintro e w' ⟨rfl, rfl⟩) | (at_make; refine wpList_make0 _ rfl _ _ rfl N .i64 .i64 (N : Int) ?_ ?_ rfl ?_ ?_; rfl; rfl; omega))
  intro v0 w0 ho0 hb0 hsz0
  go_wp2
  go_loopw [6, 16] (fun v i wr => ∃ j : Nat, j ≤ N ∧ i = .int .i64 j ∧ Own wr w.heap.size v (told (sizeAt xs q) j) ∧ Below w.heap.size w wr) (fun _ i _ => N - (intOf i).toNat)
  case atStart => exact ⟨0, Nat.zero_le _, rfl, ho0, hb0⟩
  case round =>
    obtain ⟨j, hj, rfl, ho, hb⟩ := hrel
    have hsz := hb.size
    have hlen : (told (sizeAt xs q) j).length = j := told_length _ _
    have hq : (told (sizeAt xs q) j).length + 1 ≤ 1000000000 := by rw [hlen]; omega
    clear hlen
    by_cases hlt : j < N
    · have hL := Lib.hid (HL.out j wr hlt hb)
      have HS := Lib.hid (told_succ (sizeAt xs q) j)
      clear HL
      generalize sizeAt xs q j = gj at *
      go_wp2_with (first | (go_at_call 45; refine hL.out.mono ?_; rintro e w2 ⟨rfl, hb2⟩; have ho2 := ho.below hb2 (Nat.le_refl _); have hsz2 : w.heap.size ≤ w2.heap.size := Nat.le_trans hsz hb2.size) | (at_builtin; refine wpList_app _ rfl _ _ rfl w.heap.size _ (told (sizeAt xs q) j) _ ?_ ?_ ho2 hq hsz2 ?_; rfl; rfl))
      intro v' w1 ho1 hb1
      go_wp2
      go_roundw
      case rel => exact ⟨j + 1, by omega, by go_num, by rw [HS.out]; exact ho1, (hb.trans (hb2.mono hsz)).trans hb1⟩
      case measure => simp [intOf]; omega
    · have e : j = N := by omega
      subst e
      go_wp2
      go_ret2
      exact ⟨_, rfl, ho, hb⟩
theorem sizes_yes_i {v : Value} {xs : List Int} {w : World} (q : Nat) (h : Rd w v xs) (hok : okU xs = true) (hq1 : 1 ≤ q) (hq : q ≤ 60) :
    Calls Try.prog 23 #[v, .int .i64 (q : Int)] w (Res (told (sizeAt xs q) xs.length) true w) := by
  obtain ⟨a, c, rfl, h1, h2, hr⟩ := h
  have hb0 : Below w.heap.size w (w.alloc (.cells #[.int .i64 (q : Int)] 2)) := (Below.refl _ _).alloc (Nat.le_refl _) _
  have hE := Lib.hid (each_sizes w.heap.size q hq1 hq a c xs (w.alloc (.cells #[.int .i64 (q : Int)] 2)) (by simp) (Boxed.new w 2 _).cell hok h1 h2.1 (hr.below hb0))
  have hW := Lib.hid (win_i (q : Int) (w.alloc (.cells #[.int .i64 (q : Int)] 2)) true (by rw [decide_eq_true (by omega)]))
  clear hr hok
  generalize told (sizeAt xs q) xs.length = ys at *
  generalize xs.length = N at *
  go_enter Try.func23, Try.ntmps23
  go_wp2_with (first | (go_at_call 44; refine hW.out.mono ?_; rintro e w' ⟨rfl, rfl⟩) | (go_at_call 43; refine hE.out.mono ?_; rintro e w' ⟨v1, rfl, ho, hb⟩))
  go_ret2
  exact ⟨_, rfl, ho.mono (by simp), hb0.trans (hb.mono (by simp))⟩
theorem sizes_no_i {v : Value} {xs : List Int} {w : World} (y : Int) (h : Rd w v xs) (hn : xs.length ≤ 1048576) (hno : ¬ (okU xs = true ∧ 1 ≤ y ∧ y ≤ 60)) :
    Calls Try.prog 23 #[v, .int .i64 y] w (Res [] false w) := by
  have hb0 : Below w.heap.size w (w.alloc (.cells #[.int .i64 y] 2)) := (Below.refl _ _).alloc (Nat.le_refl _) _
  by_cases hy : 1 ≤ y ∧ y ≤ 60
  · have hW := Lib.hid (win_i y (w.alloc (.cells #[.int .i64 y] 2)) true (by rw [decide_eq_true hy]))
    have hok : okU xs = false := by
      cases hs : okU xs
      · rfl
      · exact absurd ⟨hs, hy⟩ hno
    have hU := Lib.hid (uses_iR (h.below hb0) hn)
    rw [hok] at hU
    have hE : Hid (Calls Try.prog 43 #[v, .func (.func 45) #[] #[.pointer (some ⟨w.heap.size, 0, none⟩)]] (w.alloc (.cells #[.int .i64 y] 2)) (Res [] false (w.alloc (.cells #[.int .i64 y] 2)))) := by
      show Calls _ _ _ _ _
      generalize (w.alloc (.cells #[.int .i64 y] 2)) = w9 at *
      clear hb0 hW
      go_enter Try.func43, Try.ntmps43
      go_wp2_with (go_at_call 49; refine hU.out.mono ?_; rintro e w' ⟨rfl, rfl⟩)
      go_ret2
      exact ⟨_, rfl, Own.nil _ _, Below.refl _ _⟩
    clear hno hy hok hU
    go_enter Try.func23, Try.ntmps23
    go_wp2_with (first | (go_at_call 44; refine hW.out.mono ?_; rintro e w' ⟨rfl, rfl⟩) | (go_at_call 43; refine hE.out.mono ?_; rintro e w' ⟨v1, rfl, ho, hb⟩))
    go_ret2
    exact ⟨_, rfl, ho.mono (by simp), hb0.trans (hb.mono (by simp))⟩
  · have hW := Lib.hid (win_i y (w.alloc (.cells #[.int .i64 y] 2)) false (by rw [decide_eq_false hy]))
    clear hno hy
    go_enter Try.func23, Try.ntmps23
    go_wp2_with (go_at_call 44; refine hW.out.mono ?_; rintro e w' ⟨rfl, rfl⟩)
    go_ret2
    exact ⟨_, rfl, Own.nil _ _, hb0⟩
end Go.Proofs.Ytdjkmffekfbbcaa.Tr
