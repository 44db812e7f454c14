/- Contracts of the laws' own helpers: the lesser of two, membership, sums, equality of lists. -/
import Derived.Test.YtdjkmffekfbbcaaCuses
import Derived.Test.YtdjkmffekfbbcaaPlainUses
namespace Go.Proofs.Ytdjkmffekfbbcaa.Tr
open Go.RowKit
theorem has8_step (xs : List Int) (n : Int) (j : Nat) (h : j < xs.length) : (xs.take (j + 1)).contains n = ((xs.take j).contains n || decide (xs.getD j 0 = n)) := by
  rw [List.take_succ_eq_append_getElem h, getD_get' xs j h, List.contains_eq_mem, List.contains_eq_mem, ← Bool.decide_or]
  congr 1
  simp only [List.mem_append, List.mem_singleton, eq_comm]
set_option maxHeartbeats 1000000 in
theorem has8_s (a : Option Addr) (c : Nat) (xs : List Int) (n : Int) (w : World) (hn : xs.length ≤ 1048576) (hr : Row w a xs) :
    Calls Try.prog 28 #[.slice a xs.length c, .int .i64 n] w (Bl (xs.contains n) w) := by
  have HC := Lib.hid hr
  have HS := Lib.hid (has8_step xs n)
  have HE := Lib.hid (show (xs.take xs.length).contains n = xs.contains n by rw [List.take_length])
  have HY := Lib.hid (fun (j : Nat) (h : j < xs.length) (e : xs.getD j 0 = n) => (show xs.contains n = true by rw [List.contains_eq_mem]; exact decide_eq_true (by rw [← e, getD_get' xs j h]; exact List.getElem_mem h)))
  clear hr
  unfold Row at HC
  generalize xs.contains n = r at *
  generalize hN : xs.length = N at *
  go_enter Try.func28, Try.ntmps28
  go_wp2
  go_loop [5] (fun i => ∃ j : Nat, j ≤ N ∧ i = .int .i64 j ∧ Hid ((xs.take j).contains n = false)) (fun i => N - (intOf i).toNat)
  case atStart => exact ⟨0, Nat.zero_le _, rfl, Lib.hid rfl⟩
  case round =>
    obtain ⟨j, hj, rfl, hx⟩ := hrel
    by_cases hlt : j < N
    · obtain ⟨b, off, rfl, c1, hb⟩ := HC.out j hlt
      have hs := Lib.hid (HS.out j hlt)
      have hy := Lib.hid (HY.out j hlt)
      generalize xs.getD j 0 = u at *
      by_cases hu : u = n
      · have e : r = true := hy.out hu
        clear hs hy HE HY HS hx
        subst e
        subst hu
        go_wp2
        go_ret
        exact ⟨rfl, rfl⟩
      · have hnew : Hid ((xs.take (j + 1)).contains n = false) := by show _ = _; rw [hs.out, hx.out, decide_eq_false hu]; rfl
        go_wp2
        go_round
        case rel => exact ⟨j + 1, by omega, by go_num, hnew⟩
        case measure => simp [intOf]; omega
    · have e : j = N := by omega
      subst e
      have e : r = false := HE.out.symm.trans hx.out
      clear HE HY HS hx
      subst e
      go_wp2
      go_ret
      exact ⟨rfl, rfl⟩
def psum (xs : List Int) : Nat → Int
  | 0 => 0
  | j + 1 => psum xs j + xs.getD j 0
set_option maxHeartbeats 1000000 in
theorem sum8 (a : Option Addr) (c : Nat) (xs : List Int) (w : World) (hn : xs.length ≤ 1000) (hb : ∀ j, j ≤ xs.length → -1000000 ≤ psum xs j ∧ psum xs j ≤ 1000000) (hr : Row w a xs) :
    Calls Try.prog 24 #[.slice a xs.length c] w (fun e w' => e = .returned (.int .i64 (psum xs xs.length)) ∧ w = w') := by
  have HC := Lib.hid hr
  have HB := Lib.hid hb
  have HS := Lib.hid (fun j => (show psum xs (j + 1) = psum xs j + xs.getD j 0 from rfl))
  clear hr hb
  unfold Row at HC
  generalize hN : xs.length = N at *
  go_enter Try.func24, Try.ntmps24
  go_wp2
  go_loop [3, 4] (fun s i => ∃ (j : Nat) (t : Int), j ≤ N ∧ i = .int .i64 j ∧ s = .int .i64 t ∧ Hid (t = psum xs j)) (fun _ i => N - (intOf i).toNat)
  case atStart => exact ⟨0, 0, Nat.zero_le _, rfl, rfl, Lib.hid rfl⟩
  case round =>
    obtain ⟨j, t, hj, rfl, rfl, ht⟩ := hrel
    by_cases hlt : j < N
    · obtain ⟨b, off, rfl, c1, _⟩ := HC.out j hlt
      have hs := HS.out j
      have b1 := HB.out j hj
      have b2 := HB.out (j + 1) (by omega)
      rw [← ht.out] at hs b1
      have HS2 := Lib.hid hs
      rw [hs] at b2
      clear hs
      generalize xs.getD j 0 = u at *
      go_wp2
      go_round
      case rel => exact ⟨j + 1, t + u, by omega, by go_num, rfl, Lib.hid HS2.out.symm⟩
      case measure => simp [intOf]; omega
    · have e : j = N := by omega
      subst e
      go_wp2
      go_ret
      exact ⟨by rw [← ht.out]; rfl, rfl⟩
end Go.Proofs.Ytdjkmffekfbbcaa.Tr
