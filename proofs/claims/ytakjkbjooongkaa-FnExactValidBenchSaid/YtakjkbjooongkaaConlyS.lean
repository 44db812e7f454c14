/- Contracts of the model's test of a set, of its look for a number, and of its uses of a set. -/
import Derived.Test.YtakjkbjooongkaaCuses
import Derived.Test.YtakjkbjooongkaaCapp
import Derived.Test.YtakjkbjooongkaaPlainUses
import Derived.IntWalk
namespace Go.Proofs.Ytakjkbjooongkaa.Tr
open Go.RowKit
theorem has_step (xs : List Int) (n : Int) (j : Nat) (h : j < xs.length) : (xs.take (j + 1)).contains n = ((xs.take j).contains n || decide (xs.getD j 0 = n)) := by
  rw [List.take_succ_eq_append_getElem h, getD_get' xs j h, List.contains_eq_mem, List.contains_eq_mem, ← Bool.decide_or]
  congr 1
  simp only [List.mem_append, List.mem_singleton, eq_comm]
set_option maxHeartbeats 1000000 in
theorem has_s (a : Option Addr) (c : Nat) (xs : List Int) (n : Int) (w : World) (hn : xs.length ≤ 1048576) (hr : Row w a xs) :
    Calls Try.prog 38 #[.slice a xs.length c, .int .i64 n] w (Bl (xs.contains n) w) := by
  have HC := Lib.hid hr
  have HS := Lib.hid (has_step xs n)
  have HE := Lib.hid (show (xs.take xs.length).contains n = xs.contains n by rw [List.take_length])
  have HY := Lib.hid (fun (j : Nat) (h : j < xs.length) (e : xs.getD j 0 = n) => (show xs.contains n = true by rw [List.contains_eq_mem]; exact decide_eq_true (by rw [← e, getD_get' xs j h]; exact List.getElem_mem h)))
  clear hr
  unfold Row at HC
  generalize xs.contains n = r at *
  generalize hN : xs.length = N at *
  go_enter Try.func38, Try.ntmps38
  go_wp2
  go_loop [5] (fun i => ∃ j : Nat, j ≤ N ∧ i = .int .i64 j ∧ Hid ((xs.take j).contains n = false)) (fun i => N - (intOf i).toNat)
  case atStart => exact ⟨0, Nat.zero_le _, rfl, Lib.hid rfl⟩
  case round =>
    obtain ⟨j, hj, rfl, hx⟩ := hrel
    by_cases hlt : j < N
    · obtain ⟨b, off, rfl, c1, hb⟩ := HC.out j hlt
      have hs := Lib.hid (HS.out j hlt)
      have hy := Lib.hid (HY.out j hlt)
      generalize xs.getD j 0 = u at *
      by_cases hu : u = n
      · have e : r = true := hy.out hu
        clear hs hy HE HY HS hx
        subst e
        subst hu
        go_wp2
        go_ret
        exact ⟨rfl, rfl⟩
      · have hnew : Hid ((xs.take (j + 1)).contains n = false) := by show _ = _; rw [hs.out, hx.out, decide_eq_false hu]; rfl
        go_wp2
        go_round
        case rel => exact ⟨j + 1, by omega, by go_num, hnew⟩
        case measure => simp [intOf]; omega
    · have e : j = N := by omega
      subst e
      have e : r = false := HE.out.symm.trans hx.out
      clear HE HY HS hx
      subst e
      go_wp2
      go_ret
      exact ⟨rfl, rfl⟩
theorem only_take (xs set : List Int) (j : Nat) (h : j < xs.length) : onlyP (xs.take (j + 1)) set = onlyP (xs.take j) set ++ if set.contains (xs.getD j 0) then [xs.getD j 0] else [] := by
  rw [List.take_succ_eq_append_getElem h, only_snoc, getD_get' xs j h]
theorem only_length (xs set : List Int) : (onlyP xs set).length ≤ xs.length := List.length_filter_le _ _
/-- The test of a set, the first j. -/
theorem rises_no (s : List Int) (j n : Nat) (hj : j < n) (h : (isA (s.getD j 0) && (decide (j = 0) || decide (s.getD (j - 1) 0 < s.getD j 0))) = false) : risesK s n = false := by
  unfold risesK
  rw [List.all_eq_false]
  exact ⟨j, by simpa using hj, by simpa using h⟩
end Go.Proofs.Ytakjkbjooongkaa.Tr
