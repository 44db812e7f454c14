/- Several moves of a pebbling: the program. -/
import Derived.Test.YtepobkflahjldaaCrnm
namespace Go.Proofs.Ytepobkflahjldaa.Pb
open Go.RowKit Pv
theorem costm_i (k x : Int) (w : World) : Calls Try.prog 48 #[.agg #[.int .i64 k, .int .i64 x]] w (fun e w' => e = .returned (.int .i64 (if k = 0 ∨ k = 1 then 62 else 1)) ∧ Below w.heap.size w w') := by
  have b0 : Below w.heap.size w (w.alloc (.cells #[.int .i64 k, .int .i64 x] 52)) := (Below.refl _ w).alloc (Nat.le_refl _) _
  by_cases k0 : k = 0
  · rw [if_pos (Or.inl k0)]
    subst k0
    go_enter Try.func48, Try.ntmps48
    go_wp2
    go_ret
    exact ⟨rfl, b0⟩
  · by_cases k1 : k = 1
    · rw [if_pos (Or.inr k1)]
      subst k1
      go_enter Try.func48, Try.ntmps48
      go_wp2
      go_ret
      exact ⟨rfl, b0⟩
    · rw [if_neg (fun h => h.elim k0 k1)]
      have e0 : (k == 0) = false := by simp [k0]
      have e1 : (k == 1) = false := by simp [k1]
      clear k0 k1
      go_enter Try.func48, Try.ntmps48
      go_wp2
      go_ret
      exact ⟨rfl, b0⟩
theorem trans_i (c : Int) (w : World) (h0 : 0 ≤ c) (h1 : c ≤ 100000) : Calls Try.prog 49 #[.int .i64 c] w (NwG (c / 61) w) := by
  go_enter Try.func49, Try.ntmps49
  go_wp2
  go_ret
  exact ⟨by first | rfl | simp, rfl⟩
theorem start_i (n : Nat) (p : Int) (g : Nat → Nat) (s0 o0 : Nat) (w : World) :
    Calls Try.prog 46 #[.agg (gm n p g s0 o0).toArray] w (fun e w' => e = .returned (.agg #[.int .u8 ((0 : Nat) : Int), .int .u8 (s0 : Int)]) ∧ Below w.heap.size w w') := by
  have z := (Blk.newAt w w.heap.size (gm n p g s0 o0) 58 rfl).cell 8
  have hz : (w.alloc (.cells (gm n p g s0 o0).toArray 58)).heap.size = w.heap.size + 1 := Array.size_push _
  have b0 : Below w.heap.size w ((w.alloc (.cells (gm n p g s0 o0).toArray 58)).alloc (.cells #[.int .u8 0, .int .u8 0] 62)) := ((Below.refl _ w).alloc (Nat.le_refl _) _).alloc (by omega) _
  unfold gm at *
  clear b0
  go_enter Try.func46, Try.ntmps46
  go_wp2
  refine bodyPost_ret (v := .agg #[.int .u8 ((0 : Nat) : Int), .int .u8 (s0 : Int)]) (by simp [results, Try.results46, go_sem]) rfl ⟨rfl, ?_⟩
  exact ((Below.refl _ w).alloc (Nat.le_refl _) _).alloc (by simp) _
end Go.Proofs.Ytepobkflahjldaa.Pb
