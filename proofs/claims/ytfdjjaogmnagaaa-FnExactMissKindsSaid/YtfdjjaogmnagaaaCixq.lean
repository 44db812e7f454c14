/- Both RankOf; the model's ranks and greatest bits; the program's ReducedIndex. -/
import Derived.Test.YtfdjjaogmnagaaaCixd
namespace Go.Proofs.Ytfdjjaogmnagaaa.Ix
open Go.RowKit Tr Bt
theorem rank_i (r : Nat → Nat) (w : World) (hr : ∀ i, i < 3 → r i < 64) :
    Calls Try.prog 26 #[aggR r] w (Nb ((rk 8 (spanS r).length : Nat) : Int) w) := by
  have HRD := Lib.hid (fun w9 => reduced_i r w9 hr)
  have HLI := Lib.hid (fun (q p : Nat → Nat) (k : Nat) (h : Inv 0 k q p) (hs : ∀ x, SpF q x ↔ SpF r x) (w9 : World) => (show Calls Try.prog 39 #[.agg #[.int .i64 ((q 0 : Nat) : Int), .int .i64 ((q 1 : Nat) : Int), .int .i64 ((q 2 : Nat) : Int)]] w9 (Lb (castL (nz (q 0) (q 1) (q 2))) w9) ∧ (castL (nz (q 0) (q 1) (q 2))).length = rk 8 (spanS r).length from
    ⟨rlist_i q w9 h.lt, by rw [castL_len, ← spanS_congr hs, h.red.2, rk_pow _ 8 (by have := nz_len (q 0) (q 1) (q 2); omega)]⟩))
  have b0 : Below w.heap.size w (w.alloc (.cells #[.int .i64 ((r 0 : Nat) : Int), .int .i64 ((r 1 : Nat) : Int), .int .i64 ((r 2 : Nat) : Int)] 44)) := (Below.refl _ w).alloc (Nat.le_refl _) _
  have B0 := Lib.hid b0
  clear b0 hr
  unfold RedP at HRD
  unfold aggR at HRD ⊢
  generalize rk 8 (spanS r).length = R at *
  go_enter Try.func26, Try.ntmps26
  go_wp2_with fail
  refine (HRD.out _).mono ?_; rintro e w1 ⟨q, p, k, rfl, hinv, hsp, b1⟩
  obtain ⟨hL, hlen⟩ := HLI.out q p k hinv hsp w1
  have HL := Lib.hid hL
  have HLN := Lib.hid hlen
  have B1 := Lib.hid (bt B0.out b1)
  clear hL hlen hinv hsp b1
  generalize castL (nz (q 0) (q 1) (q 2)) = ys at *
  go_wp2_with fail
  refine HL.out.mono ?_; rintro e w2 ⟨v2, rfl, o2, b2⟩
  obtain ⟨a2, c2, rfl⟩ := o2.formx
  rw [HLN.out]
  go_wp2
  go_ret
  exact ⟨rfl, bt B1.out b2⟩
theorem rank_s (a : Option Addr) (c : Nat) (ns : List Nat) (w : World) (hl : ns.length ≤ 3) (h64 : ∀ i, ns.getD i 0 < 64) (hr : Row w a (castL ns)) :
    Calls Try.prog 20 #[.slice a ns.length c] w (Nb ((rk 8 (spanS (pad ns)).length : Nat) : Int) w) := by
  have HS := Lib.hid (span_s a c ns w hl h64 hr)
  have h8 := spanS_len (pad ns)
  clear hr h64
  generalize spanS (pad ns) = ys at *
  generalize ns.length = N at *
  go_enter Try.func20, Try.ntmps20
  go_wp2_with fail
  refine HS.out.mono ?_; rintro e w1 ⟨v1, rfl, o1, b1⟩
  obtain ⟨a1, c1, rfl⟩ := o1.formx
  have B1 := Lib.hid b1
  clear o1 b1
  generalize ys.length = M at *
  go_wp2
  go_loop [3, 4] (fun rv nv => ∃ m n : Nat, rv = .int .i64 m ∧ nv = .int .i64 n ∧ n ≤ 8 ∧ m ≤ 8 ∧ Hid (m + rk (8 - m) n = rk 8 M ∧ n * 2 ^ m ≤ 8)) (fun _ nv => (intOf nv).toNat)
  case atStart => exact ⟨0, M, rfl, rfl, h8, by omega, Lib.hid ⟨by simp, by simpa using h8⟩⟩
  case round =>
    obtain ⟨m, n, rfl, rfl, hn8, hm8, hinv⟩ := hrel
    by_cases h1 : 1 < n
    · have hm2 : m ≤ 2 := by
        rcases Nat.lt_or_ge m 3 with h | h
        · omega
        · have hp : 2 ^ 3 ≤ 2 ^ m := Nat.pow_le_pow_right (by omega) h
          have := hinv.out.2
          have h2 : 2 * 2 ^ m ≤ n * 2 ^ m := Nat.mul_le_mul_right _ h1
          omega
      have hnew : Hid ((m + 1) + rk (8 - (m + 1)) (n / 2) = rk 8 M ∧ n / 2 * 2 ^ (m + 1) ≤ 8) := Lib.hid ⟨by
        have h := hinv.out.1
        rw [show 8 - m = (8 - (m + 1)) + 1 by omega, rk, if_pos h1] at h
        omega, by
        have h := hinv.out.2
        have h3 : n / 2 * 2 * 2 ^ m ≤ n * 2 ^ m := Nat.mul_le_mul_right _ (Nat.div_mul_le_self n 2)
        rw [Nat.pow_succ, Nat.mul_comm (2 ^ m) 2, ← Nat.mul_assoc]
        omega⟩
      go_wp2
      go_round
      case rel => exact ⟨m + 1, n / 2, by go_num, by go_num, by omega, by omega, hnew⟩
      case measure => simp [intOf]; omega
    · have h1' : ¬ (1 : Int) < (n : Int) := by omega
      have hR : m = rk 8 M := by
        have h := hinv.out.1
        have h0 : rk (8 - m) n = 0 := by
          cases 8 - m with
          | zero => rfl
          | succ f => rw [rk, if_neg h1]
        omega
      go_wp2
      go_ret
      exact ⟨rfl, B1.out⟩
theorem rankV_no {xs : List Int} (h : okX xs = false) : rankV xs = 0 := by unfold rankV; rw [h]; rfl
theorem rankV_yes {ns : List Nat} (h : okX (castL ns) = true) : rankV (castL ns) = ((rk 8 (spanS (pad ns)).length : Nat) : Int) := by unfold rankV; rw [h, pad_fun]; rfl
end Go.Proofs.Ytfdjjaogmnagaaa.Ix
