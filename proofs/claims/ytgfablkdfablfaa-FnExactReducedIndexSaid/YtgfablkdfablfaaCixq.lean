/- Both RankOf; the model's ranks and greatest bits; the program's ReducedIndex. -/
import Derived.Test.YtgfablkdfablfaaCixd
namespace Go.Proofs.Ytgfablkdfablfaa.Ix
open Go.RowKit Tr Bt
theorem rank_i (r : Nat → Nat) (w : World) (hr : ∀ i, i < 3 → r i < 64) :
    Calls Try.prog 38 #[aggR r] w (Nb ((rk 8 (spanS r).length : Nat) : Int) w) := by
  have HRD := Lib.hid (fun w9 => reduced_i r w9 hr)
  have HLI := Lib.hid (fun (q p : Nat → Nat) (k : Nat) (h : Inv 0 k q p) (hs : ∀ x, SpF q x ↔ SpF r x) (w9 : World) => (show Calls Try.prog 41 #[.agg #[.int .i64 ((q 0 : Nat) : Int), .int .i64 ((q 1 : Nat) : Int), .int .i64 ((q 2 : Nat) : Int)]] w9 (Lb (castL (nz (q 0) (q 1) (q 2))) w9) ∧ (castL (nz (q 0) (q 1) (q 2))).length = rk 8 (spanS r).length from
    ⟨rlist_i q w9 h.lt, by rw [castL_len, ← spanS_congr hs, h.red.2, rk_pow _ 8 (by have := nz_len (q 0) (q 1) (q 2); omega)]⟩))
  have b0 : Below w.heap.size w (w.alloc (.cells #[.int .i64 ((r 0 : Nat) : Int), .int .i64 ((r 1 : Nat) : Int), .int .i64 ((r 2 : Nat) : Int)] 46)) := (Below.refl _ w).alloc (Nat.le_refl _) _
  have B0 := Lib.hid b0
  clear b0 hr
  unfold RedP at HRD
  unfold aggR at HRD ⊢
  generalize rk 8 (spanS r).length = R at *
  go_enter Try.func38, Try.ntmps38
  go_wp2_with fail
  refine (HRD.out _).mono ?_; rintro e w1 ⟨q, p, k, rfl, hinv, hsp, b1⟩
  obtain ⟨hL, hlen⟩ := HLI.out q p k hinv hsp w1
  have HL := Lib.hid hL
  have HLN := Lib.hid hlen
  have B1 := Lib.hid (bt B0.out b1)
  clear hL hlen hinv hsp b1
  generalize castL (nz (q 0) (q 1) (q 2)) = ys at *
  go_wp2_with fail
  refine HL.out.mono ?_; rintro e w2 ⟨v2, rfl, o2, b2⟩
  obtain ⟨a2, c2, rfl⟩ := o2.formx
  rw [HLN.out]
  go_wp2
  go_ret
  exact ⟨rfl, bt B1.out b2⟩
theorem rank_s (a : Option Addr) (c : Nat) (ns : List Nat) (w : World) (hl : ns.length ≤ 3) (h64 : ∀ i, ns.getD i 0 < 64) (hr : Row w a (castL ns)) :
    Calls Try.prog 37 #[.slice a ns.length c] w (Nb ((rk 8 (spanS (pad ns)).length : Nat) : Int) w) := by
  have HS := Lib.hid (span_s a c ns w hl h64 hr)
  have h8 := spanS_len (pad ns)
  clear hr h64
  generalize spanS (pad ns) = ys at *
  generalize ns.length = N at *
  go_enter Try.func37, Try.ntmps37
  go_wp2_with fail
  refine HS.out.mono ?_; rintro e w1 ⟨v1, rfl, o1, b1⟩
  obtain ⟨a1, c1, rfl⟩ := o1.formx
  have B1 := Lib.hid b1
  clear o1 b1
  generalize ys.length = M at *
  go_wp2
  go_loop [3, 4] (fun rv nv => ∃ m n : Nat, rv = .int .i64 m ∧ nv = .int .i64 n ∧ n ≤ 8 ∧ m ≤ 8 ∧ Hid (m + rk (8 - m) n = rk 8 M ∧ n * 2 ^ m ≤ 8)) (fun _ nv => (intOf nv).toNat)
  case atStart => exact ⟨0, M, rfl, rfl, h8, by omega, Lib.hid ⟨by simp, by simpa using h8⟩⟩
  case round =>
    obtain ⟨m, n, rfl, rfl, hn8, hm8, hinv⟩ := hrel
    by_cases h1 : 1 < n
    · have hm2 : m ≤ 2 := by
        rcases Nat.lt_or_ge m 3 with h | h
        · omega
        · have hp : 2 ^ 3 ≤ 2 ^ m := Nat.pow_le_pow_right (by omega) h
          have := hinv.out.2
          have h2 : 2 * 2 ^ m ≤ n * 2 ^ m := Nat.mul_le_mul_right _ h1
          omega
      have hnew : Hid ((m + 1) + rk (8 - (m + 1)) (n / 2) = rk 8 M ∧ n / 2 * 2 ^ (m + 1) ≤ 8) := Lib.hid ⟨by
        have h := hinv.out.1
        rw [show 8 - m = (8 - (m + 1)) + 1 by omega, rk, if_pos h1] at h
        omega, by
        have h := hinv.out.2
        have h3 : n / 2 * 2 * 2 ^ m ≤ n * 2 ^ m := Nat.mul_le_mul_right _ (Nat.div_mul_le_self n 2)
        rw [Nat.pow_succ, Nat.mul_comm (2 ^ m) 2, ← Nat.mul_assoc]
        omega⟩
      go_wp2
      go_round
      case rel => exact ⟨m + 1, n / 2, by go_num, by go_num, by omega, by omega, hnew⟩
      case measure => simp [intOf]; omega
    · have h1' : ¬ (1 : Int) < (n : Int) := by omega
      have hR : m = rk 8 M := by
        have h := hinv.out.1
        have h0 : rk (8 - m) n = 0 := by
          cases 8 - m with
          | zero => rfl
          | succ f => rw [rk, if_neg h1]
        omega
      go_wp2
      go_ret
      exact ⟨rfl, B1.out⟩
theorem top_s (n : Nat) (w : World) (h1 : 1 ≤ n) (h64 : n < 64) :
    Calls Try.prog 39 #[.int .i64 n] w fun e w' => e = .returned (.int .i64 ((topOf n : Nat) : Int)) ∧ w = w' := by
  have HT := Lib.hid (fun j (hj : j < 6) h1 h2 => (show topOf n = 2 ^ j from top_eq (n := n) hj h1 h2))
  generalize topOf n = T at *
  go_enter Try.func39, Try.ntmps39
  go_wp2
  go_loop [3] (fun tv => ∃ j t : Nat, j < 6 ∧ tv = .int .i64 t ∧ t ≤ n ∧ 1 ≤ t ∧ Hid (t = 2 ^ j)) (fun tv => 64 - (intOf tv).toNat)
  case atStart => exact ⟨0, 1, by omega, rfl, h1, by omega, Lib.hid rfl⟩
  case round =>
    obtain ⟨j, t, hj, rfl, htn, ht1, ht⟩ := hrel
    by_cases hle : 2 * t ≤ n
    · have hj5 : j + 1 < 6 := by
        rcases Nat.lt_or_ge j 5 with h | h
        · omega
        · obtain rfl : j = 5 := by omega
          have : t = 32 := ht.out
          omega
      have hle' : (2 : Int) * (t : Int) ≤ (n : Int) := by omega
      go_wp2
      go_round
      case rel => exact ⟨j + 1, t * 2, hj5, by go_num, by omega, by omega, Lib.hid (by have := ht.out; rw [Nat.pow_succ, this])⟩
      case measure => simp [intOf]; omega
    · have hle' : ¬ (2 : Int) * (t : Int) ≤ (n : Int) := by omega
      have hT := HT.out j hj (by rw [← ht.out]; exact htn) (by rw [Nat.pow_succ, ← ht.out]; omega)
      rw [← ht.out] at hT
      have HTT := Lib.hid hT
      clear hT
      go_wp2
      go_ret
      exact ⟨by rw [HTT.out]; rfl, rfl⟩
theorem rankV_no {xs : List Int} (h : okX xs = false) : rankV xs = 0 := by unfold rankV; rw [h]; rfl
theorem rankV_yes {ns : List Nat} (h : okX (castL ns) = true) : rankV (castL ns) = ((rk 8 (spanS (pad ns)).length : Nat) : Int) := by unfold rankV; rw [h, pad_fun]; rfl
theorem rank_sL {v : Value} {xs : List Int} {w : World} (h : RdX w v xs) :
    Calls Try.prog 21 #[v] w (IbX (rankV xs) (okX xs) w) := by
  cases ho : okX xs
  · rw [rankV_no ho]
    obtain ⟨a, c, rfl, hr, hn, _⟩ := h
    have b0 : Below w.heap.size w (w.alloc (.cells #[.slice a xs.length c] 27)) := (Below.refl _ w).alloc (Nat.le_refl _) _
    have H := Lib.hid (is_s w.heap.size a c xs _ hn (by simp) (hr.below b0))
    rw [ho] at H
    have B0 := Lib.hid b0
    clear hr b0 hn ho
    generalize xs.length = N at *
    go_enter Try.func21, Try.ntmps21
    go_wp2_with (go_at_call 27; refine H.out.mono ?_; rintro e w' ⟨rfl, rfl⟩)
    go_ret2
    exact ⟨rfl, B0.out⟩
  · obtain ⟨ns, rfl, hl, h64⟩ := okX_nat ho
    rw [rankV_yes ho]
    obtain ⟨a, c, rfl, hr, hn, _⟩ := h
    have b0 : Below w.heap.size w (w.alloc (.cells #[.slice a (castL ns).length c] 27)) := (Below.refl _ w).alloc (Nat.le_refl _) _
    have H := Lib.hid (is_s w.heap.size a c (castL ns) _ hn (by simp) (hr.below b0))
    have HS := Lib.hid (rank_s a c ns _ hl h64 (hr.below b0))
    rw [ho] at H
    have B0 := Lib.hid b0
    have hNN := castL_len ns
    clear hr b0 hn ho h64
    generalize (castL ns).length = N' at *
    generalize rk 8 (spanS (pad ns)).length = q at *
    generalize ns.length = N at *
    subst hNN
    go_enter Try.func21, Try.ntmps21
    go_wp2_with (first | (go_at_call 27; refine H.out.mono ?_; rintro e w' ⟨rfl, rfl⟩) | (go_at_call 37; refine HS.out.mono ?_; rintro e w3 ⟨rfl, hb3⟩))
    go_ret2
    exact ⟨rfl, bt B0.out hb3⟩
theorem rank_iL {v : Value} {xs : List Int} {w : World} (h : RdX w v xs) :
    Calls Try.prog 22 #[v] w (IbX (rankV xs) (okX xs) w) := by
  cases ho : okX xs
  · rw [rankV_no ho]
    have HR := Lib.hid (fun w9 (hb : Below w.heap.size w w9) => rows_no (h.below hb) ho)
    obtain ⟨a, c, rfl, _, _, _⟩ := h
    have b0 : Below w.heap.size w (w.alloc (.cells #[.slice a xs.length c] 27)) := (Below.refl _ w).alloc (Nat.le_refl _) _
    have H := Lib.hid (HR.out _ b0)
    unfold RowsR aggR at H
    have B0 := Lib.hid b0
    clear b0 HR ho
    generalize xs.length = N at *
    go_enter Try.func22, Try.ntmps22
    go_wp2_with (go_at_call 29; refine H.out.mono ?_; rintro e w1 ⟨rfl, b1⟩)
    go_ret2
    exact ⟨rfl, (bt B0.out b1).alloc (by have := B0.out.size; have := b1.size; omega) _⟩
  · obtain ⟨ns, rfl, hl, h64⟩ := okX_nat ho
    rw [rankV_yes ho]
    have HR := Lib.hid (fun w9 (hb : Below w.heap.size w w9) => rows_yes (h.below hb) hl ho)
    obtain ⟨a, c, rfl, _, _, _⟩ := h
    have b0 : Below w.heap.size w (w.alloc (.cells #[.slice a (castL ns).length c] 27)) := (Below.refl _ w).alloc (Nat.le_refl _) _
    have H := Lib.hid (HR.out _ b0)
    have HK := Lib.hid (fun w9 => rank_i (pad ns) w9 (fun i _ => h64 i))
    have B0 := Lib.hid b0
    clear b0 HR ho h64 hl
    unfold RowsR aggR at H
    unfold aggR at HK
    generalize rk 8 (spanS (pad ns)).length = q at *
    generalize (castL ns).length = N at *
    go_enter Try.func22, Try.ntmps22
    go_wp2_with (first | (go_at_call 29; refine H.out.mono ?_; rintro e w1 ⟨rfl, b1⟩) | (go_at_call 38; refine (HK.out _).mono ?_; rintro e w2 ⟨rfl, b2⟩))
    go_ret2
    exact ⟨rfl, bt ((bt B0.out b1).alloc (by have := B0.out.size; have := b1.size; omega) _) b2⟩
end Go.Proofs.Ytgfablkdfablfaa.Ix
