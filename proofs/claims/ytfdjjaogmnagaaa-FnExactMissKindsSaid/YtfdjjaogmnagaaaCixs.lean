/- The model's index functions over bits: validity, parity, the set of an address. -/
import Derived.Test.YtfdjjaogmnagaaaCixv
import Derived.Test.YtfdjjaogmnagaaaPlainIx2
import Derived.Test.YtfdjjaogmnagaaaCuses
import Derived.Test.YtfdjjaogmnagaaaCbits
namespace Go.Proofs.Ytfdjjaogmnagaaa.Ix
open Go.RowKit Tr Bt
theorem okX_no (xs : List Int) (j : Nat) (h : j < xs.length) (hn : isA (xs.getD j 0) = false) : okX xs = false := by
  unfold okX; rw [all_no xs j h hn, Bool.and_false]
theorem okX_end (xs : List Int) (h : (xs.take xs.length).all isA = true) : okX xs = decide (xs.length ≤ 3) := by
  unfold okX; rw [List.take_length] at h; rw [h, Bool.and_true]
set_option maxHeartbeats 1000000 in
theorem is_s (bk : Nat) (a : Option Addr) (c : Nat) (xs : List Int) (w : World) (hn : xs.length ≤ 1048576) (hcell : w.cell? ⟨bk, 0, none⟩ = some (.slice a xs.length c)) (hr : Row w a xs) :
    Calls Try.prog 15 #[.pointer (some ⟨bk, 0, none⟩)] w (Bl (okX xs) w) := by
  have HC := Lib.hid hr
  have HS := Lib.hid (all_step xs)
  have HN := Lib.hid (okX_no xs)
  have HE := Lib.hid (okX_end xs)
  clear hr
  unfold Row at HC
  generalize (okX xs) = ok at *
  generalize hN : xs.length = N at *
  go_enter Try.func15, Try.ntmps15
  go_wp2
  go_loop [3] (fun i => ∃ j : Nat, j ≤ N ∧ i = .int .i64 j ∧ Hid ((xs.take j).all isA = true)) (fun i => N - (intOf i).toNat)
  case atStart => exact ⟨0, Nat.zero_le _, rfl, Lib.hid rfl⟩
  case round =>
    obtain ⟨j, hj, rfl, hx⟩ := hrel
    by_cases hlt : j < N
    · obtain ⟨b, off, rfl, c1, hb⟩ := HC.out j hlt
      have hs := Lib.hid (HS.out j hlt)
      have hno := Lib.hid (HN.out j hlt)
      have hI := Lib.hid (addr_s (xs.getD j 0) w)
      generalize xs.getD j 0 = u at *
      cases hb : isA u
      · have hok : ok = false := hno.out hb
        rw [hb] at hI
        clear hb
        subst hok
        go_wp2_with (go_at_call 27; refine hI.out.mono ?_; rintro e w' ⟨rfl, rfl⟩)
        go_ret
        exact ⟨rfl, rfl⟩
      · rw [hb] at hI
        have hnew : Hid ((xs.take (j + 1)).all isA = true) := by show _ = _; rw [hs.out, hx.out, hb]; rfl
        clear hb
        go_wp2_with (go_at_call 27; refine hI.out.mono ?_; rintro e w' ⟨rfl, rfl⟩)
        go_round
        case rel => exact ⟨j + 1, by omega, by go_num, hnew⟩
        case measure => simp [intOf]; omega
    · have e : j = N := by omega
      subst e
      have hok := HE.out hx.out
      by_cases h3 : j ≤ 3
      · have : ok = true := by rw [hok, decide_eq_true h3]
        clear hok HE HN
        subst this
        have h3' : (j : Int) ≤ 3 := by omega
        go_wp2
        go_ret
        exact ⟨ret_bool (by simp), rfl⟩
      · have : ok = false := by rw [hok, decide_eq_false h3]
        clear hok HE HN
        subst this
        have h3' : ¬ (j : Int) ≤ 3 := by omega
        go_wp2
        go_ret
        exact ⟨ret_bool (by simp), rfl⟩
theorem parity_s (v : Nat) (w : World) (hv : v < 4294967296) :
    Calls Try.prog 41 #[.int .i64 v] w fun e w' => e = .returned (.int .i64 ((par v : Nat) : Int)) ∧ w = w' := by
  have HP := Lib.hid (show par v = pc 32 v % 2 from rfl)
  generalize par v = pv at *
  go_enter Try.func41, Try.ntmps41
  go_wp2
  go_loop [0, 3] (fun r o => ∃ p q : Nat, p < 2 ∧ q < 4294967296 ∧ o = .int .i64 p ∧ r = .int .i64 q ∧ Hid ((p + pc 32 q) % 2 = pc 32 v % 2)) (fun r _ => (intOf r).toNat)
  case atStart => exact ⟨0, v, by omega, by omega, rfl, rfl, Lib.hid (by omega)⟩
  case round =>
    obtain ⟨p, q, hp, hq, rfl, rfl, hg⟩ := hrel
    by_cases h0 : 0 < q
    · have h1 : bits .and .i64 (q : Int) 1 = (q : Int) % 2 := and_one q (by omega)
      have h2 : bits .xor .i64 (p : Int) ((q : Int) % 2) = ((p : Int) + (q : Int) % 2) % 2 := xor_bit p (q % 2) hp (Nat.mod_lt _ (by omega))
      go_wp2
      go_round
      case rel => exact ⟨(p + q % 2) % 2, q / 2, Nat.mod_lt _ (by omega), by omega, by go_num, by go_num, Lib.hid (by have := pc_step q (by omega); have := hg.out; omega)⟩
      case measure => simp [intOf]; omega
    · have h1 : ¬ (0 : Int) < q := by omega
      go_wp2
      go_ret
      have hq0 : q = 0 := by omega
      subst hq0
      refine ⟨ret_i64 ?_, rfl⟩
      have := hg.out
      rw [pc_zero] at this
      have := HP.out
      omega
theorem i64_or (a b : Nat) (ha : a < 9223372036854775808) (hb : b < 9223372036854775808) : bits .or .i64 (a : Int) (b : Int) = ((a ||| b : Nat) : Int) := by
  have hx : a ||| b < 2 ^ 63 := Nat.or_lt_two_pow (by omega) (by omega)
  show IntKind.i64.wrap ((BitVec.ofInt 64 (a : Int) ||| BitVec.ofInt 64 (b : Int)).toNat : Int) = _
  rw [BitVec.toNat_or, ofInt_i64 a ha, ofInt_i64 b hb]
  exact IntWalk.i64_in _ (by omega)
/-- The step of both loops over the rows, in the program's numbers. -/
theorem set_step (r : Nat → Nat) (x j : Nat) (hj : j < 3) (p : Nat) (hp : p = par (r j &&& x)) : p < 2 ∧ setF r x j < 4 ∧ wrap64 ((p : Int) * 2 ^ j) = ((p * 2 ^ j : Nat) : Int) ∧ bits .or .i64 ((setF r x j : Nat) : Int) ((p * 2 ^ j : Nat) : Int) = ((setF r x (j + 1) : Nat) : Int) := by
  have hlt : p < 2 := by rw [hp]; exact par_lt _
  have hs := setF_lt r x j
  have h4 : 2 ^ j ≤ 4 := by have : 2 ^ j ≤ 2 ^ 2 := Nat.pow_le_pow_right (by omega) (by omega); simpa using this
  have hm : p * 2 ^ j ≤ 4 := by
    obtain rfl | rfl : p = 0 ∨ p = 1 := by omega
    · omega
    · omega
  refine ⟨hlt, by omega, ?_, ?_⟩
  · rw [IntWalk.wrap64_in _ (by
      have e : ((p : Int) * 2 ^ j) = ((p * 2 ^ j : Nat) : Int) := by simp
      rw [e]; omega)]
    simp
  · rw [i64_or _ _ (by omega) (by omega), ← Nat.shiftLeft_eq, or_step _ p j hj hs hlt, setF, hp]
set_option maxHeartbeats 1000000 in
theorem set_s (a : Option Addr) (c : Nat) (ns : List Nat) (x : Nat) (w : World) (hn : ns.length ≤ 3) (h64 : ∀ i, ns.getD i 0 < 64) (hx : x < 64) (hr : Row w a (castL ns)) :
    Calls Try.prog 31 #[.slice a ns.length c, .int .i64 x] w fun e w' => e = .returned (.int .i64 ((setF (pad ns) x ns.length : Nat) : Int)) ∧ w = w' := by
  have HC := Lib.hid (fun (j : Nat) (hj : j < ns.length) => (show ∃ b off, a = some ⟨b, off, none⟩ ∧ w.cell? ⟨b, off + j, none⟩ = some (.int .i64 ((ns.getD j 0 : Nat) : Int)) from by
    obtain ⟨b, off, e, h1, _⟩ := hr j (by rw [castL_len]; exact hj)
    exact ⟨b, off, e, by rw [h1, castL_get]⟩))
  have H64 := Lib.hid h64
  have HST := Lib.hid (fun j hj p hp => set_step (pad ns) x j hj p hp)
  have HPD := Lib.hid (fun j => (show pad ns j = ns.getD j 0 from rfl))
  clear hr h64
  generalize pad ns = r at *
  generalize ns.length = N at *
  have H0 := Lib.hid (show setF r x 0 = 0 from rfl)
  generalize setF r x = S at *
  go_enter Try.func31, Try.ntmps31
  go_wp2
  go_loop [5, 6] (fun o i => ∃ j : Nat, j ≤ N ∧ i = .int .i64 j ∧ o = .int .i64 ((S j : Nat) : Int)) (fun _ i => N - (intOf i).toNat)
  case atStart => exact ⟨0, Nat.zero_le _, rfl, by rw [H0.out]; rfl⟩
  case round =>
    obtain ⟨j, hj, rfl, rfl⟩ := hrel
    by_cases hlt : j < N
    · obtain ⟨b, off, rfl, c1⟩ := HC.out j hlt
      have hu := H64.out j
      have hst := HST.out j (by omega)
      rw [HPD.out j] at hst
      generalize ns.getD j 0 = u at *
      have hand : bits .and .i64 (u : Int) (x : Int) = ((u &&& x : Nat) : Int) := i64_and _ _ (by omega) (by omega)
      have hal : u &&& x < 2 ^ 6 := Nat.and_lt_two_pow _ (by omega)
      generalize u &&& x = v at *
      have hP := Lib.hid (parity_s v w (by omega))
      obtain ⟨hp, hs4, hw, ho⟩ := hst _ rfl
      generalize par v = p at *
      generalize S j = o at *
      generalize hq : p * 2 ^ j = q at *
      obtain ⟨o', ho'⟩ : ∃ o', S (j + 1) = o' := ⟨_, rfl⟩
      rw [ho'] at ho
      have HSJ := Lib.hid ho'
      clear hst hq ho'
      go_wp2_with (go_at_call 41; refine hP.out.mono ?_; rintro e w' ⟨rfl, rfl⟩)
      go_round
      case rel => exact ⟨j + 1, by omega, by go_num, by rw [HSJ.out]⟩
      case measure => simp [intOf]; omega
    · have e : j = N := by omega
      subst e
      go_wp2
      go_ret
      exact ⟨rfl, rfl⟩
end Go.Proofs.Ytfdjjaogmnagaaa.Ix
