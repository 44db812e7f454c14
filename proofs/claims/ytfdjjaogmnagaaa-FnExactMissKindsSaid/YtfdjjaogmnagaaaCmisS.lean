/- The model's l06Misses. -/
import Derived.Test.YtfdjjaogmnagaaaCsin
import Derived.Test.YtfdjjaogmnagaaaCixs
import Derived.Test.YtfdjjaogmnagaaaCixv
import Derived.Test.YtfdjjaogmnagaaaCbits
import Derived.Deep.QuietTactic
import Derived.WalkMore
namespace Go.Proofs.Ytfdjjaogmnagaaa.Ix
open Go.RowKit Tr Bt
/-- How many of the first k of the numbers S lie in one set with the number u. -/
def othP (r : Nat → Nat) (n : Nat) (S : List Int) (u k : Nat) : Nat := ((S.take k).filter (fun y => setF r (y.toNat ^^^ u) n == 0)).length
theorem othP_succ (r : Nat → Nat) (n : Nat) (S : List Int) (u k : Nat) (hk : k < S.length) : othP r n S u (k + 1) = othP r n S u k + if setF r ((S.getD k 0).toNat ^^^ u) n = 0 then 1 else 0 := by
  unfold othP
  rw [List.take_add_one, List.getElem?_eq_getElem hk, List.filter_append, List.length_append, List.getD_eq_getElem?_getD, List.getElem?_eq_getElem hk]
  simp only [Option.toList, List.filter_cons, List.filter_nil, Option.getD_some]
  by_cases h : setF r (S[k].toNat ^^^ u) n = 0
  · simp [h]
  · simp [h]
theorem othP_le (r : Nat → Nat) (n : Nat) (S : List Int) (u k : Nat) : othP r n S u k ≤ k := Nat.le_trans (List.length_filter_le _ _) (by simp; omega)
/-- The misses of the first j uses. -/
def misS (r : Nat → Nat) (n : Nat) (pl : Int) (xs : List Int) : Nat → Nat
  | 0 => 0
  | j + 1 => misS r n pl xs j + if 0 ≤ lastAt xs (xs.getD j 0) j ∧ ((othP r n (sinP xs j) (xs.getD j 0).toNat (sinP xs j).length : Nat) : Int) < pl then 0 else 1
theorem misS_le (r : Nat → Nat) (n : Nat) (pl : Int) (xs : List Int) (j : Nat) : misS r n pl xs j ≤ j := by
  induction j with
  | zero => exact Nat.le_refl _
  | succ j ih => rw [misS]; split <;> omega
theorem sinP_ok {xs : List Int} (h : ∀ j, j < xs.length → 0 ≤ xs.getD j 0 ∧ xs.getD j 0 ≤ 63) (i k : Nat) (hk : k < (sinP xs i).length) : 0 ≤ (sinP xs i).getD k 0 ∧ (sinP xs i).getD k 0 ≤ 63 := by
  have hm : (sinP xs i).getD k 0 ∈ sinP xs i := by rw [List.getD_eq_getElem?_getD, List.getElem?_eq_getElem hk]; exact List.getElem_mem hk
  revert hm
  generalize (sinP xs i).getD k 0 = y
  unfold sinP
  split
  · intro hm
    rw [mem_setP] at hm
    have h1 := List.mem_of_mem_take (List.mem_of_mem_drop hm)
    obtain ⟨q, hq, e⟩ := List.getElem_of_mem h1
    have := h q hq
    rw [List.getD_eq_getElem?_getD, List.getElem?_eq_getElem hq, Option.getD_some, e] at this
    exact this
  · intro hm; cases hm
theorem sinP_len (xs : List Int) (i : Nat) : (sinP xs i).length ≤ xs.length := by
  unfold sinP
  split
  · exact Nat.le_trans (setP_length _) (by simp; omega)
  · exact Nat.zero_le _
set_option maxHeartbeats 4000000 in
theorem misses_s (a : Option Addr) (c : Nat) (ns : List Nat) (pl : Int) (b : Option Addr) (d : Nat) (xs : List Int) (w : World) (hn : ns.length ≤ 3) (h64 : ∀ i, ns.getD i 0 < 64) (hr : Row w a (castL ns))
    (hl : xs.length ≤ 60) (hx : ∀ j, j < xs.length → 0 ≤ xs.getD j 0 ∧ xs.getD j 0 ≤ 63) (hd1 : xs.length ≤ d) (hd2 : d ≤ 9223372036854775807) (hs : Row w b xs) :
    Calls Try.prog 19 #[.slice a ns.length c, .int .i64 pl, .slice b xs.length d] w (Nb ((misS (pad ns) ns.length pl xs xs.length : Nat) : Int) w) := by
  have HSI := Lib.hid (fun (i : Nat) (hi : i < xs.length) (w' : World) (hb : Below w.heap.size w w') => since_s b d xs i w' (by omega) hi hd1 hd2 (hs.below hb))
  have HSE := Lib.hid (fun (x : Nat) (w' : World) (hx : x < 64) (hb : Below w.heap.size w w') => set_s a c ns x w' hn h64 hx (hr.below hb))
  have HC := Lib.hid (fun (j : Nat) (hj : j < xs.length) (w' : World) (hb : Below w.heap.size w w') => (show ∃ b0 off, b = some ⟨b0, off, none⟩ ∧ w'.cell? ⟨b0, off + j, none⟩ = some (.int .i64 (xs.getD j 0)) from by
    obtain ⟨b0, off, e, h1, hlt⟩ := hs j hj
    exact ⟨b0, off, e, (hb.cell (p := ⟨b0, off + j, none⟩) hlt).trans h1⟩))
  have HX := Lib.hid hx
  have HOK := Lib.hid (fun i k hk => sinP_ok hx i k hk)
  have HOS := Lib.hid (fun i u k hk => othP_succ (pad ns) ns.length (sinP xs i) u k hk)
  have HOL := Lib.hid (fun i u k => othP_le (pad ns) ns.length (sinP xs i) u k)
  have HSL := Lib.hid (fun i => sinP_len xs i)
  have HML := Lib.hid (fun j => misS_le (pad ns) ns.length pl xs j)
  have HMS := Lib.hid (fun j => (show misS (pad ns) ns.length pl xs (j + 1) = misS (pad ns) ns.length pl xs j + if 0 ≤ lastAt xs (xs.getD j 0) j ∧ ((othP (pad ns) ns.length (sinP xs j) (xs.getD j 0).toNat (sinP xs j).length : Nat) : Int) < pl then 0 else 1 from rfl))
  clear hr hs h64 hx hn
  generalize hLr : ns.length = n at *
  clear hLr
  generalize pad ns = r at *
  generalize hNx : xs.length = N at *
  clear hNx
  go_enter Try.func19, Try.ntmps19
  go_wp2
  go_loopw [7, 8] (fun m i wr => ∃ j : Nat, j ≤ N ∧ i = .int .i64 j ∧ m = .int .i64 ((misS r n pl xs j : Nat) : Int) ∧ Hid (Below w.heap.size w wr)) (fun _ i _ => N - (intOf i).toNat)
  case atStart => exact ⟨0, Nat.zero_le _, rfl, rfl, Lib.hid (Below.refl _ w)⟩
  case round =>
    obtain ⟨j, hj, rfl, rfl, hB⟩ := hrel
    by_cases hlt : j < N
    · have HSJ := Lib.hid (HSI.out j hlt wr hB.out)
      have hml := HML.out j
      have HMJ := Lib.hid (HMS.out j)
      have HSOJ := Lib.hid (fun u k hk => HOS.out j u k hk)
      have HOLJ := Lib.hid (fun u k => HOL.out j u k)
      have HOKJ := Lib.hid (fun k hk => HOK.out j k hk)
      have hsl := HSL.out j
      obtain ⟨hu0, hu1⟩ := HX.out j hlt
      have HCJ := Lib.hid (fun w' hb => HC.out j hlt w' hb)
      clear HSI HMS HOS HOL HOK HSL HML HC HX
      generalize sinP xs j = S at *
      generalize lastAt xs (xs.getD j 0) j = L at *
      generalize xs.getD j 0 = x at *
      obtain ⟨u, rfl⟩ := Int.eq_ofNat_of_zero_le hu0
      rw [Int.toNat_natCast] at *
      obtain ⟨bL, hbL⟩ : ∃ bL, decide (0 ≤ L) = bL := ⟨_, rfl⟩
      rw [hbL] at HSJ
      have HBL := Lib.hid hbL
      clear hbL
      go_wp2_with (go_at_call 30; refine HSJ.out.mono ?_; rintro e w3 ⟨v9, rfl, ho9, hb9⟩; obtain ⟨a9, c9, rfl⟩ := ho9.form)
      have HS9 := Lib.hid (fun (k : Nat) (hk : k < S.length) (w' : World) (hb : Below w3.heap.size w3 w') => (show ∃ b1 off1, a9 = some ⟨b1, off1, none⟩ ∧ w'.cell? ⟨b1, off1 + k, none⟩ = some (.int .i64 (S.getD k 0)) from by
        obtain ⟨a', c', e, _, _, hr9⟩ := ho9.rd
        injection e with e1 e2 e3
        subst e1
        obtain ⟨b1, off1, e, h1, hlt1⟩ := hr9 k hk
        exact ⟨b1, off1, e, (hb.cell (p := ⟨b1, off1 + k, none⟩) hlt1).trans h1⟩))
      have HB3 := Lib.hid (bt hB.out hb9)
      clear ho9 hb9 HSJ
      generalize S.length = SL at *
      go_loopw [11, 12] (fun m k w4 => ∃ q : Nat, q ≤ SL ∧ k = .int .i64 q ∧ m = .int .i64 ((othP r n S u q : Nat) : Int) ∧ Hid (Below w3.heap.size w3 w4)) (fun _ k _ => SL - (intOf k).toNat)
      case atStart => exact ⟨0, Nat.zero_le _, rfl, by simp [othP], Lib.hid (Below.refl _ _)⟩
      case round =>
        obtain ⟨q, hq, rfl, rfl, hB4⟩ := hrel
        have hol := HOLJ.out u q
        by_cases hqlt : q < SL
        · obtain ⟨b1, off1, rfl, c1⟩ := HS9.out q hqlt wr hB4.out
          obtain ⟨b0, off0, rfl, c0⟩ := HCJ.out wr (bt HB3.out hB4.out)
          obtain ⟨hy0, hy1⟩ := HOKJ.out q hqlt
          have hstep := HSOJ.out u q hqlt
          generalize S.getD q 0 = y at *
          obtain ⟨y, rfl⟩ := Int.eq_ofNat_of_zero_le hy0
          rw [Int.toNat_natCast] at hstep
          have hxo := i64_xor y u (by omega) (by omega)
          have hx64 : y ^^^ u < 64 := Nat.xor_lt_two_pow (n := 6) (by omega) (by omega)
          have hI := Lib.hid (fun nq => (HSE.out (y ^^^ u) (wr.drewN nq) hx64 (below_drewN _ (bt HB3.out hB4.out))).mono (R' := fun e w' => e = .returned (.int .i64 ((setF r (y ^^^ u) n : Nat) : Int)) ∧ ∃ m, w' = wr.drewN m) fun e w' ⟨he, hw⟩ => ⟨he, nq, hw.symm⟩)
          generalize setF r (y ^^^ u) n = z at *
          generalize y ^^^ u = yu at *
          by_cases hz : z = 0
          · rw [if_pos hz] at hstep
            subst hz
            have HQ := Lib.hid hstep
            clear hstep HSE HS9 HCJ
            go_wp2
            go_quiet (exact hI.out _)
            go_wp2
            go_roundw
            case rel => exact ⟨q + 1, by omega, by go_num, by rw [HQ.out]; go_num, Lib.hid (below_drewN _ hB4.out)⟩
            case measure => simp [intOf] <;> omega
          · rw [if_neg hz] at hstep
            have HQ := Lib.hid hstep
            have hzi : ¬ (z : Int) = 0 := by omega
            clear hstep HSE HS9 HCJ
            go_wp2
            go_quiet (exact hI.out _)
            go_wp2
            go_roundw
            case rel => exact ⟨q + 1, by omega, by go_num, by rw [HQ.out]; go_num, Lib.hid (below_drewN _ hB4.out)⟩
            case measure => simp [intOf] <;> omega
        · obtain rfl : q = SL := by omega
          have HB9 := Lib.hid (bt HB3.out hB4.out)
          have hmj := HMJ.out
          by_cases hL : 0 ≤ L
          · have e := HBL.out
            rw [decide_eq_true hL] at e
            subst e
            by_cases hp : ((othP r n S u q : Nat) : Int) < pl
            · rw [if_pos ⟨hL, hp⟩] at hmj
              have HQ := Lib.hid hmj
              clear hmj HMJ
              generalize othP r n S u q = o at *
              go_wp2
              go_roundw
              case rel => exact ⟨j + 1, by omega, by go_num, by rw [HQ.out]; go_num, HB9⟩
              case measure => simp [intOf] <;> omega
            · rw [if_neg (fun h => hp h.2)] at hmj
              have HQ := Lib.hid hmj
              clear hmj HMJ
              generalize othP r n S u q = o at *
              have hp' : pl ≤ (o : Int) := by omega
              go_wp2
              go_roundw
              case rel => exact ⟨j + 1, by omega, by go_num, by rw [HQ.out]; go_num, HB9⟩
              case measure => simp [intOf] <;> omega
          · have e := HBL.out
            rw [decide_eq_false hL] at e
            subst e
            rw [if_neg (fun h => hL h.1)] at hmj
            have HQ := Lib.hid hmj
            clear hmj HMJ
            go_wp2
            go_roundw
            case rel => exact ⟨j + 1, by omega, by go_num, by rw [HQ.out]; go_num, HB9⟩
            case measure => simp [intOf] <;> omega
    · obtain rfl : j = N := by omega
      go_wp2
      go_ret
      exact ⟨rfl, hB.out⟩
end Go.Proofs.Ytfdjjaogmnagaaa.Ix
