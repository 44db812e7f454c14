/- What hits cannot exceed: both HitBound. -/
import Derived.Test.YtlakekeolpepbaaCkept
namespace Go.Proofs.Ytlakekeolpepbaa.Tr
open Go.RowKit
/-- Whether an interval crosses one of the first k cuts. -/
def anyB (p : Int × Int) (cuts : List Int) : Nat → Bool
  | 0 => false
  | k + 1 => anyB p cuts k || crB p (cuts.getD k 0)
theorem anyB_hit (p : Int × Int) (cuts : List Int) (j : Nat) (h : crB p (cuts.getD j 0) = true) : ∀ n, j < n → anyB p cuts n = true
  | 0, hn => by omega
  | n + 1, hn => by
    rw [anyB]
    rcases Nat.lt_or_eq_of_le (Nat.le_of_lt_succ hn) with h1 | h1
    · rw [anyB_hit p cuts j h n h1]; rfl
    · rw [← h1, h, Bool.or_true]
/-- How many of the first j intervals cross no cut. -/
def unC (IV : List (Int × Int)) (cuts : List Int) : Nat → Nat
  | 0 => 0
  | j + 1 => unC IV cuts j + if anyB (IV.getD j (0, 0)) cuts cuts.length then 0 else 1
theorem unC_le (IV : List (Int × Int)) (cuts : List Int) (j : Nat) : unC IV cuts j ≤ j := by
  induction j with
  | zero => simp [unC]
  | succ j ih => rw [unC]; split <;> omega
def hitOk (xs : List Int) (ways : Int) (cuts : List Int) : Bool := runB xs ways && riseH ((xs.length : Int) - 1) cuts cuts.length
def hitP (xs : List Int) (ways : Int) (cuts : List Int) : Int := (ways - 1) * (cuts.length : Int) + (unC (ivP xs) cuts (ivP xs).length : Nat)
def hitV (xs : List Int) (ways : Int) (cuts : List Int) : Int := if hitOk xs ways cuts then hitP xs ways cuts else 0
set_option maxHeartbeats 2000000 in
theorem any_i (x y : Int) (a : Option Addr) (c : Nat) (xs : List Int) (w : World) (hn : xs.length ≤ 1048576) (hr : Row w a xs) :
    Calls Try.prog 33 #[.agg #[.int .i64 x, .int .i64 y], .slice a xs.length c] w (Bb (anyB (x, y) xs xs.length) w) := by
  have HC := Lib.hid (fun (j : Nat) (hj : j < xs.length) => hr j hj)
  have HCR := Lib.hid (fun t w9 => crosses_i x y t w9)
  have HK := Lib.hid (fun k => show anyB (x, y) xs (k + 1) = (anyB (x, y) xs k || crB (x, y) (xs.getD k 0)) from rfl)
  have HH := Lib.hid (fun (j : Nat) (hj : j < xs.length) (h : crB (x, y) (xs.getD j 0) = true) => anyB_hit (x, y) xs j h xs.length hj)
  have H0 := Lib.hid (show anyB (x, y) xs 0 = false from rfl)
  obtain ⟨r, hrr⟩ : ∃ r, anyB (x, y) xs xs.length = r := ⟨_, rfl⟩
  rw [hrr] at HH ⊢
  have HRR := Lib.hid hrr
  clear hr hrr
  generalize anyB (x, y) xs = AN at *
  generalize hN : xs.length = N at *
  clear hN
  have hz : (w.alloc (.cells #[.int .i64 x, .int .i64 y] 42)).heap.size = w.heap.size + 1 := Array.size_push _
  have hb1 : Below w.heap.size w (w.alloc (.cells #[.int .i64 x, .int .i64 y] 42)) := (Below.refl _ _).alloc (Nat.le_refl _) _
  have hbk : (w.alloc (.cells #[.int .i64 x, .int .i64 y] 42)).heap[w.heap.size]? = some (.cells #[.int .i64 x, .int .i64 y] 42 (0, 0)) := heap_alloc_new w _
  have HW := Lib.hid (fun (wr : World) (hb : Below (w.heap.size + 1) (w.alloc (.cells #[.int .i64 x, .int .i64 y] 42)) wr) => (show wr.cell? ⟨w.heap.size, 0, none⟩ = some (.int .i64 x) ∧ wr.cell? ⟨w.heap.size, 1, none⟩ = some (.int .i64 y) ∧ Below w.heap.size w wr ∧ w.heap.size + 1 ≤ wr.heap.size from by
    have h := (hb.block w.heap.size (by omega)).trans hbk
    refine ⟨?_, ?_, hb1.trans (hb.mono (by omega)), by have := hb.size; omega⟩
    · rw [cell_of_row wr w.heap.size 0 _ _ (0, 0) h]; rfl
    · rw [cell_of_row wr w.heap.size 1 _ _ (0, 0) h]; rfl))
  clear hz hb1 hbk
  go_enter Try.func33, Try.ntmps33
  go_wp2
  go_loopw [6, 9] (fun _ i wr => ∃ j : Nat, j ≤ N ∧ i = .int .i64 j ∧ Hid (Below (w.heap.size + 1) (w.alloc (.cells #[.int .i64 x, .int .i64 y] 42)) wr) ∧ Hid (AN j = false)) (fun _ i _ => N - (intOf i).toNat)
  case atStart => exact ⟨0, Nat.zero_le _, rfl, Lib.hid (Below.refl _ _), H0⟩
  case round =>
    obtain ⟨j, hj, rfl, hb, hx⟩ := hrel
    obtain ⟨k0, k1, kb, ks⟩ := HW.out wr hb.out
    by_cases hlt : j < N
    · obtain ⟨b, off, rfl, c1, hbw⟩ := HC.out j hlt
      have c2 := (kb.cell (p := ⟨b, off + j, none⟩) hbw).trans c1
      have hk := HK.out j
      have hh := Lib.hid (HH.out j hlt)
      rw [hx.out, Bool.false_or] at hk
      clear c1
      generalize xs.getD j 0 = u at *
      have hcr := Lib.hid (fun w9 => HCR.out u w9)
      cases hc : crB (x, y) u
      · rw [hc] at hk hcr
        have hkk := Lib.hid hk
        clear hk hh hc
        go_wp2_with (go_at_call 30; (with_reducible refine (hcr.out _).mono ?_); rintro e w3 ⟨rfl, b3⟩)
        go_roundw
        case rel => exact ⟨j + 1, by omega, by go_num, hb.out.trans (b3.mono ks), hkk⟩
        case measure => simp [intOf] <;> omega
      · rw [hc] at hcr
        have e : r = true := hh.out hc
        clear hk hh hc HRR HH
        subst e
        go_wp2_with (go_at_call 30; (with_reducible refine (hcr.out _).mono ?_); rintro e w3 ⟨rfl, b3⟩)
        go_ret
        exact ⟨rfl, kb.trans (b3.mono (by omega))⟩
    · have e : j = N := by omega
      subst e
      have e : r = false := HRR.out.symm.trans hx.out
      clear HRR HH hx HK
      subst e
      go_wp2
      go_ret
      exact ⟨rfl, kb⟩
theorem mul_b (n : Int) (M : Nat) (h1 : 1 ≤ n) (h6 : n ≤ 6) (hM : M ≤ 1048576) : 0 ≤ (n - 1) * (M : Int) ∧ (n - 1) * (M : Int) ≤ 5242880 := by
  refine ⟨Int.mul_nonneg (by omega) (by omega), ?_⟩
  exact Int.le_trans (Int.mul_le_mul (show n - 1 ≤ 5 by omega) (show (M : Int) ≤ 1048576 by omega) (by omega) (by omega)) (by decide)
/-- What a function leaves that returns a number and whether it succeeded. -/
def IbB (n : Int) (ok : Bool) (w : World) (e : Ending) (w' : World) : Prop := e = .returned (.tuple #[.int .i64 n, .bool ok]) ∧ Below w.heap.size w w'
set_option maxHeartbeats 4000000 in
set_option maxRecDepth 100000 in
theorem hit_i (a a2 : Option Addr) (c c2 : Nat) (xs cuts : List Int) (ways : Int) (w : World) (hn : xs.length ≤ 1048576) (hn2 : cuts.length ≤ 1048576) (hr : Row w a xs) (hr2 : Row w a2 cuts) :
    Calls Try.prog 18 #[.slice a xs.length c, .int .i64 ways, .slice a2 cuts.length c2] w (IbB (hitV xs ways cuts) (hitOk xs ways cuts) w) := by
  have HU := Lib.hid (run_i a c xs ways w hn hr)
  have HSB := Lib.hid (setb_i a2 c2 cuts xs.length w hn2 hn hr2)
  unfold hitV
  cases hrun : runB xs ways
  · have e : hitOk xs ways cuts = false := by unfold hitOk; rw [hrun]; rfl
    rw [e]
    rw [hrun] at HU
    clear hr hr2 hrun e HSB
    generalize xs.length = N at *
    generalize cuts.length = M at *
    go_enter Try.func18, Try.ntmps18
    go_wp2_with (go_at_call 28; (with_reducible refine HU.out.mono ?_); rintro e w' ⟨rfl, rfl⟩)
    go_ret2
    exact ⟨rfl, Below.refl _ _⟩
  · rw [hrun] at HU
    cases hset : riseH ((xs.length : Int) - 1) cuts cuts.length
    · have e : hitOk xs ways cuts = false := by unfold hitOk; rw [hset, Bool.and_false]
      rw [e]
      rw [hset] at HSB
      clear hr hr2 hrun e hset
      generalize xs.length = N at *
      generalize cuts.length = M at *
      go_enter Try.func18, Try.ntmps18
      go_wp2_with (first | (go_at_call 28; (with_reducible refine HU.out.mono ?_); rintro e w' ⟨rfl, rfl⟩) | (go_at_call 29; (with_reducible refine HSB.out.mono ?_); rintro e w2 ⟨rfl, b2⟩))
      go_ret2
      exact ⟨rfl, b2⟩
    · have e : hitOk xs ways cuts = true := by unfold hitOk; rw [hset, hrun]; rfl
      rw [e, if_pos rfl]
      rw [hset] at HSB
      have hok : okU xs = true ∧ wayB ways = true := by unfold runB at hrun; rw [Bool.and_eq_true] at hrun; exact hrun
      have hN60 := okU_len hok.1
      obtain ⟨hw1, hw6⟩ := wayB_of hok.2
      obtain ⟨hm0, hm1⟩ := mul_b ways cuts.length hw1 hw6 hn2
      have HIV := Lib.hid (fun (w1 : World) (hb : Below w.heap.size w w1) => iv_i a c xs w1 hok.1 (hr.below hb))
      have HAN := Lib.hid (fun (x y : Int) (w1 : World) (hb : Below w.heap.size w w1) => any_i x y a2 c2 cuts w1 hn2 (hr2.below hb))
      have hLN := ivP_len xs
      have HP := Lib.hid (show hitP xs ways cuts = (ways - 1) * (cuts.length : Int) + (unC (ivP xs) cuts (ivP xs).length : Nat) from rfl)
      have HK := Lib.hid (fun j => show unC (ivP xs) cuts (j + 1) = unC (ivP xs) cuts j + if anyB ((ivP xs).getD j (0, 0)) cuts cuts.length then 0 else 1 from rfl)
      have HK0 := Lib.hid (show unC (ivP xs) cuts 0 = 0 from rfl)
      have HKL := Lib.hid (fun j => unC_le (ivP xs) cuts j)
      clear hr hr2 hrun hok e hset
      generalize hitP xs ways cuts = HV at *
      generalize hUC : unC (ivP xs) cuts = UC at *
      generalize hAB : (fun p => anyB p cuts cuts.length) = AB at *
      have hAB' : ∀ p, anyB p cuts cuts.length = AB p := fun p => by rw [← hAB]
      simp only [hAB'] at HK HAN
      clear hAB hAB' hUC
      generalize ivP xs = IV at *
      generalize hN : xs.length = N at *
      generalize hM : cuts.length = M at *
      clear hN hM
      obtain ⟨P, hP⟩ : ∃ P, (ways - 1) * (M : Int) = P := ⟨_, rfl⟩
      rw [hP] at HP hm0 hm1
      have e9 : IntKind.i64.wrap ((ways - 1) * (M : Int)) = P := by rw [hP]; exact IntWalk.i64_in _ (by omega)
      clear hP
      go_enter Try.func18, Try.ntmps18
      go_wp2_with (first | (go_at_call 28; (with_reducible refine HU.out.mono ?_); rintro e w' ⟨rfl, rfl⟩) | (go_at_call 29; (with_reducible refine HSB.out.mono ?_); rintro e w2 ⟨rfl, b2⟩))
      refine (HIV.out w2 b2).mono ?_
      rintro e w3 ⟨v3, rfl, o3, b3⟩
      obtain ⟨ia, ic, rfl⟩ := o3.form
      have HIC := Lib.hid (fun (wr : World) (hb : Below w3.heap.size w3 wr) (m : Nat) (hm : m < IV.length) => OwnI.cells (o3.below hb (Nat.le_refl _)) m hm)
      have HB3 := Lib.hid (b2.trans (b3.mono b2.size))
      clear o3 b3 b2 HIV HU HSB
      generalize hL : IV.length = L at *
      clear hL
      go_wp2
      go_loopw [8, 10, 30] (fun n _ i wr => ∃ j : Nat, j ≤ L ∧ i = .int .i64 j ∧ n = .int .i64 (P + (UC j : Nat)) ∧ Hid (Below w3.heap.size w3 wr)) (fun _ _ i _ => L - (intOf i).toNat)
      case atStart => exact ⟨0, Nat.zero_le _, rfl, by rw [HK0.out]; simp, Lib.hid (Below.refl _ _)⟩
      case round =>
        obtain ⟨j, hj, rfl, rfl, hb⟩ := hrel
        by_cases hlt : j < L
        · obtain ⟨g, rfl, hLc, _, d1, d2⟩ := HIC.out _ hb.out j hlt
          have hk := HK.out j
          have hl := HKL.out j
          generalize IV.getD j (0, 0) = p at *
          obtain ⟨x, y⟩ := p
          have b4 : Below wr.heap.size wr (wr.alloc (.cells #[.int .i64 x, .int .i64 y] 42)) := (Below.refl _ _).alloc (Nat.le_refl _) _
          have hB4 := HB3.out.trans ((hb.out.trans (b4.mono hb.out.size)).mono HB3.out.size)
          have han := Lib.hid (HAN.out x y _ hB4)
          have hb4 := Lib.hid (hb.out.trans (b4.mono hb.out.size))
          clear b4 hB4
          cases hc : AB (x, y)
          · rw [hc] at hk han
            have e : UC (j + 1) = UC j + 1 := by rw [hk]; rfl
            clear hk hc
            go_wp2_with (go_at_call 33; (with_reducible refine han.out.mono ?_); rintro e w5 ⟨rfl, b5⟩)
            go_roundw
            case rel => exact ⟨j + 1, by omega, by go_num, by rw [e]; go_num, hb4.out.trans (b5.mono hb4.out.size)⟩
            case measure => simp [intOf] <;> omega
          · rw [hc] at hk han
            have e : UC (j + 1) = UC j := by rw [hk]; rfl
            clear hk hc
            go_wp2_with (go_at_call 33; (with_reducible refine han.out.mono ?_); rintro e w5 ⟨rfl, b5⟩)
            go_roundw
            case rel => exact ⟨j + 1, by omega, by go_num, by rw [e], hb4.out.trans (b5.mono hb4.out.size)⟩
            case measure => simp [intOf] <;> omega
        · have e : j = L := by omega
          subst e
          have e : HV = P + (UC j : Nat) := HP.out
          clear HP
          subst e
          go_wp2
          go_ret2
          exact ⟨rfl, HB3.out.trans (hb.out.mono HB3.out.size)⟩
theorem cuts_s (a a2 : Option Addr) (c c2 N : Nat) (cuts : List Int) (w : World) (hn : N ≤ 1048576) (hn2 : cuts.length ≤ 1048576) (hr2 : Row w a2 cuts) :
    Calls Try.prog 31 #[.slice a N c, .slice a2 cuts.length c2] w (Bb (riseH ((N : Int) - 1) cuts cuts.length) w) := by
  have HB := Lib.hid (riseH_s ((N : Int) - 1) a2 c2 cuts w hn2 hr2)
  generalize riseH ((N : Int) - 1) cuts cuts.length = r at *
  generalize cuts.length = M at *
  go_enter Try.func31, Try.ntmps31
  go_wp2_with (go_at_call 27; (with_reducible refine HB.out.mono ?_); rintro e w2 ⟨rfl, b2⟩)
  go_ret
  exact ⟨rfl, b2⟩
set_option maxHeartbeats 4000000 in
set_option maxRecDepth 100000 in
theorem bound_s (a a2 : Option Addr) (c c2 : Nat) (xs cuts : List Int) (ways : Int) (w : World) (hok : okU xs = true) (hw1 : 1 ≤ ways) (hw6 : ways ≤ 6) (hn2 : cuts.length ≤ 1048576) (hr : Row w a xs) (hr2 : Row w a2 cuts) :
    Calls Try.prog 32 #[.slice a xs.length c, .int .i64 ways, .slice a2 cuts.length c2] w (fun e w' => e = .returned (.int .i64 (hitP xs ways cuts)) ∧ Below w.heap.size w w') := by
  have hN60 := okU_len hok
  obtain ⟨hm0, hm1⟩ := mul_b ways cuts.length hw1 hw6 hn2
  have HIV := Lib.hid (l05iv_s a c xs w hok hr)
  have hLN := ivP_len xs
  have HC2 := Lib.hid (fun (k : Nat) (hk : k < cuts.length) => hr2 k hk)
  have HP := Lib.hid (show hitP xs ways cuts = (ways - 1) * (cuts.length : Int) + (unC (ivP xs) cuts (ivP xs).length : Nat) from rfl)
  have HK := Lib.hid (fun j => show unC (ivP xs) cuts (j + 1) = unC (ivP xs) cuts j + if anyB ((ivP xs).getD j (0, 0)) cuts cuts.length then 0 else 1 from rfl)
  have HK0 := Lib.hid (show unC (ivP xs) cuts 0 = 0 from rfl)
  have HKL := Lib.hid (fun j => unC_le (ivP xs) cuts j)
  have HA := Lib.hid (fun p k => show anyB p cuts (k + 1) = (anyB p cuts k || crB p (cuts.getD k 0)) from rfl)
  have HA0 := Lib.hid (fun p => show anyB p cuts 0 = false from rfl)
  have HO2 := Lib.hid (fun (w1 : World) (v : Value) (vs : List Value) (h : Own2 w1 w.heap.size v vs (prI (ivP xs))) => own2_iv h)
  clear hr hr2 hok
  generalize hitP xs ways cuts = HV at *
  generalize hUC : unC (ivP xs) cuts = UC at *
  generalize hAB : (fun p => anyB p cuts) = AB at *
  have hAB' : ∀ p k, anyB p cuts k = AB p k := fun p k => by rw [← hAB]
  simp only [hAB'] at HK HA HA0
  clear hAB hAB' hUC
  generalize prI (ivP xs) = PI at *
  generalize ivP xs = IV at *
  generalize hN : xs.length = N at *
  generalize hM : cuts.length = M at *
  clear hN hM
  obtain ⟨P, hP⟩ : ∃ P, (ways - 1) * (M : Int) = P := ⟨_, rfl⟩
  rw [hP] at HP hm0 hm1
  have e9 : IntKind.i64.wrap ((ways - 1) * (M : Int)) = P := by rw [hP]; exact IntWalk.i64_in _ (by omega)
  clear hP
  go_enter Try.func32, Try.ntmps32
  go_wp2_with fail
  refine HIV.out.mono ?_
  rintro e w1 ⟨v1, vs, rfl, o1, b1⟩
  obtain ⟨ia, ic, rfl, hIC⟩ := HO2.out w1 v1 vs o1
  have HIC := Lib.hid hIC
  have HB1 := Lib.hid b1
  clear o1 b1 HIV hIC HO2
  generalize hL : IV.length = L at *
  clear hL
  go_wp2
  go_loopw [7, 9, 10, 11] (fun n i _ _ wr => ∃ j q : Nat, j ≤ L ∧ i = .int .i64 j ∧ n = .int .i64 (P + (UC j : Nat)) ∧ wr = w1.drewN q) (fun _ i _ _ _ => L - (intOf i).toNat)
  case atStart => exact ⟨0, 0, Nat.zero_le _, rfl, by rw [HK0.out]; simp, rfl⟩
  case round =>
    obtain ⟨j, q, hj, rfl, rfl, rfl⟩ := hrel
    by_cases hlt : j < L
    · obtain ⟨bo, g, Ci, rfl, hLc, d0, d1, d2⟩ := HIC.out w1 (Below.refl _ _) j hlt
      have hk := Lib.hid (HK.out j)
      have hl := HKL.out j
      generalize IV.getD j (0, 0) = p at *
      have ha := Lib.hid (HA.out p)
      have ha0 := HA0.out p
      generalize AB p = A at *
      obtain ⟨x, y⟩ := p
      go_wp2
      go_loopw [10, 11] (fun cb i wr2 => ∃ k q2 : Nat, k ≤ M ∧ i = .int .i64 k ∧ cb = .bool (A k) ∧ wr2 = w1.drewN q2) (fun _ i _ => M - (intOf i).toNat)
      case atStart => exact ⟨0, q, Nat.zero_le _, rfl, by rw [ha0], rfl⟩
      case round =>
        obtain ⟨k, q2, hkk, rfl, rfl, rfl⟩ := hrel
        by_cases hlt2 : k < M
        · obtain ⟨b, off, rfl, c1, hbw⟩ := HC2.out k hlt2
          have c2 : w1.cell? ⟨b, off + k, none⟩ = some (.int .i64 (cuts.getD k 0)) := (HB1.out.cell (p := ⟨b, off + k, none⟩) hbw).trans c1
          have hak := ha.out k
          clear c1
          generalize cuts.getD k 0 = u at *
          unfold crB at hak
          cases hc : A k
          · rw [hc, Bool.false_or] at hak
            by_cases h1 : x < u
            · by_cases h2 : u < y
              · have e : A (k + 1) = true := by rw [hak, decide_eq_true h1, decide_eq_true h2]; rfl
                clear hak
                go_wp2
                go_quiet (fail)
                go_wp2
                go_roundw
                case rel => exact ⟨k + 1, _, by omega, by go_num, by first | (rw [e]; done) | (rw [e]; simp; omega), rfl⟩
                case measure => simp [intOf] <;> omega
              · have e : A (k + 1) = false := by rw [hak, decide_eq_false h2, Bool.and_false]
                clear hak
                go_wp2
                go_quiet (fail)
                go_wp2
                go_roundw
                case rel => exact ⟨k + 1, _, by omega, by go_num, by first | (rw [e]; done) | (rw [e]; simp; omega), rfl⟩
                case measure => simp [intOf] <;> omega
            · have e : A (k + 1) = false := by rw [hak, decide_eq_false h1, Bool.false_and]
              have h1d : decide (x < u) = false := decide_eq_false h1
              clear hak
              go_wp2
              go_quiet (fail)
              go_wp2
              go_roundw
              case rel => exact ⟨k + 1, _, by omega, by go_num, by first | (rw [e]; done) | (rw [e]; simp; omega), rfl⟩
              case measure => simp [intOf] <;> omega
          · rw [hc, Bool.true_or] at hak
            have e := Lib.hid hak
            clear hak
            go_wp2
            go_quiet (fail)
            go_wp2
            go_roundw
            case rel => exact ⟨k + 1, _, by omega, by go_num, by rw [e.out], rfl⟩
            case measure => simp [intOf] <;> omega
        · have e : k = M := by omega
          subst e
          have hkk := hk.out
          cases hc : A k
          · rw [hc] at hkk
            have e : UC (j + 1) = UC j + 1 := by rw [hkk]; rfl
            clear hkk
            go_wp2
            go_roundw
            case rel => exact ⟨j + 1, _, by omega, by go_num, by rw [e]; go_num, rfl⟩
            case measure => simp [intOf] <;> omega
          · rw [hc] at hkk
            have e : UC (j + 1) = UC j := by rw [hkk]; rfl
            clear hkk
            go_wp2
            go_roundw
            case rel => exact ⟨j + 1, _, by omega, by go_num, by rw [e], rfl⟩
            case measure => simp [intOf] <;> omega
    · have e : j = L := by omega
      subst e
      have e : HV = P + (UC j : Nat) := HP.out
      clear HP
      subst e
      go_wp2
      go_ret
      exact ⟨rfl, below_drewN q HB1.out⟩
set_option maxHeartbeats 1000000 in
theorem hit_s (a a2 : Option Addr) (c c2 : Nat) (xs cuts : List Int) (ways : Int) (w : World) (hn : xs.length ≤ 1048576) (hn2 : cuts.length ≤ 1048576) (hr : Row w a xs) (hr2 : Row w a2 cuts) :
    Calls Try.prog 17 #[.slice a xs.length c, .int .i64 ways, .slice a2 cuts.length c2] w (IbB (hitV xs ways cuts) (hitOk xs ways cuts) w) := by
  have HU := Lib.hid (run_s a c xs ways w hn hr)
  have HSB := Lib.hid (cuts_s a a2 c c2 xs.length cuts w hn hn2 hr2)
  unfold hitV
  cases hrun : runB xs ways
  · have e : hitOk xs ways cuts = false := by unfold hitOk; rw [hrun]; rfl
    rw [e]
    rw [hrun] at HU
    clear hr hr2 hrun e HSB
    generalize xs.length = N at *
    generalize cuts.length = M at *
    go_enter Try.func17, Try.ntmps17
    go_wp2_with (go_at_call 26; (with_reducible refine HU.out.mono ?_); rintro e w' ⟨rfl, rfl⟩)
    go_ret2
    exact ⟨rfl, Below.refl _ _⟩
  · rw [hrun] at HU
    cases hset : riseH ((xs.length : Int) - 1) cuts cuts.length
    · have e : hitOk xs ways cuts = false := by unfold hitOk; rw [hset, Bool.and_false]
      rw [e]
      rw [hset] at HSB
      clear hr hr2 hrun e hset
      generalize xs.length = N at *
      generalize cuts.length = M at *
      go_enter Try.func17, Try.ntmps17
      go_wp2_with (first | (go_at_call 26; (with_reducible refine HU.out.mono ?_); rintro e w' ⟨rfl, rfl⟩) | (go_at_call 31; (with_reducible refine HSB.out.mono ?_); rintro e w2 ⟨rfl, b2⟩))
      go_ret2
      exact ⟨rfl, b2⟩
    · have e : hitOk xs ways cuts = true := by unfold hitOk; rw [hset, hrun]; rfl
      rw [e, if_pos rfl]
      rw [hset] at HSB
      have hok : okU xs = true ∧ wayB ways = true := by unfold runB at hrun; rw [Bool.and_eq_true] at hrun; exact hrun
      obtain ⟨hw1, hw6⟩ := wayB_of hok.2
      have HBD := Lib.hid (fun (w1 : World) (hb : Below w.heap.size w w1) => bound_s a a2 c c2 xs cuts ways w1 hok.1 hw1 hw6 hn2 (hr.below hb) (hr2.below hb))
      clear hr hr2 hrun hok e hset
      generalize hitP xs ways cuts = HV at *
      generalize xs.length = N at *
      generalize cuts.length = M at *
      go_enter Try.func17, Try.ntmps17
      go_wp2_with (first | (go_at_call 26; (with_reducible refine HU.out.mono ?_); rintro e w' ⟨rfl, rfl⟩) | (go_at_call 31; (with_reducible refine HSB.out.mono ?_); rintro e w2 ⟨rfl, b2⟩))
      refine (HBD.out w2 b2).mono ?_
      rintro e w3 ⟨rfl, b3⟩
      go_wp2
      go_ret2
      exact ⟨rfl, b2.trans (b3.mono b2.size)⟩
end Go.Proofs.Ytlakekeolpepbaa.Tr
