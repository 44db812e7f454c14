/- Intervals that can be kept: both IsKept. -/
import Derived.Test.YtlakekeolpepbaaCivb
import Derived.Test.YtlakekeolpepbaaCset2
namespace Go.Proofs.Ytlakekeolpepbaa.Tr
open Go.RowKit
def crB (p : Int × Int) (t : Int) : Bool := decide (p.1 < t) && decide (t < p.2)
theorem crosses_i (x y t : Int) (w : World) : Calls Try.prog 30 #[.agg #[.int .i64 x, .int .i64 y], .int .i64 t] w (Bb (crB (x, y) t) w) := by
  unfold crB
  by_cases h1 : x < t
  · by_cases h2 : t < y
    · go_enter Try.func30, Try.ntmps30
      go_wp2
      go_ret
      exact ⟨ret_bool (by simp [h1, h2]), (Below.refl _ _).alloc (Nat.le_refl _) _⟩
    · go_enter Try.func30, Try.ntmps30
      go_wp2
      go_ret
      exact ⟨ret_bool (by simp <;> omega), (Below.refl _ _).alloc (Nat.le_refl _) _⟩
  · go_enter Try.func30, Try.ntmps30
    go_wp2
    go_ret
    exact ⟨ret_bool (by simp <;> omega), (Below.refl _ _).alloc (Nat.le_refl _) _⟩
/-- How many of the first k numbers of a set are those of intervals that cross a use. -/
def crN (IV : List (Int × Int)) (set : List Int) (t : Int) : Nat → Nat
  | 0 => 0
  | k + 1 => crN IV set t k + if crB (IV.getD (set.getD k 0).toNat (0, 0)) t then 1 else 0
theorem crN_le (IV : List (Int × Int)) (set : List Int) (t : Int) (k : Nat) : crN IV set t k ≤ k := by
  induction k with
  | zero => simp [crN]
  | succ k ih => rw [crN]; split <;> omega
def keptB (IV : List (Int × Int)) (set : List Int) (m : Int) (j : Nat) : Bool := (List.range j).all fun t => decide ((crN IV set t set.length : Int) ≤ m)
theorem keptB_succ (IV : List (Int × Int)) (set : List Int) (m : Int) (j : Nat) : keptB IV set m (j + 1) = (keptB IV set m j && decide ((crN IV set j set.length : Int) ≤ m)) := by simp [keptB, List.range_succ]
theorem keptB_no (IV : List (Int × Int)) (set : List Int) (m : Int) (j n : Nat) (hj : j < n) (h : ¬ (crN IV set j set.length : Int) ≤ m) : keptB IV set m n = false := by
  unfold keptB
  rw [List.all_eq_false]
  exact ⟨j, by simpa using hj, by simpa using h⟩
def setV (xs : List Int) (ways : Int) (set : List Int) : Bool := runB xs ways && riseH (((ivP xs).length : Int) - 1) set set.length
def keptV (xs : List Int) (ways : Int) (set : List Int) : Bool := setV xs ways set && keptB (ivP xs) set (ways - 1) xs.length
theorem ivP_len (xs : List Int) : (ivP xs).length ≤ xs.length := ivS_len xs xs.length
set_option maxHeartbeats 4000000 in
set_option maxRecDepth 100000 in
theorem kept_i (a a2 : Option Addr) (c c2 : Nat) (xs set : List Int) (ways : Int) (w : World) (hn : xs.length ≤ 1048576) (hn2 : set.length ≤ 1048576) (hr : Row w a xs) (hr2 : Row w a2 set) :
    Calls Try.prog 16 #[.slice a xs.length c, .int .i64 ways, .slice a2 set.length c2] w (Bb (keptV xs ways set) w) := by
  have HU := Lib.hid (run_i a c xs ways w hn hr)
  unfold keptV setV
  cases hrun : runB xs ways
  · rw [hrun] at HU
    clear hr hr2 hrun
    generalize xs.length = N at *
    generalize set.length = M at *
    go_enter Try.func16, Try.ntmps16
    go_wp2_with (go_at_call 28; (with_reducible refine HU.out.mono ?_); rintro e w' ⟨rfl, rfl⟩)
    go_ret
    exact ⟨rfl, Below.refl _ _⟩
  · rw [hrun] at HU
    have hok : okU xs = true ∧ wayB ways = true := by unfold runB at hrun; rw [Bool.and_eq_true] at hrun; exact hrun
    have hN60 := okU_len hok.1
    obtain ⟨hw1, hw6⟩ := wayB_of hok.2
    have HIV := Lib.hid (iv_i a c xs w hok.1 hr)
    have hLN := ivP_len xs
    have HSB := Lib.hid (fun (w1 : World) (hb : Below w.heap.size w w1) => setb_i a2 c2 set (ivP xs).length w1 hn2 (by omega) (hr2.below hb))
    have HC2 := Lib.hid (fun (k : Nat) (hk : k < set.length) => hr2 k hk)
    have HRG := Lib.hid (fun (h : riseH (((ivP xs).length : Int) - 1) set set.length = true) (k : Nat) (hk : k < set.length) => (show ∃ m : Nat, set.getD k 0 = (m : Int) ∧ m < (ivP xs).length from by
      obtain ⟨h0, h1⟩ := riseH_at h k hk
      exact ⟨(set.getD k 0).toNat, by omega, by omega⟩))
    have HNO := Lib.hid (fun (j : Nat) (hj : j < xs.length) => keptB_no (ivP xs) set (ways - 1) j xs.length hj)
    have HS := Lib.hid (fun j => keptB_succ (ivP xs) set (ways - 1) j)
    have HK := Lib.hid (fun (t k : Nat) => show crN (ivP xs) set t (k + 1) = crN (ivP xs) set t k + if crB ((ivP xs).getD (set.getD k 0).toNat (0, 0)) t then 1 else 0 from rfl)
    have HK0 := Lib.hid (fun t : Nat => show crN (ivP xs) set t 0 = 0 from rfl)
    have HKL := Lib.hid (fun (t k : Nat) => crN_le (ivP xs) set t k)
    have H00 := Lib.hid (show keptB (ivP xs) set (ways - 1) 0 = true from rfl)
    clear hr hr2 hrun hok
    obtain ⟨r, hrr⟩ : ∃ r, keptB (ivP xs) set (ways - 1) xs.length = r := ⟨_, rfl⟩
    rw [hrr] at HNO ⊢
    have HRR := Lib.hid hrr
    clear hrr
    generalize hKB : keptB (ivP xs) set (ways - 1) = KB at *
    generalize hCR : (fun t : Nat => crN (ivP xs) set t) = CR at *
    have hCR' : ∀ (t k : Nat), crN (ivP xs) set t k = CR t k := fun t k => by rw [← hCR]
    simp only [hCR'] at HNO HS HK HK0 HKL
    clear hKB hCR hCR'
    generalize ivP xs = IV at *
    generalize hN : xs.length = N at *
    generalize hM : set.length = M at *
    clear hN hM
    cases hset : riseH ((IV.length : Int) - 1) set M
    · rw [hset] at HSB
      go_enter Try.func16, Try.ntmps16
      go_wp2_with (go_at_call 28; (with_reducible refine HU.out.mono ?_); rintro e w' ⟨rfl, rfl⟩)
      refine HIV.out.mono ?_
      rintro e w1 ⟨v1, rfl, o1, b1⟩
      obtain ⟨ia, ic, rfl⟩ := o1.form
      have HIC := Lib.hid (fun (wr : World) (hb : Below w1.heap.size w1 wr) (m : Nat) (hm : m < IV.length) => OwnI.cells (o1.below hb (Nat.le_refl _)) m hm)
      have HS1 := Lib.hid (HSB.out w1 b1)
      have HB1 := Lib.hid b1
      clear o1 b1 HIV HU HSB
      clear hset HRG HIC
      generalize IV.length = L at *
      go_wp2_with (go_at_call 29; (with_reducible refine HS1.out.mono ?_); rintro e w2 ⟨rfl, b2⟩)
      go_ret
      exact ⟨ret_bool rfl, HB1.out.trans (b2.mono HB1.out.size)⟩
    · rw [hset] at HSB
      go_enter Try.func16, Try.ntmps16
      go_wp2_with (go_at_call 28; (with_reducible refine HU.out.mono ?_); rintro e w' ⟨rfl, rfl⟩)
      refine HIV.out.mono ?_
      rintro e w1 ⟨v1, rfl, o1, b1⟩
      obtain ⟨ia, ic, rfl⟩ := o1.form
      have HIC := Lib.hid (fun (wr : World) (hb : Below w1.heap.size w1 wr) (m : Nat) (hm : m < IV.length) => OwnI.cells (o1.below hb (Nat.le_refl _)) m hm)
      have HS1 := Lib.hid (HSB.out w1 b1)
      have HB1 := Lib.hid b1
      clear o1 b1 HIV HU HSB
      have HRM := Lib.hid (HRG.out hset)
      clear hset HRG
      generalize hL : IV.length = L at *
      clear hL
      go_wp2_with (go_at_call 29; (with_reducible refine HS1.out.mono ?_); rintro e w2 ⟨rfl, b2⟩)
      have HB2 := Lib.hid b2
      clear b2 HS1
      go_loopw [8, 9, 11, 25, 32] (fun _ _ _ i _ wr => ∃ j : Nat, j ≤ N ∧ i = .int .i64 j ∧ Hid (Below w2.heap.size w2 wr) ∧ Hid (KB j = true)) (fun _ _ _ i _ _ => N - (intOf i).toNat)
      case atStart => exact ⟨0, Nat.zero_le _, rfl, Lib.hid (Below.refl _ _), H00⟩
      case round =>
        obtain ⟨j, hj, rfl, hb, hx⟩ := hrel
        by_cases hlt : j < N
        · have hno := Lib.hid (HNO.out j hlt)
          have hs := Lib.hid (HS.out j)
          have hk := Lib.hid (HK.out j)
          have hk0 := HK0.out j
          have hkl := Lib.hid (HKL.out j)
          generalize CR j = C at *
          go_wp2
          go_loopw [9, 11, 32] (fun f _ i wr2 => ∃ k : Nat, k ≤ M ∧ i = .int .i64 k ∧ f = .int .i64 (ways - 1 - (C k : Nat)) ∧ Hid (Below w2.heap.size w2 wr2)) (fun _ _ i _ => M - (intOf i).toNat)
          case atStart => exact ⟨0, Nat.zero_le _, rfl, by rw [hk0]; go_num, hb⟩
          case round =>
            obtain ⟨k, hkk, rfl, rfl, hb2⟩ := hrel
            by_cases hlt2 : k < M
            · obtain ⟨b, off, rfl, c1, hbw⟩ := HC2.out k hlt2
              obtain ⟨m, hm, hmL⟩ := HRM.out k hlt2
              have hB := HB1.out.trans ((HB2.out.trans (hb2.out.mono HB2.out.size)).mono HB1.out.size)
              have c2 := (hB.cell (p := ⟨b, off + k, none⟩) hbw).trans c1
              obtain ⟨g, rfl, hLc, _, d1, d2⟩ := HIC.out _ (HB2.out.trans (hb2.out.mono HB2.out.size)) m hmL
              have hkk2 := hk.out k
              have hl := hkl.out k
              rw [hm] at c2 hkk2
              rw [Int.toNat_natCast] at hkk2
              clear c1 hB
              generalize IV.getD m (0, 0) = p at *
              obtain ⟨x, y⟩ := p
              have hcr := Lib.hid (fun w9 => crosses_i x y j w9)
              cases hc : crB (x, y) j
              · rw [hc] at hkk2 hcr
                have e : C (k + 1) = C k := by rw [hkk2]; rfl
                clear hkk2 hc
                go_wp2_with (go_at_call 30; (with_reducible refine (hcr.out _).mono ?_); rintro e w3 ⟨rfl, b3⟩)
                go_roundw
                case rel => exact ⟨k + 1, by omega, by go_num, by rw [e], hb2.out.trans (b3.mono hb2.out.size)⟩
                case measure => simp [intOf] <;> omega
              · rw [hc] at hkk2 hcr
                have e : C (k + 1) = C k + 1 := by rw [hkk2]; rfl
                clear hkk2 hc
                go_wp2_with (go_at_call 30; (with_reducible refine (hcr.out _).mono ?_); rintro e w3 ⟨rfl, b3⟩)
                go_roundw
                case rel => exact ⟨k + 1, by omega, by go_num, by rw [e]; go_num, hb2.out.trans (b3.mono hb2.out.size)⟩
                case measure => simp [intOf] <;> omega
            · have e : k = M := by omega
              subst e
              have hl := hkl.out k
              by_cases hc : ((C k : Nat) : Int) ≤ ways - 1
              · have hnew : Hid (KB (j + 1) = true) := by show _ = _; rw [hs.out, hx.out, decide_eq_true hc]; rfl
                have hc0 : ¬ (ways - 1 - ((C k : Nat) : Int) < 0) := by omega
                clear hs hno
                go_wp2
                go_roundw
                case rel => exact ⟨j + 1, by omega, by go_num, hb2, hnew⟩
                case measure => simp [intOf] <;> omega
              · have e : r = false := hno.out (by omega)
                have hc0 : (ways - 1 - ((C k : Nat) : Int) < 0) := by omega
                clear hs hno HRR HNO hc
                subst e
                go_wp2
                go_ret
                exact ⟨ret_bool rfl, HB1.out.trans ((HB2.out.trans (hb2.out.mono HB2.out.size)).mono HB1.out.size)⟩
        · have e : j = N := by omega
          subst e
          have e : r = true := HRR.out.symm.trans hx.out
          clear HRR HNO hx
          subst e
          go_wp2
          go_ret
          exact ⟨ret_bool rfl, HB1.out.trans ((HB2.out.trans (hb.out.mono HB2.out.size)).mono HB1.out.size)⟩
/-- A list of pairs of the call's own, read in a later world. -/
theorem own2_iv {w : World} {B : Nat} {v : Value} {vs : List Value} {IV : List (Int × Int)} (h : Own2 w B v vs (prI IV)) :
    ∃ a c, v = .slice a IV.length c ∧ ∀ wr, Below w.heap.size w wr → ∀ m, m < IV.length → ∃ b g C, a = some ⟨b, 0, none⟩ ∧ IV.length ≤ c ∧ wr.cell? ⟨b, m, none⟩ = some (.slice (some ⟨g, 0, none⟩) 2 C) ∧ wr.cell? ⟨g, 0, none⟩ = some (.int .i64 (IV.getD m (0, 0)).1) ∧ wr.cell? ⟨g, 1, none⟩ = some (.int .i64 (IV.getD m (0, 0)).2) := by
  have hl := prI_length IV
  have h0 := h.2.1
  rcases h.cases with ⟨rfl, h1⟩ | ⟨g, cap, rfl, _, hg, _, hc, _⟩
  · have e : IV.length = 0 := by rw [← hl, h1]; rfl
    exact ⟨none, 0, by rw [e], fun wr hb m hm => by omega⟩
  · have hcap : IV.length ≤ cap := by
      rcases h0.2 with ⟨hn, _⟩ | ⟨g', cap', cur, he, _, _, hnc, _⟩
      · cases hn
      · injection he with _ e2 e3; omega
    refine ⟨_, cap, by rw [hl], fun wr hb m hm => ?_⟩
    have hm' : m < (prI IV).length := by omega
    have hin := h.2.2.1 m hm'
    have hcm := hc m hm'
    have e : (prI IV).getD m [] = [(IV.getD m (0, 0)).1, (IV.getD m (0, 0)).2] := by
      unfold prI
      rw [List.getD_eq_getElem?_getD, List.getElem?_map, List.getElem?_eq_getElem hm, List.getD_eq_getElem?_getD, List.getElem?_eq_getElem hm]; rfl
    rw [e] at hin
    rcases hin.cases with ⟨_, hz⟩ | ⟨gi, ci, hv, _, hgi, _, hci, _⟩
    · simp at hz
    · rw [hv] at hcm
      refine ⟨g, gi, ci, rfl, hcap, (hb.cell (p := ⟨g, m, none⟩) hg).trans hcm, (hb.cell (p := ⟨gi, 0, none⟩) hgi).trans (hci 0 (by simp)), (hb.cell (p := ⟨gi, 1, none⟩) hgi).trans (hci 1 (by simp))⟩
set_option maxHeartbeats 4000000 in
set_option maxRecDepth 100000 in
theorem kept_s (a a2 : Option Addr) (c c2 : Nat) (xs set : List Int) (ways : Int) (w : World) (hn : xs.length ≤ 1048576) (hn2 : set.length ≤ 1048576) (hr : Row w a xs) (hr2 : Row w a2 set) :
    Calls Try.prog 15 #[.slice a xs.length c, .int .i64 ways, .slice a2 set.length c2] w (Bb (keptV xs ways set) w) := by
  have HU := Lib.hid (run_s a c xs ways w hn hr)
  unfold keptV setV
  cases hrun : runB xs ways
  · rw [hrun] at HU
    clear hr hr2 hrun
    generalize xs.length = N at *
    generalize set.length = M at *
    go_enter Try.func15, Try.ntmps15
    go_wp2_with (go_at_call 26; (with_reducible refine HU.out.mono ?_); rintro e w' ⟨rfl, rfl⟩)
    go_ret
    exact ⟨rfl, Below.refl _ _⟩
  · rw [hrun] at HU
    have hok : okU xs = true ∧ wayB ways = true := by unfold runB at hrun; rw [Bool.and_eq_true] at hrun; exact hrun
    have hN60 := okU_len hok.1
    obtain ⟨hw1, hw6⟩ := wayB_of hok.2
    have HIV := Lib.hid (l05iv_s a c xs w hok.1 hr)
    have hLN := ivP_len xs
    have HSB := Lib.hid (fun (w1 : World) (hb : Below w.heap.size w w1) => riseH_s (((ivP xs).length : Int) - 1) a2 c2 set w1 hn2 (hr2.below hb))
    have HC2 := Lib.hid (fun (k : Nat) (hk : k < set.length) => hr2 k hk)
    have HRG := Lib.hid (fun (h : riseH (((ivP xs).length : Int) - 1) set set.length = true) (k : Nat) (hk : k < set.length) => (show ∃ m : Nat, set.getD k 0 = (m : Int) ∧ m < (ivP xs).length from by
      obtain ⟨h0, h1⟩ := riseH_at h k hk
      exact ⟨(set.getD k 0).toNat, by omega, by omega⟩))
    have HNO := Lib.hid (fun (j : Nat) (hj : j < xs.length) => keptB_no (ivP xs) set (ways - 1) j xs.length hj)
    have HS := Lib.hid (fun j => keptB_succ (ivP xs) set (ways - 1) j)
    have HK := Lib.hid (fun (t k : Nat) => show crN (ivP xs) set t (k + 1) = crN (ivP xs) set t k + if crB ((ivP xs).getD (set.getD k 0).toNat (0, 0)) t then 1 else 0 from rfl)
    have HK0 := Lib.hid (fun t : Nat => show crN (ivP xs) set t 0 = 0 from rfl)
    have HKL := Lib.hid (fun (t k : Nat) => crN_le (ivP xs) set t k)
    have H00 := Lib.hid (show keptB (ivP xs) set (ways - 1) 0 = true from rfl)
    clear hr hr2 hrun hok
    obtain ⟨r, hrr⟩ : ∃ r, keptB (ivP xs) set (ways - 1) xs.length = r := ⟨_, rfl⟩
    rw [hrr] at HNO ⊢
    have HRR := Lib.hid hrr
    clear hrr
    generalize hKB : keptB (ivP xs) set (ways - 1) = KB at *
    generalize hCR : (fun t : Nat => crN (ivP xs) set t) = CR at *
    have hCR' : ∀ (t k : Nat), crN (ivP xs) set t k = CR t k := fun t k => by rw [← hCR]
    simp only [hCR'] at HNO HS HK HK0 HKL
    clear hKB hCR hCR'
    have HO2 := Lib.hid (fun (w1 : World) (v : Value) (vs : List Value) (h : Own2 w1 w.heap.size v vs (prI (ivP xs))) => own2_iv h)
    generalize prI (ivP xs) = PI at *
    generalize ivP xs = IV at *
    generalize hN : xs.length = N at *
    generalize hM : set.length = M at *
    clear hN hM
    cases hset : riseH ((IV.length : Int) - 1) set M
    · rw [hset] at HSB
      go_enter Try.func15, Try.ntmps15
      go_wp2_with (go_at_call 26; (with_reducible refine HU.out.mono ?_); rintro e w' ⟨rfl, rfl⟩)
      refine HIV.out.mono ?_
      rintro e w1 ⟨v1, vs, rfl, o1, b1⟩
      obtain ⟨ia, ic, rfl, hIC⟩ := HO2.out w1 v1 vs o1
      have HS1 := Lib.hid (HSB.out w1 b1)
      have HB1 := Lib.hid b1
      clear o1 b1 HIV HU HSB hset HRG hIC HO2
      generalize IV.length = L at *
      go_wp2_with (go_at_call 27; (with_reducible refine HS1.out.mono ?_); rintro e w2 ⟨rfl, b2⟩)
      go_ret
      exact ⟨ret_bool rfl, HB1.out.trans (b2.mono HB1.out.size)⟩
    · rw [hset] at HSB
      go_enter Try.func15, Try.ntmps15
      go_wp2_with (go_at_call 26; (with_reducible refine HU.out.mono ?_); rintro e w' ⟨rfl, rfl⟩)
      refine HIV.out.mono ?_
      rintro e w1 ⟨v1, vs, rfl, o1, b1⟩
      obtain ⟨ia, ic, rfl, hIC⟩ := HO2.out w1 v1 vs o1
      have HIC := Lib.hid hIC
      have HS1 := Lib.hid (HSB.out w1 b1)
      have HB1 := Lib.hid b1
      have HRM := Lib.hid (HRG.out hset)
      clear o1 b1 HIV HU HSB hIC HO2 hset HRG
      generalize hL : IV.length = L at *
      clear hL
      go_wp2_with (go_at_call 27; (with_reducible refine HS1.out.mono ?_); rintro e w2 ⟨rfl, b2⟩)
      have HB2 := Lib.hid b2
      clear b2 HS1
      go_loopw [8, 9, 10] (fun i _ _ wr => ∃ j : Nat, j ≤ N ∧ i = .int .i64 j ∧ wr = w2 ∧ Hid (KB j = true)) (fun i _ _ _ => N - (intOf i).toNat)
      case atStart => exact ⟨0, Nat.zero_le _, rfl, rfl, H00⟩
      case round =>
        obtain ⟨j, hj, rfl, rfl, hx⟩ := hrel
        by_cases hlt : j < N
        · have hno := Lib.hid (HNO.out j hlt)
          have hs := Lib.hid (HS.out j)
          have hk := Lib.hid (HK.out j)
          have hk0 := HK0.out j
          have hkl := Lib.hid (HKL.out j)
          generalize CR j = C at *
          go_wp2
          go_loopw [9, 10] (fun f i wr2 => ∃ k : Nat, k ≤ M ∧ i = .int .i64 k ∧ f = .int .i64 ((C k : Nat) : Int) ∧ wr2 = wr) (fun _ i _ => M - (intOf i).toNat)
          case atStart => exact ⟨0, Nat.zero_le _, rfl, by rw [hk0]; rfl, rfl⟩
          case round =>
            obtain ⟨k, hkk, rfl, rfl, rfl⟩ := hrel
            by_cases hlt2 : k < M
            · obtain ⟨b, off, rfl, c1, hbw⟩ := HC2.out k hlt2
              obtain ⟨m, hm, hmL⟩ := HRM.out k hlt2
              have hB := HB1.out.trans (HB2.out.mono HB1.out.size)
              have c2 := (hB.cell (p := ⟨b, off + k, none⟩) hbw).trans c1
              obtain ⟨bo, g, Ci, rfl, hLc, d0, d1, d2⟩ := HIC.out _ HB2.out m hmL
              have hkk2 := hk.out k
              have hl := hkl.out k
              rw [hm] at c2 hkk2
              rw [Int.toNat_natCast] at hkk2
              clear c1 hB
              generalize IV.getD m (0, 0) = p at *
              obtain ⟨x, y⟩ := p
              unfold crB at hkk2
              by_cases h1 : x < j
              · by_cases h2 : (j : Int) < y
                · have e : C (k + 1) = C k + 1 := by rw [hkk2, decide_eq_true h1, decide_eq_true h2]; rfl
                  clear hkk2
                  go_wp2
                  go_roundw
                  case rel => exact ⟨k + 1, by omega, by go_num, by rw [e]; go_num, by trivial⟩
                  case measure => simp [intOf] <;> omega
                · have e : C (k + 1) = C k := by rw [hkk2, decide_eq_true h1, decide_eq_false h2]; rfl
                  clear hkk2
                  go_wp2
                  go_roundw
                  case rel => exact ⟨k + 1, by omega, by go_num, by rw [e], by trivial⟩
                  case measure => simp [intOf] <;> omega
              · have e : C (k + 1) = C k := by rw [hkk2, decide_eq_false h1]; rfl
                clear hkk2
                go_wp2
                go_roundw
                case rel => exact ⟨k + 1, by omega, by go_num, by rw [e], by trivial⟩
                case measure => simp [intOf] <;> omega
            · have e : k = M := by omega
              subst e
              have hl := hkl.out k
              by_cases hc : ((C k : Nat) : Int) ≤ ways - 1
              · have hnew : Hid (KB (j + 1) = true) := by show _ = _; rw [hs.out, hx.out, decide_eq_true hc]; rfl
                have hc0 : ¬ (ways - 1 < ((C k : Nat) : Int)) := by omega
                clear hs hno
                go_wp2
                go_roundw
                case rel => exact ⟨j + 1, by omega, by go_num, by trivial, hnew⟩
                case measure => simp [intOf] <;> omega
              · have e : r = false := hno.out (by omega)
                have hc0 : (ways - 1 < ((C k : Nat) : Int)) := by omega
                clear hs hno HRR HNO hc
                subst e
                go_wp2
                go_ret
                exact ⟨ret_bool rfl, HB1.out.trans (HB2.out.mono HB1.out.size)⟩
        · have e : j = N := by omega
          subst e
          have e : r = true := HRR.out.symm.trans hx.out
          clear HRR HNO hx
          subst e
          go_wp2
          go_ret
          exact ⟨ret_bool rfl, HB1.out.trans (HB2.out.mono HB1.out.size)⟩
end Go.Proofs.Ytlakekeolpepbaa.Tr
