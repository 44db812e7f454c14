/- Programs and shares: both ShareMisses. -/
import Derived.Test.YtamlbonkppajbaaCtoM
import Derived.Test.YtamlbonkppajbaaClru
import Derived.Deep.RegionHeld3
import Derived.Deep.RegionLaw
namespace Go.Proofs.Ytamlbonkppajbaa.Tr
open Go.RowKit
/-- Lists of lists that are read, each as a slice. -/
def RdL (w : World) (a : Option Addr) (R : List (List Int)) : Prop :=
  ∀ i, i < R.length → ∃ b off A C, a = some ⟨b, off, none⟩ ∧ w.cell? ⟨b, off + i, none⟩ = some (.slice A (R.getD i []).length C) ∧ Rd w (.slice A (R.getD i []).length C) (R.getD i []) ∧ b < w.heap.size
theorem RdL.below {w w' : World} {a : Option Addr} {R : List (List Int)} (h : RdL w a R) (hb : Below w.heap.size w w') : RdL w' a R := fun i hi => by
  obtain ⟨b, off, A, C, h1, h2, h3, h4⟩ := h i hi
  exact ⟨b, off, A, C, h1, (hb.cell (p := ⟨b, off + i, none⟩) h4).trans h2, h3.below hb, Nat.lt_of_lt_of_le h4 hb.size⟩
theorem rdL_own {w : World} {B : Nat} {v : Value} {vs : List Value} {R : List (List Int)} (h : Own2 w B v vs R) : ∃ a c, v = .slice a R.length c ∧ RdL w a R := by
  rcases h.cases with ⟨rfl, rfl⟩ | ⟨g, cap, rfl, _, hg, _, hc, _⟩
  · exact ⟨none, 0, rfl, fun i hi => by simp at hi⟩
  · refine ⟨_, cap, rfl, fun i hi => ?_⟩
    have hrd := (h.2.2.1 i hi).rd
    obtain ⟨A, C, e, h1, h2, hr⟩ := hrd
    exact ⟨g, 0, A, C, rfl, by rw [Nat.zero_add, hc i hi, e], ⟨A, C, rfl, h1, h2, hr⟩, hg⟩
theorem drewB {w w1 : World} (b : Below w.drew.heap.size w.drew w1) : Below w.heap.size w w1 := ⟨b.os, b.tape, b.output, b.size, b.block⟩
def okP (R : List (List Int)) : Bool := decide (R.length ≤ 4) && R.all okU
theorem okP_at {R : List (List Int)} (h : okP R = true) : R.length ≤ 4 ∧ ∀ j, j < R.length → okU (R.getD j []) = true := by
  unfold okP at h
  rw [Bool.and_eq_true] at h
  refine ⟨of_decide_eq_true h.1, fun j hj => ?_⟩
  rw [List.getD_eq_getElem?_getD, List.getElem?_eq_getElem hj]
  exact List.all_eq_true.1 h.2 _ (List.getElem_mem hj)
theorem okP_no (R : List (List Int)) (j : Nat) (hj : j < R.length) (h : okU (R.getD j []) = false) : okP R = false := by
  have : R.all okU = false := by
    rw [List.all_eq_false]
    refine ⟨R[j], List.getElem_mem hj, ?_⟩
    rw [List.getD_eq_getElem?_getD, List.getElem?_eq_getElem hj] at h
    simpa using h
  unfold okP; rw [this, Bool.and_false]
theorem okP_end (R : List (List Int)) (h : ∀ j, j < R.length → okU (R.getD j []) = true) : okP R = decide (R.length ≤ 4) := by
  have : R.all okU = true := by
    rw [List.all_eq_true]
    intro x hx
    obtain ⟨i, hi, e⟩ := List.getElem_of_mem hx
    have := h i hi
    rw [List.getD_eq_getElem?_getD, List.getElem?_eq_getElem hi] at this
    rw [← e]; exact this
  unfold okP; rw [this, Bool.and_true]
set_option maxHeartbeats 1000000 in
theorem progs_i (a : Option Addr) (c : Nat) (R : List (List Int)) (w : World) (hn : R.length ≤ 1048576) (hl : ∀ j, j < R.length → (R.getD j []).length ≤ 1048576) (hr : RdL w a R) :
    Calls Try.prog 51 #[.slice a R.length c] w (Bl (okP R) w) := by
  have HC := Lib.hid hr
  have HU := Lib.hid (fun j (hj : j < R.length) (v : Value) (h : Rd w v (R.getD j [])) => uses_iR h (hl j hj))
  have HNO := Lib.hid (okP_no R)
  have HE := Lib.hid (okP_end R)
  clear hr hl
  unfold RdL at HC
  have HFO : Hid (¬ R.length ≤ 4 → okP R = false) := Lib.hid (fun h => by unfold okP; rw [decide_eq_false h, Bool.false_and])
  generalize hN : R.length = N at *
  clear hN
  by_cases h4 : N ≤ 4
  · rw [decide_eq_true h4] at HE
    have h4i : ¬ (4 : Int) < (N : Int) := by omega
    generalize okP R = ok at *
    go_enter Try.func51, Try.ntmps51
    go_wp2
    go_loop [10] (fun i => ∃ j : Nat, j ≤ N ∧ i = .int .i64 j ∧ Hid (∀ k, k < j → okU (R.getD k []) = true)) (fun i => N - (intOf i).toNat)
    case atStart => exact ⟨0, Nat.zero_le _, rfl, Lib.hid (fun k hk => absurd hk (Nat.not_lt_zero _))⟩
    case round =>
      obtain ⟨j, hj, rfl, hg⟩ := hrel
      by_cases hlt : j < N
      · obtain ⟨b, off, A, C, rfl, hc, hrd, _⟩ := HC.out j hlt
        have hU := Lib.hid (HU.out j hlt _ hrd)
        have hno := Lib.hid (HNO.out j hlt)
        cases hok : okU (R.getD j [])
        · have e : ok = false := hno.out hok
          subst e
          rw [hok] at hU
          clear HU HNO HE hrd hok HC hg
          generalize (R.getD j []).length = L at *
          go_wp2_with (go_at_call 38; (with_reducible refine hU.out.mono ?_); rintro e w' ⟨rfl, rfl⟩)
          go_ret
          exact ⟨rfl, rfl⟩
        · have hg2 : Hid (∀ k, k < j + 1 → okU (R.getD k []) = true) := Lib.hid (fun k hk => by
            rcases Nat.lt_or_eq_of_le (Nat.le_of_lt_succ hk) with h | h
            · exact hg.out k h
            · rw [h]; exact hok)
          rw [hok] at hU
          clear hrd hok hg
          generalize (R.getD j []).length = L at *
          go_wp2_with (go_at_call 38; (with_reducible refine hU.out.mono ?_); rintro e w' ⟨rfl, rfl⟩)
          go_round
          case rel => exact ⟨j + 1, by omega, by go_num, hg2⟩
          case measure => simp [intOf]; omega
      · have e : j = N := by omega
        subst e
        have e : ok = true := HE.out hg.out
        subst e
        go_wp2
        go_ret
        exact ⟨rfl, rfl⟩
  · have e : okP R = false := HFO.out h4
    rw [e]
    have h4i : (4 : Int) < (N : Int) := by omega
    clear HC HU HNO HE HFO e
    go_enter Try.func51, Try.ntmps51
    go_wp2
    go_ret
    exact ⟨rfl, rfl⟩
set_option maxHeartbeats 1000000 in
theorem progs_s (a : Option Addr) (c : Nat) (R : List (List Int)) (w : World) (hn : R.length ≤ 1048576) (hl : ∀ j, j < R.length → (R.getD j []).length ≤ 1048576) (hr : RdL w a R) :
    Calls Try.prog 50 #[.slice a R.length c] w (Bl (okP R) w) := by
  have HC := Lib.hid hr
  have HU := Lib.hid (fun j (hj : j < R.length) (v : Value) (h : Rd w v (R.getD j [])) => uses_sR h (hl j hj))
  have HNO := Lib.hid (okP_no R)
  have HE := Lib.hid (okP_end R)
  clear hr hl
  unfold RdL at HC
  generalize hN : R.length = N at *
  clear hN
  generalize okP R = ok at *
  go_enter Try.func50, Try.ntmps50
  go_wp2
  go_loop [3] (fun i => ∃ j : Nat, j ≤ N ∧ i = .int .i64 j ∧ Hid (∀ k, k < j → okU (R.getD k []) = true)) (fun i => N - (intOf i).toNat)
  case atStart => exact ⟨0, Nat.zero_le _, rfl, Lib.hid (fun k hk => absurd hk (Nat.not_lt_zero _))⟩
  case round =>
    obtain ⟨j, hj, rfl, hg⟩ := hrel
    by_cases hlt : j < N
    · obtain ⟨b, off, A, C, rfl, hc, hrd, _⟩ := HC.out j hlt
      have hU := Lib.hid (HU.out j hlt _ hrd)
      have hno := Lib.hid (HNO.out j hlt)
      cases hok : okU (R.getD j [])
      · have e : ok = false := hno.out hok
        subst e
        rw [hok] at hU
        clear HU HNO HE hrd hok HC hg
        generalize (R.getD j []).length = L at *
        go_wp2_with (go_at_call 36; (with_reducible refine hU.out.mono ?_); rintro e w' ⟨rfl, rfl⟩)
        go_ret
        exact ⟨rfl, rfl⟩
      · have hg2 : Hid (∀ k, k < j + 1 → okU (R.getD k []) = true) := Lib.hid (fun k hk => by
          rcases Nat.lt_or_eq_of_le (Nat.le_of_lt_succ hk) with h | h
          · exact hg.out k h
          · rw [h]; exact hok)
        rw [hok] at hU
        clear hrd hok hg
        generalize (R.getD j []).length = L at *
        go_wp2_with (go_at_call 36; (with_reducible refine hU.out.mono ?_); rintro e w' ⟨rfl, rfl⟩)
        go_round
        case rel => exact ⟨j + 1, by omega, by go_num, hg2⟩
        case measure => simp [intOf]; omega
    · have e : j = N := by omega
      subst e
      have e := HE.out hg.out
      by_cases h4 : j ≤ 4
      · rw [decide_eq_true h4] at e
        subst e
        have h4i : (j : Int) ≤ 4 := by omega
        clear HC HU HNO HE hg h4
        go_wp2
        go_ret
        exact ⟨ret_bool (by simp), rfl⟩
      · rw [decide_eq_false h4] at e
        subst e
        have h4i : ¬ (j : Int) ≤ 4 := by omega
        clear HC HU HNO HE hg h4
        go_wp2
        go_ret
        exact ⟨ret_bool (by simp <;> omega), rfl⟩
/-- The misses of a program with its share, and the sum of the first j. -/
def shF (R : List (List Int)) (ss : List Int) (i : Nat) : Nat := missP (distP (R.getD i [])) (ss.getD i 0).toNat
def sumK (R : List (List Int)) (ss : List Int) : Nat → Nat
  | 0 => 0
  | j + 1 => sumK R ss j + shF R ss j
/-- What a function leaves that returns a number and whether it succeeded. -/
def Ib (n : Int) (ok : Bool) (w : World) (e : Ending) (w' : World) : Prop := e = .returned (.tuple #[.int .i64 n, .bool ok]) ∧ Below w.heap.size w w'
def shOk (R : List (List Int)) (ss : List Int) : Bool := okP R && decide (ss.length = R.length) && ss.all okS
def shV (R : List (List Int)) (ss : List Int) : Int := if shOk R ss then ((sumK R ss R.length : Nat) : Int) else 0
theorem shF_le (R : List (List Int)) (ss : List Int) (i : Nat) (h : okU (R.getD i []) = true) : shF R ss i ≤ 60 := by
  have h1 := miss_le (distP (R.getD i [])) (ss.getD i 0).toNat
  have h2 := okU_len h
  rw [distP_len] at h1
  unfold shF; omega
theorem sumK_le (R : List (List Int)) (ss : List Int) (h : okP R = true) (j : Nat) (hj : j ≤ R.length) : sumK R ss j ≤ 60 * j := by
  induction j with
  | zero => simp [sumK]
  | succ j ih =>
    have h1 := shF_le R ss j ((okP_at h).2 j (by omega))
    have h2 := ih (by omega)
    rw [sumK]; omega
theorem shOk_no (R : List (List Int)) (ss : List Int) (j : Nat) (hj : j < ss.length) (h : okS (ss.getD j 0) = false) : shOk R ss = false := by
  have : ss.all okS = false := by
    rw [List.all_eq_false]
    refine ⟨ss[j], List.getElem_mem hj, ?_⟩
    rw [getD_get' ss j hj] at h
    simpa using h
  unfold shOk; rw [this, Bool.and_false]
theorem shOk_end (R : List (List Int)) (ss : List Int) (h1 : okP R = true) (h2 : ss.length = R.length) (h : ∀ j, j < ss.length → okS (ss.getD j 0) = true) : shOk R ss = true := by
  have : ss.all okS = true := by
    rw [List.all_eq_true]
    intro x hx
    obtain ⟨i, hi, e⟩ := List.getElem_of_mem hx
    have := h i hi
    rw [getD_get' ss i hi] at this
    rw [← e]; exact this
  unfold shOk; rw [this, h1, decide_eq_true h2]; rfl
theorem shV_no {R : List (List Int)} {ss : List Int} (h : shOk R ss = false) : shV R ss = 0 := by unfold shV; rw [h]; rfl
theorem shV_yes {R : List (List Int)} {ss : List Int} (h : shOk R ss = true) : shV R ss = ((sumK R ss R.length : Nat) : Int) := by unfold shV; rw [h]; rfl
theorem curve_get (ds : List Int) (most n : Nat) (h : n ≤ most) : (curveP ds most).getD n 0 = ((missP ds n : Nat) : Int) := told_get _ _ _ (by omega)
set_option maxHeartbeats 2000000 in
theorem share_i (a : Option Addr) (c : Nat) (R : List (List Int)) (v : Value) (ss : List Int) (w : World) (hn : R.length ≤ 1048576) (hl : ∀ j, j < R.length → (R.getD j []).length ≤ 1048576) (hr : RdL w a R) (hs : Rd w v ss) :
    Calls Try.prog 32 #[.slice a R.length c, v] w (Ib (shV R ss) (shOk R ss) w) := by
  have hP := Lib.hid (progs_i a c R w hn hl hr)
  obtain ⟨sa, sc, rfl, _, hsm, hrs⟩ := hs
  cases hok : okP R
  · have e : shOk R ss = false := by unfold shOk; rw [hok, Bool.false_and, Bool.false_and]
    rw [shV_no e, e]
    rw [hok] at hP
    clear hr hrs e hok hl
    generalize R.length = N at *
    generalize ss.length = M at *
    go_enter Try.func32, Try.ntmps32
    go_wp2_with (go_at_call 51; (with_reducible refine hP.out.mono ?_); rintro e w' ⟨rfl, rfl⟩)
    go_ret2
    exact ⟨rfl, Below.refl _ _⟩
  · rw [hok] at hP
    by_cases hlen : ss.length = R.length
    · obtain ⟨h4, hus⟩ := okP_at hok
      have HC := Lib.hid hr
      have HR := Lib.hid hrs
      have HUS := Lib.hid hus
      have HNO := Lib.hid (shOk_no R ss)
      have HEN := Lib.hid (shOk_end R ss hok hlen)
      have HVN := Lib.hid (fun h => @shV_no R ss h)
      have HVY := Lib.hid (fun h => @shV_yes R ss h)
      have HSL := Lib.hid (fun j hj => sumK_le R ss hok j hj)
      have HFL := Lib.hid (fun j (hj : j < R.length) => shF_le R ss j (hus j hj))
      have HK := Lib.hid (fun j => show sumK R ss (j + 1) = sumK R ss j + shF R ss j from rfl)
      have HK0 := Lib.hid (show sumK R ss 0 = 0 from rfl)
      have HF := Lib.hid (fun j m (h : ss.getD j 0 = ((m : Nat) : Int)) => show shF R ss j = missP (distP (R.getD j [])) m by unfold shF; rw [h, Int.toNat_natCast])
      have HLY := Lib.hid (fun j (hj : j < R.length) (m : Nat) (hm : m ≤ 60) (w' : World) (v : Value) (h : Rd w' v (R.getD j [])) => lru_yes_i m hm h (hus j hj))
      have HLO := Lib.hid (fun j (hj : j < R.length) (x : Int) (hx : okS x = false) (w' : World) (v : Value) (h : Rd w' v (R.getD j [])) => lru_no_i x h (hl j hj) (fun hh => by have := hh.2; unfold okS at hx; rw [decide_eq_true this] at hx; cases hx))
      rw [hlen]
      rw [hlen] at HNO HEN
      have HRR := Lib.hid (fun (w' : World) (hb : Below w.heap.size w w') => (HR.out.below hb))
      have HLN := Lib.hid hlen
      clear hr hrs hok hl hus hlen HR
      unfold Row at HRR
      rw [HLN.out] at HRR
      unfold RdL at HC
      generalize shOk R ss = ok at *
      generalize shV R ss = val at *
      generalize hS : sumK R ss = SK at *
      generalize hF : shF R ss = FK at *
      clear hS hF
      generalize hN : R.length = N at *
      clear hN
      go_enter Try.func32, Try.ntmps32
      go_wp2_with (go_at_call 51; (with_reducible refine hP.out.mono ?_); rintro e w' ⟨rfl, rfl⟩)
      go_loopw [6, 23] (fun sv i wr => ∃ j : Nat, j ≤ N ∧ i = .int .i64 j ∧ sv = .int .i64 ((SK j : Nat) : Int) ∧ Hid (∀ k, k < j → okS (ss.getD k 0) = true) ∧ Hid (Below w.heap.size w wr)) (fun _ i _ => N - (intOf i).toNat)
      case atStart => exact ⟨0, Nat.zero_le _, rfl, by rw [HK0.out]; rfl, Lib.hid (fun k hk => absurd hk (Nat.not_lt_zero _)), Lib.hid (Below.refl _ _)⟩
      case round =>
        obtain ⟨j, hj, rfl, rfl, hg, hB⟩ := hrel
        by_cases hlt : j < N
        · obtain ⟨b, off, A, C, rfl, hc, hrd, hbw⟩ := HC.out j hlt
          have hc2 : wr.cell? ⟨b, off + j, none⟩ = some (.slice A (R.getD j []).length C) := (hB.out.cell (p := ⟨b, off + j, none⟩) hbw).trans hc
          have hrd2 := hrd.below hB.out
          obtain ⟨bs, offs, rfl, d1, hbs⟩ := HRR.out w (Below.refl _ _) j hlt
          have HD := Lib.hid (fun (w' : World) (hb : Below w.heap.size w w') => show w'.cell? ⟨bs, offs + j, none⟩ = some (.int .i64 (ss.getD j 0)) from (hb.cell (p := ⟨bs, offs + j, none⟩) hbs).trans d1)
          have d2 := HD.out wr hB.out
          have hno := Lib.hid (HNO.out j hlt)
          have hsl := HSL.out j hj
          have hfl := HFL.out j hlt
          have hk := Lib.hid (HK.out j)
          have hf := Lib.hid (HF.out j)
          have hly := Lib.hid (fun m hm => HLY.out j hlt m hm wr _ hrd2)
          have hlo := Lib.hid (fun x hx => HLO.out j hlt x hx wr _ hrd2)
          have hgs := Lib.hid (fun (h : okS (ss.getD j 0) = true) => show ∀ k, k < j + 1 → okS (ss.getD k 0) = true from fun k hk => by
            rcases Nat.lt_or_eq_of_le (Nat.le_of_lt_succ hk) with h2 | h2
            · exact hg.out k h2
            · rw [h2]; exact h)
          clear hc d1 hrd hrd2 HLY HLO HNO HF HK HSL HFL
          generalize distP (R.getD j []) = DP at *
          generalize (R.getD j []).length = L at *
          generalize ss.getD j 0 = x at *
          cases hx : okS x
          · have e : ok = false := hno.out hx
            subst e
            have ev : val = 0 := HVN.out rfl
            subst ev
            have hL := Lib.hid (hlo.out x hx)
            clear hx hlo hly
            go_wp2_with (go_at_call 24; (with_reducible refine hL.out.mono ?_); rintro e w1 ⟨v1, rfl, o1, b1⟩)
            go_ret2
            exact ⟨rfl, bt hB.out b1⟩
          · have hx2 : 0 ≤ x ∧ x ≤ 60 := by unfold okS at hx; exact of_decide_eq_true hx
            have hgn := Lib.hid (hgs.out hx)
            obtain ⟨m, rfl⟩ := Int.eq_ofNat_of_zero_le hx2.1
            have hm : m ≤ 60 := by omega
            have hL := Lib.hid (hly.out m hm)
            have hfm := hf.out m rfl
            have hcl := curve_len DP m
            have hcg := curve_get DP m m (Nat.le_refl _)
            rw [← hfm] at hcg
            have HX := Lib.hid (fun (w1 : World) (v1 : Value) (o1 : Own w1 wr.heap.size v1 (curveP DP m)) (b1 : Below wr.heap.size wr w1) => show ∃ g cp, v1 = .slice (some ⟨g, 0, none⟩) (m + 1) cp ∧ w1.cell? ⟨g, m, none⟩ = some (.int .i64 ((FK j : Nat) : Int)) ∧ w1.cell? ⟨bs, offs + j, none⟩ = some (.int .i64 ((m : Nat) : Int)) from by
              rcases o1.cases with ⟨_, h⟩ | ⟨g, cp, e, _, _, _, h, _⟩
              · have := congrArg List.length h; rw [hcl] at this; simp at this
              · rw [hcl] at e h
                exact ⟨g, cp, e, by rw [h m (by omega), hcg], HD.out w1 (bt hB.out b1)⟩)
            clear hx hlo hly hcl hcg hfm hf hno hgs
            generalize curveP DP m = CP at *
            generalize FK j = F at *
            generalize SK j = S1 at *
            have hmi : (m : Int) < (m : Int) + 1 := by omega
            go_wp2_with (go_at_call 24; (with_reducible refine hL.out.mono ?_); rintro e w1 ⟨v1, rfl, o1, b1⟩; obtain ⟨g, cp, rfl, q1, q2⟩ := HX.out w1 v1 o1 b1)
            go_roundw
            case rel => exact ⟨j + 1, by omega, by go_num, by rw [hk.out]; first | go_num | (rw [Int.natCast_add]), hgn, Lib.hid (bt hB.out b1)⟩
            case measure => simp [intOf]; omega
        · have e : j = N := by omega
          subst e
          have e : ok = true := HEN.out hg.out
          subst e
          have ev := HVY.out rfl
          subst ev
          go_wp2
          go_ret2
          exact ⟨rfl, hB.out⟩
    · have e : shOk R ss = false := by unfold shOk; rw [decide_eq_false hlen, Bool.and_false, Bool.false_and]
      rw [shV_no e, e]
      have hli : ¬ (ss.length : Int) = (R.length : Int) := by omega
      clear hr hrs e hok hl hlen
      generalize R.length = N at *
      generalize ss.length = M at *
      go_enter Try.func32, Try.ntmps32
      go_wp2_with (go_at_call 51; (with_reducible refine hP.out.mono ?_); rintro e w' ⟨rfl, rfl⟩)
      go_ret2
      exact ⟨rfl, Below.refl _ _⟩
set_option maxHeartbeats 2000000 in
theorem share_s (a : Option Addr) (c : Nat) (R : List (List Int)) (v : Value) (ss : List Int) (w : World) (hn : R.length ≤ 1048576) (hl : ∀ j, j < R.length → (R.getD j []).length ≤ 1048576) (hr : RdL w a R) (hs : Rd w v ss) :
    Calls Try.prog 30 #[.slice a R.length c, v] w (Ib (shV R ss) (shOk R ss) w) := by
  have hP := Lib.hid (progs_s a c R w hn hl hr)
  obtain ⟨sa, sc, rfl, _, hsm, hrs⟩ := hs
  cases hok : okP R
  · have e : shOk R ss = false := by unfold shOk; rw [hok, Bool.false_and, Bool.false_and]
    rw [shV_no e, e]
    rw [hok] at hP
    clear hr hrs e hok hl
    generalize R.length = N at *
    generalize ss.length = M at *
    go_enter Try.func30, Try.ntmps30
    go_wp2_with (go_at_call 50; (with_reducible refine hP.out.mono ?_); rintro e w' ⟨rfl, rfl⟩)
    go_ret2
    exact ⟨rfl, Below.refl _ _⟩
  · rw [hok] at hP
    by_cases hlen : ss.length = R.length
    · obtain ⟨h4, hus⟩ := okP_at hok
      have HC := Lib.hid hr
      have HR := Lib.hid hrs
      have HUS := Lib.hid hus
      have HNO := Lib.hid (shOk_no R ss)
      have HEN := Lib.hid (shOk_end R ss hok hlen)
      have HVN := Lib.hid (fun h => @shV_no R ss h)
      have HVY := Lib.hid (fun h => @shV_yes R ss h)
      have HSL := Lib.hid (fun j hj => sumK_le R ss hok j hj)
      have HFL := Lib.hid (fun j (hj : j < R.length) => shF_le R ss j (hus j hj))
      have HK := Lib.hid (fun j => show sumK R ss (j + 1) = sumK R ss j + shF R ss j from rfl)
      have HK0 := Lib.hid (show sumK R ss 0 = 0 from rfl)
      have HF := Lib.hid (fun j m (h : ss.getD j 0 = ((m : Nat) : Int)) => show shF R ss j = missP (distP (R.getD j [])) m by unfold shF; rw [h, Int.toNat_natCast])
      have HDI := Lib.hid (fun j (hj : j < R.length) (w' : World) (A : Option Addr) (C : Nat) (h : Rd w' (.slice A (R.getD j []).length C) (R.getD j [])) => (show Calls Try.prog 37 #[.slice A (R.getD j []).length C] w' (Lb (distP (R.getD j [])) w') from by
        obtain ⟨a2, c2, e2, h1, h2, hr2⟩ := h
        injection e2 with e3 e4 e5
        subst e3 e5
        exact dist_s A C (R.getD j []) w' (okU_len (hus j hj)) h1 h2.1 hr2))
      have HCV := Lib.hid (fun j (hj : j < R.length) (m : Nat) (hm : m ≤ 60) (w' : World) (B : Nat) (v2 : Value) (o2 : Own w' B v2 (distP (R.getD j []))) => (show Calls Try.prog 44 #[v2, .int .i64 (m : Int)] w' (Lb (curveP (distP (R.getD j [])) m) w') from by
        obtain ⟨a2, c2, rfl, _, _, hr2⟩ := o2.rd
        exact curve_s a2 c2 _ m w' hm (by rw [distP_len]; exact okU_len (hus j hj)) hr2))
      rw [hlen]
      rw [hlen] at HNO HEN
      have HRR := Lib.hid (fun (w' : World) (hb : Below w.heap.size w w') => (HR.out.below hb))
      have HLN := Lib.hid hlen
      clear hr hrs hok hl hus hlen HR
      unfold Row at HRR
      rw [HLN.out] at HRR
      unfold RdL at HC
      generalize shOk R ss = ok at *
      generalize shV R ss = val at *
      generalize hS : sumK R ss = SK at *
      generalize hF : shF R ss = FK at *
      clear hS hF
      generalize hN : R.length = N at *
      clear hN
      go_enter Try.func30, Try.ntmps30
      go_wp2_with (go_at_call 50; (with_reducible refine hP.out.mono ?_); rintro e w' ⟨rfl, rfl⟩)
      go_loopw [6, 7] (fun sv i wr => ∃ j : Nat, j ≤ N ∧ i = .int .i64 j ∧ sv = .int .i64 ((SK j : Nat) : Int) ∧ Hid (∀ k, k < j → okS (ss.getD k 0) = true) ∧ Hid (Below w.heap.size w wr)) (fun _ i _ => N - (intOf i).toNat)
      case atStart => exact ⟨0, Nat.zero_le _, rfl, by rw [HK0.out]; rfl, Lib.hid (fun k hk => absurd hk (Nat.not_lt_zero _)), Lib.hid (Below.refl _ _)⟩
      case round =>
        obtain ⟨j, hj, rfl, rfl, hg, hB⟩ := hrel
        by_cases hlt : j < N
        · obtain ⟨b, off, A, C, rfl, hc, hrd, hbw⟩ := HC.out j hlt
          have hc2 : wr.cell? ⟨b, off + j, none⟩ = some (.slice A (R.getD j []).length C) := (hB.out.cell (p := ⟨b, off + j, none⟩) hbw).trans hc
          have hrd2 := hrd.below hB.out
          obtain ⟨bs, offs, rfl, d1, hbs⟩ := HRR.out w (Below.refl _ _) j hlt
          have HD := Lib.hid (fun (w' : World) (hb : Below w.heap.size w w') => show w'.cell? ⟨bs, offs + j, none⟩ = some (.int .i64 (ss.getD j 0)) from (hb.cell (p := ⟨bs, offs + j, none⟩) hbs).trans d1)
          have d2 := HD.out wr hB.out
          have hno := Lib.hid (HNO.out j hlt)
          have hsl := HSL.out j hj
          have hfl := HFL.out j hlt
          have hk := Lib.hid (HK.out j)
          have hf := Lib.hid (HF.out j)
          have hdi := Lib.hid (HDI.out j hlt wr.drew A C (show Rd wr.drew _ _ from hrd2))
          have hcv := Lib.hid (fun m hm => HCV.out j hlt m hm)
          have hzs := Lib.hid (size_s (ss.getD j 0) wr)
          have hHC := Lib.hid (fun (w' : World) (hb : Below w.heap.size w w') => show w'.cell? ⟨b, off + j, none⟩ = some (.slice A (R.getD j []).length C) from (hb.cell (p := ⟨b, off + j, none⟩) hbw).trans hc)
          have hgs := Lib.hid (fun (h : okS (ss.getD j 0) = true) => show ∀ k, k < j + 1 → okS (ss.getD k 0) = true from fun k hk => by
            rcases Nat.lt_or_eq_of_le (Nat.le_of_lt_succ hk) with h2 | h2
            · exact hg.out k h2
            · rw [h2]; exact h)
          clear hc d1 hrd hrd2 HDI HCV HNO HF HK HSL HFL
          generalize distP (R.getD j []) = DP at *
          generalize (R.getD j []).length = L at *
          generalize ss.getD j 0 = x at *
          cases hx : okS x
          · have e : ok = false := hno.out hx
            subst e
            have ev : val = 0 := HVN.out rfl
            subst ev
            rw [hx] at hzs
            clear hx hdi hcv
            go_wp2_with (go_at_call 43; (with_reducible refine hzs.out.mono ?_); rintro e w1 ⟨rfl, rfl⟩)
            go_ret2
            exact ⟨rfl, hB.out⟩
          · have hx2 : 0 ≤ x ∧ x ≤ 60 := by unfold okS at hx; exact of_decide_eq_true hx
            have hgn := Lib.hid (hgs.out hx)
            obtain ⟨m, rfl⟩ := Int.eq_ofNat_of_zero_le hx2.1
            have hm : m ≤ 60 := by omega
            have hcm := Lib.hid (hcv.out m hm)
            rw [hx] at hzs
            have hfm := hf.out m rfl
            have hcl := curve_len DP m
            have hcg := curve_get DP m m (Nat.le_refl _)
            rw [← hfm] at hcg
            have HX := Lib.hid (fun (w1 : World) (v1 : Value) (B : Nat) (o1 : Own w1 B v1 (curveP DP m)) (b1 : Below wr.heap.size wr w1) => show ∃ g cp, v1 = .slice (some ⟨g, 0, none⟩) (m + 1) cp ∧ w1.cell? ⟨g, m, none⟩ = some (.int .i64 ((FK j : Nat) : Int)) ∧ w1.cell? ⟨bs, offs + j, none⟩ = some (.int .i64 ((m : Nat) : Int)) ∧ w1.cell? ⟨b, off + j, none⟩ = some (.slice A L C) from by
              rcases o1.cases with ⟨_, h⟩ | ⟨g, cp, e, _, _, _, h, _⟩
              · have := congrArg List.length h; rw [hcl] at this; simp at this
              · rw [hcl] at e h
                exact ⟨g, cp, e, by rw [h m (by omega), hcg], HD.out w1 (bt hB.out b1), hHC.out w1 (bt hB.out b1)⟩)
            have HY := Lib.hid (fun (w1 : World) (b1 : Below wr.heap.size wr w1) => (show w1.cell? ⟨b, off + j, none⟩ = some (.slice A L C) ∧ w1.cell? ⟨bs, offs + j, none⟩ = some (.int .i64 ((m : Nat) : Int)) from ⟨hHC.out w1 (bt hB.out b1), HD.out w1 (bt hB.out b1)⟩))
            clear hx hcv hcl hcg hfm hf hno hgs
            generalize curveP DP m = CP at *
            generalize FK j = F at *
            generalize SK j = S1 at *
            have hmi : (m : Int) < (m : Int) + 1 := by omega
            go_wp2_with (go_at_call 43; (with_reducible refine hzs.out.mono ?_); rintro e w1 ⟨rfl, rfl⟩)
            have hw : IntKind.i64.wrap ((S1 : Int) + F) = (S1 : Int) + F := wrap_id _ (by omega) (by omega)
            go_region_law (first | (go_simp; go_at_call 37; (with_reducible refine hdi.out.mono ?_); rintro e w1 ⟨v1, rfl, o1, b1⟩; obtain ⟨p1, p2⟩ := HY.out _ (drewB b1)) | (go_simp; go_at_call 44; (with_reducible refine (hcm.out _ _ _ o1).mono ?_); rintro e w2 ⟨v2, rfl, o2, b2⟩; obtain ⟨g, cp, rfl, q1, q2, q3⟩ := HX.out w2 v2 _ o2 (bt (drewB b1) b2)))
            all_goals
              go_wp2
              refine ⟨⟨j + 1, by omega, by go_num, by rw [hk.out]; first | go_num | (rw [Int.natCast_add]), hgn, Lib.hid (bt hB.out (bt (drewB b1) b2))⟩, by simp [intOf]; omega⟩
        · have e : j = N := by omega
          subst e
          have e : ok = true := HEN.out hg.out
          subst e
          have ev := HVY.out rfl
          subst ev
          go_wp2
          go_ret2
          exact ⟨rfl, hB.out⟩
    · have e : shOk R ss = false := by unfold shOk; rw [decide_eq_false hlen, Bool.and_false, Bool.false_and]
      rw [shV_no e, e]
      have hli : ¬ (ss.length : Int) = (R.length : Int) := by omega
      clear hr hrs e hok hl hlen
      generalize R.length = N at *
      generalize ss.length = M at *
      go_enter Try.func30, Try.ntmps30
      go_wp2_with (go_at_call 50; (with_reducible refine hP.out.mono ?_); rintro e w' ⟨rfl, rfl⟩)
      go_ret2
      exact ⟨rfl, Below.refl _ _⟩
end Go.Proofs.Ytamlbonkppajbaa.Tr
