/- One use under a policy: the contents after it, the model's step. -/
import Derived.Test.YtimfekedpgllhaaCmiss
import Derived.Test.YtimfekedpgllhaaCemp
import Derived.Test.YtimfekedpgllhaaCown
namespace Go.Proofs.Ytimfekedpgllhaa.Pv
open Go.RowKit
/-- Whether a use hits. -/
def hitB (M : Nat) (k : Nat → Int) (x : Int) : Bool := decide ((rowL M k).idxOf x < M)
/-- What is at each age afterwards. -/
def stN (hs : List (List Int)) (ms : List Int) (k : Nat → Int) (x : Int) (i : Nat) : Int :=
  if (rowL ms.length k).idxOf x < ms.length then k (ordN (hs.getD ((rowL ms.length k).idxOf x) []) i) else putA k (ms.length - 1) x (ordN ms i)
theorem rowL_get (M : Nat) (k : Nat → Int) (i : Nat) (h : i < M) : (rowL M k).getD i 0 = k i := by simp [rowL, List.getD_eq_getElem?_getD, h]
theorem rowL_succ (M : Nat) (k : Nat → Int) : rowL (M + 1) k = rowL M k ++ [k M] := by simp [rowL, List.range_succ]
theorem rowL_set (M : Nat) (k : Nat → Int) (m : Nat) (x : Int) (hm : m < M) : (rowL M k).set m x = rowL M (putA k m x) := by
  apply List.ext_getElem?
  intro i
  by_cases hi : i < M
  · by_cases e : m = i
    · subst e; rw [List.getElem?_set_self (by rw [rowL_len]; exact hi)]; simp [rowL, hi, putA]
    · have e2 : ¬ i = m := fun h => e h.symm
      rw [List.getElem?_set_ne e]; simp [rowL, hi, putA, e2]
  · rw [List.getElem?_eq_none (by rw [List.length_set, rowL_len]; omega), List.getElem?_eq_none (by rw [rowL_len]; omega)]
theorem idx_hit (M : Nat) (k : Nat → Int) (x : Int) (h : (rowL M k).idxOf x < M) : k ((rowL M k).idxOf x) = x ∧ ∀ i, i < (rowL M k).idxOf x → k i ≠ x := by
  have hl : (rowL M k).idxOf x < (rowL M k).length := by rw [rowL_len]; exact h
  refine ⟨?_, fun i hi e => ?_⟩
  · have := List.getElem_idxOf hl
    rw [← rowL_get M k _ h, List.getD_eq_getElem?_getD, List.getElem?_eq_getElem hl]; exact this
  · have h2 := List.not_of_lt_findIdx (p := fun y => y == x) (xs := rowL M k) (i := i) hi
    have hi2 : i < M := by omega
    simp [rowL, e] at h2
theorem idx_miss (M : Nat) (k : Nat → Int) (x : Int) (h : ¬ (rowL M k).idxOf x < M) : ∀ i, i < M → k i ≠ x := fun i hi e => by
  have hm : x ∈ rowL M k := by
    unfold rowL
    rw [List.mem_map]
    exact ⟨i, List.mem_range.2 hi, e⟩
  have := List.idxOf_lt_length_of_mem hm
  rw [rowL_len] at this
  exact h this
theorem ordN_ltM {M : Nat} {o : List Int} (h : ordB M o = true) (i : Nat) (hi : i < M) : ordN o i < M ∧ o.getD i 0 = ((ordN o i : Nat) : Int) := by
  have hl := ordB_len h
  have h1 : okTo M o o.length = true := by unfold ordB at h; simp at h; exact h.1
  have h3 := okTo_all _ h1 i (by omega)
  unfold okO at h3
  rw [Bool.and_eq_true] at h3
  have h4 := inN_mem.1 h3.1
  unfold ordN ordF
  rw [if_pos (by omega)]
  omega
/-- How far a number is away in a list, or -1. -/
def ageI (xs : List Int) (x : Int) : Int := if xs.idxOf x < xs.length then ((xs.idxOf x : Nat) : Int) else -1
set_option maxHeartbeats 1000000 in
theorem age_s (a : Option Addr) (c : Nat) (xs : List Int) (x : Int) (w : World) (hn : xs.length ≤ 1000) (hr : Row w a xs) :
    Calls Try.prog 56 #[.slice a xs.length c, .int .i64 x] w (fun e w' => e = .returned (.int .i64 (ageI xs x)) ∧ w = w') := by
  have HC := Lib.hid hr
  have hle : xs.idxOf x ≤ xs.length := List.idxOf_le_length
  have HN := Lib.hid (fun j (hj : j < xs.idxOf x) => show xs.getD j 0 ≠ x from fun e => by
    have h2 := List.not_of_lt_findIdx (p := fun y => y == x) (xs := xs) (i := j) hj
    have hjl : j < xs.length := by omega
    rw [List.getD_eq_getElem?_getD, List.getElem?_eq_getElem hjl] at e
    simp at e
    simp [e] at h2)
  have HY := Lib.hid (fun (h : xs.idxOf x < xs.length) => show xs.getD (xs.idxOf x) 0 = x by rw [List.getD_eq_getElem?_getD, List.getElem?_eq_getElem h]; exact List.getElem_idxOf h)
  have HA := Lib.hid (show ageI xs x = if xs.idxOf x < xs.length then ((xs.idxOf x : Nat) : Int) else -1 from rfl)
  clear hr
  unfold Row at HC
  generalize ageI xs x = r at *
  generalize xs.idxOf x = K at *
  generalize hN : xs.length = N at *
  clear hN
  go_enter Try.func56, Try.ntmps56
  go_wp2
  go_loop [5] (fun i => ∃ j : Nat, j ≤ K ∧ i = .int .i64 j) (fun i => K - (intOf i).toNat)
  case atStart => exact ⟨0, Nat.zero_le _, rfl⟩
  case round =>
    obtain ⟨j, hj, rfl⟩ := hrel
    by_cases hlt : j < K
    · obtain ⟨b, off, rfl, c1, _⟩ := HC.out j (by omega)
      have hne := HN.out j hlt
      have hjN : (j : Int) < N := by omega
      generalize xs.getD j 0 = u at *
      go_wp2
      go_round
      case rel => exact ⟨j + 1, by omega, by go_num⟩
      case measure => simp [intOf]; omega
    · have e : j = K := by omega
      subst e
      by_cases hjN : j < N
      · obtain ⟨b, off, rfl, c1, _⟩ := HC.out j hjN
        have e1 := HY.out hjN
        rw [e1] at c1
        have e2 : r = (j : Int) := by rw [HA.out, if_pos hjN]
        clear HA HY HN
        subst e2
        go_wp2
        go_ret
        exact ⟨rfl, rfl⟩
      · have e2 : r = -1 := by rw [HA.out, if_neg hjN]
        have hjNi : ¬ (j : Int) < N := by omega
        clear HA HY HN
        subst e2
        go_wp2
        go_ret
        exact ⟨rfl, rfl⟩
/-- What a step leaves: the contents and whether it hit. -/
def Sh (xs : List Int) (b : Bool) (w : World) (e : Ending) (w' : World) : Prop := ∃ v, e = .returned (.tuple #[v, .bool b]) ∧ Own w' w.heap.size v xs ∧ Below w.heap.size w w'
/-- The loop of the model's step: an order's elements looked up. -/
theorem rowL_eq (M : Nat) (f g : Nat → Int) (h : ∀ i, i < M → f i = g i) : rowL M f = rowL M g := by
  unfold rowL
  exact List.map_congr_left fun i hi => h i (List.mem_range.1 hi)
set_option maxHeartbeats 4000000 in
set_option maxRecDepth 100000 in
theorem step_s (g : Nat) (a a' : Option Addr) (c c' : Nat) (hs : List (List Int)) (ms : List Int) (k : Nat → Int) (x : Int) (v : Value) (w : World) (hok : isP hs ms = true) (hg : g < w.heap.size) (h0 : w.cell? ⟨g, 0, none⟩ = some (.slice a hs.length c)) (h1 : w.cell? ⟨g, 1, none⟩ = some (.slice a' ms.length c'))
    (hr : RdR w a hs) (hm : Row w a' ms) (hv : Rd w v (rowL ms.length k)) :
    Calls Try.prog 44 #[.pointer (some ⟨g, 0, none⟩), v, .int .i64 x] w (Sh (rowL ms.length (stN hs ms k x)) (hitB ms.length k x) w) := by
  obtain ⟨ho, h6, hlen⟩ := isP_miss_ord hok
  have h1M : 1 ≤ ms.length := by unfold isP at hok; simp only [Bool.and_eq_true, decide_eq_true_eq] at hok; omega
  obtain ⟨va, vc, rfl, hvc, hvm, hvr⟩ := hv
  rw [rowL_len] at hvc ⊢
  obtain ⟨vb, voff, rfl, _, _⟩ := hvr 0 (by rw [rowL_len]; omega)
  have HOW := Lib.hid (by have := own_any vb voff vc (rowL ms.length k) w (by rw [rowL_len]; omega) hvr; rwa [rowL_len] at this)
  have HAG := Lib.hid (fun (w1 : World) (B : Nat) (v1 : Value) (o1 : Own w1 B v1 (rowL ms.length k)) => show ∃ a1 c1, v1 = .slice a1 ms.length c1 ∧ Calls Try.prog 56 #[.slice a1 ms.length c1, .int .i64 x] w1 (fun e w' => e = .returned (.int .i64 (ageI (rowL ms.length k) x)) ∧ w1 = w') from by
    obtain ⟨a1, c1, e1, _, _, hr1⟩ := o1.rd
    rw [rowL_len] at e1
    have := age_s a1 c1 (rowL ms.length k) x w1 (by rw [rowL_len]; omega) hr1
    rw [rowL_len] at this
    exact ⟨a1, c1, e1, this⟩)
  have hAI : ageI (rowL ms.length k) x = if (rowL ms.length k).idxOf x < ms.length then (((rowL ms.length k).idxOf x : Nat) : Int) else -1 := by unfold ageI; rw [rowL_len]
  have hHB : hitB ms.length k x = decide ((rowL ms.length k).idxOf x < ms.length) := rfl
  have hST := fun i => (show stN hs ms k x i = if (rowL ms.length k).idxOf x < ms.length then k (ordN (hs.getD ((rowL ms.length k).idxOf x) []) i) else putA k (ms.length - 1) x (ordN ms i) from rfl)
  rw [hAI] at HAG
  generalize hJ : (rowL ms.length k).idxOf x = J at *
  clear hJ hAI
  -- the two ways part ahead
  by_cases hit : J < ms.length
  · rw [if_pos hit] at HAG
    have hb : hitB ms.length k x = true := by rw [hHB, decide_eq_true hit]
    rw [hb]
    have hJh : J < hs.length := by omega
    obtain ⟨b0, off0, A, C, rfl, q1, q2, q4, _⟩ := hr J hJh
    have hoj := isP_hit_ord hok J hJh
    have hol := ordB_len hoj
    have HOR := Lib.hid (fun i (hi : i < ms.length) => ordN_ltM hoj i hi)
    have HF := Lib.hid (show rowL ms.length (stN hs ms k x) = rowL ms.length (fun i => k (ordN (hs.getD J []) i)) from rowL_eq _ _ _ fun i _ => by rw [hST, if_pos hit])
    rw [hol] at q1
    have HQ := Lib.hid q2
    unfold Row at HQ
    rw [hol] at HQ
    clear hST hHB hb ho hm hr hoj hol hvr q2
    generalize hM : ms.length = M at *
    clear hM
    generalize hs.getD J [] = o at *
    have hJM : (J : Int) < hs.length := by omega
    obtain ⟨F, hF⟩ : ∃ F : Nat → Int, F = fun i => k (ordN o i) := ⟨_, rfl⟩
    rw [← hF] at HF
    have HFJ := Lib.hid (fun i => show F i = k (ordN o i) by rw [hF])
    clear hF
    go_enter Try.func44, Try.ntmps44
    go_wp2_with fail
    refine HOW.out.mono ?_; rintro e w1 ⟨v1, rfl, o1, b1⟩
    obtain ⟨a1, c1, rfl, hA1⟩ := HAG.out w1 _ v1 o1
    have HA1 := Lib.hid hA1
    have BW := Lib.hid b1
    have HOLD := Lib.hid (fun (w9 : World) (hb9 : Below w1.heap.size w1 w9) (q : Nat) (hq : q < M) => show ∃ og, a1 = some ⟨og, 0, none⟩ ∧ w9.cell? ⟨og, q, none⟩ = some (.int .i64 (k q)) from by
      rcases o1.cases with ⟨_, h⟩ | ⟨og, cp, e, _, hgl, _, h, _⟩
      · have := congrArg List.length h; rw [rowL_len] at this; simp at this; omega
      · rw [rowL_len] at e h
        injection e with e
        exact ⟨og, e, (hb9.cell (p := ⟨og, q, none⟩) hgl).trans (by rw [h q hq, rowL_get M k q hq])⟩)
    have d0 := (b1.cell (p := ⟨g, 0, none⟩) hg).trans h0
    have d1 := (b1.cell (p := ⟨g, 1, none⟩) hg).trans h1
    have d2 := (b1.cell (p := ⟨b0, off0 + J, none⟩) q4).trans q1
    clear hA1 b1 HAG HOW o1
    go_wp2_with (go_at_call 56; (with_reducible refine HA1.out.mono ?_); rintro e w2 ⟨rfl, rfl⟩)
    go_loopw [11, 12] (fun y i wr => ∃ j : Nat, j ≤ M ∧ i = .int .i64 j ∧ Own wr w1.heap.size y (rowL j F) ∧ Below w1.heap.size w1 wr) (fun _ i _ => M - (intOf i).toNat)
    case atStart => exact ⟨0, Nat.zero_le _, rfl, Own.lit0 w1, (Below.refl _ _).alloc (Nat.le_refl _) _⟩
    case round =>
      obtain ⟨j, hj, rfl, hoy, hb⟩ := hrel
      have hsz := hb.size
      have hq : (rowL j F).length + 1 ≤ 1000000000 := by rw [rowL_len]; omega
      by_cases hlt : j < M
      · obtain ⟨ob, ooff, rfl, p1, hob⟩ := HQ.out j hlt
        have p2 : wr.cell? ⟨ob, ooff + j, none⟩ = some (.int .i64 (o.getD j 0)) := (hb.cell (p := ⟨ob, ooff + j, none⟩) (Nat.lt_of_lt_of_le hob BW.out.size)).trans ((BW.out.cell (p := ⟨ob, ooff + j, none⟩) hob).trans p1)
        obtain ⟨hn1, hn2⟩ := HOR.out j hlt
        rw [hn2] at p2
        obtain ⟨og, rfl, ocell⟩ := HOLD.out wr hb (ordN o j) hn1
        have hfj := Lib.hid (HFJ.out j)
        have hsu := Lib.hid (rowL_succ j F)
        clear hn2 p1
        rw [hfj.out] at hsu
        generalize ordN o j = q at *
        have hqi : (q : Int) < M := by omega
        generalize rowL j F = L at *
        generalize k q = u at *
        go_wp2_with (at_builtin; refine wpList_app _ rfl _ _ rfl w1.heap.size _ L _ ?_ ?_ hoy hq hsz ?_; rfl; rfl)
        intro v' w3 ho3 hb3
        go_wp2
        go_roundw
        case rel => exact ⟨j + 1, by omega, by go_num, by rw [hsu.out]; exact ho3, hb.trans hb3⟩
        case measure => simp [intOf]; omega
      · have e : j = M := by omega
        subst e
        go_wp2
        go_ret2
        rw [HF.out]
        exact ⟨_, rfl, hoy.mono BW.out.size, BW.out.trans (hb.mono BW.out.size)⟩
  · rw [if_neg hit] at HAG
    have hb : hitB ms.length k x = false := by rw [hHB, decide_eq_false hit]
    rw [hb]
    have HOR := Lib.hid (fun i (hi : i < ms.length) => ordN_ltM ho i hi)
    have HF := Lib.hid (show rowL ms.length (stN hs ms k x) = rowL ms.length (fun i => putA k (ms.length - 1) x (ordN ms i)) from rowL_eq _ _ _ fun i _ => by rw [hST, if_neg hit])
    have HQ := Lib.hid hm
    unfold Row at HQ
    clear hST hHB hb ho hm hr hvr hok
    generalize hM : ms.length = M at *
    clear hM
    obtain ⟨F, hF⟩ : ∃ F : Nat → Int, F = fun i => putA k (M - 1) x (ordN ms i) := ⟨_, rfl⟩
    rw [← hF] at HF
    have HFJ := Lib.hid (fun i => show F i = putA k (M - 1) x (ordN ms i) by rw [hF])
    clear hF
    have hm1 : ((M : Int) - 1).toNat = M - 1 := by omega
    have hm2 : (0 : Int) ≤ (M : Int) - 1 := by omega
    go_enter Try.func44, Try.ntmps44
    go_wp2_with fail
    refine HOW.out.mono ?_; rintro e w1 ⟨v1, rfl, o1, b1⟩
    obtain ⟨a1, c1, rfl, hA1⟩ := HAG.out w1 _ v1 o1
    have HA1 := Lib.hid hA1
    obtain ⟨og, e1, hBg, hgw, hcell, hfz, hset⟩ := Own.cellAt o1 (rowL_len M k) (M - 1) (by omega)
    subst e1
    obtain ⟨hO2, hG2⟩ := hset x
    rw [rowL_set M k (M - 1) x (by omega)] at hO2
    have hbw : Below w.heap.size w (w1.setCell ⟨og, M - 1, none⟩ (.int .i64 x)) := b1.setCell (p := ⟨og, M - 1, none⟩) hBg _
    have d0 := (b1.cell (p := ⟨g, 0, none⟩) hg).trans h0
    have d1 := (b1.cell (p := ⟨g, 1, none⟩) hg).trans h1
    have BW := Lib.hid hbw
    have HO2 := Lib.hid hO2
    clear hA1 b1 HAG HOW o1 hset hbw hO2 hG2
    have hm3 : (M : Int) - 1 = ((M - 1 : Nat) : Int) := by omega
    have hm4 : ((M - 1 : Nat) : Int) < M := by omega
    go_wp2_with (go_at_call 56; (with_reducible refine HA1.out.mono ?_); rintro e w2 ⟨rfl, rfl⟩)
    have hs12 : w1.heap.size = (w1.setCell ⟨og, M - 1, none⟩ (.int .i64 x)).heap.size := by simp
    generalize w1.setCell ⟨og, M - 1, none⟩ (.int .i64 x) = w2 at *
    clear hm1 hm2 hm3 hm4 hfz hcell
    have HOLD := Lib.hid (fun (w9 : World) (hb9 : Below w2.heap.size w2 w9) (q : Nat) (hq : q < M) => show ∃ og', some (⟨og, 0, none⟩ : Addr) = some ⟨og', 0, none⟩ ∧ w9.cell? ⟨og', q, none⟩ = some (.int .i64 (putA k (M - 1) x q)) from by
      rcases HO2.out.cases with ⟨h, _⟩ | ⟨og', cp, e, _, hgl, _, h, _⟩
      · cases h
      · rw [rowL_len] at e h
        injection e with e
        exact ⟨og', e, (hb9.cell (p := ⟨og', q, none⟩) hgl).trans (by rw [h q hq, rowL_get M _ q hq])⟩)
    go_loopw [11, 12] (fun y i wr => ∃ j : Nat, j ≤ M ∧ i = .int .i64 j ∧ Own wr w2.heap.size y (rowL j F) ∧ Below w2.heap.size w2 wr) (fun _ i _ => M - (intOf i).toNat)
    case atStart => exact ⟨0, Nat.zero_le _, rfl, (by rw [hs12]; exact Own.lit0 w2), (Below.refl _ _).alloc (Nat.le_refl _) _⟩
    case round =>
      clear hs12
      obtain ⟨j, hj, rfl, hoy, hb⟩ := hrel
      have hsz := hb.size
      have hq : (rowL j F).length + 1 ≤ 1000000000 := by rw [rowL_len]; omega
      by_cases hlt : j < M
      · obtain ⟨ob, ooff, rfl, p1, hob⟩ := HQ.out j hlt
        have p2 : wr.cell? ⟨ob, ooff + j, none⟩ = some (.int .i64 (ms.getD j 0)) := (hb.cell (p := ⟨ob, ooff + j, none⟩) (Nat.lt_of_lt_of_le hob BW.out.size)).trans ((BW.out.cell (p := ⟨ob, ooff + j, none⟩) hob).trans p1)
        obtain ⟨hn1, hn2⟩ := HOR.out j hlt
        rw [hn2] at p2
        obtain ⟨og', eog, ocell⟩ := HOLD.out wr hb (ordN ms j) hn1
        injection eog with eog
        injection eog with eog
        subst eog
        have hfj := Lib.hid (HFJ.out j)
        have hsu := Lib.hid (rowL_succ j F)
        clear hn2 p1
        rw [hfj.out] at hsu
        generalize ordN ms j = q at *
        have hqi : (q : Int) < M := by omega
        generalize rowL j F = L at *
        generalize putA k (M - 1) x q = u at *
        go_wp2_with (at_builtin; refine wpList_app _ rfl _ _ rfl w2.heap.size _ L _ ?_ ?_ hoy hq hsz ?_; rfl; rfl)
        intro v' w3 ho3 hb3
        go_wp2
        go_roundw
        case rel => exact ⟨j + 1, by omega, by go_num, by rw [hsu.out]; exact ho3, hb.trans hb3⟩
        case measure => simp [intOf]; omega
      · have e : j = M := by omega
        subst e
        go_wp2
        go_ret2
        rw [HF.out]
        exact ⟨_, rfl, hoy.mono BW.out.size, BW.out.trans (hb.mono BW.out.size)⟩
end Go.Proofs.Ytimfekedpgllhaa.Pv
