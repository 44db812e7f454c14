/- The model's test, empty contents and step of a policy that lies at any place of a block. The program's contents after a use that misses. The program's contents after a use that hits. Contents: the contracts of both ValidContents. The program's test of contents, and both ValidContents. One use under a policy: the program's. The program's StepPolicy. Runs of a policy: what is at each age after the uses so far. -/
import Derived.Test.YtngbddmbmkphcaaG6
import Derived.Test.YtngbddmbmkphcaaG7
import Derived.Test.YtngbddmbmkphcaaG2
import Derived.Deep.RegionLaw
namespace Go.Proofs.Ytngbddmbmkphcaa.Pv
open Go.RowKit
set_option maxRecDepth 100000 in
set_option maxHeartbeats 4000000 in
theorem isAt_s (g oo : Nat) (a a' : Option Addr) (c c' : Nat) (hs : List (List Int)) (ms : List Int) (w : World) (hg : g < w.heap.size) (h0 : w.cell? ⟨g, oo, none⟩ = some (.slice a hs.length c)) (h1 : w.cell? ⟨g, oo + 1, none⟩ = some (.slice a' ms.length c'))
    (hr : Row w a' ms) (hcap : ms.length ≤ c' ∧ c' ≤ 9223372036854775807) (hm : ms.length ≤ 1048576) (hh : RdR w a hs) (hl : hs.length ≤ 1048576) :
    Calls Try.prog 40 #[.pointer (some ⟨g, oo, none⟩)] w (Dq (isP hs ms) w) := by
  have HLO := Lib.hid (fun h => isP_low (hs := hs) (ms := ms) h)
  have HHI := Lib.hid (fun h => isP_high (hs := hs) (ms := ms) h)
  have HLE := Lib.hid (fun h => isP_len (hs := hs) (ms := ms) h)
  have HMI := Lib.hid (fun h => isP_miss (hs := hs) (ms := ms) h)
  have HHT := Lib.hid (fun j hj h => isP_hit (hs := hs) (ms := ms) j hj h)
  have HYE := Lib.hid (fun h1 h2 h3 h4 h5 => isP_yes (hs := hs) (ms := ms) h1 h2 h3 h4 h5)
  have HO := Lib.hid (fun (h6 : ms.length ≤ 6) => ord_s a' c' ms ms.length w hm hcap (by omega) hr)
  have HJ := Lib.hid (fun (h6 : ms.length ≤ 6) j (hj : j < hs.length) => (show ∃ b off A C, a = some ⟨b, off, none⟩ ∧ w.cell? ⟨b, off + j, none⟩ = some (.slice A (hs.getD j []).length C) ∧ b < w.heap.size ∧
      ∀ (w' : World), (∃ q, w' = w.drewN q) → Calls Try.prog 58 #[.slice A (hs.getD j []).length C, .int .i64 (ms.length : Nat)] w' (fun e w2 => e = .returned (.bool (ordB ms.length (hs.getD j []))) ∧ ∃ q, w2 = w.drewN q) from by
    obtain ⟨b, off, A, C, e1, e2, e3, e4, e5, e6, e7, _⟩ := hh j hj
    exact ⟨b, off, A, C, e1, e2, e4, fun w' hq => (ord_s A C _ ms.length w' e5 ⟨e6, e7⟩ (by omega) (by obtain ⟨q, rfl⟩ := hq; exact e3)).mono fun e w2 ⟨he, q, hw⟩ => ⟨he, by obtain ⟨q0, rfl⟩ := hq; exact ⟨q0 + q, by rw [hw, World.drewN_drewN]⟩⟩⟩))
  have HAT := Lib.hid (fun j hj => all_take hs ms.length j hj)
  clear hh hr
  generalize isP hs ms = r at *
  generalize hom : ordB ms.length ms = om at *
  clear hom
  generalize hMM : ms.length = M at *
  clear hMM
  generalize hNN : hs.length = N at *
  clear hNN
  go_enter Try.func40, Try.ntmps40
  by_cases m1 : 1 ≤ M
  · have d1 : decide ((M : Int) < 1) = false := by simp; omega
    by_cases m6 : M ≤ 6
    · have d6 : decide ((6 : Int) < (M : Int)) = false := by simp; omega
      by_cases hne : N = M
      · subst hne
        cases om
        · have e := HMI.out rfl
          have ho := Lib.hid (HO.out m6)
          clear HLO HHI HLE HMI HHT HYE HO HJ HAT
          subst e
          go_wp2_with (go_at_call 58; refine ho.out.mono ?_; rintro e w1 ⟨rfl, hq⟩)
          go_ret
          exact ⟨rfl, hq⟩
        · have ho := Lib.hid (HO.out m6)
          have hJ := Lib.hid (HJ.out m6)
          have hY := Lib.hid (fun h5 => HYE.out m1 m6 rfl rfl h5)
          clear HLO HHI HLE HMI HYE HO HJ
          go_wp2_with (go_at_call 58; refine ho.out.mono ?_; rintro e w1 ⟨rfl, hq⟩)
          have HQ := Lib.hid hq
          clear hq
          go_loopw [4] (fun i wr => ∃ j : Nat, j ≤ N ∧ i = .int .i64 (j : Nat) ∧ Hid (∃ q, wr = w.drewN q) ∧ Hid ((hs.take j).all (ordB N) = true)) (fun i _ => N - (intOf i).toNat)
          case atStart => exact ⟨0, Nat.zero_le _, rfl, HQ, Lib.hid rfl⟩
          case round =>
            obtain ⟨j, hj, rfl, hq, hx⟩ := hrel
            have e0 : wr.cell? ⟨g, oo, none⟩ = some (.slice a N c) := by obtain ⟨q, rfl⟩ := hq.out; exact h0
            by_cases hlt : j < N
            · obtain ⟨b, off, A, C, rfl, c1, hb, HC⟩ := hJ.out j hlt
              have c2 : wr.cell? ⟨b, off + j, none⟩ = some (.slice A (hs.getD j []).length C) := by obtain ⟨q, rfl⟩ := hq.out; exact c1
              have HCH := Lib.hid (HC wr hq.out)
              have HT := HHT.out j hlt
              have HA := HAT.out j hlt
              rw [hx.out] at HA
              clear c1 HC hJ hY HHT HAT
              generalize (hs.getD j []).length = L at *
              cases ho2 : ordB N (hs.getD j [])
              · have e := HT ho2
                rw [ho2] at HCH
                clear HT HA ho2 hx
                subst e
                go_wp2_with (go_at_call 58; refine HCH.out.mono ?_; rintro e w1 ⟨rfl, hq1⟩)
                go_ret
                exact ⟨rfl, hq1⟩
              · rw [ho2] at HCH HA
                have HA2 := Lib.hid HA
                clear HT HA ho2 hx
                go_wp2_with (go_at_call 58; refine HCH.out.mono ?_; rintro e w1 ⟨rfl, hq1⟩)
                go_roundw
                case rel => exact ⟨j + 1, by omega, by go_num, Lib.hid hq1, HA2⟩
                case measure => simp [intOf]; omega
            · have e : j = N := by omega
              subst e
              have e := hY.out hx.out
              clear hJ hY HHT HAT hx
              subst e
              go_wp2
              go_ret
              exact ⟨rfl, hq.out⟩
      · have d3 : ((N : Int) == (M : Int)) = false := by simp; omega
        have e := HLE.out hne
        clear HLO HHI HLE HMI HHT HYE HO HJ HAT
        subst e
        go_wp2
        go_ret
        exact ⟨rfl, 0, rfl⟩
    · have d6 : (6 : Int) < (M : Int) := by omega
      have e := HHI.out m6
      clear HLO HHI HLE HMI HHT HYE HO HJ HAT
      subst e
      go_wp2
      go_ret
      exact ⟨rfl, 0, rfl⟩
  · have d1 : (M : Int) < 1 := by omega
    have e := HLO.out m1
    clear HLO HHI HLE HMI HHT HYE HO HJ HAT
    subst e
    go_wp2
    go_ret
    exact ⟨rfl, 0, rfl⟩
set_option maxRecDepth 100000 in
set_option maxHeartbeats 4000000 in
theorem emptyAt_s (g oo M c' : Nat) (a' : Option Addr) (w : World) (hg : g < w.heap.size) (h1 : w.cell? ⟨g, oo + 1, none⟩ = some (.slice a' M c')) (hM : M ≤ 1000) :
    Calls Try.prog 42 #[.pointer (some ⟨g, oo, none⟩)] w (Lb (emptyL M) w) := by
  have H0 := Lib.hid (Own.lit0 w)
  go_enter Try.func42, Try.ntmps42
  go_wp2
  go_loopw [3, 4] (fun v i wr => ∃ j : Nat, j ≤ M ∧ i = .int .i64 (j : Nat) ∧ Hid (Own wr w.heap.size v (emptyL j)) ∧ Hid (Below w.heap.size w wr)) (fun _ i _ => M - (intOf i).toNat)
  case atStart => exact ⟨0, Nat.zero_le _, rfl, H0, (Below.refl _ _).alloc (Nat.le_refl _) _⟩
  case round =>
    obtain ⟨j, hj, rfl, hO, hb⟩ := hrel
    have c1 : wr.cell? ⟨g, oo + 1, none⟩ = some (.slice a' M c') := (hb.out.cell (p := ⟨g, oo + 1, none⟩) hg).trans h1
    by_cases hlt : j < M
    · have ho := hO.out
      have hsz := hb.out.size
      have hq1 : (emptyL j).length + 1 ≤ 1000000000 := by rw [emptyL_len]; omega
      have HE := Lib.hid (emptyL_succ j)
      generalize emptyL j = L at *
      go_wp2_with (at_builtin; refine wpList_app _ rfl _ _ rfl w.heap.size _ L _ ?_ ?_ ho hq1 hsz ?_; rfl; rfl)
      intro v1 w1 ho1 hb1
      go_wp2
      go_roundw
      case rel => exact ⟨j + 1, by omega, by go_num, (by rw [HE.out]; exact ho1), hb.out.trans hb1⟩
      case measure => simp [intOf]; omega
    · have e : j = M := by omega
      subst e
      go_wp2
      go_ret
      exact ⟨_, rfl, hO.out, hb.out⟩
set_option maxRecDepth 100000 in
set_option maxHeartbeats 4000000 in
theorem stepAt_s (g oo : Nat) (a a' : Option Addr) (c c' : Nat) (hs : List (List Int)) (ms : List Int) (k : Nat → Int) (x : Int) (v : Value) (w : World) (hok : isP hs ms = true) (hg : g < w.heap.size) (h0 : w.cell? ⟨g, oo, none⟩ = some (.slice a hs.length c)) (h1 : w.cell? ⟨g, oo + 1, none⟩ = some (.slice a' ms.length c'))
    (hr : RdR w a hs) (hm : Row w a' ms) (hv : Rd w v (rowL ms.length k)) :
    Calls Try.prog 44 #[.pointer (some ⟨g, oo, none⟩), v, .int .i64 x] w (Sh (rowL ms.length (stN hs ms k x)) (hitB ms.length k x) w) := by
  obtain ⟨ho, h6, hlen⟩ := isP_miss_ord hok
  have h1M : 1 ≤ ms.length := by unfold isP at hok; simp only [Bool.and_eq_true, decide_eq_true_eq] at hok; omega
  obtain ⟨va, vc, rfl, hvc, hvm, hvr⟩ := hv
  rw [rowL_len] at hvc ⊢
  obtain ⟨vb, voff, rfl, _, _⟩ := hvr 0 (by rw [rowL_len]; omega)
  have HOW := Lib.hid (by have := own_any vb voff vc (rowL ms.length k) w (by rw [rowL_len]; omega) hvr; rwa [rowL_len] at this)
  have HAG := Lib.hid (fun (w1 : World) (B : Nat) (v1 : Value) (o1 : Own w1 B v1 (rowL ms.length k)) => show ∃ a1 c1, v1 = .slice a1 ms.length c1 ∧ Calls Try.prog 62 #[.slice a1 ms.length c1, .int .i64 x] w1 (fun e w' => e = .returned (.int .i64 (ageI (rowL ms.length k) x)) ∧ w1 = w') from by
    obtain ⟨a1, c1, e1, _, _, hr1⟩ := o1.rd
    rw [rowL_len] at e1
    have := age_s a1 c1 (rowL ms.length k) x w1 (by rw [rowL_len]; omega) hr1
    rw [rowL_len] at this
    exact ⟨a1, c1, e1, this⟩)
  have hAI : ageI (rowL ms.length k) x = if (rowL ms.length k).idxOf x < ms.length then (((rowL ms.length k).idxOf x : Nat) : Int) else -1 := by unfold ageI; rw [rowL_len]
  have hHB : hitB ms.length k x = decide ((rowL ms.length k).idxOf x < ms.length) := rfl
  have hST := fun i => (show stN hs ms k x i = if (rowL ms.length k).idxOf x < ms.length then k (ordN (hs.getD ((rowL ms.length k).idxOf x) []) i) else putA k (ms.length - 1) x (ordN ms i) from rfl)
  rw [hAI] at HAG
  generalize hJ : (rowL ms.length k).idxOf x = J at *
  clear hJ hAI
  -- the two ways part ahead
  by_cases hit : J < ms.length
  · rw [if_pos hit] at HAG
    have hb : hitB ms.length k x = true := by rw [hHB, decide_eq_true hit]
    rw [hb]
    have hJh : J < hs.length := by omega
    obtain ⟨b0, off0, A, C, rfl, q1, q2, q4, _⟩ := hr J hJh
    have hoj := isP_hit_ord hok J hJh
    have hol := ordB_len hoj
    have HOR := Lib.hid (fun i (hi : i < ms.length) => ordN_ltM hoj i hi)
    have HF := Lib.hid (show rowL ms.length (stN hs ms k x) = rowL ms.length (fun i => k (ordN (hs.getD J []) i)) from rowL_eq _ _ _ fun i _ => by rw [hST, if_pos hit])
    rw [hol] at q1
    have HQ := Lib.hid q2
    unfold Row at HQ
    rw [hol] at HQ
    clear hST hHB hb ho hm hr hoj hol hvr q2
    generalize hM : ms.length = M at *
    clear hM
    generalize hs.getD J [] = o at *
    have hJM : (J : Int) < hs.length := by omega
    obtain ⟨F, hF⟩ : ∃ F : Nat → Int, F = fun i => k (ordN o i) := ⟨_, rfl⟩
    rw [← hF] at HF
    have HFJ := Lib.hid (fun i => show F i = k (ordN o i) by rw [hF])
    clear hF
    go_enter Try.func44, Try.ntmps44
    go_wp2_with fail
    refine HOW.out.mono ?_; rintro e w1 ⟨v1, rfl, o1, b1⟩
    obtain ⟨a1, c1, rfl, hA1⟩ := HAG.out w1 _ v1 o1
    have HA1 := Lib.hid hA1
    have BW := Lib.hid b1
    have HOLD := Lib.hid (fun (w9 : World) (hb9 : Below w1.heap.size w1 w9) (q : Nat) (hq : q < M) => show ∃ og, a1 = some ⟨og, 0, none⟩ ∧ w9.cell? ⟨og, q, none⟩ = some (.int .i64 (k q)) from by
      rcases o1.cases with ⟨_, h⟩ | ⟨og, cp, e, _, hgl, _, h, _⟩
      · have := congrArg List.length h; rw [rowL_len] at this; simp at this; omega
      · rw [rowL_len] at e h
        injection e with e
        exact ⟨og, e, (hb9.cell (p := ⟨og, q, none⟩) hgl).trans (by rw [h q hq, rowL_get M k q hq])⟩)
    have d0 := (b1.cell (p := ⟨g, oo, none⟩) hg).trans h0
    have d1 := (b1.cell (p := ⟨g, oo + 1, none⟩) hg).trans h1
    have d2 := (b1.cell (p := ⟨b0, off0 + J, none⟩) q4).trans q1
    clear hA1 b1 HAG HOW o1
    go_wp2_with (go_at_call 62; (with_reducible refine HA1.out.mono ?_); rintro e w2 ⟨rfl, rfl⟩)
    go_loopw [11, 12] (fun y i wr => ∃ j : Nat, j ≤ M ∧ i = .int .i64 j ∧ Own wr w1.heap.size y (rowL j F) ∧ Below w1.heap.size w1 wr) (fun _ i _ => M - (intOf i).toNat)
    case atStart => exact ⟨0, Nat.zero_le _, rfl, Own.lit0 w1, (Below.refl _ _).alloc (Nat.le_refl _) _⟩
    case round =>
      obtain ⟨j, hj, rfl, hoy, hb⟩ := hrel
      have hsz := hb.size
      have hq : (rowL j F).length + 1 ≤ 1000000000 := by rw [rowL_len]; omega
      by_cases hlt : j < M
      · obtain ⟨ob, ooff, rfl, p1, hob⟩ := HQ.out j hlt
        have p2 : wr.cell? ⟨ob, ooff + j, none⟩ = some (.int .i64 (o.getD j 0)) := (hb.cell (p := ⟨ob, ooff + j, none⟩) (Nat.lt_of_lt_of_le hob BW.out.size)).trans ((BW.out.cell (p := ⟨ob, ooff + j, none⟩) hob).trans p1)
        obtain ⟨hn1, hn2⟩ := HOR.out j hlt
        rw [hn2] at p2
        obtain ⟨og, rfl, ocell⟩ := HOLD.out wr hb (ordN o j) hn1
        have hfj := Lib.hid (HFJ.out j)
        have hsu := Lib.hid (rowL_succ j F)
        clear hn2 p1
        rw [hfj.out] at hsu
        generalize ordN o j = q at *
        have hqi : (q : Int) < M := by omega
        generalize rowL j F = L at *
        generalize k q = u at *
        go_wp2_with (at_builtin; refine wpList_app _ rfl _ _ rfl w1.heap.size _ L _ ?_ ?_ hoy hq hsz ?_; rfl; rfl)
        intro v' w3 ho3 hb3
        go_wp2
        go_roundw
        case rel => exact ⟨j + 1, by omega, by go_num, by rw [hsu.out]; exact ho3, hb.trans hb3⟩
        case measure => simp [intOf]; omega
      · have e : j = M := by omega
        subst e
        go_wp2
        go_ret2
        rw [HF.out]
        exact ⟨_, rfl, hoy.mono BW.out.size, BW.out.trans (hb.mono BW.out.size)⟩
  · rw [if_neg hit] at HAG
    have hb : hitB ms.length k x = false := by rw [hHB, decide_eq_false hit]
    rw [hb]
    have HOR := Lib.hid (fun i (hi : i < ms.length) => ordN_ltM ho i hi)
    have HF := Lib.hid (show rowL ms.length (stN hs ms k x) = rowL ms.length (fun i => putA k (ms.length - 1) x (ordN ms i)) from rowL_eq _ _ _ fun i _ => by rw [hST, if_neg hit])
    have HQ := Lib.hid hm
    unfold Row at HQ
    clear hST hHB hb ho hm hr hvr hok
    generalize hM : ms.length = M at *
    clear hM
    obtain ⟨F, hF⟩ : ∃ F : Nat → Int, F = fun i => putA k (M - 1) x (ordN ms i) := ⟨_, rfl⟩
    rw [← hF] at HF
    have HFJ := Lib.hid (fun i => show F i = putA k (M - 1) x (ordN ms i) by rw [hF])
    clear hF
    have hm1 : ((M : Int) - 1).toNat = M - 1 := by omega
    have hm2 : (0 : Int) ≤ (M : Int) - 1 := by omega
    go_enter Try.func44, Try.ntmps44
    go_wp2_with fail
    refine HOW.out.mono ?_; rintro e w1 ⟨v1, rfl, o1, b1⟩
    obtain ⟨a1, c1, rfl, hA1⟩ := HAG.out w1 _ v1 o1
    have HA1 := Lib.hid hA1
    obtain ⟨og, e1, hBg, hgw, hcell, hfz, hset⟩ := Own.cellAt o1 (rowL_len M k) (M - 1) (by omega)
    subst e1
    obtain ⟨hO2, hG2⟩ := hset x
    rw [rowL_set M k (M - 1) x (by omega)] at hO2
    have hbw : Below w.heap.size w (w1.setCell ⟨og, M - 1, none⟩ (.int .i64 x)) := b1.setCell (p := ⟨og, M - 1, none⟩) hBg _
    have d0 := (b1.cell (p := ⟨g, oo, none⟩) hg).trans h0
    have d1 := (b1.cell (p := ⟨g, oo + 1, none⟩) hg).trans h1
    have BW := Lib.hid hbw
    have HO2 := Lib.hid hO2
    clear hA1 b1 HAG HOW o1 hset hbw hO2 hG2
    have hm3 : (M : Int) - 1 = ((M - 1 : Nat) : Int) := by omega
    have hm4 : ((M - 1 : Nat) : Int) < M := by omega
    go_wp2_with (go_at_call 62; (with_reducible refine HA1.out.mono ?_); rintro e w2 ⟨rfl, rfl⟩)
    have hs12 : w1.heap.size = (w1.setCell ⟨og, M - 1, none⟩ (.int .i64 x)).heap.size := by simp
    generalize w1.setCell ⟨og, M - 1, none⟩ (.int .i64 x) = w2 at *
    clear hm1 hm2 hm3 hm4 hfz hcell
    have HOLD := Lib.hid (fun (w9 : World) (hb9 : Below w2.heap.size w2 w9) (q : Nat) (hq : q < M) => show ∃ og', some (⟨og, 0, none⟩ : Addr) = some ⟨og', 0, none⟩ ∧ w9.cell? ⟨og', q, none⟩ = some (.int .i64 (putA k (M - 1) x q)) from by
      rcases HO2.out.cases with ⟨h, _⟩ | ⟨og', cp, e, _, hgl, _, h, _⟩
      · cases h
      · rw [rowL_len] at e h
        injection e with e
        exact ⟨og', e, (hb9.cell (p := ⟨og', q, none⟩) hgl).trans (by rw [h q hq, rowL_get M _ q hq])⟩)
    go_loopw [11, 12] (fun y i wr => ∃ j : Nat, j ≤ M ∧ i = .int .i64 j ∧ Own wr w2.heap.size y (rowL j F) ∧ Below w2.heap.size w2 wr) (fun _ i _ => M - (intOf i).toNat)
    case atStart => exact ⟨0, Nat.zero_le _, rfl, (by rw [hs12]; exact Own.lit0 w2), (Below.refl _ _).alloc (Nat.le_refl _) _⟩
    case round =>
      clear hs12
      obtain ⟨j, hj, rfl, hoy, hb⟩ := hrel
      have hsz := hb.size
      have hq : (rowL j F).length + 1 ≤ 1000000000 := by rw [rowL_len]; omega
      by_cases hlt : j < M
      · obtain ⟨ob, ooff, rfl, p1, hob⟩ := HQ.out j hlt
        have p2 : wr.cell? ⟨ob, ooff + j, none⟩ = some (.int .i64 (ms.getD j 0)) := (hb.cell (p := ⟨ob, ooff + j, none⟩) (Nat.lt_of_lt_of_le hob BW.out.size)).trans ((BW.out.cell (p := ⟨ob, ooff + j, none⟩) hob).trans p1)
        obtain ⟨hn1, hn2⟩ := HOR.out j hlt
        rw [hn2] at p2
        obtain ⟨og', eog, ocell⟩ := HOLD.out wr hb (ordN ms j) hn1
        injection eog with eog
        injection eog with eog
        subst eog
        have hfj := Lib.hid (HFJ.out j)
        have hsu := Lib.hid (rowL_succ j F)
        clear hn2 p1
        rw [hfj.out] at hsu
        generalize ordN ms j = q at *
        have hqi : (q : Int) < M := by omega
        generalize rowL j F = L at *
        generalize putA k (M - 1) x q = u at *
        go_wp2_with (at_builtin; refine wpList_app _ rfl _ _ rfl w2.heap.size _ L _ ?_ ?_ hoy hq hsz ?_; rfl; rfl)
        intro v' w3 ho3 hb3
        go_wp2
        go_roundw
        case rel => exact ⟨j + 1, by omega, by go_num, by rw [hsu.out]; exact ho3, hb.trans hb3⟩
        case measure => simp [intOf]; omega
      · have e : j = M := by omega
        subst e
        go_wp2
        go_ret2
        rw [HF.out]
        exact ⟨_, rfl, hoy.mono BW.out.size, BW.out.trans (hb.mono BW.out.size)⟩
end Go.Proofs.Ytngbddmbmkphcaa.Pv
namespace Go.Proofs.Ytngbddmbmkphcaa.Pv
open Go.RowKit
def sixN (k : Nat → Int) : List Int := [k 0, k 1, k 2, k 3, k 4, k 5]
theorem sixN_get (k : Nat → Int) (j : Nat) (h : j < 6) : (sixN k).getD j 0 = k j := by
  rcases below6 h with rfl | rfl | rfl | rfl | rfl | rfl <;> rfl
theorem idx_i (b n c : Nat) (k : Nat → Int) (x : Int) (w : World) (hn : n ≤ 6) (hb : Blk w b (six6 k) 73) :
    Calls Try.prog 83 #[.slice (some ⟨b, 0, none⟩) n c, .int .i64 x] w fun e w' => e = .returned (.int .i64 (Lib.idxOf ((sixN k).take n) x)) ∧ w' = w :=
  Try.slices_idi b 0 n c (sixN k) x w (by show n ≤ 6; exact hn) (by omega) (fun j hj => by
    have hj6 : j < 6 := hj
    rw [Nat.zero_add, hb.cell, sixN_get k j hj6]
    exact six6_get k j hj6)
set_option maxHeartbeats 4000000 in
set_option maxRecDepth 100000 in
theorem use_miss (m M : Nat) (hM : M = m + 1) (h6 : m < 6) (rc : List Value) (rt : List Value) (hrc : rc = .int .i64 (M : Nat) :: rt) (hl : rc.length = 43) (p : Nat → Nat) (hp : ∀ i, i < 6 → p i < 6) (hm : (rc.drop 37).take 6 = six6 fun i => ((p i : Nat) : Int)) (k : Nat → Int) (x : Int) (hx : ∀ j, j < M → k j ≠ x) (w : World) :
    Calls Try.prog 82 #[.agg rc.toArray, six (k 0) (k 1) (k 2) (k 3) (k 4) (k 5), .int .i64 x] w (RetB (.tuple #[six (putA k m x (p 0)) (putA k m x (p 1)) (putA k m x (p 2)) (putA k m x (p 3)) (putA k m x (p 4)) (putA k m x (p 5)), .bool false]) w) := by
  obtain ⟨d6, hu6, hd6⟩ := und6
  have HU := Lib.hid (And.intro hu6 hd6)
  clear hu6 hd6
  obtain ⟨d43, hu43, hd43⟩ := und43
  have HU4 := Lib.hid (And.intro hu43 hd43)
  clear hu43 hd43
  have HA := Lib.hid (fun w' => (show Calls Try.prog 86 #[.agg rc.toArray, .agg (six6 k).toArray, .int .i64 x] w' (RetB (six (putA k m x (p 0)) (putA k m x (p 1)) (putA k m x (p 2)) (putA k m x (p 3)) (putA k m x (p 4)) (putA k m x (p 5))) w') from miss_i m h6 rc rt (by rw [hrc, hM]; rfl) p hp hm k x w'))
  have HX := Lib.hid (fun (w' : World) (b c : Nat) (hb : Blk w' b (six6 k) 73) => (show Calls Try.prog 83 #[.slice (some ⟨b, 0, none⟩) M c, .int .i64 x] w' fun e w2 => e = .returned (.int .i64 (-1)) ∧ w2 = w' from by
    have h := idx_i b M c k x w' (by omega) hb
    rw [Lib.idxOf_miss (sixN k) M x (fun j hj => by rw [sixN_get k j (by omega)]; exact hx j hj)] at h
    exact h))
  have HL := Lib.hid hl
  clear hm hx
  have hM6 : (M : Int) ≤ 6 := by omega
  clear hM
  subst hrc
  unfold six at HA ⊢
  go_enter Try.func82, Try.ntmps82
  go_wp2_with fail
  have k0 : Blk (((w.alloc (.cells (.int .i64 (M : Nat) :: rt).toArray 72)).alloc (.cells (six6 k).toArray 73)).alloc (.cells z6l.toArray 73)) w.heap.size (.int .i64 (M : Nat) :: rt) 72 := Blk.alloc (Blk.alloc (Blk.newAt _ _ _ _ rfl) _) _
  have k1 : Blk (((w.alloc (.cells (.int .i64 (M : Nat) :: rt).toArray 72)).alloc (.cells (six6 k).toArray 73)).alloc (.cells z6l.toArray 73)) (w.heap.size + 1) (six6 k) 73 := Blk.alloc (Blk.newAt _ _ _ _ (by simp)) _
  have k2 : Blk (((w.alloc (.cells (.int .i64 (M : Nat) :: rt).toArray 72)).alloc (.cells (six6 k).toArray 73)).alloc (.cells z6l.toArray 73)) (w.heap.size + 1 + 1) z6l 73 := Blk.newAt _ _ _ _ (by simp)
  have hb0 : Below w.heap.size w (((w.alloc (.cells (.int .i64 (M : Nat) :: rt).toArray 72)).alloc (.cells (six6 k).toArray 73)).alloc (.cells z6l.toArray 73)) := (((Below.refl _ w).alloc (Nat.le_refl _) _).alloc (by simp) _).alloc (by simp; omega) _
  refine (HX.out _ _ 6 k1).mono ?_; rintro e w1 ⟨rfl, rfl⟩
  have K0 := Lib.hid k0
  have K1 := Lib.hid k1
  have K2 := Lib.hid k2
  have HB := Lib.hid hb0
  have eL : (((w.alloc (.cells (.int .i64 (M : Nat) :: rt).toArray 72)).alloc (.cells #[.int .i64 (k 0), .int .i64 (k 1), .int .i64 (k 2), .int .i64 (k 3), .int .i64 (k 4), .int .i64 (k 5)] 73)).alloc (.cells #[.int .i64 0, .int .i64 0, .int .i64 0, .int .i64 0, .int .i64 0, .int .i64 0] 73)) = (((w.alloc (.cells (.int .i64 (M : Nat) :: rt).toArray 72)).alloc (.cells (six6 k).toArray 73)).alloc (.cells z6l.toArray 73)) := rfl
  clear k0 k1 k2 hb0 HX
  generalize (((w.alloc (.cells (.int .i64 (M : Nat) :: rt).toArray 72)).alloc (.cells (six6 k).toArray 73)).alloc (.cells z6l.toArray 73)) = W0 at *
  clear eL
  go_wp2_with (first | (with_reducible refine wpList_loadB rfl 72 (.tmp 3) rfl w.heap.size ?_ (.int .i64 (M : Nat) :: rt) 72 K0.out d43 HU4.out.1 HU4.out.2 ?_ ?_) | (with_reducible refine wpList_loadB rfl 73 (.tmp 4) rfl (w.heap.size + 1) ?_ (six6 k) 73 K1.out d6 HU.out.1 HU.out.2 ?_ ?_))
  · rfl
  · rw [HL.out]; exact isz43
  · exact isz6c
  refine (HA.out W0).mono ?_; rintro e w3 ⟨rfl, b3⟩
  have bk := K2.out.below b3 K2.out.lt
  have HB3 := Lib.hid (bt HB.out b3)
  have r0 : w3.cell? ⟨w.heap.size + 1 + 1, 0, none⟩ = some (.int .i64 0) := bk.cell 0
  have r1 : w3.cell? ⟨w.heap.size + 1 + 1, 1, none⟩ = some (.int .i64 0) := bk.cell 1
  have r2 : w3.cell? ⟨w.heap.size + 1 + 1, 2, none⟩ = some (.int .i64 0) := bk.cell 2
  have r3 : w3.cell? ⟨w.heap.size + 1 + 1, 3, none⟩ = some (.int .i64 0) := bk.cell 3
  have r4 : w3.cell? ⟨w.heap.size + 1 + 1, 4, none⟩ = some (.int .i64 0) := bk.cell 4
  have r5 : w3.cell? ⟨w.heap.size + 1 + 1, 5, none⟩ = some (.int .i64 0) := bk.cell 5
  have q0 := bk.froz 0
  have q1 := bk.froz 1
  have q2 := bk.froz 2
  have q3 := bk.froz 3
  have q4 := bk.froz 4
  have q5 := bk.froz 5
  clear bk b3 HA
  generalize putA k m x (p 0) = v0 at *
  generalize putA k m x (p 1) = v1 at *
  generalize putA k m x (p 2) = v2 at *
  generalize putA k m x (p 3) = v3 at *
  generalize putA k m x (p 4) = v4 at *
  generalize putA k m x (p 5) = v5 at *
  go_wp2
  refine bodyPost_ret (v := .tuple #[.agg #[.int .i64 v0, .int .i64 v1, .int .i64 v2, .int .i64 v3, .int .i64 v4, .int .i64 v5], .bool false]) (by simp [results, Try.results82, go_sem, r0, r1, r2, r3, r4, r5, q0, q1, q2, q3, q4, q5]) rfl ⟨rfl, ?_⟩
  have hb5 := HB3.out
  go_grown
end Go.Proofs.Ytngbddmbmkphcaa.Pv
namespace Go.Proofs.Ytngbddmbmkphcaa.Pv
open Go.RowKit
set_option maxHeartbeats 4000000 in
set_option maxRecDepth 100000 in
theorem use_hit (j M : Nat) (hj : j < M) (hM6 : M ≤ 6) (rc : List Value) (rt : List Value) (hrc : rc = .int .i64 (M : Nat) :: rt) (q : Nat → Nat) (hq : ∀ i, i < 6 → q i < 6) (hm : (rc.drop (1 + j * 6)).take 6 = six6 fun i => ((q i : Nat) : Int)) (k : Nat → Int) (x : Int) (hx : k j = x) (hn : ∀ i, i < j → k i ≠ x) (w : World) :
    Calls Try.prog 82 #[.agg rc.toArray, six (k 0) (k 1) (k 2) (k 3) (k 4) (k 5), .int .i64 x] w (RetB (.tuple #[six (k (q 0)) (k (q 1)) (k (q 2)) (k (q 3)) (k (q 4)) (k (q 5)), .bool true]) w) := by
  have HM := Lib.hid (fun (i : Nat) (hi : i < 6) => (show rc[1 + j * 6 + i]? = some (.int .i64 ((q i : Nat) : Int)) by
    have h := six6_get (fun i => ((q i : Nat) : Int)) i hi
    rw [← hm, List.getElem?_take_of_lt hi, List.getElem?_drop] at h
    exact h))
  have HA := Lib.hid (fun w' => after_i q hq k w')
  have HX := Lib.hid (fun (w' : World) (b c : Nat) (hb : Blk w' b (six6 k) 73) => (show Calls Try.prog 83 #[.slice (some ⟨b, 0, none⟩) M c, .int .i64 x] w' fun e w2 => e = .returned (.int .i64 (j : Nat)) ∧ w2 = w' from by
    have h := idx_i b M c k x w' (by omega) hb
    rw [Lib.idxOf_hit (sixN k) M j x hj (by show M ≤ 6; omega) (by rw [sixN_get k j (by omega)]; exact hx) (fun i hi => by rw [sixN_get k i (by omega)]; exact hn i hi)] at h
    exact h))
  have hji : (j : Int) < 6 := by omega
  have hj6 : j < 6 := by omega
  have hM6i : (M : Int) ≤ 6 := by omega
  clear hm hx hn
  subst hrc
  unfold six at HA ⊢
  go_enter Try.func82, Try.ntmps82
  go_wp2_with fail
  have k0 : Blk (((w.alloc (.cells (.int .i64 (M : Nat) :: rt).toArray 72)).alloc (.cells (six6 k).toArray 73)).alloc (.cells z6l.toArray 73)) w.heap.size (.int .i64 (M : Nat) :: rt) 72 := Blk.alloc (Blk.alloc (Blk.newAt _ _ _ _ rfl) _) _
  have k1 : Blk (((w.alloc (.cells (.int .i64 (M : Nat) :: rt).toArray 72)).alloc (.cells (six6 k).toArray 73)).alloc (.cells z6l.toArray 73)) (w.heap.size + 1) (six6 k) 73 := Blk.alloc (Blk.newAt _ _ _ _ (by simp)) _
  have k2 : Blk (((w.alloc (.cells (.int .i64 (M : Nat) :: rt).toArray 72)).alloc (.cells (six6 k).toArray 73)).alloc (.cells z6l.toArray 73)) (w.heap.size + 1 + 1) z6l 73 := Blk.newAt _ _ _ _ (by simp)
  have hb0 : Below w.heap.size w (((w.alloc (.cells (.int .i64 (M : Nat) :: rt).toArray 72)).alloc (.cells (six6 k).toArray 73)).alloc (.cells z6l.toArray 73)) := (((Below.refl _ w).alloc (Nat.le_refl _) _).alloc (by simp) _).alloc (by simp; omega) _
  refine (HX.out _ _ 6 k1).mono ?_; rintro e w1 ⟨rfl, rfl⟩
  have K0 := Lib.hid k0
  have K1 := Lib.hid k1
  have K2 := Lib.hid k2
  have HB := Lib.hid hb0
  have eL : (((w.alloc (.cells (.int .i64 (M : Nat) :: rt).toArray 72)).alloc (.cells #[.int .i64 (k 0), .int .i64 (k 1), .int .i64 (k 2), .int .i64 (k 3), .int .i64 (k 4), .int .i64 (k 5)] 73)).alloc (.cells #[.int .i64 0, .int .i64 0, .int .i64 0, .int .i64 0, .int .i64 0, .int .i64 0] 73)) = (((w.alloc (.cells (.int .i64 (M : Nat) :: rt).toArray 72)).alloc (.cells (six6 k).toArray 73)).alloc (.cells z6l.toArray 73)) := rfl
  clear k0 k1 k2 hb0 HX
  generalize (((w.alloc (.cells (.int .i64 (M : Nat) :: rt).toArray 72)).alloc (.cells (six6 k).toArray 73)).alloc (.cells z6l.toArray 73)) = W0 at *
  clear eL
  have e0 := (K0.out.cell (1 + j * 6 + 0)).trans (HM.out 0 (by omega))
  rw [Nat.add_zero] at e0
  have e1 := (K0.out.cell (1 + j * 6 + 1)).trans (HM.out 1 (by omega))
  have e2 := (K0.out.cell (1 + j * 6 + 2)).trans (HM.out 2 (by omega))
  have e3 := (K0.out.cell (1 + j * 6 + 3)).trans (HM.out 3 (by omega))
  have e4 := (K0.out.cell (1 + j * 6 + 4)).trans (HM.out 4 (by omega))
  have e5 := (K0.out.cell (1 + j * 6 + 5)).trans (HM.out 5 (by omega))
  have a0 : W0.cell? ⟨w.heap.size + 1, 0, none⟩ = some (.int .i64 (k 0)) := K1.out.cell 0
  have a1 : W0.cell? ⟨w.heap.size + 1, 1, none⟩ = some (.int .i64 (k 1)) := K1.out.cell 1
  have a2 : W0.cell? ⟨w.heap.size + 1, 2, none⟩ = some (.int .i64 (k 2)) := K1.out.cell 2
  have a3 : W0.cell? ⟨w.heap.size + 1, 3, none⟩ = some (.int .i64 (k 3)) := K1.out.cell 3
  have a4 : W0.cell? ⟨w.heap.size + 1, 4, none⟩ = some (.int .i64 (k 4)) := K1.out.cell 4
  have a5 : W0.cell? ⟨w.heap.size + 1, 5, none⟩ = some (.int .i64 (k 5)) := K1.out.cell 5
  have HZ := Lib.hid (fun (w3 : World) (b3 : Below W0.drew.heap.size W0.drew w3) => (show (∀ i, i < 6 → w3.cell? ⟨w.heap.size + 1 + 1, i, none⟩ = some (.int .i64 0) ∧ w3.frozen? ⟨w.heap.size + 1 + 1, i, none⟩ = false) ∧ Below w.heap.size w w3 from by
    have bk := K2.out.below (drewB b3) K2.out.lt
    refine ⟨fun i hi => ⟨?_, bk.froz i⟩, bt HB.out (drewB b3)⟩
    rw [bk.cell]
    rcases below6 hi with rfl | rfl | rfl | rfl | rfl | rfl <;> rfl))
  clear K0 K1 K2 HM
  go_wp2
  go_region_law (go_simp; go_at_call 87; (with_reducible refine (HA.out _).mono ?_); rintro e w3 ⟨rfl, b3⟩; obtain ⟨hz, hb3⟩ := HZ.out w3 b3; have HB3 := Lib.hid hb3; clear b3 hb3; obtain ⟨r0, q0⟩ := hz 0 (by decide); obtain ⟨r1, q1⟩ := hz 1 (by decide); obtain ⟨r2, q2⟩ := hz 2 (by decide); obtain ⟨r3, q3⟩ := hz 3 (by decide); obtain ⟨r4, q4⟩ := hz 4 (by decide); obtain ⟨r5, q5⟩ := hz 5 (by decide); clear hz)
  all_goals
    go_wp2
    refine bodyPost_ret (v := .tuple #[.agg #[.int .i64 (k (q 0)), .int .i64 (k (q 1)), .int .i64 (k (q 2)), .int .i64 (k (q 3)), .int .i64 (k (q 4)), .int .i64 (k (q 5))], .bool true]) (by simp [results, Try.results82, go_sem, r0, r1, r2, r3, r4, r5, q0, q1, q2, q3, q4, q5]) rfl ⟨rfl, ?_⟩
    have hb5 := HB3.out
    go_grown
end Go.Proofs.Ytngbddmbmkphcaa.Pv
namespace Go.Proofs.Ytngbddmbmkphcaa.Pv
open Go.RowKit
def okC (xs : List Int) (i : Nat) : Bool := decide (xs.getD i 0 = -1) || (Tr.isA (xs.getD i 0) && !((xs.take i).contains (xs.getD i 0)))
def conTo (xs : List Int) : Nat → Bool
  | 0 => true
  | j + 1 => conTo xs j && okC xs j
theorem conTo_no {xs : List Int} {j : Nat} (h : okC xs j = false) : ∀ m, j < m → conTo xs m = false
  | 0, hj => by omega
  | m + 1, hj => by
    rw [conTo]
    rcases Nat.lt_or_eq_of_le (Nat.le_of_lt_succ hj) with hl | rfl
    · rw [conTo_no h m hl]; rfl
    · rw [h]; simp
theorem conTo_succ {xs : List Int} {j : Nat} (h : conTo xs j = true) (h2 : okC xs j = true) : conTo xs (j + 1) = true := by rw [conTo, h, h2]; rfl
theorem okC_one {xs : List Int} {j : Nat} (h : xs.getD j 0 = -1) : okC xs j = true := by unfold okC; rw [h]; rfl
theorem okC_out {xs : List Int} {j : Nat} (h1 : ¬ xs.getD j 0 = -1) (h : Tr.isA (xs.getD j 0) = false) : okC xs j = false := by unfold okC; rw [decide_eq_false h1, h]; rfl
theorem okC_has {xs : List Int} {j : Nat} (h1 : ¬ xs.getD j 0 = -1) (h : (xs.take j).contains (xs.getD j 0) = true) : okC xs j = false := by unfold okC; rw [decide_eq_false h1, h]; simp
theorem okC_yes {xs : List Int} {j : Nat} (h1 : Tr.isA (xs.getD j 0) = true) (h2 : (xs.take j).contains (xs.getD j 0) = false) : okC xs j = true := by unfold okC; rw [h1, h2]; simp
def conB (n : Nat) (xs : List Int) : Bool := decide (xs.length = n) && conTo xs xs.length
def inC (x : Int) : Bool := decide (-1 ≤ x) && decide (x ≤ 63)
theorem inC_s (x : Int) (w : World) : Calls Try.prog 73 #[.int .i64 x, .int .i64 (-1), .int .i64 63] w (Bl (inC x) w) := by
  unfold inC
  by_cases h : -1 ≤ x
  · go_enter Try.func73, Try.ntmps73
    go_wp2
    go_ret
    exact ⟨ret_bool (by simp [h]), rfl⟩
  · go_enter Try.func73, Try.ntmps73
    go_wp2
    go_ret
    exact ⟨ret_bool (by simp; omega), rfl⟩
end Go.Proofs.Ytngbddmbmkphcaa.Pv
namespace Go.Proofs.Ytngbddmbmkphcaa.Pv
open Go.RowKit
theorem adr_i (x : Int) (w : World) : Calls Try.prog 66 #[.int .i64 x] w (Bl (Tr.isA x) w) := by
  have HB := Lib.hid (btw_i x 0 63 w)
  have e : (decide (0 ≤ x) && decide (x ≤ 63)) = Tr.isA x := rfl
  rw [e] at HB
  clear e
  generalize Tr.isA x = b at *
  go_enter Try.func66, Try.ntmps66
  go_wp2_with (go_at_call 76; refine HB.out.mono ?_; rintro e w' ⟨rfl, rfl⟩)
  go_ret
  exact ⟨rfl, rfl⟩
end Go.Proofs.Ytngbddmbmkphcaa.Pv
namespace Go.Proofs.Ytngbddmbmkphcaa.Pv
open Go.RowKit
theorem rowC_six {xs : List Int} (h : ordB xs.length xs = true) (hl : xs.length ≤ 6) : rowC xs = six6 fun i => ((ordN xs i : Nat) : Int) := by
  show _ = [Value.int .i64 ((ordN xs 0 : Nat) : Int), .int .i64 ((ordN xs 1 : Nat) : Int), .int .i64 ((ordN xs 2 : Nat) : Int), .int .i64 ((ordN xs 3 : Nat) : Int), .int .i64 ((ordN xs 4 : Nat) : Int), .int .i64 ((ordN xs 5 : Nat) : Int)]
  unfold rowC
  rw [(ordN_lt h hl 0 (by omega)).2, (ordN_lt h hl 1 (by omega)).2, (ordN_lt h hl 2 (by omega)).2, (ordN_lt h hl 3 (by omega)).2, (ordN_lt h hl 4 (by omega)).2, (ordN_lt h hl 5 (by omega)).2]
theorem use_any (hs : List (List Int)) (ms : List Int) (hok : isP hs ms = true) (k : Nat → Int) (x : Int) (w : World) :
    Calls Try.prog 82 #[.agg (rulC true ms.length hs ms).toArray, six (k 0) (k 1) (k 2) (k 3) (k 4) (k 5), .int .i64 x] w
      (RetB (.tuple #[six (stN hs ms k x 0) (stN hs ms k x 1) (stN hs ms k x 2) (stN hs ms k x 3) (stN hs ms k x 4) (stN hs ms k x 5), .bool (hitB ms.length k x)]) w) := by
  obtain ⟨ho, h6, hlen⟩ := isP_miss_ord hok
  have h1M : 1 ≤ ms.length := by unfold isP at hok; simp only [Bool.and_eq_true, decide_eq_true_eq] at hok; omega
  by_cases hit : (rowL ms.length k).idxOf x < ms.length
  · have hJh : (rowL ms.length k).idxOf x < hs.length := by omega
    have hoj := isP_hit_ord hok _ hJh
    have hol := ordB_len hoj
    have hb : hitB ms.length k x = true := decide_eq_true hit
    have hst : ∀ i, stN hs ms k x i = k (ordN (hs.getD ((rowL ms.length k).idxOf x) []) i) := fun i => if_pos hit
    rw [hb, hst, hst, hst, hst, hst, hst]
    obtain ⟨e1, e2⟩ := idx_hit _ _ _ hit
    exact use_hit ((rowL ms.length k).idxOf x) ms.length hit h6 _ _ rfl (ordN (hs.getD ((rowL ms.length k).idxOf x) [])) (fun i hi => (ordN_lt (by rw [hol]; exact hoj) (by omega) i hi).1)
      ((rules_hit ms.length h6 hs ms _ hit).trans (rowC_six (by rw [hol]; exact hoj) (by omega))) k x e1 e2 w
  · have hb : hitB ms.length k x = false := decide_eq_false hit
    have hst : ∀ i, stN hs ms k x i = putA k (ms.length - 1) x (ordN ms i) := fun i => if_neg hit
    rw [hb, hst, hst, hst, hst, hst, hst]
    exact use_miss (ms.length - 1) ms.length (by omega) (by omega) _ _ rfl (rulC_len true _ _ _) (ordN ms) (fun i hi => (ordN_lt ho h6 i hi).1)
      ((rules_miss ms.length h6 hs ms).trans (rowC_six ho h6)) k x (idx_miss _ _ _ hit) w
/-- The contents as a row of six. -/
def conK (cs : List Int) (i : Nat) : Int := cs.getD i 0
theorem rowL_con (cs : List Int) : rowL cs.length (conK cs) = cs := by
  apply List.ext_getElem?
  intro i
  by_cases hi : i < cs.length
  · simp [rowL, hi, conK]
  · rw [List.getElem?_eq_none (by rw [rowL_len]; omega), List.getElem?_eq_none (by omega)]
theorem con_cells (cs : List Int) (h : cs.length ≤ 6) : Go.splice z6l 0 (cs.map (Value.int .i64)) = six6 (conK cs) := by
  unfold conK
  match cs, h with
  | [], _ => rfl
  | [a], _ => rfl
  | [a, b], _ => rfl
  | [a, b, c], _ => rfl
  | [a, b, c, d], _ => rfl
  | [a, b, c, d, e], _ => rfl
  | [a, b, c, d, e, f], _ => rfl
  | a :: b :: c :: d :: e :: f :: g :: r, h => simp at h
/-- What the step leaves that a law sees. -/
def stepOk (hs : List (List Int)) (ms cs : List Int) (x : Int) : Bool := isP hs ms && conB ms.length cs && Tr.isA x
def stepV (hs : List (List Int)) (ms cs : List Int) (x : Int) : List Int := if stepOk hs ms cs x then rowL ms.length (stN hs ms (conK cs) x) else []
def stepH (hs : List (List Int)) (ms cs : List Int) (x : Int) : Bool := stepOk hs ms cs x && hitB ms.length (conK cs) x
theorem stepV_no {hs : List (List Int)} {ms cs : List Int} {x : Int} (h : stepOk hs ms cs x = false) : stepV hs ms cs x = [] ∧ stepH hs ms cs x = false := by
  unfold stepV stepH; rw [h]; exact ⟨rfl, rfl⟩
theorem stepV_yes {hs : List (List Int)} {ms cs : List Int} {x : Int} (h : stepOk hs ms cs x = true) : stepV hs ms cs x = rowL ms.length (stN hs ms (conK cs) x) ∧ stepH hs ms cs x = hitB ms.length (conK cs) x := by
  unfold stepV stepH; rw [h]; exact ⟨rfl, rfl⟩
/-- What a function leaves that returns a list and two flags. -/
def ResH (xs : List Int) (hit ok : Bool) (w : World) (e : Ending) (w' : World) : Prop := ∃ v, e = .returned (.tuple #[v, .bool hit, .bool ok]) ∧ OwnW w' w.heap.size v xs ∧ Below w.heap.size w w'
theorem con_len {n : Nat} {xs : List Int} (h : conB n xs = true) : xs.length = n := by unfold conB at h; rw [Bool.and_eq_true] at h; exact of_decide_eq_true h.1
end Go.Proofs.Ytngbddmbmkphcaa.Pv
namespace Go.Proofs.Ytngbddmbmkphcaa.Pv
open Go.RowKit
theorem one_map (xs : List Int) : ∀ v ∈ xs.map (Value.int .i64), v.oneCell' = true := fun v hv => by
  obtain ⟨x, _, rfl⟩ := List.mem_map.1 hv
  rfl
theorem stepV_len (hs : List (List Int)) (ms xs : List Int) (x : Int) : (stepV hs ms xs x).length ≤ 1000000 := by
  cases h : stepOk hs ms xs x
  · rw [(stepV_no h).1]; simp
  · rw [(stepV_yes h).1, rowL_len]
    have hp : isP hs ms = true := by unfold stepOk at h; simp only [Bool.and_eq_true] at h; exact h.1.1
    unfold isP at hp; simp only [Bool.and_eq_true, decide_eq_true_eq] at hp; omega
end Go.Proofs.Ytngbddmbmkphcaa.Pv
namespace Go.Proofs.Ytngbddmbmkphcaa.Pv
open Go.RowKit
/-- What is at each age after j uses. -/
def kK (hs : List (List Int)) (ms xs : List Int) : Nat → Nat → Int
  | 0 => fun _ => -1
  | j + 1 => stN hs ms (kK hs ms xs j) (xs.getD j 0)
def oldK (hs : List (List Int)) (ms xs : List Int) (j : Nat) : Int := kK hs ms xs j (ms.length - 1)
def hitK (hs : List (List Int)) (ms xs : List Int) (j : Nat) : Bool := hitB ms.length (kK hs ms xs j) (xs.getD j 0)
/-- What a call of the closure leaves. -/
def Told (Val : Nat → Value → World → Prop) (T : TypeId) (Z bq j : Nat) (y : Value) (w : World) (e : Ending) (w' : World) : Prop :=
  e = .returned (.tuple #[]) ∧ ∃ y', Blk w' bq [y'] T ∧ Val (j + 1) y' w' ∧ y'.ownBlock ≠ some bq ∧ Below Z w w' ∧ (∀ k, k < w.heap.size → k ≠ bq → y.ownBlock ≠ some k → w'.heap[k]? = w.heap[k]?) ∧ (∀ k, y'.ownBlock = some k → y.ownBlock = some k ∨ w.heap.size ≤ k)
/-- What the run leaves. -/
def RanP (Val : Nat → Value → World → Prop) (T : TypeId) (Z bq N : Nat) (xs : List Int) (w : World) (e : Ending) (w' : World) : Prop :=
  ∃ v y, e = .returned (.tuple #[v, .bool true]) ∧ OwnW w' Z v xs ∧ Blk w' bq [y] T ∧ Val N y w' ∧ y.ownBlock ≠ some bq ∧ (∀ k, v.ownBlock = some k → w.heap.size ≤ k ∧ y.ownBlock ≠ some k) ∧ Below Z w w'
theorem Blk.sameB {w w' : World} {b : Nat} {cs : List Value} {t : TypeId} (h : Blk w b cs t) (he : w'.heap[b]? = w.heap[b]?) : Blk w' b cs t := he.trans h
theorem one_six (k : Nat → Int) : ∀ v ∈ six6 k, v.oneCell' = true := fun v hv => by
  unfold six6 at hv
  simp at hv
  rcases hv with rfl | rfl | rfl | rfl | rfl | rfl <;> rfl
end Go.Proofs.Ytngbddmbmkphcaa.Pv
