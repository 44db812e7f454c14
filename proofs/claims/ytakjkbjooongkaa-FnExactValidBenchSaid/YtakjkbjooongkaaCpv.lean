/- The model's test of an order of ages. -/
import Derived.Test.YtakjkbjooongkaaCrd
import Derived.Test.YtakjkbjooongkaaCbt
import Derived.Test.YtakjkbjooongkaaConlyS
import Derived.Test.YtakjkbjooongkaaPlainPol
namespace Go.Proofs.Ytakjkbjooongkaa.Pv
open Go.RowKit
theorem in_n (n : Nat) (x : Int) (hn : n ≤ 1000) (w : World) : Calls Try.prog 37 #[.int .i64 x, .int .i64 0, .int .i64 ((n : Int) - 1)] w (Bl (inN n x) w) := by
  unfold inN
  by_cases h : 0 ≤ x
  · go_enter Try.func37, Try.ntmps37
    go_wp2
    go_ret
    exact ⟨ret_bool (by simp [h]), rfl⟩
  · go_enter Try.func37, Try.ntmps37
    go_wp2
    go_ret
    exact ⟨ret_bool (by simp; omega), rfl⟩
theorem row_take {w : World} {a : Option Addr} {xs : List Int} (h : Row w a xs) (j : Nat) : Row w a (xs.take j) := fun i hi => by
  have hi' : i < j ∧ i < xs.length := by rw [List.length_take] at hi; omega
  obtain ⟨b, off, e, c, hb⟩ := h i hi'.2
  refine ⟨b, off, e, ?_, hb⟩
  rw [c, List.getD_eq_getElem?_getD, List.getD_eq_getElem?_getD, List.getElem?_take_of_lt hi'.1]
/-- What a test leaves that may draw. -/
def Dq (b : Bool) (w : World) (e : Ending) (w' : World) : Prop := e = .returned (.bool b) ∧ ∃ q, w' = w.drewN q
set_option maxHeartbeats 2000000 in
theorem ord_s (a : Option Addr) (c : Nat) (xs : List Int) (n : Nat) (w : World) (hl : xs.length ≤ 1048576) (hcap : xs.length ≤ c ∧ c ≤ 9223372036854775807) (hn : n ≤ 1000) (hr : Row w a xs) :
    Calls Try.prog 33 #[.slice a xs.length c, .int .i64 (n : Nat)] w (Dq (ordB n xs) w) := by
  have HC := Lib.hid hr
  have HI := Lib.hid (fun x (w' : World) (m : Nat) => (in_n n x hn (w'.drewN m)).mono (R' := fun e w2 => e = .returned (.bool (inN n x)) ∧ ∃ m, w2 = w'.drewN m) fun e w2 ⟨he, hw⟩ => ⟨he, m, hw.symm⟩)
  have HH := Lib.hid (fun (j : Nat) (c' : Nat) (x : Int) (w' : World) (m : Nat) (hj : j < xs.length) (hq : ∃ q, w' = w.drewN q) => (show Calls Try.prog 38 #[.slice a j c', .int .i64 x] (w'.drewN m) (fun e w2 => e = .returned (.bool ((xs.take j).contains x)) ∧ ∃ m, w2 = w'.drewN m) from by
    have hr' : Row (w'.drewN m) a xs := by obtain ⟨q, rfl⟩ := hq; exact hr
    have h := Tr.has_s a c' (xs.take j) x (w'.drewN m) (by rw [List.length_take]; omega) (row_take hr' j)
    rw [List.length_take, Nat.min_eq_left (by omega)] at h
    exact h.mono fun e w2 ⟨he, hw⟩ => ⟨he, m, hw.symm⟩))
  have HIN := Lib.hid (fun j (hj : j < xs.length) (h : inN n (xs.getD j 0) = false) => ordB_no hj (okO_in h))
  have HHAS := Lib.hid (fun j (hj : j < xs.length) (h : (xs.take j).contains (xs.getD j 0) = true) => ordB_no (n := n) hj (okO_has h))
  have HST := Lib.hid (fun j (h : okTo n xs j = true) (h1 : inN n (xs.getD j 0) = true) (h2 : (xs.take j).contains (xs.getD j 0) = false) => okTo_succ h (okO_yes h1 h2))
  have HE := Lib.hid (fun h => ordB_end (n := n) (xs := xs) h)
  have HW := Lib.hid (Go.IntWalk.i64_in ((n : Int) - 1) (by omega))
  obtain ⟨hc1, hc2⟩ := hcap
  clear hr
  unfold Row at HC
  generalize ordB n xs = r at *
  generalize hN : xs.length = N at *
  clear hN
  go_enter Try.func33, Try.ntmps33
  go_wp2
  go_loopw [5] (fun i wr => ∃ j : Nat, j ≤ N ∧ i = .int .i64 (j : Nat) ∧ Hid (∃ q, wr = w.drewN q) ∧ Hid (okTo n xs j = true)) (fun i _ => N - (intOf i).toNat)
  case atStart => exact ⟨0, Nat.zero_le _, rfl, Lib.hid ⟨0, rfl⟩, Lib.hid rfl⟩
  case round =>
    obtain ⟨j, hj, rfl, hq, hx⟩ := hrel
    by_cases hlt : j < N
    · obtain ⟨b, off, rfl, c1, hb⟩ := HC.out j hlt
      have c2 : wr.cell? ⟨b, off + j, none⟩ = some (.int .i64 (xs.getD j 0)) := by obtain ⟨q, rfl⟩ := hq.out; exact c1
      have hI := Lib.hid (fun m => HI.out (xs.getD j 0) wr m)
      have hH := Lib.hid (fun c' m => HH.out j c' (xs.getD j 0) wr m hlt hq.out)
      have h1 := Lib.hid (HIN.out j hlt)
      have h2 := Lib.hid (HHAS.out j hlt)
      have h3 := Lib.hid (HST.out j hx.out)
      have hjc : j ≤ c := by omega
      have hjc2 : (j : Int) ≤ c := by omega
      have hQ := Lib.hid (fun m => (show ∃ q, wr.drewN m = w.drewN q from by obtain ⟨q, rfl⟩ := hq.out; exact ⟨q + m, World.drewN_drewN ..⟩))
      clear c1 HC HI HH HIN HHAS HST hq
      generalize xs.getD j 0 = u at *
      cases hin : inN n u
      · have e := h1.out hin
        rw [hin] at hI
        clear HE hx h1 h2 h3
        subst e
        go_wp2
        have hw := HW.out
        go_quiet (first | exact hI.out _ | exact hH.out _ _)
        clear hw
        go_wp2
        go_ret
        exact ⟨rfl, hQ.out _⟩
      · rw [hin] at hI
        cases hcb : (xs.take j).contains u
        · rw [hcb] at hH
          have hx' := Lib.hid (h3.out hin hcb)
          clear HE hx h1 h2 h3 hcb hin
          go_wp2
          have hw := HW.out
          go_quiet (first | exact hI.out _ | exact hH.out _ _)
          clear hw
          go_wp2
          go_roundw
          case rel => exact ⟨j + 1, by omega, by go_num, Lib.hid (hQ.out _), hx'⟩
          case measure => simp [intOf] <;> omega
        · rw [hcb] at hH
          have e := h2.out hcb
          clear HE hx h1 h2 h3 hcb hin
          subst e
          go_wp2
          have hw := HW.out
          go_quiet (first | exact hI.out _ | exact hH.out _ _)
          clear hw
          go_wp2
          go_ret
          exact ⟨rfl, hQ.out _⟩
    · have e : j = N := by omega
      subst e
      have e := HE.out hx.out
      clear HE hx HC HI HH HIN HHAS HST
      subst e
      go_wp2
      go_ret
      exact ⟨ret_bool (by first | (rw [Bool.eq_iff_iff]; simp; omega) | (rw [Bool.eq_iff_iff]; simp)), hq.out⟩
/-- A list of lists that is read, each with its room. -/
def RdR (w : World) (a : Option Addr) (hs : List (List Int)) : Prop :=
  ∀ i, i < hs.length → ∃ b off A C, a = some ⟨b, off, none⟩ ∧ w.cell? ⟨b, off + i, none⟩ = some (.slice A (hs.getD i []).length C) ∧ Row w A (hs.getD i []) ∧ b < w.heap.size ∧
    (hs.getD i []).length ≤ 1048576 ∧ (hs.getD i []).length ≤ C ∧ C ≤ 9223372036854775807 ∧ (A = none ∨ ∃ b off, A = some ⟨b, off, none⟩)
theorem isP_low {hs : List (List Int)} {ms : List Int} (h : ¬ 1 ≤ ms.length) : isP hs ms = false := by unfold isP; rw [decide_eq_false h]; rfl
theorem isP_high {hs : List (List Int)} {ms : List Int} (h : ¬ ms.length ≤ 6) : isP hs ms = false := by unfold isP; rw [decide_eq_false h]; simp
theorem isP_len {hs : List (List Int)} {ms : List Int} (h : ¬ hs.length = ms.length) : isP hs ms = false := by unfold isP; rw [decide_eq_false h]; simp
theorem isP_miss {hs : List (List Int)} {ms : List Int} (h : ordB ms.length ms = false) : isP hs ms = false := by unfold isP; rw [h]; simp
theorem isP_hit {hs : List (List Int)} {ms : List Int} (j : Nat) (hj : j < hs.length) (h : ordB ms.length (hs.getD j []) = false) : isP hs ms = false := by unfold isP; rw [all_no hs _ j hj h]; simp
theorem isP_yes {hs : List (List Int)} {ms : List Int} (h1 : 1 ≤ ms.length) (h2 : ms.length ≤ 6) (h3 : hs.length = ms.length) (h4 : ordB ms.length ms = true) (h5 : (hs.take hs.length).all (ordB ms.length) = true) : isP hs ms = true := by
  rw [List.take_length] at h5
  unfold isP
  rw [decide_eq_true h1, decide_eq_true h2, decide_eq_true h3, h4, h5]
  rfl
theorem isP_no_of {b : Bool} (h : b = false) (w : World) (e : Ending) (w' : World) (h2 : e = .returned (.bool false) ∧ ∃ q, w' = w.drewN q) : Dq b w e w' := by subst h; exact h2
set_option maxHeartbeats 4000000 in
theorem is_s (g : Nat) (a a' : Option Addr) (c c' : Nat) (hs : List (List Int)) (ms : List Int) (w : World) (hg : g < w.heap.size) (h0 : w.cell? ⟨g, 0, none⟩ = some (.slice a hs.length c)) (h1 : w.cell? ⟨g, 1, none⟩ = some (.slice a' ms.length c'))
    (hr : Row w a' ms) (hcap : ms.length ≤ c' ∧ c' ≤ 9223372036854775807) (hm : ms.length ≤ 1048576) (hh : RdR w a hs) (hl : hs.length ≤ 1048576) :
    Calls Try.prog 21 #[.pointer (some ⟨g, 0, none⟩)] w (Dq (isP hs ms) w) := by
  have HLO := Lib.hid (fun h => isP_low (hs := hs) (ms := ms) h)
  have HHI := Lib.hid (fun h => isP_high (hs := hs) (ms := ms) h)
  have HLE := Lib.hid (fun h => isP_len (hs := hs) (ms := ms) h)
  have HMI := Lib.hid (fun h => isP_miss (hs := hs) (ms := ms) h)
  have HHT := Lib.hid (fun j hj h => isP_hit (hs := hs) (ms := ms) j hj h)
  have HYE := Lib.hid (fun h1 h2 h3 h4 h5 => isP_yes (hs := hs) (ms := ms) h1 h2 h3 h4 h5)
  have HO := Lib.hid (fun (h6 : ms.length ≤ 6) => ord_s a' c' ms ms.length w hm hcap (by omega) hr)
  have HJ := Lib.hid (fun (h6 : ms.length ≤ 6) j (hj : j < hs.length) => (show ∃ b off A C, a = some ⟨b, off, none⟩ ∧ w.cell? ⟨b, off + j, none⟩ = some (.slice A (hs.getD j []).length C) ∧ b < w.heap.size ∧
      ∀ (w' : World), (∃ q, w' = w.drewN q) → Calls Try.prog 33 #[.slice A (hs.getD j []).length C, .int .i64 (ms.length : Nat)] w' (fun e w2 => e = .returned (.bool (ordB ms.length (hs.getD j []))) ∧ ∃ q, w2 = w.drewN q) from by
    obtain ⟨b, off, A, C, e1, e2, e3, e4, e5, e6, e7, _⟩ := hh j hj
    exact ⟨b, off, A, C, e1, e2, e4, fun w' hq => (ord_s A C _ ms.length w' e5 ⟨e6, e7⟩ (by omega) (by obtain ⟨q, rfl⟩ := hq; exact e3)).mono fun e w2 ⟨he, q, hw⟩ => ⟨he, by obtain ⟨q0, rfl⟩ := hq; exact ⟨q0 + q, by rw [hw, World.drewN_drewN]⟩⟩⟩))
  have HAT := Lib.hid (fun j hj => all_take hs ms.length j hj)
  clear hh hr
  generalize isP hs ms = r at *
  generalize hom : ordB ms.length ms = om at *
  clear hom
  generalize hMM : ms.length = M at *
  clear hMM
  generalize hNN : hs.length = N at *
  clear hNN
  go_enter Try.func21, Try.ntmps21
  by_cases m1 : 1 ≤ M
  · have d1 : decide ((M : Int) < 1) = false := by simp; omega
    by_cases m6 : M ≤ 6
    · have d6 : decide ((6 : Int) < (M : Int)) = false := by simp; omega
      by_cases hne : N = M
      · subst hne
        cases om
        · have e := HMI.out rfl
          have ho := Lib.hid (HO.out m6)
          clear HLO HHI HLE HMI HHT HYE HO HJ HAT
          subst e
          go_wp2_with (go_at_call 33; refine ho.out.mono ?_; rintro e w1 ⟨rfl, hq⟩)
          go_ret
          exact ⟨rfl, hq⟩
        · have ho := Lib.hid (HO.out m6)
          have hJ := Lib.hid (HJ.out m6)
          have hY := Lib.hid (fun h5 => HYE.out m1 m6 rfl rfl h5)
          clear HLO HHI HLE HMI HYE HO HJ
          go_wp2_with (go_at_call 33; refine ho.out.mono ?_; rintro e w1 ⟨rfl, hq⟩)
          have HQ := Lib.hid hq
          clear hq
          go_loopw [4] (fun i wr => ∃ j : Nat, j ≤ N ∧ i = .int .i64 (j : Nat) ∧ Hid (∃ q, wr = w.drewN q) ∧ Hid ((hs.take j).all (ordB N) = true)) (fun i _ => N - (intOf i).toNat)
          case atStart => exact ⟨0, Nat.zero_le _, rfl, HQ, Lib.hid rfl⟩
          case round =>
            obtain ⟨j, hj, rfl, hq, hx⟩ := hrel
            have e0 : wr.cell? ⟨g, 0, none⟩ = some (.slice a N c) := by obtain ⟨q, rfl⟩ := hq.out; exact h0
            by_cases hlt : j < N
            · obtain ⟨b, off, A, C, rfl, c1, hb, HC⟩ := hJ.out j hlt
              have c2 : wr.cell? ⟨b, off + j, none⟩ = some (.slice A (hs.getD j []).length C) := by obtain ⟨q, rfl⟩ := hq.out; exact c1
              have HCH := Lib.hid (HC wr hq.out)
              have HT := HHT.out j hlt
              have HA := HAT.out j hlt
              rw [hx.out] at HA
              clear c1 HC hJ hY HHT HAT
              generalize (hs.getD j []).length = L at *
              cases ho2 : ordB N (hs.getD j [])
              · have e := HT ho2
                rw [ho2] at HCH
                clear HT HA ho2 hx
                subst e
                go_wp2_with (go_at_call 33; refine HCH.out.mono ?_; rintro e w1 ⟨rfl, hq1⟩)
                go_ret
                exact ⟨rfl, hq1⟩
              · rw [ho2] at HCH HA
                have HA2 := Lib.hid HA
                clear HT HA ho2 hx
                go_wp2_with (go_at_call 33; refine HCH.out.mono ?_; rintro e w1 ⟨rfl, hq1⟩)
                go_roundw
                case rel => exact ⟨j + 1, by omega, by go_num, Lib.hid hq1, HA2⟩
                case measure => simp [intOf]; omega
            · have e : j = N := by omega
              subst e
              have e := hY.out hx.out
              clear hJ hY HHT HAT hx
              subst e
              go_wp2
              go_ret
              exact ⟨rfl, hq.out⟩
      · have d3 : ((N : Int) == (M : Int)) = false := by simp; omega
        have e := HLE.out hne
        clear HLO HHI HLE HMI HHT HYE HO HJ HAT
        subst e
        go_wp2
        go_ret
        exact ⟨rfl, 0, rfl⟩
    · have d6 : (6 : Int) < (M : Int) := by omega
      have e := HHI.out m6
      clear HLO HHI HLE HMI HHT HYE HO HJ HAT
      subst e
      go_wp2
      go_ret
      exact ⟨rfl, 0, rfl⟩
  · have d1 : (M : Int) < 1 := by omega
    have e := HLO.out m1
    clear HLO HHI HLE HMI HHT HYE HO HJ HAT
    subst e
    go_wp2
    go_ret
    exact ⟨rfl, 0, rfl⟩
end Go.Proofs.Ytakjkbjooongkaa.Pv
