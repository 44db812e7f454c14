/- The model's test of a policy that lies at any place of a block. -/
import Derived.Test.YtakjkbjooongkaaCpv
namespace Go.Proofs.Ytakjkbjooongkaa.Pv
open Go.RowKit
set_option maxRecDepth 100000 in
set_option maxHeartbeats 4000000 in
theorem isAt_s (g oo : Nat) (a a' : Option Addr) (c c' : Nat) (hs : List (List Int)) (ms : List Int) (w : World) (hg : g < w.heap.size) (h0 : w.cell? ⟨g, oo, none⟩ = some (.slice a hs.length c)) (h1 : w.cell? ⟨g, oo + 1, none⟩ = some (.slice a' ms.length c'))
    (hr : Row w a' ms) (hcap : ms.length ≤ c' ∧ c' ≤ 9223372036854775807) (hm : ms.length ≤ 1048576) (hh : RdR w a hs) (hl : hs.length ≤ 1048576) :
    Calls Try.prog 21 #[.pointer (some ⟨g, oo, none⟩)] w (Dq (isP hs ms) w) := by
  have HLO := Lib.hid (fun h => isP_low (hs := hs) (ms := ms) h)
  have HHI := Lib.hid (fun h => isP_high (hs := hs) (ms := ms) h)
  have HLE := Lib.hid (fun h => isP_len (hs := hs) (ms := ms) h)
  have HMI := Lib.hid (fun h => isP_miss (hs := hs) (ms := ms) h)
  have HHT := Lib.hid (fun j hj h => isP_hit (hs := hs) (ms := ms) j hj h)
  have HYE := Lib.hid (fun h1 h2 h3 h4 h5 => isP_yes (hs := hs) (ms := ms) h1 h2 h3 h4 h5)
  have HO := Lib.hid (fun (h6 : ms.length ≤ 6) => ord_s a' c' ms ms.length w hm hcap (by omega) hr)
  have HJ := Lib.hid (fun (h6 : ms.length ≤ 6) j (hj : j < hs.length) => (show ∃ b off A C, a = some ⟨b, off, none⟩ ∧ w.cell? ⟨b, off + j, none⟩ = some (.slice A (hs.getD j []).length C) ∧ b < w.heap.size ∧
      ∀ (w' : World), (∃ q, w' = w.drewN q) → Calls Try.prog 33 #[.slice A (hs.getD j []).length C, .int .i64 (ms.length : Nat)] w' (fun e w2 => e = .returned (.bool (ordB ms.length (hs.getD j []))) ∧ ∃ q, w2 = w.drewN q) from by
    obtain ⟨b, off, A, C, e1, e2, e3, e4, e5, e6, e7, _⟩ := hh j hj
    exact ⟨b, off, A, C, e1, e2, e4, fun w' hq => (ord_s A C _ ms.length w' e5 ⟨e6, e7⟩ (by omega) (by obtain ⟨q, rfl⟩ := hq; exact e3)).mono fun e w2 ⟨he, q, hw⟩ => ⟨he, by obtain ⟨q0, rfl⟩ := hq; exact ⟨q0 + q, by rw [hw, World.drewN_drewN]⟩⟩⟩))
  have HAT := Lib.hid (fun j hj => all_take hs ms.length j hj)
  clear hh hr
  generalize isP hs ms = r at *
  generalize hom : ordB ms.length ms = om at *
  clear hom
  generalize hMM : ms.length = M at *
  clear hMM
  generalize hNN : hs.length = N at *
  clear hNN
  go_enter Try.func21, Try.ntmps21
  by_cases m1 : 1 ≤ M
  · have d1 : decide ((M : Int) < 1) = false := by simp; omega
    by_cases m6 : M ≤ 6
    · have d6 : decide ((6 : Int) < (M : Int)) = false := by simp; omega
      by_cases hne : N = M
      · subst hne
        cases om
        · have e := HMI.out rfl
          have ho := Lib.hid (HO.out m6)
          clear HLO HHI HLE HMI HHT HYE HO HJ HAT
          subst e
          go_wp2_with (go_at_call 33; refine ho.out.mono ?_; rintro e w1 ⟨rfl, hq⟩)
          go_ret
          exact ⟨rfl, hq⟩
        · have ho := Lib.hid (HO.out m6)
          have hJ := Lib.hid (HJ.out m6)
          have hY := Lib.hid (fun h5 => HYE.out m1 m6 rfl rfl h5)
          clear HLO HHI HLE HMI HYE HO HJ
          go_wp2_with (go_at_call 33; refine ho.out.mono ?_; rintro e w1 ⟨rfl, hq⟩)
          have HQ := Lib.hid hq
          clear hq
          go_loopw [4] (fun i wr => ∃ j : Nat, j ≤ N ∧ i = .int .i64 (j : Nat) ∧ Hid (∃ q, wr = w.drewN q) ∧ Hid ((hs.take j).all (ordB N) = true)) (fun i _ => N - (intOf i).toNat)
          case atStart => exact ⟨0, Nat.zero_le _, rfl, HQ, Lib.hid rfl⟩
          case round =>
            obtain ⟨j, hj, rfl, hq, hx⟩ := hrel
            have e0 : wr.cell? ⟨g, oo, none⟩ = some (.slice a N c) := by obtain ⟨q, rfl⟩ := hq.out; exact h0
            by_cases hlt : j < N
            · obtain ⟨b, off, A, C, rfl, c1, hb, HC⟩ := hJ.out j hlt
              have c2 : wr.cell? ⟨b, off + j, none⟩ = some (.slice A (hs.getD j []).length C) := by obtain ⟨q, rfl⟩ := hq.out; exact c1
              have HCH := Lib.hid (HC wr hq.out)
              have HT := HHT.out j hlt
              have HA := HAT.out j hlt
              rw [hx.out] at HA
              clear c1 HC hJ hY HHT HAT
              generalize (hs.getD j []).length = L at *
              cases ho2 : ordB N (hs.getD j [])
              · have e := HT ho2
                rw [ho2] at HCH
                clear HT HA ho2 hx
                subst e
                go_wp2_with (go_at_call 33; refine HCH.out.mono ?_; rintro e w1 ⟨rfl, hq1⟩)
                go_ret
                exact ⟨rfl, hq1⟩
              · rw [ho2] at HCH HA
                have HA2 := Lib.hid HA
                clear HT HA ho2 hx
                go_wp2_with (go_at_call 33; refine HCH.out.mono ?_; rintro e w1 ⟨rfl, hq1⟩)
                go_roundw
                case rel => exact ⟨j + 1, by omega, by go_num, Lib.hid hq1, HA2⟩
                case measure => simp [intOf]; omega
            · have e : j = N := by omega
              subst e
              have e := hY.out hx.out
              clear hJ hY HHT HAT hx
              subst e
              go_wp2
              go_ret
              exact ⟨rfl, hq.out⟩
      · have d3 : ((N : Int) == (M : Int)) = false := by simp; omega
        have e := HLE.out hne
        clear HLO HHI HLE HMI HHT HYE HO HJ HAT
        subst e
        go_wp2
        go_ret
        exact ⟨rfl, 0, rfl⟩
    · have d6 : (6 : Int) < (M : Int) := by omega
      have e := HHI.out m6
      clear HLO HHI HLE HMI HHT HYE HO HJ HAT
      subst e
      go_wp2
      go_ret
      exact ⟨rfl, 0, rfl⟩
  · have d1 : (M : Int) < 1 := by omega
    have e := HLO.out m1
    clear HLO HHI HLE HMI HHT HYE HO HJ HAT
    subst e
    go_wp2
    go_ret
    exact ⟨rfl, 0, rfl⟩
end Go.Proofs.Ytakjkbjooongkaa.Pv
