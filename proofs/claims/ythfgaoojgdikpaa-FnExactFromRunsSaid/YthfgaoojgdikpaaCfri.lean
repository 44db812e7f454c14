/- The program's FromRuns. -/
import Derived.Test.YthfgaoojgdikpaaCfr
namespace Go.Proofs.Ythfgaoojgdikpaa.Fr
open Go.RowKit
open Ls (inR)
theorem drewB {w w' : World} {B : Nat} (h : Below B w.drew w') : Below B w w' := (Below.refl _ w).drew.trans h
theorem okR_room {R : List (List Int)} {j : Nat} {out : List Int} (h : inRoom (r1 (R.getD j [])) (80 - (out.length : Int)) = false) : okR R j out = false := by
  unfold inRoom at h
  by_cases h1 : 1 ≤ r1 (R.getD j [])
  · rw [decide_eq_true h1, Bool.true_and, decide_eq_false_iff_not] at h
    exact okR_high (by omega)
  · exact okR_low h1
set_option maxHeartbeats 8000000 in
theorem from_i (a : Option Addr) (c : Nat) (R : List (List Int)) (w : World) (hn : R.length ≤ 1048576) (hr : RdM w a R) :
    Calls Try.prog 25 #[.slice a R.length c] w (Res (frV R).1 (frV R).2 w) := by
  have HC := Lib.hid hr
  have HY := Lib.hid (frs_yes R)
  have HNO := Lib.hid (frV_no R)
  have HNUM := Lib.hid (frV_num R)
  have HPV := Lib.hid (frs_prev R)
  have HL := Lib.hid (frs_len R)
  have HE := Lib.hid (frV_end R)
  have HF0 := Lib.hid (show frs R 0 = some [] from rfl)
  have H0 := Lib.hid (Own.nil w w.heap.size)
  clear hr
  unfold RdM at HC
  generalize frV R = V at *
  obtain ⟨rs, ok⟩ := V
  generalize hF : frs R = F at *
  clear hF
  generalize hN : R.length = N at *
  clear hN
  go_enter Try.func25, Try.ntmps25
  go_wp2
  go_loopw [4, 5, 6, 7, 10] (fun v _ _ _ i wr => ∃ (j : Nat) (out : List Int), j ≤ N ∧ i = .int .i64 (j : Nat) ∧ Hid (F j = some out) ∧ Hid (out.all inR = true) ∧ Hid (Own wr w.heap.size v out) ∧ Hid (Below w.heap.size w wr)) (fun _ _ _ _ i _ => N - (intOf i).toNat)
  case atStart => exact ⟨0, [], Nat.zero_le _, rfl, HF0, Lib.hid rfl, H0, Below.refl _ _⟩
  case round =>
    obtain ⟨j, out, hj, rfl, hf, hal, hO, hb⟩ := hrel
    by_cases hlt : j < N
    · obtain ⟨b, off, A, C, rfl, hcw, hrow, hbl⟩ := HC.out j hlt
      have hc := (hb.out.cell (p := ⟨b, off + j, none⟩) hbl).trans hcw
      have hlen := HL.out j out hf.out
      have HNOJ := Lib.hid (fun ho => HNO.out j out hf.out hlt ho)
      obtain ⟨av, cv, ev⟩ := Own.form hO.out
      subst ev
      by_cases h2 : (R.getD j []).length = 2
      · have HNUMJ := Lib.hid (fun hb => HNUM.out j out hf.out hlt h2 hb)
        obtain ⟨br, offr, rfl, e0w, e1w⟩ := two_cells hrow h2
        have HOK := Lib.hid (fun ha hb hc => okR_yes (R := R) (j := j) (out := out) h2 ha hb hc)
        have HROOM := Lib.hid (fun h => okR_room (R := R) (j := j) (out := out) h)
        have HEQ := Lib.hid (fun h0 h => okR_eq (R := R) (j := j) (out := out) h0 h)
        have HYJ := Lib.hid (fun ho => HY.out j out hf.out ho)
        rw [h2] at hc hcw
        have hb0 := World.block_lt_of_cell? w _ e0w
        have hb0 : br < w.heap.size := hb0
        have HCW := Lib.hid (fun (w' : World) (h : Below w.heap.size w w') => (show w'.cell? ⟨br, offr, none⟩ = some (.int .i64 (r0 (R.getD j []))) ∧ w'.cell? ⟨br, offr + 1, none⟩ = some (.int .i64 (r1 (R.getD j []))) from
          ⟨(h.cell (p := ⟨br, offr, none⟩) hb0).trans e0w, (h.cell (p := ⟨br, offr + 1, none⟩) hb0).trans e1w⟩))
        obtain ⟨e0, e1⟩ := HCW.out wr hb.out
        clear h2 hrow e0w e1w hcw
        generalize hxx : r0 (R.getD j []) = x at *
        clear hxx
        generalize r1 (R.getD j []) = y at *
        have hNum := Lib.hid (fun w => Ls.in_any x w)
        have hRoom := Lib.hid (fun w => room_i y (80 - (out.length : Int)) w)
        have hlI : (out.length : Int) ≤ 80 := by omega
        cases hnx : inR x
        · have hV := HNUMJ.out hnx
          injection hV with hv1 hv2
          subst hv1 hv2
          rw [hnx] at hNum
          clear hnx HNO HE HNOJ HEQ HOK HYJ HCW HROOM HNUM HNUMJ hRoom
          generalize out.length = lo at *
          go_wp2_with (go_at_call 55; refine (hNum.out _).mono ?_; rintro e w' ⟨rfl, rfl⟩)
          go_ret2
          exact ⟨_, rfl, Own.nil _ _, hb.out⟩
        · have HNX := Lib.hid hnx
          rw [hnx] at hNum
          cases hrm : inRoom y (80 - (out.length : Int))
          · have hV := HNOJ.out (HROOM.out hrm)
            injection hV with hv1 hv2
            subst hv1 hv2
            rw [hrm] at hRoom
            clear hnx hrm HNO HE HNOJ HEQ HOK HYJ HCW HROOM HNUM HNUMJ
            generalize out.length = lo at *
            go_wp2_with (first | (go_at_call 55; refine (hNum.out _).mono ?_; rintro e w' ⟨rfl, rfl⟩) | (go_at_call 56; refine (hRoom.out _).mono ?_; rintro e w' ⟨rfl, rfl⟩))
            go_ret2
            exact ⟨_, rfl, Own.nil _ _, hb.out⟩
          · have h80 : 1 ≤ y ∧ y ≤ 80 - (out.length : Int) := by unfold inRoom at hrm; simpa using hrm
            rw [hrm] at hRoom
            clear hrm hnx
            obtain ⟨k, rfl⟩ : ∃ k : Nat, y = (k : Nat) := ⟨y.toNat, by omega⟩
            have HAP := Lib.hid (fun (wq : World) (ho : Own wq w.heap.size (.slice av out.length cv) out) (hs : w.heap.size ≤ wq.heap.size) => append_i w.heap.size (.slice av out.length cv) out x k wq hs ho (by omega))
            have HAL := Lib.hid (show (out ++ List.replicate k x).all inR = true by rw [List.all_append, hal.out, Bool.true_and, List.all_eq_true]; intro q hq; rw [(List.mem_replicate.1 hq).2]; exact HNX.out)
            cases j with
            | zero =>
              have hc3 : wr.cell? ⟨b, off, none⟩ = some (.slice (some ⟨br, offr, none⟩) 2 C) := hc
              have ez : ((0 : Nat) : Int) = 0 := rfl
              have hnew := HYJ.out (HOK.out (by omega) (by omega) (.inl rfl))
              rw [Int.toNat_natCast] at hnew
              have HNEW := Lib.hid hnew
              rw [ez]
              clear hc ez hnew
              generalize out.length = lo at *
              go_wp2_with (first | (go_at_call 55; refine (hNum.out _).mono ?_; rintro e w' ⟨rfl, rfl⟩) | (go_at_call 56; refine (hRoom.out _).mono ?_; rintro e w' ⟨rfl, rfl⟩))
              go_quiet (fail)
              have HOq := Lib.hid (show Own (wr.drewN nq) w.heap.size (.slice av lo cv) out from hO.out)
              have HBq := Lib.hid (below_drewN nq hb.out)
              generalize wr.drewN nq = wq at *
              obtain ⟨q0, q1⟩ := HCW.out wq HBq.out
              have hod : Own wq.drew w.heap.size (.slice av lo cv) out := HOq.out
              have hsd : w.heap.size ≤ wq.drew.heap.size := HBq.out.size
              have HCALL := Lib.hid (HAP.out wq.drew hod hsd)
              clear hod hsd e0 e1 hO hb
              go_wp2
              go_region_held3 (fun w' => w'.cell? ⟨br, offr, none⟩ = some (.int .i64 x) ∧ w'.cell? ⟨br, offr + 1, none⟩ = some (.int .i64 (k : Nat))) (first | exact ⟨q0, q1⟩ | exact HCW.out _ (HBq.out.trans (drewB hb6))) (first | (go_at_call 57; (with_reducible refine HCALL.out.mono ?_); rintro e w6 ⟨v', rfl, ho6, hb6⟩))
              go_wp2
              go_roundw
              case rel => exact ⟨0 + 1, _, by omega, by go_num, HNEW, HAL, ho6, HBq.out.trans (drewB hb6)⟩
              case measure => simp [intOf] <;> omega
            | succ j =>
              have h2p := HPV.out j out hf.out
              obtain ⟨b', off', A', C', eb, hcp, hrp, hbp⟩ := HC.out j (by omega)
              injection eb with eb
              injection eb with eb1 eb2
              subst eb1 eb2
              obtain ⟨bp, offp, rfl, p0w, _⟩ := two_cells hrp h2p
              rw [h2p] at hcp
              have hp1 := (hb.out.cell (p := ⟨b, off + j, none⟩) hbl).trans hcp
              have hp0 := (hb.out.cell (p := ⟨bp, offp, none⟩) (World.block_lt_of_cell? w _ p0w)).trans p0w
              have ej : j + 1 - 1 = j := rfl
              have HEQJ := Lib.hid (fun h => HEQ.out (by omega) h)
              rw [ej] at HEQJ
              have HOKJ := Lib.hid (fun ha hb h => HOK.out ha hb (.inr h))
              rw [ej] at HOKJ
              clear h2p hrp hcp p0w ej HOK HEQ
              generalize r0 (R.getD j []) = xp at *
              have hgt : (0 : Int) < (j : Int) + 1 := by omega
              have e9 : IntKind.i64.wrap ((j : Int) + 1 - 1) = (j : Int) := by rw [IntWalk.i64_in _ (by omega)]; omega
              by_cases hxe : x = xp
              · subst hxe
                have hV := HNOJ.out (HEQJ.out rfl)
                injection hV with hv1 hv2
                subst hv1 hv2
                clear HNO HE HNOJ HYJ HCW HOKJ HEQJ HNUM HNUMJ HROOM HAP HAL
                generalize out.length = lo at *
                go_wp2_with (first | (go_at_call 55; refine (hNum.out _).mono ?_; rintro e w' ⟨rfl, rfl⟩) | (go_at_call 56; refine (hRoom.out _).mono ?_; rintro e w' ⟨rfl, rfl⟩))
                go_quiet (fail)
                go_wp2
                go_ret2
                exact ⟨_, rfl, Own.nil _ _, below_drewN _ hb.out⟩
              · have hxb : (x == xp) = false := beq_eq_false_iff_ne.2 hxe
                have hxb2 : (xp == x) = false := beq_eq_false_iff_ne.2 (fun h => hxe h.symm)
                have hnew := HYJ.out (HOKJ.out (by omega) (by omega) hxe)
                rw [Int.toNat_natCast] at hnew
                have HNEW := Lib.hid hnew
                clear HEQJ HOKJ hxe hnew
                generalize out.length = lo at *
                go_wp2_with (first | (go_at_call 55; refine (hNum.out _).mono ?_; rintro e w' ⟨rfl, rfl⟩) | (go_at_call 56; refine (hRoom.out _).mono ?_; rintro e w' ⟨rfl, rfl⟩))
                go_quiet (fail)
                have HOq := Lib.hid (show Own (wr.drewN nq) w.heap.size (.slice av lo cv) out from hO.out)
                have HBq := Lib.hid (below_drewN nq hb.out)
                generalize wr.drewN nq = wq at *
                obtain ⟨q0, q1⟩ := HCW.out wq HBq.out
                have hod : Own wq.drew w.heap.size (.slice av lo cv) out := HOq.out
                have hsd : w.heap.size ≤ wq.drew.heap.size := HBq.out.size
                have HCALL := Lib.hid (HAP.out wq.drew hod hsd)
                clear hod hsd e0 e1 hO hb
                go_wp2
                go_region_held3 (fun w' => w'.cell? ⟨br, offr, none⟩ = some (.int .i64 x) ∧ w'.cell? ⟨br, offr + 1, none⟩ = some (.int .i64 (k : Nat))) (first | exact ⟨q0, q1⟩ | exact HCW.out _ (HBq.out.trans (drewB hb6))) (first | (go_at_call 57; (with_reducible refine HCALL.out.mono ?_); rintro e w6 ⟨v', rfl, ho6, hb6⟩))
                go_wp2
                go_roundw
                case rel => exact ⟨j + 1 + 1, _, by omega, by go_num, HNEW, HAL, ho6, HBq.out.trans (drewB hb6)⟩
                case measure => simp [intOf] <;> omega
      · have hV := HNOJ.out (okR_len h2)
        injection hV with hv1 hv2
        subst hv1 hv2
        have hne : (((R.getD j []).length : Int) != 2) = true := bne_iff_ne.2 (by omega)
        have hlI : (out.length : Int) ≤ 80 := by omega
        clear h2 HNO HE HNUM
        generalize (R.getD j []).length = d at *
        generalize out.length = lo at *
        go_wp2
        go_ret2
        exact ⟨_, rfl, Own.nil _ _, hb.out⟩
    · have e : j = N := by omega
      subst e
      have hV := HE.out out hf.out
      rw [hal.out] at hV
      injection hV with hv1 hv2
      subst hv1 hv2
      clear HNO HE HNUM
      go_wp2
      go_ret2
      exact ⟨_, rfl, hO.out, hb.out⟩
end Go.Proofs.Ythfgaoojgdikpaa.Fr
