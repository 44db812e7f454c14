/- The model's FromRuns. -/
import Derived.Test.YthfgaoojgdikpaaCfr
namespace Go.Proofs.Ythfgaoojgdikpaa.Fr
open Go.RowKit
open Ls (inR)
set_option maxHeartbeats 8000000 in
theorem from_s (a : Option Addr) (c : Nat) (R : List (List Int)) (w : World) (hn : R.length ≤ 1048576) (hr : RdM w a R) :
    Calls Try.prog 23 #[.slice a R.length c] w (Res (frV R).1 (frV R).2 w) := by
  have HC := Lib.hid hr
  have HY := Lib.hid (frs_yes R)
  have HNO := Lib.hid (frV_no R)
  have HPV := Lib.hid (frs_prev R)
  have HL := Lib.hid (frs_len R)
  have HE := Lib.hid (frV_end R)
  have HF0 := Lib.hid (show frs R 0 = some [] from rfl)
  have H0 := Lib.hid (Own.lit0 w)
  clear hr
  unfold RdM at HC
  generalize frV R = V at *
  obtain ⟨rs, ok⟩ := V
  generalize hF : frs R = F at *
  clear hF
  generalize hN : R.length = N at *
  clear hN
  go_enter Try.func23, Try.ntmps23
  go_wp2
  go_loopw [4, 5, 6] (fun v i _ wr => ∃ (j : Nat) (out : List Int), j ≤ N ∧ i = .int .i64 (j : Nat) ∧ Hid (F j = some out) ∧ Hid (Own wr w.heap.size v out) ∧ Hid (Below w.heap.size w wr)) (fun _ i _ _ => N - (intOf i).toNat)
  case atStart => exact ⟨0, [], Nat.zero_le _, rfl, HF0, H0, (Below.refl _ _).alloc (Nat.le_refl _) _⟩
  case round =>
    obtain ⟨j, out, hj, rfl, hf, hO, hb⟩ := hrel
    by_cases hlt : j < N
    · obtain ⟨b, off, A, C, rfl, hcw, hrow, hbl⟩ := HC.out j hlt
      have hc := (hb.out.cell (p := ⟨b, off + j, none⟩) hbl).trans hcw
      have hlen := HL.out j out hf.out
      have HNOJ := Lib.hid (fun ho => HNO.out j out hf.out hlt ho)
      by_cases h2 : (R.getD j []).length = 2
      · obtain ⟨br, offr, rfl, e0w, e1w⟩ := two_cells hrow h2
        have HOK := Lib.hid (fun ha hb hc => okR_yes (R := R) (j := j) (out := out) h2 ha hb hc)
        have HLOW := Lib.hid (fun h => okR_low (R := R) (j := j) (out := out) h)
        have HHIGH := Lib.hid (fun h => okR_high (R := R) (j := j) (out := out) h)
        have HEQ := Lib.hid (fun h0 h => okR_eq (R := R) (j := j) (out := out) h0 h)
        have HYJ := Lib.hid (fun ho => HY.out j out hf.out ho)
        rw [h2] at hc hcw
        have hb0 := World.block_lt_of_cell? w _ e0w
        have HCW := Lib.hid (fun (w' : World) (h : Below w.heap.size w w') => (show w'.cell? ⟨b, off + j, none⟩ = some (.slice (some ⟨br, offr, none⟩) 2 C) ∧ w'.cell? ⟨br, offr, none⟩ = some (.int .i64 (r0 (R.getD j []))) ∧ w'.cell? ⟨br, offr + 1, none⟩ = some (.int .i64 (r1 (R.getD j []))) from
          ⟨(h.cell (p := ⟨b, off + j, none⟩) hbl).trans hcw, (h.cell (p := ⟨br, offr, none⟩) hb0).trans e0w, (h.cell (p := ⟨br, offr + 1, none⟩) hb0).trans e1w⟩))
        obtain ⟨_, e0, e1⟩ := HCW.out wr hb.out
        clear h2 hrow e0w e1w hcw
        generalize hxx : r0 (R.getD j []) = x at *
        have HXX := Lib.hid hxx
        clear hxx
        generalize r1 (R.getD j []) = y at *
        have hI := Lib.hid (fun n => (in80_s y (wr.drewN n)).mono (R' := fun e w' => e = .returned (.bool (in80 y)) ∧ ∃ m, w' = wr.drewN m) fun e w' ⟨he, hw⟩ => ⟨he, n, hw.symm⟩)
        cases hb80 : in80 y
        · have hV := HNOJ.out (by
            unfold in80 at hb80
            by_cases h1 : 1 ≤ y
            · exact HHIGH.out (by rw [decide_eq_true h1, Bool.true_and, decide_eq_false_iff_not] at hb80; omega)
            · exact HLOW.out h1)
          injection hV with hv1 hv2
          subst hv1 hv2
          rw [hb80] at hI
          clear hb80 HNO HE HNOJ HHIGH HLOW HEQ HOK HYJ HCW
          go_wp2
          go_quiet (exact hI.out _)
          go_wp2
          go_ret2
          exact ⟨_, rfl, Own.nil _ _, below_drewN _ hb.out⟩
        · rw [hb80] at hI
          have h80 : 1 ≤ y ∧ y ≤ 80 := by unfold in80 at hb80; simpa using hb80
          clear hb80
          obtain ⟨k, rfl⟩ : ∃ k : Nat, y = (k : Nat) := ⟨y.toNat, by omega⟩
          cases j with
          | zero =>
            have hc3 : wr.cell? ⟨b, off, none⟩ = some (.slice (some ⟨br, offr, none⟩) 2 C) := hc
            have HCW3 := Lib.hid (fun (w' : World) (h : Below w.heap.size w w') => (show w'.cell? ⟨b, off, none⟩ = some (.slice (some ⟨br, offr, none⟩) 2 C) ∧ _ from HCW.out w' h))
            clear HCW
            have HCW := HCW3
            clear HCW3
            have ez : ((0 : Nat) : Int) = 0 := rfl
            rw [ez]
            clear hc ez
            go_wp2
            go_quiet (exact hI.out _)
            have hOq := Lib.hid (Own.drewN hO.out nq)
            have hbq := Lib.hid (below_drewN nq hb.out)
            clear hc3 e0 e1 hI
            generalize wr.drewN nq = wq at *
            go_wp2
            generalize hk : out.length = lo at *
            have HLO := Lib.hid hk
            clear hk
            have HX := Lib.hid (show ∀ m : Nat, m ≤ k → (out ++ List.replicate m x).length = lo + m from fun m _ => by rw [List.length_append, List.length_replicate, HLO.out])
            have HRS := Lib.hid (fun m : Nat => (show out ++ List.replicate (m + 1) x = (out ++ List.replicate m x) ++ [x] by rw [List.replicate_succ', List.append_assoc]))
            go_loopw [4, 6] (fun v kk wr2 => ∃ m : Nat, m ≤ k ∧ kk = .int .i64 (m : Nat) ∧ lo + m ≤ 80 ∧ Hid (Own wr2 w.heap.size v (out ++ List.replicate m x)) ∧ Hid (Below w.heap.size w wr2)) (fun _ kk _ => k - (intOf kk).toNat)
            case atStart => exact ⟨0, Nat.zero_le _, rfl, by omega, (by simpa using hOq), hbq⟩
            case round =>
              obtain ⟨m, hm, rfl, hlm, hO2, hb2⟩ := hrel
              obtain ⟨z1, z2, z3⟩ := HCW.out _ hb2.out
              by_cases hmk : m < k
              · obtain ⟨av, cv, ev⟩ := Own.form hO2.out
                rw [HX.out m hm] at ev
                subst ev
                by_cases h80 : lo + m = 80
                · have hV := HNOJ.out (HHIGH.out (by omega))
                  injection hV with hv1 hv2
                  subst hv1 hv2
                  have hq80 : (((lo + m : Nat) : Int) == 80) = true := by rw [h80]; rfl
                  have hq81 : ((lo : Int) + (m : Int) == 80) = true := by rw [beq_iff_eq]; omega
                  clear HNO HE HNOJ HHIGH HLOW HEQ HOK HYJ h80
                  go_wp2
                  go_ret2
                  exact ⟨_, rfl, Own.nil _ _, hb2.out⟩
                · have hq80 : (((lo + m : Nat) : Int) == 80) = false := by rw [beq_eq_false_iff_ne]; omega
                  have hq81 : ((lo : Int) + (m : Int) == 80) = false := by rw [beq_eq_false_iff_ne]; omega
                  have o5 := hO2.out
                  have hlen5 : (out ++ List.replicate m x).length + 1 ≤ 1000000000 := by rw [HX.out m hm]; omega
                  have hsz5 := hb2.out.size
                  have HR5 := Lib.hid (HRS.out m)
                  generalize out ++ List.replicate m x = L at *
                  go_wp2_with (at_builtin; refine wpList_app _ rfl _ _ rfl w.heap.size _ L _ ?_ ?_ o5 hlen5 hsz5 ?_; rfl; rfl)
                  intro v' w6 ho6 hb6
                  go_wp2
                  go_roundw
                  case rel => exact ⟨m + 1, by omega, by go_num, by omega, (by rw [HR5.out]; exact ho6), hb2.out.trans hb6⟩
                  case measure => simp [intOf]; omega
              · have em : m = k := by omega
                subst em
                have hnew := HYJ.out (HOK.out (by omega) (by omega) (by first | exact .inl trivial | exact .inl rfl | trivial))
                rw [Int.toNat_natCast] at hnew
                have HNEW := Lib.hid hnew
                clear hnew
                go_wp2
                go_roundw
                case rel => exact ⟨0 + 1, _, by omega, by go_num, HNEW, hO2, hb2⟩
                case measure => simp [intOf] <;> omega
          | succ j =>
            have h2p := HPV.out j out hf.out
            obtain ⟨b', off', A', C', eb, hcp, hrp, hbp⟩ := HC.out j (by omega)
            injection eb with eb
            injection eb with eb1 eb2
            subst eb1 eb2
            obtain ⟨bp, offp, rfl, p0w, _⟩ := two_cells hrp h2p
            rw [h2p] at hcp
            have hp1 := (hb.out.cell (p := ⟨b, off + j, none⟩) hbl).trans hcp
            have hp0 := (hb.out.cell (p := ⟨bp, offp, none⟩) (World.block_lt_of_cell? w _ p0w)).trans p0w
            have ej : j + 1 - 1 = j := rfl
            have HEQJ := Lib.hid (fun h => HEQ.out (by omega) h)
            rw [ej] at HEQJ
            have HOKJ := Lib.hid (fun ha hb h => HOK.out ha hb (.inr h))
            rw [ej] at HOKJ
            clear h2p hrp hcp p0w ej HOK HEQ
            generalize r0 (R.getD j []) = xp at *
            have hgt : (0 : Int) < (j : Int) + 1 := by omega
            have e9 : IntKind.i64.wrap ((j : Int) + 1 - 1) = (j : Int) := by rw [IntWalk.i64_in _ (by omega)]; omega
            by_cases hxe : x = xp
            · subst hxe
              have hV := HNOJ.out (HEQJ.out rfl)
              injection hV with hv1 hv2
              subst hv1 hv2
              clear HNO HE HNOJ HHIGH HLOW HYJ HCW HOKJ HEQJ
              go_wp2
              go_quiet (exact hI.out _)
              go_wp2
              go_ret2
              exact ⟨_, rfl, Own.nil _ _, below_drewN _ hb.out⟩
            · have hxb : (x == xp) = false := beq_eq_false_iff_ne.2 hxe
              have hxb2 : (xp == x) = false := beq_eq_false_iff_ne.2 (fun h => hxe h.symm)
              have HOK := Lib.hid (fun (ha : (1 : Int) ≤ (k : Nat)) hb (_ : True) => HOKJ.out ha hb hxe)
              have HEQ := HEQJ
              clear HEQJ HOKJ hxe
              go_wp2
              go_quiet (exact hI.out _)
              have hOq := Lib.hid (Own.drewN hO.out nq)
              have hbq := Lib.hid (below_drewN nq hb.out)
              clear hc e0 e1 hI hp1 hp0
              generalize wr.drewN nq = wq at *
              go_wp2
              generalize hk : out.length = lo at *
              have HLO := Lib.hid hk
              clear hk
              have HX := Lib.hid (show ∀ m : Nat, m ≤ k → (out ++ List.replicate m x).length = lo + m from fun m _ => by rw [List.length_append, List.length_replicate, HLO.out])
              have HRS := Lib.hid (fun m : Nat => (show out ++ List.replicate (m + 1) x = (out ++ List.replicate m x) ++ [x] by rw [List.replicate_succ', List.append_assoc]))
              go_loopw [4, 6] (fun v kk wr2 => ∃ m : Nat, m ≤ k ∧ kk = .int .i64 (m : Nat) ∧ lo + m ≤ 80 ∧ Hid (Own wr2 w.heap.size v (out ++ List.replicate m x)) ∧ Hid (Below w.heap.size w wr2)) (fun _ kk _ => k - (intOf kk).toNat)
              case atStart => exact ⟨0, Nat.zero_le _, rfl, by omega, (by simpa using hOq), hbq⟩
              case round =>
                obtain ⟨m, hm, rfl, hlm, hO2, hb2⟩ := hrel
                obtain ⟨z1, z2, z3⟩ := HCW.out _ hb2.out
                by_cases hmk : m < k
                · obtain ⟨av, cv, ev⟩ := Own.form hO2.out
                  rw [HX.out m hm] at ev
                  subst ev
                  by_cases h80 : lo + m = 80
                  · have hV := HNOJ.out (HHIGH.out (by omega))
                    injection hV with hv1 hv2
                    subst hv1 hv2
                    have hq80 : (((lo + m : Nat) : Int) == 80) = true := by rw [h80]; rfl
                    have hq81 : ((lo : Int) + (m : Int) == 80) = true := by rw [beq_iff_eq]; omega
                    clear HNO HE HNOJ HHIGH HLOW HEQ HOK HYJ h80
                    go_wp2
                    go_ret2
                    exact ⟨_, rfl, Own.nil _ _, hb2.out⟩
                  · have hq80 : (((lo + m : Nat) : Int) == 80) = false := by rw [beq_eq_false_iff_ne]; omega
                    have hq81 : ((lo : Int) + (m : Int) == 80) = false := by rw [beq_eq_false_iff_ne]; omega
                    have o5 := hO2.out
                    have hlen5 : (out ++ List.replicate m x).length + 1 ≤ 1000000000 := by rw [HX.out m hm]; omega
                    have hsz5 := hb2.out.size
                    have HR5 := Lib.hid (HRS.out m)
                    generalize out ++ List.replicate m x = L at *
                    go_wp2_with (at_builtin; refine wpList_app _ rfl _ _ rfl w.heap.size _ L _ ?_ ?_ o5 hlen5 hsz5 ?_; rfl; rfl)
                    intro v' w6 ho6 hb6
                    go_wp2
                    go_roundw
                    case rel => exact ⟨m + 1, by omega, by go_num, by omega, (by rw [HR5.out]; exact ho6), hb2.out.trans hb6⟩
                    case measure => simp [intOf]; omega
                · have em : m = k := by omega
                  subst em
                  have hnew := HYJ.out (HOK.out (by omega) (by omega) trivial)
                  rw [Int.toNat_natCast] at hnew
                  have HNEW := Lib.hid hnew
                  clear hnew
                  go_wp2
                  go_roundw
                  case rel => exact ⟨j + 1 + 1, _, by omega, by go_num, HNEW, hO2, hb2⟩
                  case measure => simp [intOf] <;> omega
      · have hV := HNOJ.out (okR_len h2)
        injection hV with hv1 hv2
        subst hv1 hv2
        have hne : (((R.getD j []).length : Int) != 2) = true := bne_iff_ne.2 (by omega)
        clear h2 HNO HE
        generalize (R.getD j []).length = d at *
        go_wp2
        go_quiet (fail)
        go_wp2
        go_ret2
        exact ⟨_, rfl, Own.nil _ _, below_drewN _ hb.out⟩
    · have e : j = N := by omega
      subst e
      have hV := HE.out out hf.out
      have hlen := HL.out j out hf.out
      have hLL := Lib.hid (l01List_own hO.out hlen)
      cases hall : out.all inR
      · rw [hall] at hV hLL
        injection hV with hv1 hv2
        subst hv1 hv2
        clear HNO HE hall
        go_wp2_with (go_at_call 53; refine hLL.out.mono ?_; rintro e w' ⟨rfl, rfl⟩)
        go_ret2
        exact ⟨_, rfl, Own.nil _ _, hb.out⟩
      · rw [hall] at hV hLL
        injection hV with hv1 hv2
        subst hv1 hv2
        clear HNO HE hall
        go_wp2_with (go_at_call 53; refine hLL.out.mono ?_; rintro e w' ⟨rfl, rfl⟩)
        go_ret2
        exact ⟨_, rfl, hO.out, hb.out⟩
end Go.Proofs.Ythfgaoojgdikpaa.Fr
