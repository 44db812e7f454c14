/- The program's test of contents, and both ValidContents. -/
import Derived.Test.YtdclcdokdkeimaaCcon
import Derived.Test.YtdclcdokdkeimaaCshelf
namespace Go.Proofs.Ytdclcdokdkeimaa.Pv
open Go.RowKit
theorem adr_i (x : Int) (w : World) : Calls Try.prog 38 #[.int .i64 x] w (Bl (Tr.isA x) w) := by
  have HB := Lib.hid (btw_i x 0 63 w)
  have e : (decide (0 ≤ x) && decide (x ≤ 63)) = Tr.isA x := rfl
  rw [e] at HB
  clear e
  generalize Tr.isA x = b at *
  go_enter Try.func38, Try.ntmps38
  go_wp2_with (go_at_call 62; refine HB.out.mono ?_; rintro e w' ⟨rfl, rfl⟩)
  go_ret
  exact ⟨rfl, rfl⟩
set_option maxHeartbeats 4000000 in
theorem are_i (a : Option Addr) (c : Nat) (xs : List Int) (w : World) (hl : xs.length ≤ 1048576) (hcap : xs.length ≤ c ∧ c ≤ 9223372036854775807) (hr : Row w a xs) :
    Calls Try.prog 37 #[.slice a xs.length c] w (Bl (conTo xs xs.length) w) := by
  have HC := Lib.hid hr
  have HI := Lib.hid (fun x => adr_i x w)
  have HH := Lib.hid (fun (j b off c' : Nat) (x : Int) (hj : j < xs.length) (ha : a = some ⟨b, off, none⟩) => (show Calls Try.prog 61 #[.slice (some ⟨b, off, none⟩) j c', .int .i64 x] w (Bl ((xs.take j).contains x) w) from
    (Try.slices_has b off j c' xs x w (by omega) (by omega) (fun i hi => by
      obtain ⟨b', off', e, hc, _⟩ := hr i hi
      rw [ha] at e
      injection e with e
      injection e with e1 e2
      subst e1 e2
      exact hc)).mono fun e w' ⟨he, hw⟩ => ⟨he, hw.symm⟩))
  have HNO := Lib.hid (fun j (hj : j < xs.length) (h : okC xs j = false) => conTo_no h xs.length hj)
  have HST := Lib.hid (fun j (h : conTo xs j = true) (h2 : okC xs j = true) => conTo_succ h h2)
  obtain ⟨r, hrr⟩ : ∃ r, conTo xs xs.length = r := ⟨_, rfl⟩
  rw [hrr] at HNO ⊢
  have HR := Lib.hid hrr
  clear hrr
  obtain ⟨hc1, hc2⟩ := hcap
  clear hr
  unfold Row at HC
  generalize hN : xs.length = N at *
  clear hN
  go_enter Try.func37, Try.ntmps37
  go_wp2
  go_loop [3, 4, 7] (fun _ _ i => ∃ j : Nat, j ≤ N ∧ i = .int .i64 (j : Nat) ∧ Hid (conTo xs j = true)) (fun _ _ i => N - (intOf i).toNat)
  case atStart => exact ⟨0, Nat.zero_le _, rfl, Lib.hid rfl⟩
  case round =>
    obtain ⟨j, hj, rfl, hx⟩ := hrel
    by_cases hlt : j < N
    · obtain ⟨b, off, rfl, c2, hb⟩ := HC.out j hlt
      have hI := Lib.hid (HI.out (xs.getD j 0))
      have hH := Lib.hid (fun c' => HH.out j b off c' (xs.getD j 0) hlt rfl)
      have hNo := Lib.hid (HNO.out j hlt)
      have hSt := Lib.hid (HST.out j hx.out)
      have k1 := Lib.hid (okC_one (xs := xs) (j := j))
      have k2 := Lib.hid (okC_out (xs := xs) (j := j))
      have k3 := Lib.hid (okC_has (xs := xs) (j := j))
      have k4 := Lib.hid (okC_yes (xs := xs) (j := j))
      have hjc : j ≤ c := by omega
      have hjc2 : (j : Int) ≤ c := by omega
      clear HC HI HH HNO HST hx
      generalize okC xs j = ok at *
      generalize xs.getD j 0 = u at *
      by_cases hu : u = -1
      · have hx' := Lib.hid (hSt.out (k1.out hu))
        clear HR hNo hSt k1 k2 k3 k4
        subst hu
        go_wp2_with (first | (go_at_call 38; refine hI.out.mono ?_; rintro e w' ⟨rfl, rfl⟩) | (go_at_call 61; refine (hH.out _).mono ?_; rintro e w' ⟨rfl, rfl⟩))
        go_round
        case rel => exact ⟨j + 1, by omega, by go_num, hx'⟩
        case measure => simp [intOf]; omega
      · cases hA : Tr.isA u
        · have e := hNo.out (k2.out hu hA)
          rw [hA] at hI
          clear HR hNo hSt k1 k2 k3 k4 hA
          subst e
          go_wp2_with (first | (go_at_call 38; refine hI.out.mono ?_; rintro e w' ⟨rfl, rfl⟩) | (go_at_call 61; refine (hH.out _).mono ?_; rintro e w' ⟨rfl, rfl⟩))
          go_ret
          exact ⟨rfl, rfl⟩
        · rw [hA] at hI
          cases hcb : (xs.take j).contains u
          · rw [hcb] at hH
            have hx' := Lib.hid (hSt.out (k4.out hA hcb))
            clear HR hNo hSt k1 k2 k3 k4 hA hcb
            go_wp2_with (first | (go_at_call 38; refine hI.out.mono ?_; rintro e w' ⟨rfl, rfl⟩) | (go_at_call 61; refine (hH.out _).mono ?_; rintro e w' ⟨rfl, rfl⟩))
            go_round
            case rel => exact ⟨j + 1, by omega, by go_num, hx'⟩
            case measure => simp [intOf]; omega
          · rw [hcb] at hH
            have e := hNo.out (k3.out hu hcb)
            clear HR hNo hSt k1 k2 k3 k4 hA hcb
            subst e
            go_wp2_with (first | (go_at_call 38; refine hI.out.mono ?_; rintro e w' ⟨rfl, rfl⟩) | (go_at_call 61; refine (hH.out _).mono ?_; rintro e w' ⟨rfl, rfl⟩))
            go_ret
            exact ⟨rfl, rfl⟩
    · have e : j = N := by omega
      subst e
      have e : r = true := HR.out.symm.trans hx.out
      clear hx HC HI HH HNO HST HR
      subst e
      go_wp2
      go_ret
      exact ⟨rfl, rfl⟩
end Go.Proofs.Ytdclcdokdkeimaa.Pv
