/- The program's test of contents, and both ValidContents. -/
import Derived.Test.YtellclgpejmmaaaCcon
import Derived.Test.YtellclgpejmmaaaCshelf
namespace Go.Proofs.Ytellclgpejmmaaa.Pv
open Go.RowKit
theorem adr_i (x : Int) (w : World) : Calls Try.prog 36 #[.int .i64 x] w (Bl (Tr.isA x) w) := by
  have HB := Lib.hid (btw_i x 0 63 w)
  have e : (decide (0 ≤ x) && decide (x ≤ 63)) = Tr.isA x := rfl
  rw [e] at HB
  clear e
  generalize Tr.isA x = b at *
  go_enter Try.func36, Try.ntmps36
  go_wp2_with (go_at_call 39; refine HB.out.mono ?_; rintro e w' ⟨rfl, rfl⟩)
  go_ret
  exact ⟨rfl, rfl⟩
set_option maxHeartbeats 4000000 in
theorem are_i (a : Option Addr) (c : Nat) (xs : List Int) (w : World) (hl : xs.length ≤ 1048576) (hcap : xs.length ≤ c ∧ c ≤ 9223372036854775807) (hr : Row w a xs) :
    Calls Try.prog 35 #[.slice a xs.length c] w (Bl (conTo xs xs.length) w) := by
  have HC := Lib.hid hr
  have HI := Lib.hid (fun x => adr_i x w)
  have HH := Lib.hid (fun (j b off c' : Nat) (x : Int) (hj : j < xs.length) (ha : a = some ⟨b, off, none⟩) => (show Calls Try.prog 44 #[.slice (some ⟨b, off, none⟩) j c', .int .i64 x] w (Bl ((xs.take j).contains x) w) from
    (Try.slices_has b off j c' xs x w (by omega) (by omega) (fun i hi => by
      obtain ⟨b', off', e, hc, _⟩ := hr i hi
      rw [ha] at e
      injection e with e
      injection e with e1 e2
      subst e1 e2
      exact hc)).mono fun e w' ⟨he, hw⟩ => ⟨he, hw.symm⟩))
  have HNO := Lib.hid (fun j (hj : j < xs.length) (h : okC xs j = false) => conTo_no h xs.length hj)
  have HST := Lib.hid (fun j (h : conTo xs j = true) (h2 : okC xs j = true) => conTo_succ h h2)
  obtain ⟨r, hrr⟩ : ∃ r, conTo xs xs.length = r := ⟨_, rfl⟩
  rw [hrr] at HNO ⊢
  have HR := Lib.hid hrr
  clear hrr
  obtain ⟨hc1, hc2⟩ := hcap
  clear hr
  unfold Row at HC
  generalize hN : xs.length = N at *
  clear hN
  go_enter Try.func35, Try.ntmps35
  go_wp2
  go_loop [3, 4, 7] (fun _ _ i => ∃ j : Nat, j ≤ N ∧ i = .int .i64 (j : Nat) ∧ Hid (conTo xs j = true)) (fun _ _ i => N - (intOf i).toNat)
  case atStart => exact ⟨0, Nat.zero_le _, rfl, Lib.hid rfl⟩
  case round =>
    obtain ⟨j, hj, rfl, hx⟩ := hrel
    by_cases hlt : j < N
    · obtain ⟨b, off, rfl, c2, hb⟩ := HC.out j hlt
      have hI := Lib.hid (HI.out (xs.getD j 0))
      have hH := Lib.hid (fun c' => HH.out j b off c' (xs.getD j 0) hlt rfl)
      have hNo := Lib.hid (HNO.out j hlt)
      have hSt := Lib.hid (HST.out j hx.out)
      have k1 := Lib.hid (okC_one (xs := xs) (j := j))
      have k2 := Lib.hid (okC_out (xs := xs) (j := j))
      have k3 := Lib.hid (okC_has (xs := xs) (j := j))
      have k4 := Lib.hid (okC_yes (xs := xs) (j := j))
      have hjc : j ≤ c := by omega
      have hjc2 : (j : Int) ≤ c := by omega
      clear HC HI HH HNO HST hx
      generalize okC xs j = ok at *
      generalize xs.getD j 0 = u at *
      by_cases hu : u = -1
      · have hx' := Lib.hid (hSt.out (k1.out hu))
        clear HR hNo hSt k1 k2 k3 k4
        subst hu
        go_wp2_with (first | (go_at_call 36; refine hI.out.mono ?_; rintro e w' ⟨rfl, rfl⟩) | (go_at_call 44; refine (hH.out _).mono ?_; rintro e w' ⟨rfl, rfl⟩))
        go_round
        case rel => exact ⟨j + 1, by omega, by go_num, hx'⟩
        case measure => simp [intOf]; omega
      · cases hA : Tr.isA u
        · have e := hNo.out (k2.out hu hA)
          rw [hA] at hI
          clear HR hNo hSt k1 k2 k3 k4 hA
          subst e
          go_wp2_with (first | (go_at_call 36; refine hI.out.mono ?_; rintro e w' ⟨rfl, rfl⟩) | (go_at_call 44; refine (hH.out _).mono ?_; rintro e w' ⟨rfl, rfl⟩))
          go_ret
          exact ⟨rfl, rfl⟩
        · rw [hA] at hI
          cases hcb : (xs.take j).contains u
          · rw [hcb] at hH
            have hx' := Lib.hid (hSt.out (k4.out hA hcb))
            clear HR hNo hSt k1 k2 k3 k4 hA hcb
            go_wp2_with (first | (go_at_call 36; refine hI.out.mono ?_; rintro e w' ⟨rfl, rfl⟩) | (go_at_call 44; refine (hH.out _).mono ?_; rintro e w' ⟨rfl, rfl⟩))
            go_round
            case rel => exact ⟨j + 1, by omega, by go_num, hx'⟩
            case measure => simp [intOf]; omega
          · rw [hcb] at hH
            have e := hNo.out (k3.out hu hcb)
            clear HR hNo hSt k1 k2 k3 k4 hA hcb
            subst e
            go_wp2_with (first | (go_at_call 36; refine hI.out.mono ?_; rintro e w' ⟨rfl, rfl⟩) | (go_at_call 44; refine (hH.out _).mono ?_; rintro e w' ⟨rfl, rfl⟩))
            go_ret
            exact ⟨rfl, rfl⟩
    · have e : j = N := by omega
      subst e
      have e : r = true := HR.out.symm.trans hx.out
      clear hx HC HI HH HNO HST HR
      subst e
      go_wp2
      go_ret
      exact ⟨rfl, rfl⟩
set_option maxHeartbeats 4000000 in
set_option maxRecDepth 100000 in
theorem vcon_i {v : Value} {hs : List (List Int)} {ms xs : List Int} {w : World} {a2 : Option Addr} {c2 : Nat} (h : RdP w v hs ms) (hx : Row w a2 xs) (hxl : xs.length ≤ 1048576) (hxc : xs.length ≤ c2 ∧ c2 ≤ 9223372036854775807) :
    Calls Try.prog 19 #[v, .slice a2 xs.length c2] w (Bb (isP hs ms && conB ms.length xs) w) := by
  have h' := h
  obtain ⟨a, c, a', c', rfl, h1, h2, h3, h4, h5⟩ := h'
  have b0 := (Below.refl w.heap.size w).alloc (Nat.le_refl _) (.cells #[.slice a hs.length c, .slice a' ms.length c'] 29)
  have HR := Lib.hid (rules_any (w := w.alloc (.cells #[.slice a hs.length c, .slice a' ms.length c'] 29)) ⟨a, c, a', c', rfl, h1.below b0, h2, h3.below b0, h4, h5⟩)
  unfold RulR at HR
  have HL := Lib.hid (rulC_len (isP hs ms) ms.length hs ms)
  have H1 := Lib.hid (one_rulC (isP hs ms) ms.length hs ms)
  have HC := Lib.hid (fun h : isP hs ms = true => (show (rulC (isP hs ms) ms.length hs ms)[0]? = some (.int .i64 ms.length) by rw [h]; rfl))
  have HA := Lib.hid (fun (w' : World) (hb : Below w.heap.size w w') => are_i a2 c2 xs w' hxl hxc (hx.below hb))
  have HB1 := Lib.hid (fun (h : xs.length = ms.length) => (show conB ms.length xs = conTo xs xs.length by unfold conB; rw [decide_eq_true h]; rfl))
  have HB2 := Lib.hid (fun (h : ¬ xs.length = ms.length) => (show conB ms.length xs = false by unfold conB; rw [decide_eq_false h]; rfl))
  clear h h1 h3 h5 hx hxc
  generalize rulC (isP hs ms) ms.length hs ms = rc at *
  generalize isP hs ms = r at *
  generalize conB ms.length xs = rb at *
  generalize conTo xs xs.length = rt at *
  generalize xs.length = L at *
  generalize hs.length = N at *
  generalize ms.length = M at *
  go_enter Try.func19, Try.ntmps19
  go_wp2_with fail
  refine HR.out.mono ?_; rintro e w1 ⟨rfl, b1⟩
  have B1 := Lib.hid (bt b0 b1)
  clear b0 b1
  go_wp2_with (with_reducible refine wpList_storeB rfl 60 (.tmp 5) (.tmp 10) rfl w1.heap.size 0 rc ?_ ?_ z43 60 ?_ ?_ ?_ ?_ ?_)
  · rfl
  · rfl
  · exact Blk.newAt _ _ _ _ rfl
  · rw [HL.out]; decide
  · rw [HL.out]; exact isz43
  · exact H1.out
  intro w2 hB2 hK
  rw [splice_all _ _ HL.out] at hB2
  have hb2 : Below w.heap.size w w2 := (B1.out.alloc (B1.out.size) _).trans (hK.out.below B1.out.size)
  have HBW := Lib.hid hb2
  clear hb2 hK HR B1
  cases r
  · go_wp2
    go_ret
    exact ⟨rfl, HBW.out⟩
  · have c0 : w2.cell? ⟨w1.heap.size, 0, none⟩ = some (.int .i64 M) := (hB2.out.cell 0).trans (HC.out rfl)
    have HAW := Lib.hid (HA.out w2 HBW.out)
    clear HL H1 HC hB2 HA
    generalize w1.heap.size = X at *
    by_cases hLM : L = M
    · have d : ((L : Int) == (M : Int)) = true := by simp; omega
      have e := HB1.out hLM
      clear HB1 HB2 hLM
      subst e
      go_wp2_with (go_at_call 35; refine HAW.out.mono ?_; rintro e w3 ⟨rfl, rfl⟩)
      go_ret
      exact ⟨ret_bool (by simp), HBW.out⟩
    · have d : ((L : Int) == (M : Int)) = false := by simp; omega
      have e := HB2.out hLM
      clear HB1 HB2 hLM
      subst e
      go_wp2_with (go_at_call 35; refine HAW.out.mono ?_; rintro e w3 ⟨rfl, rfl⟩)
      go_ret
      exact ⟨rfl, HBW.out⟩
end Go.Proofs.Ytellclgpejmmaaa.Pv
