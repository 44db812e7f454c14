/- The walk of laws.FnExactSeedPolicy: the call returns true and writes nothing that was there. -/
import Derived.Test.YthfgaoojgdikpaaCspi
import Derived.Test.YthfgaoojgdikpaaKSeedPolicy
namespace Go.Proofs.Ythfgaoojgdikpaa.fnExactSeedPolicy
open Go.RowKit Sd
def isS (n : Int) : Bool := decide (1 ≤ n) && decide (n ≤ 2147483646)
theorem in_w (n : Int) (w : World) : Calls Try.prog 52 #[.int .i64 n, .int .i64 1, .int .i64 2147483646] w (Bl (isS n) w) := by
  unfold isS
  by_cases h : 1 ≤ n
  · go_enter Try.func52, Try.ntmps52
    go_wp2
    go_ret
    exact ⟨ret_bool (by simp [h]), rfl⟩
  · go_enter Try.func52, Try.ntmps52
    go_wp2
    go_ret
    exact ⟨ret_bool (by simp; omega), rfl⟩
theorem between_w (n : Int) (w : World) : Calls Try.prog 56 #[.int .i64 n, .int .i64 1, .int .i64 2147483646] w (Bl (isS n) w) := by
  unfold isS
  by_cases h : 1 ≤ n
  · go_enter Try.func56, Try.ntmps56
    go_wp2
    go_ret
    exact ⟨ret_bool (by simp [h]), rfl⟩
  · go_enter Try.func56, Try.ntmps56
    go_wp2
    go_ret
    exact ⟨ret_bool (by simp; omega), rfl⟩
theorem seed_sB (n : Int) (w : World) : Calls Try.prog 45 #[.int .i64 n] w (Bl (isS n) w) := by
  have hI := Lib.hid (in_w n w)
  generalize isS n = b at *
  go_enter Try.func45, Try.ntmps45
  go_wp2_with (go_at_call 52; refine hI.out.mono ?_; rintro e w' ⟨rfl, rfl⟩)
  go_ret
  exact ⟨rfl, rfl⟩
theorem seed_iB (n : Int) (w : World) : Calls Try.prog 47 #[.int .i64 n] w (Bl (isS n) w) := by
  have hI := Lib.hid (between_w n w)
  generalize isS n = b at *
  go_enter Try.func47, Try.ntmps47
  go_wp2_with (go_at_call 56; refine hI.out.mono ?_; rintro e w' ⟨rfl, rfl⟩)
  go_ret
  exact ⟨rfl, rfl⟩
theorem isS_nat {n : Int} (h : isS n = true) : ∃ k : Nat, n = (k : Nat) ∧ 1 ≤ k ∧ k ≤ 2147483646 := by
  unfold isS at h
  simp only [Bool.and_eq_true, decide_eq_true_eq] at h
  exact ⟨n.toNat, by omega, by omega, by omega⟩
set_option maxHeartbeats 1000000 in
theorem s_no (n s : Int) (h : isW n = false ∨ isS s = false) (w : World) : Calls Try.prog 20 #[.int .i64 n, .int .i64 s] w (ResP [] [] false w) := by
  have HW := Lib.hid (fun w => ways_s n w)
  have HS := Lib.hid (fun w => seed_sB s w)
  cases hw : isW n
  · rw [hw] at HW
    clear hw h HS
    go_enter Try.func20, Try.ntmps20
    go_wp2_with (go_at_call 35; refine (HW.out _).mono ?_; rintro e w' ⟨rfl, rfl⟩)
    refine bodyPost_ret (v := .tuple #[.agg #[.slice none 0 0, .slice none 0 0], .bool false]) (by simp [results, Try.results20, go_sem]) rfl ⟨_, rfl, OwnP.nil _ _ _, ?_⟩
    go_grown
  · have hs : isS s = false := h.resolve_left (by simp [hw])
    rw [hw] at HW
    rw [hs] at HS
    clear hw h hs
    go_enter Try.func20, Try.ntmps20
    go_wp2_with (first | (go_at_call 35; refine (HW.out _).mono ?_; rintro e w' ⟨rfl, rfl⟩) | (go_at_call 45; refine (HS.out _).mono ?_; rintro e w' ⟨rfl, rfl⟩))
    refine bodyPost_ret (v := .tuple #[.agg #[.slice none 0 0, .slice none 0 0], .bool false]) (by simp [results, Try.results20, go_sem]) rfl ⟨_, rfl, OwnP.nil _ _ _, ?_⟩
    go_grown
set_option maxHeartbeats 1000000 in
theorem i_no (n s : Int) (h : isW n = false ∨ isS s = false) (w : World) : Calls Try.prog 21 #[.int .i64 n, .int .i64 s] w (ResP [] [] false w) := by
  have HW := Lib.hid (fun w => ways_i n w)
  have HS := Lib.hid (fun w => seed_iB s w)
  cases hw : isW n
  · rw [hw] at HW
    clear hw h HS
    go_enter Try.func21, Try.ntmps21
    go_wp2_with (go_at_call 37; refine (HW.out _).mono ?_; rintro e w' ⟨rfl, rfl⟩)
    refine bodyPost_ret (v := .tuple #[.agg #[.slice none 0 0, .slice none 0 0], .bool false]) (by simp [results, Try.results21, go_sem]) rfl ⟨_, rfl, OwnP.nil _ _ _, ?_⟩
    go_grown
  · have hs : isS s = false := h.resolve_left (by simp [hw])
    rw [hw] at HW
    rw [hs] at HS
    clear hw h hs
    go_enter Try.func21, Try.ntmps21
    go_wp2_with (first | (go_at_call 37; refine (HW.out _).mono ?_; rintro e w' ⟨rfl, rfl⟩) | (go_at_call 47; refine (HS.out _).mono ?_; rintro e w' ⟨rfl, rfl⟩))
    refine bodyPost_ret (v := .tuple #[.agg #[.slice none 0 0, .slice none 0 0], .bool false]) (by simp [results, Try.results21, go_sem]) rfl ⟨_, rfl, OwnP.nil _ _ _, ?_⟩
    go_grown
set_option maxHeartbeats 1000000 in
set_option maxRecDepth 100000 in
theorem s_yes (n s : Nat) (h1 : 1 ≤ n) (h6 : n ≤ 6) (hs1 : 1 ≤ s) (hs2 : s ≤ 2147483646) (hw : isW (n : Int) = true) (hs : isS (s : Int) = true) (w : World) : Calls Try.prog 20 #[.int .i64 (n : Nat), .int .i64 (s : Nat)] w (ResP (polS n s n) (rowS n s n) true w) := by
  have HT := Lib.hid (fun w => seed_s n s h1 h6 hs1 hs2 w)
  have HW := Lib.hid (fun w => ways_s (n : Int) w)
  have HS := Lib.hid (fun w => seed_sB (s : Int) w)
  rw [hw] at HW
  rw [hs] at HS
  clear hw hs
  go_enter Try.func20, Try.ntmps20
  go_wp2_with (first | (go_at_call 35; refine (HW.out _).mono ?_; rintro e w' ⟨rfl, rfl⟩) | (go_at_call 45; refine (HS.out _).mono ?_; rintro e w' ⟨rfl, rfl⟩))
  refine (HT.out _).mono ?_
  rintro e w1 ⟨v, rfl, ov, b1⟩
  obtain ⟨a1, n1, c1, a2, n2, c2, fv⟩ := ov.form
  subst fv
  obtain ⟨r0, r1, q0, q1⟩ := resP b1
  have HB := Lib.hid (fun u u' => belP b1 u u')
  have HO := Lib.hid (fun u u' => outP ov u u')
  clear ov b1
  go_wp2
  refine bodyPost_ret (v := .tuple #[.agg #[.slice a1 n1 c1, .slice a2 n2 c2], .bool true]) (by simp [results, Try.results20, go_sem, r0, r1, q0, q1]) rfl ⟨_, rfl, HO.out _ _, HB.out _ _⟩
theorem drewW {w w1 : World} {B T : Nat} (h : Wr B T w.drew w1) : Wr B T w w1 := ⟨h.os, h.tape, h.output, h.size, h.block⟩
set_option maxHeartbeats 4000000 in
set_option maxRecDepth 100000 in
theorem i_yes (n s : Nat) (h1 : 1 ≤ n) (h6 : n ≤ 6) (hs1 : 1 ≤ s) (hs2 : s ≤ 2147483646) (hw : isW (n : Int) = true) (hs : isS (s : Int) = true) (w : World) : Calls Try.prog 21 #[.int .i64 (n : Nat), .int .i64 (s : Nat)] w (ResP (polS n s n) (rowS n s n) true w) := by
  have HW := Lib.hid (fun w => ways_i (n : Int) w)
  have HS := Lib.hid (fun w => seed_iB (s : Int) w)
  rw [hw] at HW
  rw [hs] at HS
  clear hw hs
  have HPL := Lib.hid (fun j => polS_len n s j)
  have HFM := Lib.hid (fun (wr : World) (B : Nat) (v : Value) (vs : List Value) (j : Nat) (h : Own2W wr B v vs (polS n s j)) => Own2W.form h)
  have HST := Lib.hid (PolJ.start w.heap.size n s w rfl)
  have HDR := Lib.hid (fun (j : Nat) (wr : World) (sb wb : Nat) (hne : wb ≠ sb) (hc : wr.cell? ⟨sb, 0, none⟩ = some (.int .i64 (at_ s (j * (n - 1)) : Nat))) (hf : wr.frozen? ⟨sb, 0, none⟩ = false) (hc2 : wr.cell? ⟨wb, 0, none⟩ = some (.int .i64 (n : Nat))) => (show Calls Try.prog 48 #[.pointer (some ⟨sb, 0, none⟩), .pointer (some ⟨wb, 0, none⟩)] wr (Drawn sb (rowS n s j) (at_ s ((j + 1) * (n - 1))) wr) by
    have h := draw_i n (at_ s (j * (n - 1))) sb wb h1 h6 (at_pos' s _ hs1 hs2).1 (at_pos' s _ hs1 hs2).2 wr hne hc hf hc2
    rw [seed_next] at h
    exact h))
  have hn1 : (1 : Int) ≤ (n : Int) := by omega
  have hn6 : (n : Int) ≤ 6 := by omega
  go_enter Try.func21, Try.ntmps21
  go_wp2_with (first | (go_at_call 37; refine (HW.out _).mono ?_; rintro e w' ⟨rfl, rfl⟩) | (go_at_call 47; refine (HS.out _).mono ?_; rintro e w' ⟨rfl, rfl⟩))
  generalize hZ : w.heap.size = Z at *
  have HZ := Lib.hid hZ
  clear hZ
  generalize (((w.alloc (.cells #[.int .i64 (n : Nat)] 2)).alloc (.cells #[.int .i64 (s : Nat)] 2)).alloc (.cells #[.slice none 0 0, .slice none 0 0] 25)).alloc (.cells #[.slice none 0 0, .slice none 0 0] 25) = W0 at *
  rw [show Z + 1 + 1 = Z + 2 from rfl, show Z + 2 + 1 = Z + 3 from rfl]
  go_loopw [19] (fun i wr => ∃ (j : Nat) (v : Value) (vs : List Value), j ≤ n ∧ i = .int .i64 (j : Nat) ∧ Hid (PolJ Z n s w v vs j wr)) (fun i _ => n - (intOf i).toNat)
  case atStart => exact ⟨0, _, [], Nat.zero_le _, rfl, HST⟩
  case round =>
    obtain ⟨j, v, vs, hj, rfl, hI⟩ := hrel
    by_cases hlt : j < n
    · obtain ⟨a, c, hv⟩ := HFM.out _ _ _ _ _ hI.out.1
      rw [HPL.out] at hv
      subst hv
      obtain ⟨_, ⟨c0, c1, f0, f1⟩, ⟨cs, fs⟩, cn, _, _, hz⟩ := id hI.out
      have HD := Lib.hid (HDR.out j wr.drew (Z + 1) Z (by omega) cs fs cn)
      have hlen9 : (polS n s j).length + 1 ≤ 1000000000 := by rw [HPL.out]; omega
      have HAP := Lib.hid (fun (w1 : World) (u : Value) (hu : Own w1 wr.heap.size u (rowS n s j)) (hW : Wr (Z + 1) (Z + 2) wr w1) hc hf => hI.out.draw hu hW hc hf)
      have HSR := Lib.hid (fun (w1 w3 : World) (u v' : Value) (vs' : List Value) (hu : Own w1 wr.heap.size u (rowS n s j)) (hW : Wr (Z + 1) (Z + 2) wr w1) hc hf (ho3 : Own2W w3 (Z + 4) v' vs' (polS n s j ++ [rowS n s j])) (hb3 : Below (Z + 4) w1 w3) => hI.out.store hu hW hc hf ho3 hb3)
      have hl3 : Z + 3 < wr.heap.size := by omega
      clear hI cs fs cn hz
      go_wp2
      go_region_law (first | (refine step_app2W w1 rfl (.tmp 22) (.tmp 25) rfl (Z + 4) (.slice a j c) vs (polS n s j) (.slice ar nr cr) (rowS n s j) (by first | rfl | simp [Act.eval, Act.put]) (by first | rfl | simp [Act.eval, Act.put]) (HAP.out w1 _ hu hW hcs hfs).1.1 (HAP.out w1 _ hu hW hcs hfs).1.2.1 (HAP.out w1 _ hu hW hcs hfs).1.2.2.1 (HAP.out w1 _ hu hW hcs hfs).1.2.2.2.1 hlen9 (HAP.out w1 _ hu hW hcs hfs).1.2.2.2.2 ?_; intro g cap w3 ho3 hb3 hfr3 hg3; obtain ⟨⟨hc3, hf3⟩, hI3⟩ := HSR.out w1 w3 _ _ _ hu hW hcs hfs ho3 hb3) | (go_simp; go_at_call 48; (with_reducible refine HD.out.mono ?_); rintro e w1 ⟨u, rfl, hu, hWd, hcs, hfs⟩; have hW := drewW hWd; obtain ⟨ar, nr, cr, er⟩ := Own.form3 hu; subst er; obtain ⟨k0, k1, k2, k3⟩ := (HAP.out w1 _ hu hW hcs hfs).2.1; have hl4 : Z + 3 < w1.heap.size := Nat.lt_of_lt_of_le hl3 hW.size; have hl5 : Z + 3 < w1.heap.size + 1 := Nat.lt_succ_of_lt hl4))
      all_goals
        rw [HPL.out] at *
        have HI3 := Lib.hid hI3
        clear hI3 ho3 hb3 hfr3 hg3 hu hW hWd hcs hfs k0 k1 k2 k3 hl4 hl5
        go_wp2
        go_roundw
        case rel => exact ⟨j + 1, _, _, by omega, by go_num, HI3⟩
        case measure => simp [intOf]; omega
    · have e : j = n := by omega
      subst e
      obtain ⟨a, c, hv⟩ := HFM.out _ _ _ _ _ hI.out.1
      rw [HPL.out] at hv
      subst hv
      obtain ⟨_, ⟨c0, c1, f0, f1⟩, ⟨cs, fs⟩, cn, _, _, hz⟩ := id hI.out
      have HD := Lib.hid (HDR.out j wr (Z + 1) Z (by omega) cs fs cn)
      have HID := Lib.hid hI.out
      clear hI cs fs cn
      go_wp2_with fail
      refine HD.out.mono ?_
      rintro e w1 ⟨u, rfl, hu, hW, hcs, hfs⟩
      obtain ⟨ar, nr, cr, er⟩ := Own.form3 hu
      subst er
      obtain ⟨_, ⟨k0, k1, k2, k3⟩, _, ⟨r0, r1, q0, q1⟩, hb1⟩ := HID.out.draw hu hW hcs hfs
      have HDN := Lib.hid (fun u1 u2 => HID.out.done hu hW hcs hfs u1 u2)
      have HB := Lib.hid hb1
      clear hb1 hu hW hcs hfs c0 c1 f0 f1
      go_wp2
      refine bodyPost_ret (v := .tuple #[.agg #[.slice a j c, .slice ar nr cr], .bool true]) (by simp [results, Try.results21, go_sem, k0, k1, k2, k3, r0, r1, q0, q1]) rfl ⟨_, rfl, ?_, ?_⟩
      · rw [HZ.out]
        exact HDN.out _ _
      · rw [HZ.out]
        exact ((HB.out.setCell (p := ⟨Z + 3, 1, none⟩) (show Z ≤ Z + 3 by omega) _).setCell (p := ⟨Z + 2, 0, none⟩) (show Z ≤ Z + 2 by omega) _).setCell (p := ⟨Z + 2, 1, none⟩) (show Z ≤ Z + 2 by omega) _
theorem polS_sum (n s : Nat) : ∀ j, ((polS n s j).map List.length).sum = j * n
  | 0 => by simp [polS]
  | j + 1 => by
    rw [polS_succ, List.map_append, List.sum_append, polS_sum n s j]
    simp [rowS_len, Nat.add_mul]
theorem walk (n0 n1 : Int) (w : World) (_ : (Lit.int .i64 n0).wf = true) (_ : (Lit.int .i64 n1).wf = true) : Calls Try.prog 7 #[.int .i64 n0, .int .i64 n1] w fun e w' => e = .returned (.bool true) ∧ Below w.heap.size w w' := by
  cases hw : isW n0
  · exact core n0 n1 [] [] false (by decide) (by decide) (s_no n0 n1 (.inl hw)) (i_no n0 n1 (.inl hw)) w
  · cases hs : isS n1
    · exact core n0 n1 [] [] false (by decide) (by decide) (s_no n0 n1 (.inr hs)) (i_no n0 n1 (.inr hs)) w
    · obtain ⟨n, rfl, h1, h6⟩ := isW_nat hw
      obtain ⟨s, rfl, hs1, hs2⟩ := isS_nat hs
      refine core n s _ _ true ?_ ?_ (s_yes n s h1 h6 hs1 hs2 hw hs) (i_yes n s h1 h6 hs1 hs2 hw hs) w
      · rw [polS_sum]
        have h7 : n = 0 ∨ n = 1 ∨ n = 2 ∨ n = 3 ∨ n = 4 ∨ n = 5 ∨ n = 6 := by omega
        rcases h7 with rfl | rfl | rfl | rfl | rfl | rfl | rfl <;> decide
      · rw [rowS_len]; omega
end Go.Proofs.Ythfgaoojgdikpaa.fnExactSeedPolicy
