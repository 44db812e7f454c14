/- The program's RankContents. -/
import Derived.Test.YtbajnkojjeakgaaCwog
namespace Go.Proofs.Ytbajnkojjeakgaa.Tr
open Go.RowKit Go.Lib
theorem bs_own {w : World} {B : Nat} {v : Value} {s : List Int} (x : Int) (ho : Own w B v s) (hup : Up s) (hl : s.length ≤ 1000) :
    Calls Try.prog 38 #[v, .int .i64 x] w fun e w' => e = .returned (.tuple #[.int .i64 (below s x : Nat), .bool (s.contains x)]) ∧ ∃ q, w' = w.drewN q := by
  obtain ⟨a, c, rfl, _, _, hr⟩ := ho.rd
  exact bs_i a c s x w hup hl hr
theorem put_own {w : World} {B : Nat} {v : Value} {s : List Int} (x : Int) (ho : Own w B v s) (hup : Up s) (hx : x ∉ s) (hl : s.length ≤ 1000) (hB : B ≤ w.heap.size) :
    Calls Try.prog 40 #[v, .int .i64 (below s x : Nat), .slice (some ⟨w.heap.size, 0, none⟩) 1 1] (w.alloc (.cells #[.int .i64 x] 2)) fun e w' => ∃ v', e = .returned v' ∧ Own w' B v' (put s x) ∧ Below B w w' := by
  rw [put_new hup hx]
  exact ins_own ho (below s x) (below_le s x) x hB hl
theorem put_ownD {w : World} {B : Nat} {v : Value} {s : List Int} (x : Int) (q : Nat) (ho : Own w B v s) (hup : Up s) (hx : x ∉ s) (hl : s.length ≤ 1000) (hB : B ≤ w.heap.size) :
    Calls Try.prog 40 #[v, .int .i64 (below s x : Nat), .slice (some ⟨w.heap.size, 0, none⟩) 1 1] ((w.drewN q).alloc (.cells #[.int .i64 x] 2)) fun e w' => ∃ v', e = .returned v' ∧ Own w' B v' (put s x) ∧ Below B (w.drewN q) w' :=
  put_own x (ho.drewN q) hup hx hl hB
theorem has_of {s : List Int} {x : Int} (h : x ∈ s) : s.contains x = true := by rw [List.contains_eq_mem]; exact decide_eq_true h
theorem has_not {s : List Int} {x : Int} (h : x ∉ s) : s.contains x = false := by rw [List.contains_eq_mem]; exact decide_eq_false h
theorem okRk_nodup {rs : List Int} (h : okRk rs = true) : rs.Nodup := by
  unfold okRk at h
  rw [Bool.and_eq_true, Bool.and_eq_true] at h
  exact of_decide_eq_true h.2.2
set_option maxHeartbeats 4000000 in
set_option maxRecDepth 100000 in
theorem rcon_yes_i {v u : Value} {rs xs : List Int} {w : World} (n : Nat) (hn1 : 1 ≤ n) (hn6 : n ≤ 60) (hq : Rd w v rs) (h : Rd w u xs) (hrk : okRk rs = true) (hok : okU xs = true) :
    Calls Try.prog 9 #[v, u, .int .i64 (n : Int)] w (Res (setP (mem rs n xs)) true w) := by
  have hx := okU_len hok
  have h64 := okRk_at hrk
  have hR := Lib.hid (ranks_i hq (by omega))
  rw [hrk] at hR
  obtain ⟨ar, cr, rfl, _, _, hrr⟩ := hq
  obtain ⟨a, c, rfl, _, _, hr⟩ := h
  have hU := Lib.hid (fun (w1 : World) (hb : Below w.heap.size w w1) => show Calls Try.prog 36 #[.slice a xs.length c] w1 (Bl true w1) from hok ▸ uses_i a c xs w1 (by omega) (hr.below hb))
  have e1 : (decide ((1 : Int) ≤ (n : Int)) && decide ((n : Int) ≤ 60)) = true := by rw [decide_eq_true (by omega), decide_eq_true (by omega)]; rfl
  have hZ := Lib.hid (fun (w1 : World) => show Calls Try.prog 37 #[.int .i64 (n : Int), .int .i64 1, .int .i64 60] w1 (Bl true w1) from e1 ▸ btw_g (n : Int) 1 60 w1)
  obtain ⟨br, offr, rfl, _, hbr⟩ := hrr 0 (by omega)
  have hrc : ∀ j, j < 64 → w.cell? ⟨br, offr + j, none⟩ = some (.int .i64 (rs.getD j 0)) := fun j hj => by
    obtain ⟨b5, off5, e5, d5, _⟩ := hrr j (by omega)
    injection e5 with e5
    injection e5 with e6 e7
    subst e6 e7
    exact d5
  have hA := fun j (hj : j < xs.length) => okU_at hok j hj
  have HK := fun j (hj : j ≤ xs.length) => mem_kept rs n hn1 xs hA j hj
  have HUP : Hid (∀ j, Up (setP (mem rs n (xs.take j)))) := Lib.hid (fun j => setP_up _)
  have HLEN : Hid (∀ j, j ≤ xs.length → (setP (mem rs n (xs.take j))).length ≤ n) := Lib.hid (fun j hj => by rw [setP_len _ (HK j hj).1]; exact (HK j hj).2.2)
  have HADDR : Hid (∀ j, j ≤ xs.length → ∀ y ∈ setP (mem rs n (xs.take j)), 0 ≤ y ∧ y ≤ 63) := Lib.hid (fun j hj y hy => (HK j hj).2.1 y ((mem_setP _ y).1 hy))
  have HOLD : Hid (∀ j, j < xs.length → xs.getD j 0 ∈ setP (mem rs n (xs.take j)) → setP (mem rs n (xs.take (j + 1))) = setP (mem rs n (xs.take j))) := Lib.hid (fun j hj hm => by
    rw [mem_take rs n xs j hj, set_memS_old rs n _ _ ((mem_setP _ _).1 hm)])
  have HNEW : Hid (∀ j, j < xs.length → xs.getD j 0 ∉ setP (mem rs n (xs.take j)) → setP (mem rs n (xs.take (j + 1))) = put (if (setP (mem rs n (xs.take j))).length = n then but (setP (mem rs n (xs.take j))) (grt rs (setP (mem rs n (xs.take j)))) else setP (mem rs n (xs.take j))) (xs.getD j 0)) := Lib.hid (fun j hj hm => by
    rw [mem_take rs n xs j hj]
    refine set_memS rs n hn1 _ _ _ (HK j (by omega)) (rk_inj rs (okRk_nodup hrk) h64) (fun h => hm ((mem_setP _ _).2 h)) (fun hl => ?_)
    exact grt_max rs _ (by omega) (HADDR.out j (by omega)))
  have HS0 : Hid (setP (mem rs n (xs.take 0)) = []) := Lib.hid (by rw [List.take_zero]; rfl)
  have HSN : Hid (setP (mem rs n (xs.take xs.length)) = setP (mem rs n xs)) := Lib.hid (by rw [List.take_length])
  have HW := Lib.hid (fun (w1 : World) (hb : Below w.heap.size w w1) (v1 : Value) (s : List Int) (ho : Own w1 w.heap.size v1 s) (h0 : 0 < s.length) (hl : s.length ≤ 1000) (hs : ∀ y ∈ s, 0 ≤ y ∧ y ≤ 63) =>
    without_i (cr := cr) h0 hl hs ho hbr (fun j hj => (hb.cell (p := ⟨br, offr + j, none⟩) hbr).trans (hrc j hj)) hb.size)
  have HC := Lib.hid hr
  clear hok hrk hrr hr HK hA hrc e1
  unfold Row at HC
  rw [h64] at hR ⊢
  generalize grt rs = GR at *
  generalize setP (mem rs n xs) = SN at *
  generalize hSJ : (fun j => setP (mem rs n (xs.take j))) = SJ at *
  have hSJ' : ∀ j, setP (mem rs n (xs.take j)) = SJ j := fun j => by rw [← hSJ]
  simp only [hSJ'] at HUP HLEN HADDR HOLD HNEW HS0 HSN
  clear hSJ hSJ'
  generalize hN : xs.length = N at *
  clear hN h64
  go_enter Try.func9, Try.ntmps9
  go_wp2_with (first | (go_at_call 25; (with_reducible refine hR.out.mono ?_); rintro e w1 ⟨rfl, hb1⟩) | (go_at_call 36; (with_reducible refine (hU.out _ hb1).mono ?_); rintro e w2 ⟨rfl, rfl⟩) | (go_at_call 37; (with_reducible refine (hZ.out _).mono ?_); rintro e w2 ⟨rfl, rfl⟩))
  go_loopw [8, 28] (fun v i wr => ∃ j : Nat, j ≤ N ∧ i = .int .i64 j ∧ Hid (Own wr w.heap.size v (SJ j)) ∧ Hid (Below w.heap.size w wr)) (fun _ i _ => N - (intOf i).toNat)
  case atStart => exact ⟨0, Nat.zero_le _, rfl, Lib.hid (by rw [HS0.out]; exact Own.nil _ _), Lib.hid hb1⟩
  case round =>
    obtain ⟨j, hj, rfl, hov, hB9⟩ := hrel
    by_cases hlt : j < N
    · obtain ⟨b0, off, rfl, c1, hb0⟩ := HC.out j hlt
      have c2 : wr.cell? ⟨b0, off + j, none⟩ = some (.int .i64 (xs.getD j 0)) := (hB9.out.cell (p := ⟨b0, off + j, none⟩) hb0).trans c1
      have hlt' : (j : Int) < N := by omega
      have hszr := hB9.out.size
      have hlen := HLEN.out j (by omega)
      have hBS := bs_own (xs.getD j 0) hov.out (HUP.out j) (by omega)
      have hold := HOLD.out j hlt
      have hnew := HNEW.out j hlt
      have hup := HUP.out j
      have haddr := HADDR.out j (by omega)
      obtain ⟨av, cv, ev⟩ := hov.out.form
      subst ev
      clear c1
      generalize xs.getD j 0 = x at *
      generalize hs : SJ j = s at *
      clear hs
      by_cases hm : x ∈ s
      · have HH := Lib.hid (hold hm)
        rw [has_of hm] at hBS
        have hBS := Lib.hid hBS
        clear hold hnew hup haddr
        generalize s.length = L at *
        go_wp2_with (go_at_call 38; (with_reducible refine hBS.out.mono ?_); rintro e w3 ⟨rfl, q, rfl⟩)
        go_roundw
        case rel => exact ⟨j + 1, hlt, by go_num, Lib.hid (by rw [HH.out]; exact hov.out.drewN q), Lib.hid (below_drewN q hB9.out)⟩
        case measure => simp [intOf]; omega
      · have hnew := hnew hm
        rw [has_not hm] at hBS
        have hBS := Lib.hid hBS
        by_cases hl : s.length = n
        · rw [if_pos hl] at hnew
          have HH := Lib.hid hnew
          have hxb : x ∉ but s (GR s) := fun h => hm ((mem_but s (GR s) x).1 h).1
          have hbl : (but s (GR s)).length ≤ 1000 := Nat.le_trans (List.length_filter_le _ _) (by omega)
          have hWc := Lib.hid (fun q => HW.out (wr.drewN q) (below_drewN q hB9.out) _ s (hov.out.drewN q) (by omega) (by omega) haddr)
          have hBS2 := Lib.hid (fun (w1 : World) (B : Nat) (v1 : Value) (ho : Own w1 B v1 (but s (GR s))) => bs_own x ho (but_up (GR s) hup) hbl)
          have hIN := Lib.hid (fun (w1 : World) (v1 : Value) (q q5 : Nat) (ho : Own w1 (wr.drewN q).heap.size v1 (but s (GR s))) (hb : Below (wr.drewN q).heap.size (wr.drewN q) w1) => put_ownD x q5 (ho.mono (show w.heap.size ≤ (wr.drewN q).heap.size from hszr)) (but_up (GR s) hup) hxb hbl (Nat.le_trans hszr hb.size))
          clear hold hnew hup haddr hm hxb
          generalize but s (GR s) = t at *
          generalize s.length = L at *
          subst hl
          go_wp2_with (first | (go_at_call 38; (with_reducible refine hBS.out.mono ?_); rintro e w3 ⟨rfl, q, rfl⟩) | (go_at_call 39; (with_reducible refine (hWc.out _).mono ?_); rintro e w4 ⟨v4, rfl, o4, b4⟩) | (go_at_call 38; (with_reducible refine (hBS2.out _ _ _ o4).mono ?_); rintro e w5 ⟨rfl, q5, rfl⟩) | (go_at_call 40; (with_reducible refine (hIN.out w4 _ q q5 o4 b4).mono ?_); rintro e w6 ⟨v6, rfl, o6, b6⟩))
          go_roundw
          case rel => exact ⟨j + 1, hlt, by go_num, Lib.hid (by rw [HH.out]; exact o6), Lib.hid ((below_drewN q hB9.out).trans ((b4.mono hszr).trans ((below_drewN q5 (Below.refl _ _)).trans b6)))⟩
          case measure => simp [intOf]; omega
        · rw [if_neg hl] at hnew
          have HH := Lib.hid hnew
          have hIN := Lib.hid (fun q => put_ownD x q hov.out hup hm (by omega) hszr)
          have hl' : ¬ ((s.length : Int) = (n : Int)) := by omega
          clear hold hnew hup haddr hm hl
          generalize s.length = L at *
          go_wp2_with (first | (go_at_call 38; (with_reducible refine hBS.out.mono ?_); rintro e w3 ⟨rfl, q, rfl⟩) | (go_at_call 40; (with_reducible refine (hIN.out q).mono ?_); rintro e w6 ⟨v6, rfl, o6, b6⟩))
          go_roundw
          case rel => exact ⟨j + 1, hlt, by go_num, Lib.hid (by rw [HH.out]; exact o6), Lib.hid ((below_drewN q hB9.out).trans b6)⟩
          case measure => simp [intOf]; omega
    · have e : j = N := by omega
      subst e
      have hov' := hov.out
      rw [HSN.out] at hov'
      go_wp2
      go_ret2
      exact ⟨_, rfl, hov', hB9.out⟩
theorem rcon_no_i {v u : Value} {rs xs : List Int} {w : World} (x : Int) (hq : Rd w v rs) (h : Rd w u xs) (hn : rs.length ≤ 1048576) (hn2 : xs.length ≤ 1048576) (hno : ¬ (okRk rs = true ∧ okU xs = true ∧ 1 ≤ x ∧ x ≤ 60)) :
    Calls Try.prog 9 #[v, u, .int .i64 x] w (Res [] false w) := by
  have hR := Lib.hid (ranks_i hq hn)
  cases hrk : okRk rs
  · rw [hrk] at hR
    clear hno hrk
    go_enter Try.func9, Try.ntmps9
    go_wp2_with (go_at_call 25; (with_reducible refine hR.out.mono ?_); rintro e w1 ⟨rfl, hb1⟩)
    go_ret2
    exact ⟨_, rfl, Own.nil _ _, hb1⟩
  · rw [hrk] at hR
    obtain ⟨a, c, rfl, _, _, hr⟩ := h
    have hU := Lib.hid (fun (w1 : World) (hb : Below w.heap.size w w1) => uses_i a c xs w1 hn2 (hr.below hb))
    cases hok : okU xs
    · rw [hok] at hU
      clear hno hrk hok hr
      generalize xs.length = N at *
      go_enter Try.func9, Try.ntmps9
      go_wp2_with (first | (go_at_call 25; (with_reducible refine hR.out.mono ?_); rintro e w1 ⟨rfl, hb1⟩) | (go_at_call 36; (with_reducible refine (hU.out _ hb1).mono ?_); rintro e w2 ⟨rfl, rfl⟩))
      go_ret2
      exact ⟨_, rfl, Own.nil _ _, hb1⟩
    · rw [hok] at hU
      have e : (decide (1 ≤ x) && decide (x ≤ 60)) = false := by
        cases hb : (decide (1 ≤ x) && decide (x ≤ 60)) with
        | false => rfl
        | true => rw [Bool.and_eq_true] at hb; exact absurd ⟨hrk, hok, of_decide_eq_true hb.1, of_decide_eq_true hb.2⟩ hno
      have hZ := Lib.hid (fun (w1 : World) => show Calls Try.prog 37 #[.int .i64 x, .int .i64 1, .int .i64 60] w1 (Bl false w1) from e ▸ btw_g x 1 60 w1)
      clear hno hrk hok hr e
      generalize xs.length = N at *
      go_enter Try.func9, Try.ntmps9
      go_wp2_with (first | (go_at_call 25; (with_reducible refine hR.out.mono ?_); rintro e w1 ⟨rfl, hb1⟩) | (go_at_call 36; (with_reducible refine (hU.out _ hb1).mono ?_); rintro e w2 ⟨rfl, rfl⟩) | (go_at_call 37; (with_reducible refine (hZ.out _).mono ?_); rintro e w2 ⟨rfl, rfl⟩))
      go_ret2
      exact ⟨_, rfl, Own.nil _ _, hb1⟩
end Go.Proofs.Ytbajnkojjeakgaa.Tr
