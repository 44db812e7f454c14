/- The walk of laws.FnDemand: the call returns true and writes nothing that was there. -/
import Derived.Test.YtdjkmffekfbbcaaCr8
import Derived.Test.YtdjkmffekfbbcaaCr8h
import Derived.Test.YtdjkmffekfbbcaaCuo
import Derived.Test.YtdjkmffekfbbcaaCaddr
import Derived.Test.YtdjkmffekfbbcaaCdrs
import Derived.Test.YtdjkmffekfbbcaaCclm
import Derived.Test.YtdjkmffekfbbcaaPlainDem
import Derived.Deep.RegionWith
import Derived.Deep.QuietTactic
namespace Go.Proofs.Ytdjkmffekfbbcaa.fnDemand
open Go.RowKit Tr Ac Ck
theorem rd_at {w : World} {a : Option Addr} {n c : Nat} {xs : List Int} (h : Rd w (.slice a n c) xs) (i : Nat) (hi : i < n) :
    ∃ b off, a = some ⟨b, off, none⟩ ∧ w.cell? ⟨b, off + i, none⟩ = some (.int .i64 (xs.getD i 0)) := by
  obtain ⟨a', c', e, _, _, hr⟩ := h
  injection e with e1 e2 e3
  subst e1
  obtain ⟨b, off, ha, hc, _⟩ := hr i (by omega)
  exact ⟨b, off, ha, hc⟩
theorem rd_row {w : World} {a : Option Addr} {n c : Nat} {xs : List Int} (h : Rd w (.slice a n c) xs) : Row w a xs := by
  obtain ⟨a', c', e, _, _, hr⟩ := h
  injection e with e1 e2 e3
  subst e1
  exact hr
theorem row_take {w : World} {a : Option Addr} {xs : List Int} (h : Row w a xs) (j : Nat) : Row w a (xs.take j) := fun i hi => by
  have hi2 : i < j ∧ i < xs.length := by rw [List.length_take] at hi; omega
  obtain ⟨b, off, ha, hc, hb⟩ := h i hi2.2
  refine ⟨b, off, ha, ?_, hb⟩
  rw [hc, List.getD_eq_getElem?_getD, List.getD_eq_getElem?_getD, List.getElem?_take, if_pos hi2.1]
theorem psum_told (f : Nat → Int) (h : ∀ i, f i = 0 ∨ f i = 1) (N : Nat) : ∀ j, j ≤ N → 0 ≤ psum (told f N) j ∧ psum (told f N) j ≤ j
  | 0, _ => ⟨Int.le_refl _, Int.le_refl _⟩
  | j + 1, hj => by
    obtain ⟨h1, h2⟩ := psum_told f h N j (by omega)
    rw [psum, told_get f N j (by omega)]
    rcases h j with e | e <;> rw [e] <;> omega
theorem psum_all (xs : List Int) : ∀ j, j ≤ xs.length → psum xs j = (xs.take j).sum
  | 0, _ => by simp [psum]
  | j + 1, h => by rw [psum, psum_all xs j (by omega), List.take_succ_eq_append_getElem (by omega), List.sum_append, List.getD_eq_getElem?_getD, List.getElem?_eq_getElem (by omega)]; simp
theorem flt_or (n : Nat) (xs : List (Int × Int)) (i : Nat) : flt n xs i = 0 ∨ flt n xs i = 1 := by
  unfold flt; split
  · exact .inl rfl
  · exact .inr rfl
theorem wrN_succ (xs : List (Int × Int)) (j : Nat) (h : (xs.getD j (0, 0)).1 = 0 ∨ (xs.getD j (0, 0)).1 = 1) : ((wrN xs (j + 1) : Nat) : Int) = (wrN xs j : Int) + (xs.getD j (0, 0)).1 := by
  rw [wrN]
  rcases h with e | e <;> rw [e] <;> simp
theorem wrN_le (xs : List (Int × Int)) : ∀ j, wrN xs j ≤ j
  | 0 => Nat.le_refl _
  | j + 1 => by have := wrN_le xs j; rw [wrN]; split <;> omega
theorem okU_ls {xs : List (Int × Int)} (h : okT xs = true) : okU (ls xs) = true := by
  unfold okT at h
  rw [Bool.and_eq_true, List.all_eq_true] at h
  unfold okU ls
  rw [List.length_map, h.1, Bool.true_and, List.all_eq_true]
  intro y hy
  obtain ⟨p, hp, rfl⟩ := List.mem_map.1 hy
  have h2 := h.2 p hp
  unfold okE at h2
  rw [Bool.and_eq_true] at h2
  exact h2.2
set_option maxRecDepth 100000 in
set_option maxHeartbeats 8000000 in
theorem walk (a0 : Option Addr) (len0 cap0 : Nat) (z0 : List Int) (a1 : Option Addr) (len1 cap1 : Nat) (z1 : List Int) (w : World) (w0 : IsRow .u8 w a0 len0 cap0 z0) (w1 : IsRow .u8 w a1 len1 cap1 z1) :
    Calls Try.prog 6 #[.slice a0 len0 cap0, .slice a1 len1 cap1] w fun e w' => e = .returned (.bool true) ∧ Below w.heap.size w w' := by
  by_cases hl : 48 < len0 ∨ 48 < len1
  · go_enter Try.func6, Try.ntmps6
    go_wp2_with (go_at_call 19; refine (R8.long_yes _ _ _ _ _ _ _ hl).mono ?_; rintro e w' ⟨rfl, rfl⟩)
    go_ret
    exact ⟨rfl, Below.refl _ _⟩
  · have l0 : len0 ≤ 48 := by omega
    have l1 : len1 ≤ 48 := by omega
    clear hl
    have HU := Lib.hid (Sr.r8tr_any a0 len0 cap0 z0 w l0 w0)
    have HA := Lib.hid (fun (w' : World) (hb : Below w.heap.size w w') => R8.at_any a1 len1 cap1 z1 w' (isRow_below w1 hb) 0 16 (by omega) (by omega) (by omega) (by omega))
    clear w0 w1
    go_enter Try.func6, Try.ntmps6
    go_wp2_with (go_at_call 19; refine (R8.long_no _ _ _ _ _ _ _ l0 l1).mono ?_; rintro e w' ⟨rfl, rfl⟩)
    refine HU.out.mono ?_
    rintro e w1 ⟨v, xs, rfl, hok, o1, b1⟩
    have hl60 := okT_len hok
    have hokU := okU_ls hok
    obtain ⟨at1, ct1, rfl, _, _, r1⟩ := o1.row2
    have HUO := Lib.hid (show Calls Try.prog 26 #[.slice at1 xs.length ct1] w1 (Res (ls xs) true w1) from by
      have h := uo_i at1 ct1 xs w1 (by omega) r1
      rw [hok, if_pos rfl] at h
      exact h)
    have HCK := Lib.hid (fun (n : Nat) (h1 : 1 ≤ n) (h2 : n ≤ 16) (w' : World) (hb : Below w1.heap.size w1 w') => run_yes_i n h1 h2 at1 ct1 xs w' hok (o1.below hb (Nat.le_refl _) |>.row2 |> fun ⟨_, _, e, _, _, r⟩ => by injection e with e1 e2 e3; subst e1; exact r))
    have HKD := Lib.hid (fun j hj => okT_kind hok j hj)
    have HRW := Lib.hid (fun (w' : World) (hb : Below w1.heap.size w1 w') => (show RowA w' at1 xs from by
      obtain ⟨_, _, e, _, _, r⟩ := (o1.below hb (Nat.le_refl _)).row2
      injection e with e1 e2 e3; subst e1; exact r))
    have HLS := Lib.hid (show (ls xs).length = xs.length from List.length_map _)
    have HLA := Lib.hid (show ls xs = adr xs from rfl)
    clear o1 r1 HU l0 l1
    have HN := Lib.hid (fun n h1 => dem_new n h1 xs)
    have HLO := Lib.hid (fun n h1 => dem_low n h1 xs)
    have HFE := Lib.hid (fun n h1 => dem_few n h1 xs)
    have HMA := Lib.hid (fun n h1 => dem_many n h1 xs)
    have HTO := Lib.hid (fun n => ckR_told n xs xs.length)
    have HWS := Lib.hid (fun j hj => wrN_succ xs j (HKD.out j hj))
    have HWL := Lib.hid (wrN_le xs)
    have HB1 := Lib.hid b1
    clear b1
    have HFL := Lib.hid (fun n => ckR_fl n xs xs.length)
    have hNx0 : xs.length = xs.length := rfl
    generalize hNx : xs.length = N at *
    have HNX := Lib.hid hNx
    clear hNx hNx0
    go_wp2_with fail
    refine HUO.out.mono ?_
    rintro e w2 ⟨v2, rfl, o2, b2⟩
    obtain ⟨a2, c2, hv2⟩ := o2.form
    rw [HLS.out] at hv2
    subst hv2
    have HAD := Lib.hid (addr_yes_i o2.rd hokU)
    go_wp2_with fail
    refine HAD.out.mono ?_
    rintro e w3 ⟨v3, rfl, o3, b3⟩
    obtain ⟨a3, c3, hv3⟩ := o3.form
    subst hv3
    have B13 : Below w1.heap.size w1 w3 := b2.trans (b3.mono b2.size)
    have HA3 := Lib.hid (HA.out w3 (HB1.out.trans (B13.mono HB1.out.size)))
    go_wp2_with fail
    refine HA3.out.mono ?_
    rintro e w3' ⟨r0, r0a, r0b, rfl, rfl⟩
    obtain ⟨x0, rfl⟩ := Int.eq_ofNat_of_zero_le r0a
    go_wp2_with fail
    obtain ⟨n, hq⟩ : ∃ q : Nat, (1 : Int) + (x0 : Int) = (q : Int) := ⟨1 + x0, by simp⟩
    rw [hq]
    have n1 : 1 ≤ n := by omega
    have n2 : n ≤ 16 := by omega
    clear hq r0b r0a
    have HC3 := Lib.hid (HCK.out n n1 n2 w3 B13)
    refine HC3.out.mono ?_
    rintro e w4 ⟨v4, rfl, o4, b4⟩
    obtain ⟨a4, c4, hv4⟩ := o4.form
    rw [HFL.out n] at hv4
    subst hv4
    have B14 : Below w1.heap.size w1 w4 := B13.trans (b4.mono B13.size)
    have o2' := (o2.below b3 (Nat.le_refl _)).below b4 (Nat.le_refl _)
    have HRA := Lib.hid (HRW.out w4 B14)
    have HRU := Lib.hid (rd_row o2'.rd)
    have hc1 : N ≤ c2 := by
      obtain ⟨_, cx, ec, hc1, hc2, _⟩ := o2'.rd
      injection ec with _ _ ec3
      rw [HLS.out] at hc1
      omega
    have HRF := Lib.hid (rd_row o4.rd)
    have HB4 := Lib.hid (HB1.out.trans (B14.mono HB1.out.size))
    have HFn := Lib.hid (HFL.out n)
    have HFT := Lib.hid (HTO.out n)
    have HPB := Lib.hid (fun j (hj : j ≤ N) => psum_told (flt n xs) (flt_or n xs) N j hj)
    have HPA := Lib.hid (psum_all (ckR n xs N).fl)
    rw [← HTO.out n] at HPB
    rw [HFn.out] at HPA
    have HLOn := Lib.hid (HLO.out n n1)
    have HFEn := Lib.hid (HFE.out n n1)
    have HMAn := Lib.hid (HMA.out n n1)
    have HNn := Lib.hid (fun j (hj : j < N) => (show (ls xs).getD j 0 ∉ (ls xs).take j → (ckR n xs N).fl.getD j 0 = 1 from HN.out n n1 j hj))
    clear o2 o2' o3 o4 b2 b3 b4 B13 B14 HC3 HA3 HAD HUO HCK HRW HB1 HA HN HLO HFE HMA HTO HFL hokU hok
    have hb60 := ckR_b n xs N
    generalize (ckR n xs N).fl = fl at *
    generalize (ckR n xs N).b = bk at *
    go_wp2
    go_loopw [14, 15] (fun s i wr => ∃ j q : Nat, j ≤ N ∧ i = .int .i64 j ∧ s = .int .i64 (wrN xs j : Nat) ∧ wr = w4.drewN q) (fun _ i _ => N - (intOf i).toNat)
    case atStart => exact ⟨0, 0, Nat.zero_le _, rfl, rfl, rfl⟩
    case round =>
      obtain ⟨j, q, hj, rfl, rfl, rfl⟩ := hrel
      by_cases hlt : j < N
      · obtain ⟨b, off, rfl, k0, k1, _⟩ := HRA.out j (by rw [HNX.out]; exact hlt)
        have HH := Lib.hid (fun (q' : Nat) => (show Calls Try.prog 28 #[.slice a2 j c2, .int .i64 ((ls xs).getD j 0)] ((w4.drewN q).drewN q') (fun e w' => e = .returned (.bool (((ls xs).take j).contains ((ls xs).getD j 0))) ∧ w' = (w4.drewN q).drewN q') from by
          have h := has8_s a2 c2 ((ls xs).take j) ((ls xs).getD j 0) ((w4.drewN q).drewN q') (by rw [List.length_take]; omega) (show Row ((w4.drewN q).drewN q') a2 ((ls xs).take j) from row_take HRU.out j)
          have e : ((ls xs).take j).length = j := by rw [List.length_take, HLS.out]; omega
          rw [e] at h
          exact h.mono fun _ _ hh => ⟨hh.1, hh.2.symm⟩))
        have HNJ := Lib.hid (HNn.out j hlt)
        obtain ⟨bu, ou, hbu, u0, _⟩ := HRU.out j (by rw [HLS.out]; exact hlt)
        obtain ⟨bf, of', hbf, f0, _⟩ := HRF.out j (by rw [HFn.out]; exact hlt)
        subst hbu hbf
        have hw := HWS.out j hlt
        have hk := HKD.out j hlt
        have hwl := HWL.out j
        generalize (xs.getD j (0, 0)).1 = kd at *
        generalize (ls xs).getD j 0 = u at *
        generalize fl.getD j 0 = fj at *
        have hjN : (j : Int) < (N : Int) := by omega
        have hjc : j ≤ c2 := by omega
        have hjc2 : (j : Int) ≤ (c2 : Int) := by omega
        have hjc3 : ¬ (c2 : Int) < (j : Int) := by omega
        have HW1 := Lib.hid hw
        clear hw
        cases hc : ((ls xs).take j).contains u
        · have e1 : fj = 1 := HNJ.out fun hm => by rw [List.contains_eq_mem, decide_eq_true hm] at hc; cases hc
          rw [hc] at HH
          subst e1
          clear HNJ hc
          go_wp2
          have HD := Lib.hid (show Calls Try.prog 28 #[.slice (some ⟨bu, ou, none⟩) j c2, .int .i64 u] (w4.drewN q).drew (fun e w' => e = .returned (.bool false) ∧ w' = (w4.drewN q).drew) from HH.out 1)
          have u0d : (w4.drewN q).drew.cell? ⟨bu, ou + j, none⟩ = some (.int .i64 u) := u0
          have f0d : (w4.drewN q).drew.cell? ⟨bf, of' + j, none⟩ = some (.int .i64 1) := f0
          clear HH
          go_region_with (go_at_call 28; refine HD.out.mono ?_; rintro e w' ⟨rfl, rfl⟩)
          all_goals
            go_wp2
            go_roundw
            case rel => exact ⟨j + 1, _, by omega, by go_num, by rw [HW1.out], rfl⟩
            case measure => simp [intOf]; omega
        · rw [hc] at HH
          clear HNJ hc
          have k0 : (w4.drewN q).cell? ⟨b, off + j * 2, none⟩ = some (.int .i64 kd) := k0
          have u0 : (w4.drewN q).cell? ⟨bu, ou + j, none⟩ = some (.int .i64 u) := u0
          have f0 : (w4.drewN q).cell? ⟨bf, of' + j, none⟩ = some (.int .i64 fj) := f0
          clear HRA HRU HRF
          generalize hwq : w4.drewN q = wq at *
          have HQ := Lib.hid hwq
          clear hwq
          go_wp2
          go_quiet ((go_at_call 28; exact Calls.quiet_of_same (HH.out _)))
          rename_i nq
          go_wp2
          go_roundw
          case rel => exact ⟨j + 1, q + nq, by omega, by go_num, by rw [HW1.out], by rw [← HQ.out, World.drewN_drewN]⟩
          case measure => simp [intOf]; omega
      · have e : j = N := by omega
        subst e
        have h8 := sum8 a4 c4 fl (w4.drewN q) (by rw [HFn.out]; omega) (fun i hi => by rw [HFn.out] at hi; have := HPB.out i hi; omega) (show Row (w4.drewN q) a4 fl from HRF.out)
        rw [HFn.out] at h8
        have hF : psum fl j = fl.sum := by rw [HPA.out j (Nat.le_refl _), ← HFn.out, List.take_length]
        obtain ⟨hF0, hF1⟩ := HPB.out j (Nat.le_refl _)
        rw [hF] at h8 hF0 hF1
        have H8 := Lib.hid h8
        have hlo : ((setP (ls xs)).length : Int) ≤ fl.sum := HLOn.out
        have hfe : (setP (ls xs)).length ≤ n → fl.sum = ((setP (ls xs)).length : Int) ∧ bk = 0 := HFEn.out
        have hma : n < (setP (ls xs)).length → bk ≤ wrN xs j ∧ (bk : Int) ≤ fl.sum - n := HMAn.out
        have hwl := HWL.out j
        clear h8 hF
        generalize (setP (ls xs)).length = D at *
        generalize fl.sum = F at *
        generalize wrN xs j = W at *
        go_wp2_with fail
        refine H8.out.mono ?_
        rintro e w5 ⟨rfl, rfl⟩
        clear HRA HRU HRF HFn HFT HPB HPA HLOn HFEn HMAn HNn HKD HLS HLA HWS HWL H8 HNX hc1
        by_cases hd : D ≤ n
        · obtain ⟨e1, e2⟩ := hfe hd
          clear hfe hma hlo
          subst e1 e2
          have hdi : (D : Int) ≤ (n : Int) := by omega
          go_wp2
          go_ret
          exact ⟨rfl, below_drewN _ HB4.out⟩
        · obtain ⟨e1, e2⟩ := hma (by omega)
          clear hfe hma
          have hdi : ¬ (D : Int) ≤ (n : Int) := by omega
          have e1' : (bk : Int) ≤ (W : Int) := by omega
          go_wp2
          go_ret
          exact ⟨rfl, below_drewN _ HB4.out⟩
end Go.Proofs.Ytdjkmffekfbbcaa.fnDemand
