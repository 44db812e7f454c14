/- The program's ClockRun. -/
import Derived.Test.YtdjkmffekfbbcaaCclw
import Derived.Test.YtdjkmffekfbbcaaCvt
import Derived.Test.YtdjkmffekfbbcaaCphase
namespace Go.Proofs.Ytdjkmffekfbbcaa.Ck
open Go.RowKit
def ResLI (ys : List Int) (m : Int) (ok : Bool) (w : World) (e : Ending) (w' : World) : Prop := ∃ v, e = .returned (.tuple #[v, .int .i64 m, .bool ok]) ∧ Own w' w.heap.size v ys ∧ Below w.heap.size w w'
def ckOk (n : Int) (xs : List (Int × Int)) : Bool := decide (1 ≤ n ∧ n ≤ 16) && Ac.okT xs
theorem okT_kind {xs : List (Int × Int)} (h : Ac.okT xs = true) (j : Nat) (hj : j < xs.length) : (xs.getD j (0, 0)).1 = 0 ∨ (xs.getD j (0, 0)).1 = 1 := by
  unfold Ac.okT at h
  rw [Bool.and_eq_true, List.all_eq_true] at h
  have h2 := h.2 _ (List.getElem_mem hj)
  rw [List.getD_eq_getElem?_getD, List.getElem?_eq_getElem hj]
  unfold Ac.okE at h2
  rw [Bool.and_eq_true] at h2
  have h3 := h2.1
  unfold Ac.isK at h3
  simpa using h3
set_option maxRecDepth 100000 in
set_option maxHeartbeats 4000000 in
theorem run_yes_i (n : Nat) (hn1 : 1 ≤ n) (hn : n ≤ 16) (a : Option Addr) (c : Nat) (xs : List (Int × Int)) (w : World) (hok : Ac.okT xs = true) (hr : Ac.RowA w a xs) :
    Calls Try.prog 10 #[.int .i64 (n : Int), .slice a xs.length c] w (ResLI (ckR n xs xs.length).fl (ckR n xs xs.length).b true w) := by
  have hl := Ac.okT_len hok
  have HB := Lib.hid (Tr.btw_yes (n : Int) 1 16 w (by omega) (by omega))
  have HV := Lib.hid (Ac.valid_i a c xs w (by omega) hr)
  rw [hok] at HV
  have HR := Lib.hid (fun (w' : World) (hb : Below w.heap.size w w') (j : Nat) (hj : j < xs.length) => (hr.below hb) j hj)
  have HK := Lib.hid (fun j hj => okT_kind hok j hj)
  have HW := Lib.hid (ckR_wf n hn1 xs)
  have HFL := Lib.hid (ckR_fl n xs)
  have HBK := Lib.hid (ckR_b n xs)
  have HS := Lib.hid (fun j => (show ckR n xs (j + 1) = ckStep n (ckR n xs j) (decide ((xs.getD j (0, 0)).1 = 1)) (xs.getD j (0, 0)).2 from rfl))
  have H0 := Lib.hid (fun (w1 : World) (b1 : Below w.heap.size w w1) => (show Ckm none n w.heap.size w1.heap.size (.slice none 0 0) (.slice none 0 0) (ckR n xs 0) w (w1.alloc (.cells #[.slice none 0 0, .int .i64 (n : Int), .int .i64 0, .slice none 0 0, .int .i64 0] 57)) from
    ⟨Blk.newAt w1 _ _ _ rfl, OwnF.nil _ _, Own.nil _ _, fun e => (by cases e), fun e => (by cases e), fun k e => (by cases e), b1.size, b1.trans (((Below.refl _ _).alloc (Nat.le_refl _) _).mono b1.size), fun q e => (by cases e)⟩))
  clear hr hok
  generalize hN : xs.length = N at *
  clear hN
  go_enter Try.func10, Try.ntmps10
  go_wp2_with (go_at_call 32; (with_reducible refine HB.out.mono ?_); rintro e w' ⟨rfl, rfl⟩)
  refine HV.out.mono ?_; rintro e w1 ⟨rfl, b1⟩
  have H1 := Lib.hid (H0.out w1 b1)
  clear b1 H0 HV HB
  go_wp2
  go_loopw [9, 22] (fun _ i wr => ∃ (j : Nat) (fv lv : Value), j ≤ N ∧ i = .int .i64 (j : Int) ∧ Hid (Ckm none n w.heap.size w1.heap.size fv lv (ckR n xs j) w wr)) (fun _ i _ => N - (intOf i).toNat)
  case atStart => exact ⟨0, _, _, Nat.zero_le _, rfl, H1⟩
  case round =>
    obtain ⟨j, fv, lv, hj, rfl, hI⟩ := hrel
    by_cases hlt : j < N
    · obtain ⟨b, off, rfl, k0, k1, hbs⟩ := HR.out wr hI.out.bl j hlt
      have hk := HK.out j hlt
      have hs := HS.out j
      have hW := HW.out j
      have hfl := HFL.out j
      have hbk := HBK.out j
      generalize (xs.getD j (0, 0)).1 = kd at *
      generalize (xs.getD j (0, 0)).2 = ad at *
      have HM2 := hI.out.below ((Below.refl wr.heap.size wr).alloc (Nat.le_refl _) (.cells #[.int .i64 kd, .int .i64 ad] 49))
      have HU := Lib.hid (use_i HM2 hW hn (by omega) (by rw [hfl]; omega) kd ad hk)
      rw [← hs] at HU
      clear hs hW hfl hbk hk HM2
      go_wp2_with fail
      refine HU.out.mono ?_; rintro e w2 ⟨rfl, fv', lv', hM⟩
      have HM := Lib.hid hM
      clear hM HU
      go_wp2
      go_roundw
      case rel => exact ⟨j + 1, fv', lv', by omega, by go_num, HM⟩
      case measure => simp [intOf]; omega
    · have e : j = N := by omega
      subst e
      obtain ⟨_, _, _, c3, c4⟩ := hI.out.cell
      obtain ⟨al, cl, el⟩ := Own.form hI.out.ol
      have HO := Lib.hid hI.out.ol
      have HBL := Lib.hid hI.out.bl
      have HEL := Lib.hid el
      rw [el] at c3
      clear hI el H1
      generalize (ckR n xs j).fl.length = nl at *
      go_wp2
      go_quiet (fail)
      go_wp2
      go_ret3
      refine ⟨_, rfl, ?_, below_drewN _ HBL.out⟩
      rw [← HEL.out]
      exact HO.out
end Go.Proofs.Ytdjkmffekfbbcaa.Ck
