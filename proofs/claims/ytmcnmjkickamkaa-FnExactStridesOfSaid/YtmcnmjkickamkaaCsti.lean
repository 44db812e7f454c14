/- The program's StridesOf. -/
import Derived.Test.YtmcnmjkickamkaaCsts
import Derived.Test.YtmcnmjkickamkaaCstl
namespace Go.Proofs.Ytmcnmjkickamkaa.St
open Go.RowKit Ld Tr
def arr (xs : List (Int × Int)) (j : Nat) : List Value := qc (cst xs 0 j) ++ (qc (cst xs 1 j) ++ (qc (cst xs 2 j) ++ (qc (cst xs 3 j) ++ [])))
theorem arr_step (xs : List (Int × Int)) (j : Nat) (h : 0 ≤ (xs.getD j (0, 0)).1 ∧ (xs.getD j (0, 0)).1 ≤ 3) :
    ∃ (k : Nat) (P S : List Value), (xs.getD j (0, 0)).1 = (k : Int) ∧ k < 4 ∧ P.length = k * 4 ∧ arr xs j = P ++ (qc (cst xs (xs.getD j (0, 0)).1 j) ++ S) ∧ arr xs (j + 1) = P ++ (qc (stp (cst xs (xs.getD j (0, 0)).1 j) (xs.getD j (0, 0)).2) ++ S) := by
  rcases (show (xs.getD j (0, 0)).1 = 0 ∨ (xs.getD j (0, 0)).1 = 1 ∨ (xs.getD j (0, 0)).1 = 2 ∨ (xs.getD j (0, 0)).1 = 3 by omega) with e | e | e | e
  · refine ⟨0, [], qc (cst xs 1 j) ++ (qc (cst xs 2 j) ++ (qc (cst xs 3 j) ++ [])), e, by decide, rfl, by rw [e]; rfl, ?_⟩
    unfold arr
    rw [cst_same xs 0 j e, cst_other xs 1 j (by rw [e]; decide), cst_other xs 2 j (by rw [e]; decide), cst_other xs 3 j (by rw [e]; decide), e]
    rfl
  · refine ⟨1, qc (cst xs 0 j), qc (cst xs 2 j) ++ (qc (cst xs 3 j) ++ []), e, by decide, rfl, by rw [e]; rfl, ?_⟩
    unfold arr
    rw [cst_same xs 1 j e, cst_other xs 0 j (by rw [e]; decide), cst_other xs 2 j (by rw [e]; decide), cst_other xs 3 j (by rw [e]; decide), e]
  · refine ⟨2, qc (cst xs 0 j) ++ qc (cst xs 1 j), qc (cst xs 3 j) ++ [], e, by decide, rfl, by rw [e, List.append_assoc]; rfl, ?_⟩
    unfold arr
    rw [cst_same xs 2 j e, cst_other xs 0 j (by rw [e]; decide), cst_other xs 1 j (by rw [e]; decide), cst_other xs 3 j (by rw [e]; decide), e, List.append_assoc]
  · refine ⟨3, qc (cst xs 0 j) ++ (qc (cst xs 1 j) ++ qc (cst xs 2 j)), [], e, by decide, rfl, by rw [e, List.append_assoc, List.append_assoc]; rfl, ?_⟩
    unfold arr
    rw [cst_same xs 3 j e, cst_other xs 0 j (by rw [e]; decide), cst_other xs 1 j (by rw [e]; decide), cst_other xs 2 j (by rw [e]; decide), e, List.append_assoc, List.append_assoc]
theorem own_keep {w w' : World} {B Z : Nat} {v : Value} {xs : List Int} (h : Own w B v xs) (k : Keep Z w w') (hz : Z < B) : Own w' B v xs := by
  refine ⟨h.1, ?_⟩
  rcases h.2 with hn | ⟨g, cap, cur, hv, hg, hh, r⟩
  · exact .inl hn
  · exact .inr ⟨g, cap, cur, hv, hg, by rw [k.block g (by omega)]; exact hh, r⟩
set_option maxRecDepth 100000 in
set_option maxHeartbeats 4000000 in
theorem sts_i (a : Option Addr) (c : Nat) (xs : List (Int × Int)) (w : World) (hn : xs.length ≤ 1048576) (hr : RowA w a xs) :
    Calls Try.prog 17 #[.slice a xs.length c] w (Res (if okT xs then strs xs xs.length else []) (okT xs) w) := by
  have hI := Lib.hid (valid_i a c xs w hn hr)
  cases hok : okT xs
  · rw [hok] at hI
    clear hr
    generalize xs.length = N at *
    go_enter Try.func17, Try.ntmps17
    go_wp2_with (go_at_call 11; refine hI.out.mono ?_; rintro e w' ⟨rfl, b1⟩)
    go_ret2
    exact ⟨_, rfl, Own.nil _ _, b1⟩
  · rw [hok] at hI
    show Calls _ _ _ w (Res (strs xs xs.length) true w)
    have h60 := okT_len hok
    have HC := Lib.hid (fun (w' : World) (hb : Below w.heap.size w w') => hr.below hb)
    have HS := Lib.hid (strs_succ xs)
    have HL := Lib.hid (strs_len xs)
    have HA := Lib.hid (fun (j : Nat) (hj : j < xs.length) => arr_step xs j (okT_st hok j hj))
    have HF := Lib.hid (fun (j : Nat) (hj : j < xs.length) => (show sF xs j = prS (stp (cst xs (xs.getD j (0, 0)).1 j) (xs.getD j (0, 0)).2) ∧ (cst xs (xs.getD j (0, 0)).1 j).2.2.2 ≤ 60 ∧ In3 (stp (cst xs (xs.getD j (0, 0)).1 j) (xs.getD j (0, 0)).2) (j + 1) from by
      refine ⟨sF_cst xs j, ?_, ?_⟩
      · have := (cst_in xs (okT_in hok) (xs.getD j (0, 0)).1 j (by omega)).2.2.2; omega
      · have := cst_in xs (okT_in hok) (xs.getD j (0, 0)).1 (j + 1) (by omega)
        rwa [cst_same xs _ j rfl] at this))
    clear hr hok
    unfold RowA at HC
    generalize hN : xs.length = N at *
    clear hN
    go_enter Try.func17, Try.ntmps17
    go_wp2_with (first | (go_at_call 11; refine hI.out.mono ?_; rintro e w1 ⟨rfl, b1⟩) | (at_make; refine wpList_make0 _ rfl _ _ rfl N .i64 .i64 (N : Int) ?_ ?_ rfl ?_ ?_; rfl; rfl; omega))
    intro v2 w2 o2 b2 s2
    generalize hW1 : w1.alloc _ = W1 at o2 b2 s2 ⊢
    have kz : Blk W1 w1.heap.size (arr xs 0) 66 := by rw [← hW1]; exact Blk.newAt w1 _ _ _ rfl
    have hz : W1.heap.size = w1.heap.size + 1 := by rw [← hW1]; simp
    have b12 : Below w1.heap.size w1 W1 := by rw [← hW1]; exact (Below.refl _ _).alloc (Nat.le_refl _) _
    have KZ := Lib.hid (kz.below b2 (by omega))
    have HB2 := Lib.hid (b12.trans (b2.mono (by omega)))
    have HB1 := Lib.hid b1
    have HZ := Lib.hid hz
    have O2 := Lib.hid o2
    have S2 := Lib.hid s2
    clear hW1 kz hz b12 b2 b1 o2 s2
    go_wp2
    go_loopw [5, 7, 8, 17] (fun v _ _ i wr => ∃ j : Nat, j ≤ N ∧ i = .int .i64 j ∧ Hid (Own wr (w1.heap.size + 1) v (strs xs j)) ∧ Hid (Blk wr w1.heap.size (arr xs j) 66) ∧ Hid (Below w1.heap.size w1 wr) ∧ Hid (w1.heap.size + 1 ≤ wr.heap.size)) (fun _ _ _ i _ => N - (intOf i).toNat)
    case atStart => exact ⟨0, Nat.zero_le _, rfl, O2, KZ, HB2, S2⟩
    case round =>
      obtain ⟨j, hj, rfl, ho, hk, hb, hsz0⟩ := hrel
      by_cases hlt : j < N
      · obtain ⟨b, off, rfl, c1, c2, _⟩ := HC.out wr (HB1.out.trans (hb.out.mono HB1.out.size)) j hlt
        have hs := HS.out j
        have hq : (strs xs j).length + 1 ≤ 1000000000 := by rw [HL.out j]; omega
        obtain ⟨k, P, S, ek, k4, hP, a1, a2⟩ := HA.out j hlt
        obtain ⟨f1, f2, f3⟩ := HF.out j hlt
        rw [a1] at hk
        rw [f1] at hs
        generalize cst xs (xs.getD j (0, 0)).1 j = q at *
        generalize xs.getD j (0, 0) = r at *
        obtain ⟨x, y⟩ := r
        simp only at ek
        subst ek
        have HS2 := Lib.hid hs
        have A2 := Lib.hid a2
        have k4' : (k : Int) < 4 := by omega
        have kk := Blk.alloc hk.out (.cells #[.int .i64 k, .int .i64 y] 50)
        have hal := Below.alloc (Below.refl wr.heap.size wr) (Nat.le_refl _) (.cells #[.int .i64 k, .int .i64 y] 50)
        have HLn := Lib.hid (learn_i w1.heap.size P S _ (k * 4) q y _ hP kk f2)
        have HSt := Lib.hid (fun (w3 : World) (h3 : Blk w3 w1.heap.size (P ++ (qc (stp q y) ++ S)) 66) => stride_i w1.heap.size P S _ (k * 4) (j + 1) (stp q y) w3 hP h3 f3)
        have HBA := Lib.hid (hb.out.alloc hb.out.size (.cells #[.int .i64 k, .int .i64 y] 50))
        have HOA := Lib.hid (Own.below ho.out hal (Nat.le_refl _))
        have HSA := Lib.hid (show w1.heap.size + 1 ≤ (wr.alloc (.cells #[.int .i64 k, .int .i64 y] 50)).heap.size from Nat.le_trans hsz0.out hal.size)
        have HQ := Lib.hid hq
        clear hs ho hk hb hsz0 hal kk f1 f2 f3 hP a1 a2 hq
        generalize prS (stp q y) = u at *
        generalize strs xs j = l at *
        go_wp2_with fail
        refine HLn.out.mono ?_; rintro e w3 ⟨rfl, kb, kp⟩
        have HB3 := Lib.hid (HBA.out.trans (kp.below (Nat.le_refl _)))
        have HO3 := Lib.hid (own_keep HOA.out kp (by omega))
        have HS3 := Lib.hid (show w1.heap.size + 1 ≤ w3.heap.size by rw [kp.size]; exact HSA.out)
        have HK3 := Lib.hid kb
        clear kb kp HLn HBA HOA HSA
        go_wp2_with fail
        refine (HSt.out w3 HK3.out).mono ?_; rintro e w4 ⟨rfl, b4⟩
        have ho5 := Own.below HO3.out b4 (Nat.le_refl _)
        have HB4 := Lib.hid (HB3.out.trans (b4.mono (by have := HS3.out; omega)))
        have hsz : w1.heap.size + 1 ≤ w4.heap.size := Nat.le_trans HS3.out b4.size
        have HK4 := Lib.hid (HK3.out.below b4 HK3.out.lt)
        have HSZ := Lib.hid hsz
        have hq := HQ.out
        clear b4 HO3 HB3 HS3 HSt HK3
        go_wp2_with (at_builtin; refine wpList_app _ rfl _ _ rfl (w1.heap.size + 1) _ l _ ?_ ?_ ho5 hq hsz ?_; rfl; rfl)
        intro v' w6 ho6 hb6
        have HK6 := Lib.hid (HK4.out.below hb6 (by omega))
        rw [← A2.out] at HK6
        go_wp2
        go_roundw
        case rel => exact ⟨j + 1, by omega, by go_num, (by rw [HS2.out]; exact ho6), HK6, HB4.out.trans (hb6.mono (by omega)), Nat.le_trans HSZ.out hb6.size⟩
        case measure => simp [intOf]; omega
      · have e : j = N := by omega
        subst e
        go_wp2
        go_ret2
        exact ⟨_, rfl, ho.out.mono (by have := HZ.out; have := HB1.out.size; omega), HB1.out.trans (hb.out.mono HB1.out.size)⟩
end Go.Proofs.Ytmcnmjkickamkaa.St
