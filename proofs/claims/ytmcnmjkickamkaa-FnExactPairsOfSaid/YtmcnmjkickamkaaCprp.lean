/- The program's PairsOf. -/
import Derived.Test.YtmcnmjkickamkaaCfol
import Derived.Test.YtmcnmjkickamkaaCpch
namespace Go.Proofs.Ytmcnmjkickamkaa.St
open Go.RowKit Ld Tr
set_option maxRecDepth 100000 in
set_option maxHeartbeats 4000000 in
theorem pairs_i (a : Option Addr) (c : Nat) (xs : List (Int × Int)) (s : Int) (w : World) (hn : xs.length ≤ 1048576) (hr : RowA w a xs) :
    Calls Try.prog 23 #[.slice a xs.length c, .int .i64 s] w (Res2 (if okP xs s then prsV xs s else []) (okP xs s) w) := by
  have hI := Lib.hid (valid_i a c xs w hn hr)
  have hK := Lib.hid (fun w => kind_i s w)
  unfold okP
  cases hok : okT xs
  · rw [hok] at hI
    clear hr
    generalize xs.length = N at *
    go_enter Try.func23, Try.ntmps23
    go_wp2_with (go_at_call 11; refine hI.out.mono ?_; rintro e w' ⟨rfl, b1⟩)
    go_ret2
    exact ⟨_, [], rfl, Own2.nil _ _, b1⟩
  · rw [hok] at hI
    cases hks : isK s
    · rw [hks] at hK
      clear hr
      generalize xs.length = N at *
      go_enter Try.func23, Try.ntmps23
      go_wp2_with (first | (go_at_call 11; refine hI.out.mono ?_; rintro e w' ⟨rfl, b1⟩) | (go_at_call 31; refine (hK.out _).mono ?_; rintro e w' ⟨rfl, rfl⟩))
      go_ret2
      exact ⟨_, [], rfl, Own2.nil _ _, b1⟩
    · rw [hks] at hK
      show Calls _ _ _ w (Res2 (prsV xs s) true w)
      unfold prsV
      have HC := Lib.hid (fun (w' : World) (hb : Below w.heap.size w w') => hr.below hb)
      have HS := Lib.hid (lst_succ xs s)
      have HL := Lib.hid (lst_len xs s)
      have HV := Lib.hid (fun j (hj : j ≤ xs.length) => lst_in xs (fun v => 0 ≤ v ∧ v ≤ 63) (okT_in hok) s j hj)
      have HY := Lib.hid (okT_in hok)
      have h60 := okT_len hok
      have HN := Lib.hid (fun w => new_p w)
      clear hr hks hok
      unfold RowA at HC
      generalize hNN : xs.length = N at *
      clear hNN
      go_enter Try.func23, Try.ntmps23
      go_wp2_with (first | (go_at_call 11; refine hI.out.mono ?_; rintro e w1 ⟨rfl, b1⟩) | (go_at_call 31; refine (hK.out _).mono ?_; rintro e w' ⟨rfl, rfl⟩) | (go_at_call 42; refine (HN.out _).mono ?_; rintro e w2 ⟨rfl, p2, b2⟩))
      have HB1 := Lib.hid b1
      have P2 := Lib.hid p2
      have B2 := Lib.hid b2
      clear b1 p2 b2 HN hI hK
      go_loopw [8, 24] (fun _ i wr => ∃ j : Nat, j ≤ N ∧ i = .int .i64 j ∧ Hid (PcS (lst xs s j) w1.heap.size wr) ∧ Hid (Below w1.heap.size w1 wr)) (fun _ i _ => N - (intOf i).toNat)
      case atStart => exact ⟨0, Nat.zero_le _, rfl, P2, B2⟩
      case round =>
        obtain ⟨j, hj, rfl, hp, hb⟩ := hrel
        by_cases hlt : j < N
        · obtain ⟨b, off, rfl, c1, c2, _⟩ := HC.out wr (HB1.out.trans (hb.out.mono HB1.out.size)) j hlt
          have hs := HS.out j
          have hll := HL.out j
          have hv := HV.out j (by omega)
          have hyy := HY.out j hlt
          generalize xs.getD j (0, 0) = r at *
          obtain ⟨x, y⟩ := r
          have hal := Below.alloc (Below.refl wr.heap.size wr) (Nat.le_refl _) (.cells #[.int .i64 x, .int .i64 y] 50)
          have hpa := hp.out.below hal hp.out.1.lt
          have HBA := Lib.hid (hb.out.alloc hb.out.size (.cells #[.int .i64 x, .int .i64 y] 50))
          have HJ := Lib.hid (show j + 1 ≤ N by omega)
          by_cases he : x = s
          · have hs2 := Lib.hid (show lst xs s (j + 1) = lst xs s j ++ [y] by rw [hs]; exact if_pos he)
            have HLn := Lib.hid (learn_p (lst xs s j) w1.heap.size y _ hpa hv hyy (by omega))
            subst he
            clear hs hll hv hyy hal hpa hp hb
            generalize lst xs x j = l at *
            go_wp2_with (go_at_call 43; refine HLn.out.mono ?_; rintro e w3 ⟨rfl, p3, b3⟩)
            go_roundw
            case rel => exact ⟨j + 1, HJ.out, by go_num, (by rw [hs2.out]; exact p3), HBA.out.trans b3⟩
            case measure => simp [intOf]; omega
          · have hs2 := Lib.hid (show lst xs s (j + 1) = lst xs s j by rw [hs]; exact if_neg he)
            have HPA := Lib.hid hpa
            clear hs hll hv hyy hal hpa hp hb
            go_wp2
            go_roundw
            case rel => exact ⟨j + 1, HJ.out, by go_num, (by rw [hs2.out]; exact HPA), HBA⟩
            case measure => simp [intOf]; omega
        · have e : j = N := by omega
          subst e
          have HP := Lib.hid hp.out
          have HB := Lib.hid hb.out
          clear hp hb HS HL HV HY HC P2 B2 hlt
          generalize lst xs s j = L at *
          have HLT := Lib.hid (show w1.heap.size + 1 < wr.heap.size from HP.out.1.lt)
          have HF := Lib.hid (fun (w' : World) (bb : Below wr.heap.size wr w') (k : Nat) (hk : k < 64) => after_p L w1.heap.size (k : Int) w' (HP.out.below bb HLT.out) (WalkArith.wf_i64 (by omega)))
          have HS := Lib.hid (prw_succ L)
          have HPL := Lib.hid (prw_len L)
          generalize wr = W9 at *
          go_wp2
          go_loopw [9, 10, 11, 12, 37] (fun v _ _ _ i wq => ∃ k : Nat, k ≤ 64 ∧ i = .int .i64 k ∧ ∃ vs, Hid (Own2 wq W9.heap.size v vs (prw L k)) ∧ Hid (Below W9.heap.size W9 wq)) (fun _ _ _ _ i _ => 64 - (intOf i).toNat)
          case atStart => exact ⟨0, Nat.zero_le _, rfl, [], Own2.nil _ _, Below.refl _ _⟩
          case round =>
            obtain ⟨k, hk, rfl, vs, ho, hbq⟩ := hrel
            by_cases hlt : k < 64
            · have HFJ := Lib.hid (HF.out wr hbq.out k hlt)
              have hs := HS.out k
              have hq : (prw L k).length + 1 ≤ 1000000000 := by have := HPL.out k; omega
              generalize fol L (k : Int) = u at *
              by_cases h0 : 0 ≤ u
              · rw [if_pos h0] at hs
                rw [decide_eq_true h0] at HFJ
                have HS2 := Lib.hid hs
                have bI : Below wr.heap.size wr (wr.alloc (.cells #[.int .i64 (k : Nat), .int .i64 u] 2)) := (Below.refl _ _).alloc (Nat.le_refl _) _
                have hI2 := (Own.lit2 wr (k : Nat) u).mono (B' := W9.heap.size) hbq.out.size
                have ho5 := Own2.below ho.out bI (Nat.le_refl _)
                obtain ⟨hf1, hf2⟩ := Own2.new (w' := wr) (g := wr.heap.size) (n := 2) (c := 2) ho.out (Nat.le_refl _)
                have HB5 := Lib.hid (hbq.out.trans (bI.mono hbq.out.size))
                have hsz := HB5.out.size
                have HO5 := Lib.hid ho5
                clear hs ho hbq bI ho5
                generalize prw L k = l at *
                go_wp2_with (first | (go_at_call 44; refine HFJ.out.mono ?_; rintro e w' ⟨⟨z, rfl, hz⟩, rfl⟩; have hzu := hz h0; subst hzu) | (at_builtin; refine wpList_app2 _ rfl _ _ rfl W9.heap.size _ vs l _ [(k : Nat), z] ?_ ?_ HO5.out hI2 hf1 hf2 hq hsz ?_; rfl; exact (show Value.slice (some ⟨wr.heap.size + 1, 0, none⟩) 1 1 = Value.slice (some ⟨(wr.alloc _).heap.size, 0, none⟩) 1 1 from by simp)))
                intro v' w6 ho6 hb6
                go_wp2
                go_roundw
                case rel => exact ⟨k + 1, by omega, by go_num, _, (by rw [HS2.out]; exact ho6), HB5.out.trans hb6⟩
                case measure => simp [intOf]; omega
              · rw [if_neg h0] at hs
                rw [decide_eq_false h0] at HFJ
                have HS2 := Lib.hid hs
                clear hs
                go_wp2_with (go_at_call 44; refine HFJ.out.mono ?_; rintro e w' ⟨⟨z, rfl, hz⟩, rfl⟩)
                go_roundw
                case rel => exact ⟨k + 1, by omega, by go_num, _, (by rw [HS2.out]; exact ho), hbq⟩
                case measure => simp [intOf]; omega
            · have e : k = 64 := by omega
              subst e
              have s1 := HB1.out.size
              have s2 := HB.out.size
              go_wp2
              go_ret2
              exact ⟨_, _, rfl, Own2.mono ho.out (by omega), HB1.out.trans ((HB.out.trans (hbq.out.mono s2)).mono s1)⟩
end Go.Proofs.Ytmcnmjkickamkaa.St
