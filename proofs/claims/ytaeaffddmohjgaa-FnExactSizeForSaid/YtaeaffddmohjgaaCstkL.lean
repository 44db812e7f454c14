/- The program's stack after a use, the one used last being first. -/
import Derived.Test.YtaeaffddmohjgaaCstk0
import Derived.Test.YtaeaffddmohjgaaCuses
import Derived.Test.YtaeaffddmohjgaaCRow
import Derived.WalkMore
import Derived.Laws.EntriesVeiled
namespace Go.Proofs.Ytaeaffddmohjgaa.Tr
open Go.RowKit
set_option maxHeartbeats 2000000 in
set_option maxRecDepth 100000 in
theorem use_L (f : Int → Int → Bool) (B p : Nat) (v : Value) (st : List Int) (a : Int) (w : World) (hs : Stk w p v (.func (.func 47) #[] #[])) (ho : Own w B v st) (hBp : B ≤ p) (hsep : v.ownBlock ≠ some p) (hl : st.length ≤ 60) (hst : ∀ y ∈ st, 0 ≤ y ∧ y ≤ 63) (ha : 0 ≤ a ∧ a ≤ 63)
    (hF : ∀ c t w', 0 ≤ c ∧ c ≤ 63 → 0 ≤ t ∧ t ≤ 63 → Below B w w' → Calls Try.prog 47 #[.int .i64 c, .int .i64 t] w' (Bl (f c t) w')) :
    Calls Try.prog 62 #[.pointer (some ⟨p, 0, none⟩), .int .i64 a] w (fun e w' => e = .returned (.int .i64 (push f st a).2) ∧ ∃ v', Stk w' p v' (.func (.func 47) #[] #[]) ∧ Own w' B v' (push f st a).1 ∧ Below B w w' ∧
      (∀ k, k < w.heap.size → k ≠ p → v.ownBlock ≠ some k → w'.heap[k]? = w.heap[k]?) ∧ (∀ k, v'.ownBlock = some k → v.ownBlock = some k ∨ w.heap.size ≤ k)) := by
  obtain ⟨sa, cap, hv⟩ := ho.form
  have hBw : B ≤ w.heap.size := Nat.le_trans hBp (Nat.le_of_lt hs.lt)
  have hpw := hs.lt
  have HF := Lib.hid hF
  have HST := Lib.hid (fun j (hj : j < st.length) => hst _ (getD_mem st j hj))
  have HD := Lib.hid (fun j (hj : j < st.length) => drop_at st j hj)
  have HE := Lib.hid (show st.drop st.length = [] from List.drop_length)
  have H0 : Hid (push f st a = ([] ++ (carry f a a 0 (st.drop 0)).1, (carry f a a 0 (st.drop 0)).2)) := by show _ = _; rw [List.drop_zero]; rfl
  have HL0 := Lib.hid (show ∀ j, (st.drop j).length = st.length - j from fun j => List.length_drop)
  have HO0 := Lib.hid (show Own w B v ([] ++ st.drop 0) by rw [List.drop_zero]; exact ho)
  clear hF hst ho
  generalize push f st a = PP at *
  obtain ⟨P1, P2⟩ := PP
  generalize hN : st.length = N at *
  have HN := Lib.hid hN
  clear hN
  subst hv
  have hsep' : ∀ g, sa = some ⟨g, 0, none⟩ → g ≠ p := fun g e h => hsep (by rw [e, ← h]; rfl)
  have HSEP := Lib.hid hsep'
  have HSEP2 := Lib.hid hsep
  clear hsep hsep'
  have hN63 : N ≤ 9223372036854775807 := by omega
  go_enter Try.func62, Try.ntmps62
  obtain ⟨c0, c1, f0⟩ := hs.cells
  go_wp2
  go_step3
  go_wp2
  go_step3
  go_wp2
  go_loopw [5, 6] (fun cv pv wr => ∃ (j : Nat) (c : Int) (pre : List Int), j ≤ N ∧ pv = .int .i64 j ∧ cv = .int .i64 c ∧ Hid (pre.length = j) ∧ Hid (0 ≤ c ∧ c ≤ 63) ∧ Hid ((P1, P2) = (pre ++ (carry f a c j (st.drop j)).1, (carry f a c j (st.drop j)).2)) ∧ Hid (Own wr B (.slice sa N cap) (pre ++ st.drop j)) ∧ Stk wr p (.slice sa N cap) (.func (.func 47) #[] #[]) ∧ Hid (w.grownBy wr (Value.slice sa N cap).ownBlock)) (fun _ pv _ => N - (intOf pv).toNat)
  case atStart => exact ⟨0, a, [], Nat.zero_le _, rfl, rfl, Lib.hid rfl, Lib.hid ha, H0, HO0, hs, Lib.hid (World.grownBy.rfl' _ _)⟩
  case round =>
    obtain ⟨j, c, pre, hj, rfl, rfl, hpre, hc, hP, ho, hsr, hg⟩ := hrel
    clear c0 c1 f0
    obtain ⟨c0, c1, f0⟩ := hsr.cells
    have hpr := hsr.lt
    by_cases hlt : j < N
    · have hd := HD.out j hlt
      have ht := HST.out j hlt
      have hji : (j : Int) < N := by omega
      have hlen : (pre ++ st.drop j).length = N := by rw [List.length_append, hpre.out, HL0.out]; omega
      obtain ⟨g, hsa, hBg, hgw, hcell, hfz, hset⟩ := Own.at ho.out hlen j hlt
      rw [hd, pre_get _ _ _ j hpre.out] at hcell
      rw [hd] at hP
      have hset' : ∀ u, Own (wr.setCell ⟨g, j, none⟩ (.int .i64 u)) B (.slice sa N cap) (pre ++ u :: st.drop (j + 1)) ∧ wr.grownBy (wr.setCell ⟨g, j, none⟩ (.int .i64 u)) (some g) := fun u => by
        have h := hset u
        rw [hd, pre_set _ _ _ _ j hpre.out] at h
        exact h
      have HO2 := Lib.hid (show pre ++ st.getD j 0 :: st.drop (j + 1) = (pre ++ [st.getD j 0]) ++ st.drop (j + 1) by simp)
      rw [hd] at ho
      clear hd hset hlen
      have hgp := HSEP.out g hsa
      have HSET := Lib.hid (fun u => show Own (wr.setCell ⟨g, j, none⟩ (.int .i64 u)) B (.slice sa N cap) (pre ++ u :: st.drop (j + 1)) ∧ Stk (wr.setCell ⟨g, j, none⟩ (.int .i64 u)) p (.slice sa N cap) (.func (.func 47) #[] #[]) ∧ w.grownBy (wr.setCell ⟨g, j, none⟩ (.int .i64 u)) (Value.slice sa N cap).ownBlock from
        ⟨(hset' u).1, hsr.same (set_other _ (fun e => hgp e.symm)), grownBy_trans hg.out (by rw [hsa]; exact (hset' u).2)⟩)
      clear hset'
      subst hsa
      generalize st.getD j 0 = t at *
      have hBwr : Below B w wr := below_of hg.out (fun k hk => by injection hk with hk; rw [← hk]; exact hBg) hBw
      by_cases hta : t = a
      · subst hta
        rw [carry_hit] at hP
        injection hP.out with e1 e2
        subst e1 e2
        obtain ⟨hO, hS, hG⟩ := HSET.out c
        have HB := Lib.hid (below_of hG (fun k hk => by injection hk with hk; rw [← hk]; exact hBg) hBw)
        clear HSET
        go_wp2
        go_ret
        exact ⟨rfl, _, hS, hO, HB.out, fun k hk hkp hkv => hG.block k hk (fun e => hkv e.symm), fun k hk => .inl hk⟩
      · by_cases hj0 : j = 0
        · subst hj0
          rw [carry_swap f a c t 0 _ hta (.inl rfl)] at hP
          obtain ⟨hO, hS, hG⟩ := HSET.out c
          clear HSET
          go_wp2
          go_roundw
          case rel => exact ⟨1, t, pre ++ [c], hlt, rfl, rfl, Lib.hid (by rw [List.length_append, hpre.out]; rfl), Lib.hid ht, Lib.hid (by rw [hP.out]; simp), Lib.hid (by simpa using hO), hS, Lib.hid hG⟩
          case measure => simp [intOf]; omega
        · have hj0' : ¬ (j : Int) = 0 := by omega
          have HFJ := Lib.hid (HF.out c t wr hc.out ht hBwr)
          cases hft : f c t
          · rw [carry_keep f a c t j _ hta hj0 hft] at hP
            rw [hft] at HFJ
            clear hft HSET
            go_wp2_with (go_at_call 47; (with_reducible refine HFJ.out.mono ?_); rintro e w' ⟨rfl, rfl⟩)
            go_roundw
            case rel => exact ⟨j + 1, c, pre ++ [t], hlt, by go_num, rfl, Lib.hid (by rw [List.length_append, hpre.out]; rfl), hc, Lib.hid (by rw [hP.out]; simp), Lib.hid (by rw [← HO2.out]; exact ho.out), hsr, Lib.hid ⟨hg.out.os, hg.out.tape, hg.out.output, hg.out.size, hg.out.block⟩⟩
            case measure => simp [intOf]; omega
          · rw [carry_swap f a c t j _ hta (.inr hft)] at hP
            rw [hft] at HFJ
            clear hft
            obtain ⟨hO, hS, hG⟩ := HSET.out c
            clear HSET
            go_wp2_with (go_at_call 47; (with_reducible refine HFJ.out.mono ?_); rintro e w' ⟨rfl, rfl⟩)
            go_roundw
            case rel => exact ⟨j + 1, t, pre ++ [c], hlt, by go_num, rfl, Lib.hid (by rw [List.length_append, hpre.out]; rfl), Lib.hid ht, Lib.hid (by rw [hP.out]; simp), Lib.hid (by rw [List.append_assoc]; exact hO), hS, Lib.hid ⟨hG.os, hG.tape, hG.output, hG.size, hG.block⟩⟩
            case measure => simp [intOf]; omega
    · have e : j = N := by omega
      subst e
      rw [HE.out, List.append_nil] at ho
      rw [HE.out, carry_nil] at hP
      injection hP.out with e1 e2
      subst e1 e2
      have hlen : pre.length + 1 ≤ 1000000000 := by rw [hpre.out]; omega
      have hBwr2 : B ≤ wr.heap.size := Nat.le_trans hBw hg.out.size
      have HOO := ho.out
      go_wp2_with (at_builtin; refine wpList_appB wr rfl _ _ rfl B _ pre c ?_ ?_ HOO hlen hBwr2 ?_; rfl; rfl)
      intro v' w1 ho1 hb1 hk1 hv1
      have hs1 : Stk w1 p (.slice sa j cap) (.func (.func 47) #[] #[]) := hsr.same (hk1 p hpr HSEP2.out)
      obtain ⟨d0, d1, g0⟩ := hs1.cells
      have hS2 := hs1.set v'
      have hv'p : v'.ownBlock ≠ some p := fun e => by
        rcases hv1 p e with h | h
        · exact HSEP2.out h
        · omega
      have ho2 : Own (w1.setCell ⟨p, 0, none⟩ v') B v' (pre ++ [c]) := ho1.same fun k hk => set_other _ (fun e => hv'p (by rw [hk]; exact congrArg some e))
      obtain ⟨a3, n3, c3, e3⟩ : ∃ a n c, v' = Value.slice a n c := by obtain ⟨a3, c3, e3⟩ := ho1.form; exact ⟨a3, _, c3, e3⟩
      subst e3
      go_wp2
      (first | go_ret | (rw [Exit.noGoto_ret]; go_ret))
      refine ⟨rfl, _, hS2, ho2, ?_, fun k hk hkp hkv => ?_, fun k hk => ?_⟩
      · exact ((below_of hg.out (fun k hk => (HOO.block k hk).1) hBw).trans hb1).setCell hBp _
      · rw [set_other _ hkp, hk1 k (Nat.lt_of_lt_of_le hk hg.out.size) hkv]
        exact hg.out.block k hk (fun e => hkv e.symm)
      · rcases hv1 k hk with h | h
        · exact .inl h
        · exact .inr (Nat.le_trans hg.out.size h)
end Go.Proofs.Ytaeaffddmohjgaa.Tr
