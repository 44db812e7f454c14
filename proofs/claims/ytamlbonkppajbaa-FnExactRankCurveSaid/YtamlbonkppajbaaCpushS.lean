/- The model's push of a stack of ranks; the program's comparison as a value. -/
import Derived.Test.YtamlbonkppajbaaCpush
import Derived.Laws.EntriesVeiled
namespace Go.Proofs.Ytamlbonkppajbaa.Tr
open Go.RowKit
theorem least_value (a : Option Addr) (n c : Nat) (w : World) :
    Calls Try.prog 48 #[.slice a n c] w fun e w' => e = .returned (.func (.func 58) #[] #[.pointer (some ⟨w.heap.size, 0, none⟩)]) ∧ w' = w.alloc (.cells #[.slice a n c] 22) := by
  go_enter Try.func48, Try.ntmps48
  go_wp2
  go_ret
  exact ⟨rfl, rfl⟩
/-- What the push leaves. -/
def Pu (p : List Int × Int) (w : World) (e : Ending) (w' : World) : Prop := ∃ v, e = .returned (.tuple #[v, .int .i64 p.2]) ∧ Own w' w.heap.size v p.1 ∧ Below w.heap.size w w'
theorem push_nil (f : Int → Int → Bool) (a : Int) : push f [] a = ([a], -1) := rfl
theorem push_same (f : Int → Int → Bool) (a : Int) (r : List Int) : push f (a :: r) a = (a :: r, 0) := by unfold push; rw [carry_hit]; rfl
theorem push_other (f : Int → Int → Bool) (a t : Int) (r : List Int) (h : t ≠ a) : push f (t :: r) a = ([a] ++ (carry f a t 1 r).1, (carry f a t 1 r).2) := by
  unfold push; rw [carry_swap f a a t 0 r h (.inl rfl)]; rfl
set_option maxHeartbeats 2000000 in
set_option maxRecDepth 100000 in
theorem push_s (ar : Option Addr) (cr : Nat) (rs : List Int) (h64 : rs.length = 64) (v : Value) (st : List Int) (a : Int) (w : World) (hr : Row w ar rs) (hst : Rd w v st) (hl : st.length ≤ 60) (hm : ∀ y ∈ st, 0 ≤ y ∧ y ≤ 63) (ha : 0 ≤ a ∧ a ≤ 63) :
    Calls Try.prog 47 #[.slice ar 64 cr, v, .int .i64 a] w (Pu (push (rkf rs) st a) w) := by
  obtain ⟨sa, sc, rfl, hcc, hcm, hrow⟩ := hst
  cases st with
  | nil =>
    rw [push_nil]
    clear hrow hr hcm
    go_enter Try.func47, Try.ntmps47
    go_wp2
    go_ret2
    exact ⟨_, rfl, Own.lit w a, (Below.refl _ _).alloc (Nat.le_refl _) _⟩
  | cons t r =>
    obtain ⟨b, off, e, c1, hb⟩ := hrow 0 (by simp)
    subst e
    rw [Nat.add_zero] at c1
    have c1 : w.cell? ⟨b, off, none⟩ = some (.int .i64 t) := c1
    by_cases hta : t = a
    · subst hta
      rw [push_same]
      have HOW := Lib.hid (fun (w' : World) (hb : Below w.heap.size w w') => own_any b off sc (t :: r) w' (by omega) (hrow.below hb))
      have hb0 := Lib.hid ((Below.refl w.heap.size w).alloc (Nat.le_refl _) (.cells #[.int .i64 t] 2))
      have hlp : 0 < (t :: r).length := by simp
      clear hrow hr hcm
      generalize (t :: r) = L at *
      generalize L.length = N at *
      have hN0 : ¬ (N : Int) = 0 := by omega
      go_enter Try.func47, Try.ntmps47
      go_wp2_with (go_at_call 57; (with_reducible refine (HOW.out _ hb0.out).mono ?_); rintro e w1 ⟨v1, rfl, o1, b1⟩)
      go_ret2
      have hz : (w.alloc (.cells #[.int .i64 t] 2)).heap.size = w.heap.size + 1 := Array.size_push _
      exact ⟨_, rfl, o1.mono (by omega), hb0.out.trans (b1.mono (by omega))⟩
    · have HP0 := push_other (rkf rs) a t r hta
      have HC := Lib.hid hrow
      have HM := Lib.hid (fun j (hj : j < (t :: r).length) => hm _ (getD_mem (t :: r) j hj))
      have HD := Lib.hid (fun j (hj : j < (t :: r).length) => drop_at (t :: r) j hj)
      have HE := Lib.hid (show (t :: r).drop (t :: r).length = [] from List.drop_length)
      have HSUB := Lib.hid (fun j (hj : j ≤ (t :: r).length) => hrow.sub j (t :: r).length hj (Nat.le_refl _))
      have H0 : Hid (push (rkf rs) (t :: r) a = ([a] ++ (carry (rkf rs) a t 1 ((t :: r).drop 1)).1, (carry (rkf rs) a t 1 ((t :: r).drop 1)).2)) := HP0
      have hlp : 1 ≤ (t :: r).length := by simp
      have ht0 := Lib.hid (hm t (by simp))
      have hr1 : rs.length = 64 := h64
      have HRR := Lib.hid hr
      unfold Row at HC
      clear HP0 hm hrow hr h64
      generalize (t :: r) = st at *
      clear r
      generalize push (rkf rs) st a = PP at *
      obtain ⟨P1, P2⟩ := PP
      have HTK := Lib.hid (show st.take st.length = st from List.take_length)
      have HDL := Lib.hid (show ∀ j, (st.drop j).length = st.length - j from fun j => List.length_drop)
      generalize hN : st.length = N at *
      have HN := Lib.hid hN
      clear hN
      have hN0 : ¬ (N : Int) = 0 := by omega
      have HRK := Lib.hid (show ∀ (c t : Int) (w' : World), Below w.heap.size w w' → 0 ≤ c ∧ c ≤ 63 → 0 ≤ t ∧ t ≤ 63 → ∃ (q s br offr : Nat) , c = (q : Int) ∧ t = (s : Int) ∧ q < 64 ∧ s < 64 ∧ ar = some ⟨br, offr, none⟩ ∧ w'.cell? ⟨br, offr + q, none⟩ = some (.int .i64 (rs.getD q 0)) ∧ w'.cell? ⟨br, offr + s, none⟩ = some (.int .i64 (rs.getD s 0)) ∧ rkf rs c t = decide (rs.getD q 0 < rs.getD s 0) from fun c t w' hb hc ht => by
        obtain ⟨q, rfl⟩ := Int.eq_ofNat_of_zero_le hc.1
        obtain ⟨s, rfl⟩ := Int.eq_ofNat_of_zero_le ht.1
        obtain ⟨br, offr, e, d1, _⟩ := (HRR.out.below hb) q (by omega)
        obtain ⟨br', offr', e', d2, _⟩ := (HRR.out.below hb) s (by omega)
        rw [e] at e'
        injection e' with e'
        injection e' with e1 e2
        subst e1 e2
        exact ⟨q, s, br, offr, rfl, rfl, by omega, by omega, e, d1, d2, rfl⟩)
      clear HRR
      go_enter Try.func47, Try.ntmps47
      go_wp2
      have b1 : ((N : Int) == 0) = false := by simpa using hN0
      have b2 : (t == a) = false := by simpa using hta
      rw [b1, b2]
      clear b1 b2
      go_loopw [8, 9, 10, 11] (fun v cv iv _ wr => ∃ (j : Nat) (c : Int) (pre : List Int), j ≤ N ∧ iv = .int .i64 j ∧ cv = .int .i64 c ∧ 1 ≤ j ∧ Hid (pre.length = j) ∧ Hid (0 ≤ c ∧ c ≤ 63) ∧ Hid ((P1, P2) = (pre ++ (carry (rkf rs) a c j (st.drop j)).1, (carry (rkf rs) a c j (st.drop j)).2)) ∧ Own wr w.heap.size v pre ∧ Below w.heap.size w wr) (fun _ _ iv _ _ => N - (intOf iv).toNat)
      case atStart => exact ⟨1, t, [a], hlp, rfl, rfl, Nat.le_refl _, Lib.hid rfl, ht0, H0, Own.lit w a, (Below.refl _ _).alloc (Nat.le_refl _) _⟩
      case round =>
        obtain ⟨j, c, pre, hj, rfl, rfl, hj1, hpre, hc, hP, ho, hB⟩ := hrel
        have hsz := hB.size
        have hq : pre.length + 1 ≤ 1000000000 := by rw [hpre.out]; omega
        by_cases hlt : j < N
        · obtain ⟨b2, off2, e2, d1, hb2⟩ := HC.out j hlt
          injection e2 with e2
          injection e2 with e3 e4
          subst e3 e4
          have d2 : wr.cell? ⟨b, off + j, none⟩ = some (.int .i64 (st.getD j 0)) := (hB.cell (p := ⟨b, off + j, none⟩) hb2).trans d1
          have hd := HD.out j hlt
          have hu := HM.out j hlt
          rw [hd] at hP
          have hlt' : (j : Int) < N := by omega
          clear d1 hd
          generalize st.getD j 0 = u at *
          by_cases hua : u = a
          · subst hua
            rw [carry_hit] at hP
            injection hP.out with e1 e2
            subst e1 e2
            have HRW := Lib.hid (fun (w2 : World) (hb9 : Below w.heap.size wr w2) (i : Nat) (hi : i < N - (j + 1)) => show w2.cell? ⟨b, off + (j + 1) + i, none⟩ = some (.int .i64 ((st.drop (j + 1)).getD i 0)) from by
              obtain ⟨b5, off5, e5, d5, hb5⟩ := HC.out (j + 1 + i) (by omega)
              injection e5 with e5
              injection e5 with e6 e7
              subst e6 e7
              have e8 : (st.drop (j + 1)).getD i 0 = st.getD (j + 1 + i) 0 := by simp [List.getD_eq_getElem?_getD, List.getElem?_drop]
              rw [e8, Nat.add_assoc]
              exact ((hB.trans hb9).cell (p := ⟨b, off + (j + 1 + i), none⟩) hb5).trans d5)
            have hdl := HDL.out (j + 1)
            have f1 : (0 : Int) ≤ (j : Int) + 1 := by omega
            have f2 : (j : Int) + 1 ≤ (N : Int) := by omega
            have f3 : ((j : Int) + 1).toNat = j + 1 := by omega
            have f4 : (N : Int) ≤ (sc : Int) := by omega
            by_cases hsc : sc = j + 1
            · have hNj : N = j + 1 := by omega
              have hnil : st.drop (j + 1) = [] := by apply List.eq_nil_of_length_eq_zero; rw [hdl]; omega
              clear HRW
              subst hsc
              go_wp2_with (at_builtin; refine wpList_app _ rfl _ _ rfl w.heap.size _ pre c ?_ ?_ ho hq hsz ?_; rfl; rfl)
              intro v' w1 ho1 hb1
              have hsz1 : w.heap.size ≤ w1.heap.size := Nat.le_trans hsz hb1.size
              have hq1 : (pre ++ [c]).length + ([] : List Int).length ≤ 1000000000 := by rw [List.length_append]; simp; omega
              go_wp2_with (at_builtin; refine wpList_appL w1 rfl _ _ rfl w.heap.size _ (pre ++ [c]) [] b off 0 0 ?_ ?_ ho1 rfl (fun i hi => absurd hi (Nat.not_lt_zero _)) hq1 hsz1 ?_; rfl; first | rfl | (simp [Act.eval, Act.put]; omega))
              intro v2 w2 ho2 hb2
              go_wp2
              go_ret2
              exact ⟨_, rfl, by rw [hnil]; simpa using ho2, (hB.trans hb1).trans hb2⟩
            · go_wp2_with (at_builtin; refine wpList_app _ rfl _ _ rfl w.heap.size _ pre c ?_ ?_ ho hq hsz ?_; rfl; rfl)
              intro v' w1 ho1 hb1
              have hsz1 : w.heap.size ≤ w1.heap.size := Nat.le_trans hsz hb1.size
              have hq1 : (pre ++ [c]).length + (st.drop (j + 1)).length ≤ 1000000000 := by rw [List.length_append, hdl, hpre.out]; simp; omega
              have HRW1 := Lib.hid (HRW.out w1 hb1)
              go_wp2_with (at_builtin; refine wpList_appL w1 rfl _ _ rfl w.heap.size _ (pre ++ [c]) (st.drop (j + 1)) b (off + (j + 1)) (N - (j + 1)) (sc - (j + 1)) ?_ ?_ ho1 hdl HRW1.out hq1 hsz1 ?_; rfl; first | rfl | (simp [Act.eval, Act.put]; omega))
              intro v2 w2 ho2 hb2
              go_wp2
              go_ret2
              exact ⟨_, rfl, by simpa using ho2, (hB.trans hb1).trans hb2⟩
          · obtain ⟨qc, qu, br, offr, rfl, rfl, hqc, hqu, rfl, r1, r2, hrk⟩ := HRK.out c u wr hB hc.out hu
            have HRKE := Lib.hid hrk
            have hqc2 : (qc : Int) < 64 := by omega
            have hqu2 : (qu : Int) < 64 := by omega
            by_cases hlo : rs.getD qc 0 < rs.getD qu 0
            · have hf : rkf rs (qc : Int) (qu : Int) = true := by rw [HRKE.out, decide_eq_true hlo]
              rw [carry_swap _ a _ _ j _ hua (.inr hf)] at hP
              clear hrk hf HRKE HRK
              generalize rs.getD qc 0 = x at *
              generalize rs.getD qu 0 = y at *
              go_wp2
              go_region
              (go_wp2_with (at_builtin; refine wpList_app _ rfl _ _ rfl w.heap.size _ pre (qc : Int) ?_ ?_ (ho.drewN _) hq hsz ?_; rfl; rfl))
              intro v' w1 ho1 hb1
              go_wp2
              go_roundw
              case rel => exact ⟨j + 1, _, pre ++ [_], hlt, by go_num, rfl, by omega, Lib.hid (by rw [List.length_append, hpre.out]; rfl), Lib.hid hu, Lib.hid (by rw [hP.out]; simp), ho1, (hB.drew).trans hb1⟩
              case measure => simp [intOf]; omega
            · have hf : rkf rs (qc : Int) (qu : Int) = false := by rw [HRKE.out, decide_eq_false hlo]
              rw [carry_keep _ a _ _ j _ hua (by omega) hf] at hP
              clear hrk hf HRKE HRK
              generalize rs.getD qc 0 = x at *
              generalize rs.getD qu 0 = y at *
              go_wp2
              go_region
              (go_wp2_with (at_builtin; refine wpList_app _ rfl _ _ rfl w.heap.size _ pre (qu : Int) ?_ ?_ (ho.drewN _) hq hsz ?_; rfl; rfl))
              intro v' w1 ho1 hb1
              go_wp2
              go_roundw
              case rel => exact ⟨j + 1, _, pre ++ [_], hlt, by go_num, rfl, by omega, Lib.hid (by rw [List.length_append, hpre.out]; rfl), hc, Lib.hid (by rw [hP.out]; simp), ho1, (hB.drew).trans hb1⟩
              case measure => simp [intOf]; omega
        · have e : j = N := by omega
          subst e
          rw [HE.out, carry_nil] at hP
          injection hP.out with e1 e2
          subst e1 e2
          go_wp2_with (at_builtin; refine wpList_app _ rfl _ _ rfl w.heap.size _ pre c ?_ ?_ ho hq hsz ?_; rfl; rfl)
          intro v' w1 ho1 hb1
          go_wp2
          go_ret2
          exact ⟨_, rfl, ho1, hB.trans hb1⟩
end Go.Proofs.Ytamlbonkppajbaa.Tr
