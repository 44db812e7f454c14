/- The contracts of both CountsOf. -/
import Derived.Test.YtonplmnopfmnmaaCcnt
import Derived.Test.YtonplmnopfmnmaaCput
namespace Go.Proofs.Ytonplmnopfmnmaa.Tr
open Go.RowKit
def CK (xs set : List Int) (k : Nat) : List Int := (set.take k).map fun a => (xs.count a : Int)
theorem CK_succ (xs set : List Int) (k : Nat) (h : k < set.length) : CK xs set (k + 1) = CK xs set k ++ [((xs.count (set.getD k 0) : Nat) : Int)] := by
  unfold CK; rw [List.take_succ_eq_append_getElem h, List.map_append, getD_get set k h]; rfl
theorem CK_length (xs set : List Int) (k : Nat) : (CK xs set k).length ≤ k := by unfold CK; simp; omega
theorem CK_all (xs : List Int) : CK xs (setP xs) (setP xs).length = countsP xs := by unfold CK countsP; rw [List.take_length]
theorem count_step (xs : List Int) (s : Int) (i : Nat) (h : i < xs.length) : (xs.take (i + 1)).count s = (xs.take i).count s + if xs.getD i 0 = s then 1 else 0 := by
  rw [List.take_succ_eq_append_getElem h, List.count_append, getD_get xs i h, List.count_singleton]
  simp
set_option maxHeartbeats 2000000 in
theorem counts_s (a : Option Addr) (c : Nat) (xs : List Int) (w : World) (hn : xs.length ≤ 60) (hok : okU xs = true) (hr : Row w a xs) (h0 : Rd w (.slice a xs.length c) xs) :
    Calls Try.prog 7 #[.slice a xs.length c] w (Res (countsP xs) true w) := by
  have hU := Lib.hid (uses_sR h0 (by omega))
  rw [hok] at hU
  have hS := Lib.hid (set_s a c xs w (by omega) hr)
  have HC := Lib.hid hr
  have HK := Lib.hid (fun k h => CK_succ xs (setP xs) k h)
  have HKL := Lib.hid (CK_length xs (setP xs))
  have HKA := Lib.hid (CK_all xs)
  have HCT := Lib.hid (fun s i h => count_step xs s i h)
  have HCA := Lib.hid (fun s : Int => (show (xs.take xs.length).count s = xs.count s by rw [List.take_length]))
  have hsl := setP_length xs
  clear hok hr h0
  unfold Row at HC
  generalize countsP xs = CP at *
  generalize setP xs = st at *
  generalize hN : xs.length = N at *
  clear hN
  go_enter Try.func7, Try.ntmps7
  go_wp2_with (go_at_call 29; refine hU.out.mono ?_; rintro e w' ⟨rfl, rfl⟩)
  refine hS.out.mono ?_
  rintro e w1 ⟨v1, rfl, o1, b1⟩
  obtain ⟨a1, c1, hv1⟩ := o1.form
  subst hv1
  have HR1 := Lib.hid (fun (w' : World) (hb : Below w1.heap.size w1 w') => (o1.below hb (Nat.le_refl _)).rd)
  have HB1 := Lib.hid b1
  clear o1 b1 hU hS
  generalize hM : st.length = M at *
  clear hM
  go_wp2
  go_loopw [5, 6, 7, 8] (fun v k _ _ wr => ∃ j : Nat, j ≤ M ∧ k = .int .i64 j ∧ Hid (Own wr w1.heap.size v (CK xs st j)) ∧ Hid (Below w1.heap.size w1 wr)) (fun _ k _ _ _ => M - (intOf k).toNat)
  case atStart => exact ⟨0, Nat.zero_le _, rfl, Own.lit0 w1, (Below.refl _ _).alloc (Nat.le_refl _) _⟩
  case round =>
    obtain ⟨j, hj, rfl, ho, hb⟩ := hrel
    by_cases hlt : j < M
    · obtain ⟨a', c', e, _, _, hr1⟩ := HR1.out wr hb.out
      injection e with e1 e2 e3
      subst e1
      obtain ⟨bs, offs, rfl, cs, _⟩ := hr1 j (by omega)
      have hk := Lib.hid (HK.out j hlt)
      have hkl := HKL.out j
      have hca := Lib.hid (HCA.out (st.getD j 0))
      have hct := Lib.hid (HCT.out (st.getD j 0))
      have HW := Lib.hid (HB1.out.trans (hb.out.mono HB1.out.size))
      have HROW := Lib.hid (fun i (hi : i < N) => (show ∃ b off, a = some ⟨b, off, none⟩ ∧ wr.cell? ⟨b, off + i, none⟩ = some (.int .i64 (xs.getD i 0)) by
        obtain ⟨b, off, e, h1, h2⟩ := HC.out i hi
        exact ⟨b, off, e, (HW.out.cell (p := ⟨b, off + i, none⟩) h2).trans h1⟩))
      clear hr1 e2 e3
      generalize st.getD j 0 = s at *
      generalize hl : CK xs st j = l at *
      clear hl
      go_wp2
      go_loopw [7, 8] (fun ct i wr2 => ∃ p t q : Nat, p ≤ N ∧ i = .int .i64 p ∧ ct = .int .i64 (t : Nat) ∧ t ≤ p ∧ Hid (t = (xs.take p).count s) ∧ wr2 = wr.drewN q) (fun _ i _ => N - (intOf i).toNat)
      case atStart => exact ⟨0, 0, 0, Nat.zero_le _, rfl, rfl, Nat.le_refl _, Lib.hid rfl, rfl⟩
      case round =>
        obtain ⟨p, t, q, hp, rfl, rfl, htp, ht, rfl⟩ := hrel
        by_cases hpl : p < N
        · obtain ⟨b, off, rfl, cx⟩ := HROW.out p hpl
          have hst := hct.out p hpl
          rw [← ht.out] at hst
          have HST := Lib.hid hst
          clear hst
          generalize xs.getD p 0 = u at *
          by_cases hus : u = s
          · subst hus
            have hst2 := Lib.hid (show (xs.take (p + 1)).count u = t + 1 by rw [HST.out, if_pos rfl])
            clear HST
            go_wp2
            go_quiet (fail)
            go_wp2
            go_roundw
            case rel => exact ⟨p + 1, t + 1, _, by omega, by go_num, by go_num, by omega, Lib.hid hst2.out.symm, by first | rfl | rw [World.drewN_drewN]⟩
            case measure => simp [intOf]; omega
          · have hst2 := Lib.hid (show (xs.take (p + 1)).count s = t by rw [HST.out, if_neg hus]; rfl)
            clear HST
            have hne : (u == s) = false := by simp [hus]
            go_wp2
            go_quiet (fail)
            go_wp2
            go_roundw
            case rel => exact ⟨p + 1, t, _, by omega, by go_num, rfl, by omega, Lib.hid hst2.out.symm, by first | rfl | rw [World.drewN_drewN]⟩
            case measure => simp [intOf]; omega
        · have e : p = N := by omega
          subst e
          have hk2 := hk.out
          rw [← hca.out, ← ht.out] at hk2
          have HK2 := Lib.hid hk2
          have hbn : Below w1.heap.size w1 (wr.drewN q) := below_drewN _ hb.out
          have ov3 : Own (wr.drewN q) w1.heap.size _ l := ho.out.drewN q
          have hsz3 : w1.heap.size ≤ (wr.drewN q).heap.size := hb.out.size
          clear hk hk2 hca hct ht HROW
          generalize wr.drewN q = w3 at *
          have hq : l.length + 1 ≤ 1000000000 := by omega
          go_wp2_with (at_builtin; refine wpList_app _ rfl _ _ rfl w1.heap.size _ l _ ?_ ?_ ov3 hq hsz3 ?_; rfl; rfl)
          intro v' w4 ov4 hb4
          go_wp2
          go_roundw
          case rel => exact ⟨j + 1, by omega, by go_num, (by rw [HK2.out]; exact ov4), hbn.trans hb4⟩
          case measure => simp [intOf]; omega
    · have e : j = M := by omega
      subst e
      have hoo := ho.out
      rw [HKA.out] at hoo
      go_wp2
      go_ret2
      exact ⟨_, rfl, hoo.mono HB1.out.size, HB1.out.trans (hb.out.mono HB1.out.size)⟩
theorem counts_yes_s {v : Value} {xs : List Int} {w : World} (h : Rd w v xs) (hok : okU xs = true) :
    Calls Try.prog 7 #[v] w (Res (countsP xs) true w) := by
  have h0 := h
  obtain ⟨a, c, rfl, _, _, hr⟩ := h
  exact counts_s a c xs w (okU_len hok) hok hr h0
theorem counts_no_s {v : Value} {xs : List Int} {w : World} (h : Rd w v xs) (hn : xs.length ≤ 1048576) (hok : okU xs = false) :
    Calls Try.prog 7 #[v] w (Res [] false w) := by
  have hU := Lib.hid (uses_sR h hn)
  rw [hok] at hU
  go_enter Try.func7, Try.ntmps7
  go_wp2_with (go_at_call 29; refine hU.out.mono ?_; rintro e w' ⟨rfl, rfl⟩)
  go_ret2
  exact ⟨_, rfl, Own.nil _ _, Below.refl _ _⟩
theorem counts_no_i {v : Value} {xs : List Int} {w : World} (h : Rd w v xs) (hn : xs.length ≤ 1048576) (hok : okU xs = false) :
    Calls Try.prog 9 #[v] w (Res [] false w) := by
  have hU := Lib.hid (uses_iR h hn)
  rw [hok] at hU
  go_enter Try.func9, Try.ntmps9
  go_wp2_with (go_at_call 31; refine hU.out.mono ?_; rintro e w' ⟨rfl, rfl⟩)
  go_ret2
  exact ⟨_, rfl, Own.nil _ _, Below.refl _ _⟩
end Go.Proofs.Ytonplmnopfmnmaa.Tr
