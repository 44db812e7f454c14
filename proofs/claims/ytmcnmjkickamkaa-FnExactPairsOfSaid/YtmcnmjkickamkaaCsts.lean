/- The model's lines of a stream, and its StridesOf. -/
import Derived.Test.YtmcnmjkickamkaaPlainStr
import Derived.Test.YtmcnmjkickamkaaCldv
import Derived.Test.YtmcnmjkickamkaaCappg
import Derived.IntWalk
namespace Go.Proofs.Ytmcnmjkickamkaa.St
open Go.RowKit Ld Tr
theorem lst_succ (xs : List (Int × Int)) (s : Int) (j : Nat) : lst xs s (j + 1) = if (xs.getD j (0, 0)).1 = s then lst xs s j ++ [(xs.getD j (0, 0)).2] else lst xs s j := rfl
set_option maxHeartbeats 2000000 in
theorem of_s (a : Option Addr) (c k : Nat) (xs : List (Int × Int)) (s : Int) (w : World) (hn : xs.length ≤ 1048576) (hk : k ≤ xs.length) (hr : RowA w a xs) :
    Calls Try.prog 40 #[.slice a xs.length c, .int .i64 k, .int .i64 s] w (Lb (lst xs s k) w) := by
  have HC := Lib.hid hr
  have HS := Lib.hid (lst_succ xs s)
  have HL := Lib.hid (lst_len xs s)
  clear hr
  unfold RowA at HC
  generalize hN : xs.length = N at *
  clear hN
  go_enter Try.func40, Try.ntmps40
  go_wp2
  go_loopw [7, 8] (fun v i wr => ∃ j : Nat, j ≤ k ∧ i = .int .i64 j ∧ Hid (Own wr w.heap.size v (lst xs s j)) ∧ Hid (Below w.heap.size w wr)) (fun _ i _ => k - (intOf i).toNat)
  case atStart => exact ⟨0, Nat.zero_le _, rfl, Own.lit0 w, (Below.refl _ _).alloc (Nat.le_refl _) _⟩
  case round =>
    obtain ⟨j, hj, rfl, ho, hb⟩ := hrel
    by_cases hlt : j < k
    · obtain ⟨b, off, rfl, g1, g2, hbl⟩ := HC.out j (by omega)
      have hjN : j < N := by omega
      have c1 := (hb.out.cell (p := ⟨b, off + j * 2, none⟩) hbl).trans g1
      have c2 := (hb.out.cell (p := ⟨b, off + j * 2 + 1, none⟩) hbl).trans g2
      have hs := Lib.hid (HS.out j)
      have hq : (lst xs s j).length + 1 ≤ 1000000000 := by have := HL.out j; omega
      have ho5 := ho.out
      have hsz := hb.out.size
      clear g1 g2
      generalize xs.getD j (0, 0) = u at *
      obtain ⟨u1, u2⟩ := u
      by_cases he : u1 = s
      · have hs2 := Lib.hid (show lst xs s (j + 1) = lst xs s j ++ [u2] by rw [hs.out]; exact if_pos he)
        subst he
        clear ho hs
        generalize lst xs u1 j = l at *
        go_wp2_with (at_builtin; refine wpList_app _ rfl _ _ rfl w.heap.size _ l _ ?_ ?_ ho5 hq hsz ?_; rfl; rfl)
        intro v' w6 ho6 hb6
        go_wp2
        go_roundw
        case rel => exact ⟨j + 1, by omega, by go_num, (by rw [hs2.out]; exact ho6), hb.out.trans hb6⟩
        case measure => simp [intOf]; omega
      · have hs2 := Lib.hid (show lst xs s (j + 1) = lst xs s j by rw [hs.out]; exact if_neg he)
        clear hs ho5
        go_wp2
        go_roundw
        case rel => exact ⟨j + 1, by omega, by go_num, (by rw [hs2.out]; exact ho), hb⟩
        case measure => simp [intOf]; omega
    · have e : j = k := by omega
      subst e
      go_wp2
      go_ret
      exact ⟨_, rfl, ho.out, hb.out⟩
theorem okT_in {xs : List (Int × Int)} (h : okT xs = true) : ∀ i, i < xs.length → 0 ≤ (xs.getD i (0, 0)).2 ∧ (xs.getD i (0, 0)).2 ≤ 63 := fun i hi => by
  unfold okT at h
  simp only [Bool.and_eq_true, List.all_eq_true] at h
  have hm : xs.getD i (0, 0) ∈ xs := by rw [List.getD_eq_getElem?_getD, List.getElem?_eq_getElem hi]; exact List.getElem_mem hi
  have := h.2 _ hm
  generalize xs.getD i (0, 0) = r at this ⊢
  unfold okE isA at this
  simp at this
  omega
theorem okT_st {xs : List (Int × Int)} (h : okT xs = true) : ∀ i, i < xs.length → 0 ≤ (xs.getD i (0, 0)).1 ∧ (xs.getD i (0, 0)).1 ≤ 3 := fun i hi => by
  unfold okT at h
  simp only [Bool.and_eq_true, List.all_eq_true] at h
  have hm : xs.getD i (0, 0) ∈ xs := by rw [List.getD_eq_getElem?_getD, List.getElem?_eq_getElem hi]; exact List.getElem_mem hi
  have := h.2 _ hm
  generalize xs.getD i (0, 0) = r at this ⊢
  unfold okE isK at this
  simp at this
  omega
set_option maxRecDepth 100000 in
set_option maxHeartbeats 1000000 in
theorem strd_s (a : Option Addr) (c j : Nat) (xs : List (Int × Int)) (w : World) (hn : xs.length ≤ 60) (hj : j < xs.length) (hr : RowA w a xs) (hin : ∀ i, i < xs.length → 0 ≤ (xs.getD i (0, 0)).2 ∧ (xs.getD i (0, 0)).2 ≤ 63) :
    Calls Try.prog 36 #[.slice a xs.length c, .int .i64 j] w (Nb (sF xs j) w) := by
  have HO := Lib.hid (of_s a c (j + 1) xs (xs.getD j (0, 0)).1 w (by omega) (by omega) hr)
  obtain ⟨b, off, rfl, g1, _, _⟩ := hr j hj
  have HL := Lib.hid (lst_len xs (xs.getD j (0, 0)).1 (j + 1))
  have HI := Lib.hid (lst_in xs (fun v => 0 ≤ v ∧ v ≤ 63) hin (xs.getD j (0, 0)).1 (j + 1) (by omega))
  unfold sF
  clear hr hin
  generalize (xs.getD j (0, 0)).1 = s at *
  generalize lst xs s (j + 1) = L at *
  generalize xs.length = N at *
  go_enter Try.func36, Try.ntmps36
  go_wp2_with fail
  refine HO.out.mono ?_; rintro e w1 ⟨v, rfl, o1, b1⟩
  have HB := Lib.hid b1
  clear b1 HO
  by_cases h3 : L.length < 3
  · have hz : strd L = 0 := by unfold strd; rw [if_pos h3]
    obtain ⟨a1, c1, rfl⟩ := o1.form
    have HZ := Lib.hid hz
    clear o1 hz HI
    generalize strd L = sd at *
    generalize L.length = n at *
    have h3' : (n : Int) < 3 := by omega
    go_wp2
    go_region
    go_wp2
    go_ret
    exact ⟨by simp [go_sem, HZ.out], HB.out.drew⟩
  · obtain ⟨m, hm⟩ : ∃ m, L.length = m + 3 := ⟨L.length - 3, by omega⟩
    have hz : strd L = if L.getD (m + 2) 0 - L.getD (m + 1) 0 = L.getD (m + 1) 0 - L.getD m 0 then L.getD (m + 2) 0 - L.getD (m + 1) 0 else 0 := by
      unfold strd
      rw [hm, if_neg (by omega)]
      rfl
    have hr1 := o1.rd
    obtain ⟨a1, c1, rfl, _, _, hr1⟩ := hr1
    obtain ⟨b2, o2, rfl, p0⟩ := hr1 m (by omega)
    obtain ⟨b2', o2', e2, p1⟩ := hr1 (m + 1) (by omega)
    cases e2
    obtain ⟨b2', o2', e2, p2⟩ := hr1 (m + 2) (by omega)
    cases e2
    have i0 := HI.out (L.getD m 0) (by rw [List.getD_eq_getElem?_getD, List.getElem?_eq_getElem (by omega)]; exact List.getElem_mem (by omega))
    have i1 := HI.out (L.getD (m + 1) 0) (by rw [List.getD_eq_getElem?_getD, List.getElem?_eq_getElem (by omega)]; exact List.getElem_mem (by omega))
    have i2 := HI.out (L.getD (m + 2) 0) (by rw [List.getD_eq_getElem?_getD, List.getElem?_eq_getElem (by omega)]; exact List.getElem_mem (by omega))
    have HZ := Lib.hid hz
    have hmm := HL.out
    have hb0 := p0.2
    replace p0 := p0.1
    replace p1 := p1.1
    replace p2 := p2.1
    clear hz o1 HI hr1 HL h3 hb0
    generalize strd L = sd at *
    generalize L.getD m 0 = x0 at *
    generalize L.getD (m + 1) 0 = x1 at *
    generalize L.getD (m + 2) 0 = x2 at *
    generalize L.length = n at *
    have n3 : ¬ (n : Int) < 3 := by omega
    have n3b : decide ((n : Int) < 3) = false := decide_eq_false n3
    have n3c : (3 : Int) ≤ (n : Int) := by omega
    have e1 : IntKind.i64.wrap ((n : Int) - 1) = ((m + 2 : Nat) : Int) := by rw [IntWalk.i64_in _ (by omega)]; omega
    have e2 : IntKind.i64.wrap ((n : Int) - 2) = ((m + 1 : Nat) : Int) := by rw [IntWalk.i64_in _ (by omega)]; omega
    have e3 : IntKind.i64.wrap ((n : Int) - 3) = ((m : Nat) : Int) := by rw [IntWalk.i64_in _ (by omega)]; omega
    have l0 : (m : Int) < (n : Int) := by omega
    have l1 : ((m + 1 : Nat) : Int) < (n : Int) := by omega
    have l2 : ((m + 2 : Nat) : Int) < (n : Int) := by omega
    have M1 := Lib.hid hmm
    clear hmm hm
    generalize m + 1 = m1 at *
    generalize m + 2 = m2 at *
    have d1 : IntKind.i64.wrap (x2 - x1) = x2 - x1 := IntWalk.i64_in _ (by omega)
    have d2 : IntKind.i64.wrap (x1 - x0) = x1 - x0 := IntWalk.i64_in _ (by omega)
    by_cases he : x2 - x1 = x1 - x0
    · rw [if_pos he] at HZ
      have hx : (x2 - x1 != x1 - x0) = false := by simp [he]
      clear he
      go_wp2
      go_region
      go_wp2
      go_region
      go_wp2
      go_ret
      exact ⟨by simp [go_sem, HZ.out], HB.out.drew.drew⟩
    · rw [if_neg he] at HZ
      have hx : (x2 - x1 != x1 - x0) = true := by simp [he]
      clear he
      go_wp2
      go_region
      go_wp2
      go_ret
      exact ⟨by simp [go_sem, HZ.out], HB.out.drew⟩
set_option maxHeartbeats 2000000 in
theorem sts_s (a : Option Addr) (c : Nat) (xs : List (Int × Int)) (w : World) (hn : xs.length ≤ 1048576) (hr : RowA w a xs) :
    Calls Try.prog 16 #[.slice a xs.length c] w (Res (if okT xs then strs xs xs.length else []) (okT xs) w) := by
  have hI := Lib.hid (is_s a c xs w hn hr)
  cases hok : okT xs
  · rw [hok] at hI
    clear hr
    generalize xs.length = N at *
    go_enter Try.func16, Try.ntmps16
    go_wp2_with (go_at_call 29; refine hI.out.mono ?_; rintro e w' ⟨rfl, rfl⟩)
    go_ret2
    exact ⟨_, rfl, Own.nil _ _, Below.refl _ _⟩
  · rw [hok] at hI
    show Calls _ _ _ w (Res (strs xs xs.length) true w)
    have h60 := okT_len hok
    have HF := Lib.hid (fun (w' : World) (hb : Below w.heap.size w w') (j : Nat) (hj : j < xs.length) => strd_s a c j xs w' h60 hj (hr.below hb) (okT_in hok))
    have HS := Lib.hid (strs_succ xs)
    have HL := Lib.hid (strs_len xs)
    clear hr hok
    generalize hN : xs.length = N at *
    clear hN
    go_enter Try.func16, Try.ntmps16
    go_wp2_with (go_at_call 29; refine hI.out.mono ?_; rintro e w' ⟨rfl, rfl⟩)
    go_loopw [4, 5] (fun v i wr => ∃ j : Nat, j ≤ N ∧ i = .int .i64 j ∧ Hid (Own wr w.heap.size v (strs xs j)) ∧ Hid (Below w.heap.size w wr)) (fun _ i _ => N - (intOf i).toNat)
    case atStart => exact ⟨0, Nat.zero_le _, rfl, Own.lit0 w, (Below.refl _ _).alloc (Nat.le_refl _) _⟩
    case round =>
      obtain ⟨j, hj, rfl, ho, hb⟩ := hrel
      by_cases hlt : j < N
      · have HJ := Lib.hid (HF.out wr hb.out j hlt)
        have hs := Lib.hid (HS.out j)
        have hq : (strs xs j).length + 1 ≤ 1000000000 := by rw [HL.out j]; omega
        generalize sF xs j = u at *
        go_wp2_with fail
        refine HJ.out.mono ?_; rintro e w5 ⟨rfl, b5⟩
        have ho5 := Own.below ho.out b5 (Nat.le_refl _)
        have HB5 := Lib.hid (hb.out.trans (b5.mono hb.out.size))
        have hsz := HB5.out.size
        clear ho HJ b5
        generalize strs xs j = l at *
        go_wp2_with (at_builtin; refine wpList_app _ rfl _ _ rfl w.heap.size _ l _ ?_ ?_ ho5 hq hsz ?_; rfl; rfl)
        intro v' w6 ho6 hb6
        go_wp2
        go_roundw
        case rel => exact ⟨j + 1, by omega, by go_num, (by rw [hs.out]; exact ho6), HB5.out.trans hb6⟩
        case measure => simp [intOf]; omega
      · have e : j = N := by omega
        subst e
        go_wp2
        go_ret2
        exact ⟨_, rfl, ho.out, hb.out⟩
end Go.Proofs.Ytmcnmjkickamkaa.St
