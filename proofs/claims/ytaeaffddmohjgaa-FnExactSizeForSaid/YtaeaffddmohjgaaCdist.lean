/- The model's distances, and its stack of the last uses. -/
import Derived.Test.YtaeaffddmohjgaaCgaps
import Derived.Test.YtaeaffddmohjgaaCput
import Derived.Test.YtaeaffddmohjgaaPlainStk
import Derived.Test.YtaeaffddmohjgaaCappg
namespace Go.Proofs.Ytaeaffddmohjgaa.Tr
open Go.RowKit
set_option maxHeartbeats 1000000 in
theorem since_s (a : Option Addr) (c i : Nat) (xs : List Int) (w : World) (hn : xs.length ≤ 60) (hi : i < xs.length) (hcc : xs.length ≤ c) (hcm : c ≤ 9223372036854775807) (hr : Row w a xs) :
    Calls Try.prog 45 #[.slice a xs.length c, .int .i64 (i : Int)] w (fun e w' => ∃ v ys again, e = .returned (.tuple #[v, .bool again]) ∧ Own w' w.heap.size v ys ∧ Below w.heap.size w w' ∧ stoodAt always xs i = (if again then (ys.length : Int) else -1) ∧ ys.length ≤ 60) := by
  have hL := Lib.hid (last_s a c xs (xs.getD i 0) i w (by omega) (by omega) hr)
  have hrng := lastAt_le xs (xs.getD i 0) i
  obtain ⟨b, off, rfl, c1, _⟩ := hr i hi
  by_cases hneg : lastAt xs (xs.getD i 0) i < 0
  · have hst := Lib.hid (stood_first xs i hi hneg)
    generalize stoodAt always xs i = s at *
    generalize lastAt xs (xs.getD i 0) i = l at *
    generalize xs.getD i 0 = x at *
    generalize xs.length = N at *
    clear hr
    go_enter Try.func45, Try.ntmps45
    go_wp2_with (go_at_call 61; refine hL.out.mono ?_; rintro e w' ⟨rfl, rfl⟩)
    go_ret2
    exact ⟨_, [], false, rfl, Own.lit0 w, (Below.refl _ _).alloc (Nat.le_refl _) _, hst.out, by simp⟩
  · obtain ⟨m, hm⟩ := Int.eq_ofNat_of_zero_le (show 0 ≤ lastAt xs (xs.getD i 0) i by omega)
    have hst := Lib.hid (stood_again xs i m hi hm)
    have hmi : m < i := by omega
    rw [hm] at hL
    have hlen : ((xs.take i).drop (m + 1)).length = i - (m + 1) := by simp; omega
    have hS := set_s (some ⟨b, off + (m + 1), none⟩) (c - (m + 1)) ((xs.take i).drop (m + 1)) w (by rw [hlen]; omega) (hr.sub (m + 1) i (by omega) (by omega))
    have hy := setP_length ((xs.take i).drop (m + 1))
    rw [hlen] at hS hy
    have HS := Lib.hid hS
    unfold sinceP at hst
    clear hS hlen hr hneg hrng hm
    generalize setP ((xs.take i).drop (m + 1)) = ys at *
    generalize stoodAt always xs i = s at *
    generalize xs.getD i 0 = x at *
    generalize xs.length = N at *
    have e1 : (0 : Int) ≤ (m : Int) + 1 := by omega
    have e2 : (m : Int) + 1 ≤ (i : Int) := by omega
    have e3 : (i : Int) ≤ (c : Int) := by omega
    have e4 : ((m : Int) + 1).toNat = m + 1 := by omega
    have e5 : ¬ c = m + 1 := by omega
    go_enter Try.func45, Try.ntmps45
    go_wp2_with (first | (go_at_call 61; refine hL.out.mono ?_; rintro e w' ⟨rfl, rfl⟩) | (go_at_call 51; refine HS.out.mono ?_; rintro e w1 ⟨v1, rfl, ho, hb⟩))
    go_ret2
    exact ⟨_, ys, true, rfl, ho, hb, hst.out, by omega⟩
set_option maxHeartbeats 1000000 in
theorem dist_s (a : Option Addr) (c : Nat) (xs : List Int) (w : World) (hn : xs.length ≤ 60) (hcc : xs.length ≤ c) (hcm : c ≤ 9223372036854775807) (hr : Row w a xs) :
    Calls Try.prog 23 #[.slice a xs.length c] w (Lb (told (stoodAt always xs) xs.length) w) := by
  have HL := Lib.hid (fun (j : Nat) (wr : World) (hj : j < xs.length) (hb : Below w.heap.size w wr) => since_s a c j xs wr hn hj hcc hcm (hr.below hb))
  have HT := Lib.hid (fun j => told_succ (stoodAt always xs) j)
  have HTL := Lib.hid (fun j => told_length (stoodAt always xs) j)
  have HT0 := Lib.hid (show told (stoodAt always xs) 0 = [] from rfl)
  clear hr
  generalize hS : stoodAt always xs = S at *
  clear hS
  generalize xs.length = N at *
  go_enter Try.func23, Try.ntmps23
  go_wp2
  go_loopw [3, 4] (fun v i wr => ∃ j : Nat, j ≤ N ∧ i = .int .i64 j ∧ Own wr w.heap.size v (told S j) ∧ Below w.heap.size w wr) (fun _ i _ => N - (intOf i).toNat)
  case atStart => exact ⟨0, Nat.zero_le _, rfl, by rw [HT0.out]; exact Own.lit0 w, (Below.refl _ _).alloc (Nat.le_refl _) _⟩
  case round =>
    obtain ⟨j, hj, rfl, ho, hb⟩ := hrel
    have hsz := hb.size
    have hq : (told S j).length + 1 ≤ 1000000000 := by rw [HTL.out]; omega
    by_cases hlt : j < N
    · have hL := Lib.hid (HL.out j wr hlt hb)
      have hT := Lib.hid (HT.out j)
      clear HT HL
      generalize S j = s at *
      go_wp2_with fail
      refine hL.out.mono ?_; rintro e w1 ⟨v1, ys, again, rfl, ho1, hb1, he, hy⟩
      obtain ⟨a1, c1, rfl⟩ := ho1.form
      have HE := Lib.hid he
      have ho2 := ho.below hb1 (Nat.le_refl _)
      have hsz2 : w.heap.size ≤ w1.heap.size := Nat.le_trans hsz hb1.size
      clear he hL ho1
      generalize ys.length = K at *
      cases again
      · have e : s = -1 := HE.out
        subst e
        go_wp2_with (at_builtin; refine wpList_app _ rfl _ _ rfl w.heap.size _ (told S j) _ ?_ ?_ ho2 hq hsz2 ?_; rfl; rfl)
        intro v' w2 ho3 hb3
        go_wp2
        go_roundw
        case rel => exact ⟨j + 1, by omega, by go_num, by rw [hT.out]; exact ho3, (hb.trans (hb1.mono hsz)).trans hb3⟩
        case measure => simp [intOf]; omega
      · have e : s = (K : Int) := HE.out
        subst e
        go_wp2_with (at_builtin; refine wpList_app _ rfl _ _ rfl w.heap.size _ (told S j) _ ?_ ?_ ho2 hq hsz2 ?_; rfl; rfl)
        intro v' w2 ho3 hb3
        go_wp2
        go_roundw
        case rel => exact ⟨j + 1, by omega, by go_num, by rw [hT.out]; exact ho3, (hb.trans (hb1.mono hsz)).trans hb3⟩
        case measure => simp [intOf]; omega
    · have e : j = N := by omega
      subst e
      go_wp2
      go_ret
      exact ⟨_, rfl, ho, hb⟩
theorem frontK (xs : List Int) (n : Int) (j : Nat) (h : j < xs.length) : (n :: (xs.take (j + 1)).filter (fun x => x != n)) = (n :: (xs.take j).filter (fun x => x != n)) ++ if xs.getD j 0 = n then [] else [xs.getD j 0] := by
  rw [List.take_succ_eq_append_getElem h, List.filter_append, getD_get' xs j h, List.cons_append]
  congr 2
  by_cases e : xs[j] = n
  · simp [e]
  · have : (xs[j] != n) = true := by simpa using e
    rw [if_neg e, List.filter_cons, this]; rfl
end Go.Proofs.Ytaeaffddmohjgaa.Tr
