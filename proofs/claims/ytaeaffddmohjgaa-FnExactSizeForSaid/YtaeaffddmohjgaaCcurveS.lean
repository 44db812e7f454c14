/- The model's curve, and its counts of distances. -/
import Derived.Test.YtaeaffddmohjgaaCcurve
import Derived.Test.YtaeaffddmohjgaaCdist
namespace Go.Proofs.Ytaeaffddmohjgaa.Tr
open Go.RowKit
set_option maxHeartbeats 2000000 in
theorem curve_s (a : Option Addr) (c : Nat) (ds : List Int) (most : Nat) (w : World) (hm : most ≤ 60) (hn : ds.length ≤ 60) (hr : Row w a ds) :
    Calls Try.prog 22 #[.slice a ds.length c, .int .i64 (most : Int)] w (Lb (curveP ds most) w) := by
  have HC := Lib.hid hr
  have HMS := Lib.hid (fun n j (hj : j < ds.length) => missK_succ ds n j hj)
  have HME := Lib.hid (fun n => missK_end ds n)
  have HM0 := Lib.hid (fun n => show missK ds n 0 = 0 from rfl)
  have HML := Lib.hid (fun n j => missK_le ds n j)
  have HT := Lib.hid (fun k => curve_snoc ds k)
  have HTL := Lib.hid (fun k => told_length (fun n => ((missP ds n : Nat) : Int)) k)
  have HT0 := Lib.hid (show told (fun n => ((missP ds n : Nat) : Int)) 0 = [] from rfl)
  unfold curveP
  clear hr
  unfold Row at HC
  generalize hTD : told (fun n => ((missP ds n : Nat) : Int)) = TD at *
  generalize hMI : missP ds = MI at *
  generalize hMK : missK ds = MK at *
  clear hTD hMI hMK
  generalize hN : ds.length = N at *
  clear hN
  go_enter Try.func22, Try.ntmps22
  go_wp2
  go_loopw [5, 6, 7, 8] (fun v i _ _ wr => ∃ k : Nat, k ≤ most + 1 ∧ i = .int .i64 k ∧ Own wr w.heap.size v (TD k) ∧ Below w.heap.size w wr) (fun _ i _ _ _ => most + 1 - (intOf i).toNat)
  case atStart => exact ⟨0, Nat.zero_le _, rfl, by rw [HT0.out]; exact Own.lit0 w, (Below.refl _ _).alloc (Nat.le_refl _) _⟩
  case round =>
    obtain ⟨k, hk, rfl, ho, hb⟩ := hrel
    have hsz := hb.size
    have hq : (TD k).length + 1 ≤ 1000000000 := by rw [HTL.out]; omega
    by_cases hlt : k ≤ most
    · have ht := Lib.hid (HT.out k)
      have hms := Lib.hid (fun j hj => HMS.out k j hj)
      have hme := Lib.hid (HME.out k)
      have hm0 := Lib.hid (HM0.out k)
      have hml := Lib.hid (fun j => HML.out k j)
      have HB := Lib.hid hb
      have HO := Lib.hid ho
      clear HT HMS HME HM0 HML ho hb
      generalize MK k = F at *
      generalize MI k = M at *
      go_wp2
      go_loopw [7, 8] (fun mv i wr2 => ∃ j : Nat, j ≤ N ∧ i = .int .i64 j ∧ mv = .int .i64 ((F j : Nat) : Int) ∧ wr2 = wr) (fun _ i _ => N - (intOf i).toNat)
      case atStart => exact ⟨0, Nat.zero_le _, rfl, by rw [hm0.out]; rfl, rfl⟩
      case round =>
        obtain ⟨j, hj, rfl, rfl, rfl⟩ := hrel
        by_cases hlt2 : j < N
        · obtain ⟨b0, off, rfl, c1, hb0⟩ := HC.out j hlt2
          have hst := hms.out j hlt2
          have hl1 := hml.out j
          have c2 := (HB.out.cell (p := ⟨b0, off + j, none⟩) hb0).trans c1
          clear c1
          generalize ds.getD j 0 = u at *
          by_cases h1 : u < 0
          · rw [if_pos (.inl h1)] at hst
            have HST := Lib.hid hst
            clear hst
            go_wp2
            go_roundw
            case rel => exact ⟨j + 1, by omega, by go_num, by rw [HST.out]; go_num, by trivial⟩
            case measure => simp [intOf]; omega
          · by_cases h2 : (k : Int) ≤ u
            · rw [if_pos (.inr h2)] at hst
              have HST := Lib.hid hst
              clear hst
              go_wp2
              go_roundw
              case rel => exact ⟨j + 1, by omega, by go_num, by rw [HST.out]; go_num, by trivial⟩
              case measure => simp [intOf]; omega
            · rw [if_neg (by omega)] at hst
              have HST := Lib.hid hst
              clear hst
              go_wp2
              go_roundw
              case rel => exact ⟨j + 1, by omega, by go_num, by rw [HST.out]; rfl, by trivial⟩
              case measure => simp [intOf]; omega
        · have e : j = N := by omega
          subst e
          have hOO := HO.out
          have hFM := hme.out
          have hTT := Lib.hid ht.out
          rw [← hFM] at ht
          have HFM := Lib.hid hFM
          clear hFM
          go_wp2_with (at_builtin; refine wpList_app _ rfl _ _ rfl w.heap.size _ (TD k) _ ?_ ?_ hOO hq hsz ?_; rfl; rfl)
          intro v' w2 ho3 hb3
          go_wp2
          go_roundw
          case rel => exact ⟨k + 1, by omega, by go_num, by rw [ht.out]; exact ho3, HB.out.trans hb3⟩
          case measure => simp [intOf]; omega
    · have e : k = most + 1 := by omega
      subst e
      go_wp2
      go_ret
      exact ⟨_, rfl, ho, hb⟩
end Go.Proofs.Ytaeaffddmohjgaa.Tr
