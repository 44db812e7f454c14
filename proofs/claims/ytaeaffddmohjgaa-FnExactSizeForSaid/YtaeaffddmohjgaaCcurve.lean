/- Curves: the misses of all sizes out of places, the program's and the model's. -/
import Derived.Test.YtaeaffddmohjgaaCplc
namespace Go.Proofs.Ytaeaffddmohjgaa.Tr
open Go.RowKit
theorem wrap_id (x : Int) (h : -1000 ≤ x) (h2 : x ≤ 1000) : IntKind.i64.wrap x = x := by
  unfold IntKind.wrap IntKind.signed IntKind.bits
  simp
  omega
theorem curve_snoc (ds : List Int) (k : Nat) : told (fun n => ((missP ds n : Nat) : Int)) (k + 1) = told (fun n => ((missP ds n : Nat) : Int)) k ++ [((missP ds k : Nat) : Int)] := told_succ _ _
set_option maxHeartbeats 2000000 in
theorem curve_i (a : Option Addr) (c : Nat) (ds : List Int) (most : Nat) (w : World) (hm : most ≤ 60) (hn : ds.length ≤ 60) (hd : ∀ j, j < ds.length → -1 ≤ ds.getD j 0 ∧ ds.getD j 0 < 60) (hr : Row w a ds) :
    Calls Try.prog 48 #[.slice a ds.length c, .int .i64 (most : Int)] w (Lb (curveP ds most) w) := by
  have HP := Lib.hid (places_i a c ds w hn hd hr)
  have HS := Lib.hid (fun n => miss_step ds n)
  have HLE := Lib.hid (fun n => miss_le ds n)
  have HL := Lib.hid (bumps_len ds 60 (fun i hi => (hd i hi).2) ds.length (Nat.le_refl _))
  have HR := Lib.hid (fun q => bumps_rng ds ds.length q (Nat.le_refl _))
  have HT := Lib.hid (fun k => curve_snoc ds k)
  have HTL := Lib.hid (fun k => told_length (fun n => ((missP ds n : Nat) : Int)) k)
  have H0 := Lib.hid (miss_zero ds)
  have HT1 := Lib.hid (show told (fun n => ((missP ds n : Nat) : Int)) (0 + 1) = [((missP ds 0 : Nat) : Int)] from rfl)
  unfold curveP
  clear hd hr
  generalize bumps ds ds.length = hs at *
  generalize hTD : told (fun n => ((missP ds n : Nat) : Int)) = TD at *
  generalize hMI : missP ds = MI at *
  clear hTD hMI
  generalize hN : ds.length = N at *
  have hN2 := Lib.hid hN
  clear hN
  go_enter Try.func48, Try.ntmps48
  go_wp2_with fail
  refine HP.out.mono ?_; rintro e w1 ⟨v1, rfl, o1, b1⟩
  obtain ⟨ha, hc, rfl, _, _, hrow⟩ := o1.rd
  have HROW := Lib.hid hrow
  unfold Row at HROW
  have B1 := Lib.hid b1
  have hs1 := b1.size
  clear hrow b1 o1 HP
  generalize hK : hs.length = K at *
  have HLEN := Lib.hid hK
  clear hK
  go_wp2
  go_loopw [6, 7, 16] (fun mv v i wr => ∃ k : Nat, k ≤ most ∧ i = .int .i64 k ∧ mv = .int .i64 ((MI k : Nat) : Int) ∧ Own wr w1.heap.size v (TD (k + 1)) ∧ Below w1.heap.size w1 wr) (fun _ _ i _ => most - (intOf i).toNat)
  case atStart => exact ⟨0, Nat.zero_le _, rfl, by rw [H0.out], by rw [HT1.out, H0.out]; exact Own.lit w1 _, (Below.refl _ _).alloc (Nat.le_refl _) _⟩
  case round =>
    obtain ⟨k, hk, rfl, rfl, ho, hb⟩ := hrel
    have hsz := hb.size
    have hq : (TD (k + 1)).length + 1 ≤ 1000000000 := by rw [HTL.out]; omega
    by_cases hlt : k < most
    · have hst := HS.out k
      have hle := HLE.out k
      have hle2 := HLE.out (k + 1)
      have hrk := HR.out k
      have ht := HT.out (k + 1)
      by_cases hkK : k < K
      · obtain ⟨b0, off, hab, c1, hb0⟩ := HROW.out k hkK
        subst hab
        have c2 : wr.cell? ⟨b0, off + k, none⟩ = some (.int .i64 (hs.getD k 0)) := (hb.cell (p := ⟨b0, off + k, none⟩) hb0).trans c1
        rw [hst] at ht
        have HTT := Lib.hid ht
        have HST := Lib.hid hst
        clear c1 ht HS HLE HR HT
        generalize hs.getD k 0 = u at *
        have hw : IntKind.i64.wrap (((MI k : Nat) : Int) - u) = ((MI k : Nat) : Int) - u := wrap_id _ (by omega) (by omega)
        clear hst
        go_wp2_with (at_builtin; refine wpList_app _ rfl _ _ rfl w1.heap.size _ (TD (k + 1)) _ ?_ ?_ ho hq hsz ?_; rfl; rfl)
        intro v' w2 ho3 hb3
        go_wp2
        go_roundw
        case rel => exact ⟨k + 1, by omega, by go_num, by rw [HST.out], by rw [HTT.out]; exact ho3, hb.trans hb3⟩
        case measure => simp [intOf]; omega
      · have h0 : hs.getD k 0 = 0 := by rw [List.getD_eq_getElem?_getD, List.getElem?_eq_none]; rfl; have := HLEN.out; omega
        rw [h0, Int.sub_zero] at hst
        rw [hst] at ht
        have HTT := Lib.hid ht
        have HST := Lib.hid hst
        have hkKi : ¬ (k : Int) < K := by omega
        clear ht HS HLE HR HT hst h0 hrk
        go_wp2_with (at_builtin; refine wpList_app _ rfl _ _ rfl w1.heap.size _ (TD (k + 1)) _ ?_ ?_ ho hq hsz ?_; rfl; rfl)
        intro v' w2 ho3 hb3
        go_wp2
        go_roundw
        case rel => exact ⟨k + 1, by omega, by go_num, by rw [HST.out], by rw [HTT.out]; exact ho3, hb.trans hb3⟩
        case measure => simp [intOf]; omega
    · have e : k = most := by omega
      subst e
      go_wp2
      go_ret
      exact ⟨_, rfl, ho.mono hs1, B1.out.trans (hb.mono hs1)⟩
end Go.Proofs.Ytaeaffddmohjgaa.Tr
