/- The model's MruPolicy. -/
import Derived.Test.YthfgaoojgdikpaaCspol2
import Derived.Test.YthfgaoojgdikpaaColdest
namespace Go.Proofs.Ythfgaoojgdikpaa
open Go.RowKit
theorem old_row (n age : Nat) (h : age < n) (hn : n ≤ 6) : but age n ++ [(age : Int)] = rowL n (oldO n age) := by
  have : n = 0 ∨ n = 1 ∨ n = 2 ∨ n = 3 ∨ n = 4 ∨ n = 5 ∨ n = 6 := by omega
  rcases this with rfl | rfl | rfl | rfl | rfl | rfl | rfl <;> rcases below6 (show age < 6 by omega) with rfl | rfl | rfl | rfl | rfl | rfl <;> first | decide | (exact absurd h (by omega))
set_option maxHeartbeats 4000000 in
set_option maxRecDepth 100000 in
theorem mru_s (n : Nat) (h1 : 1 ≤ n) (h6 : n ≤ 6) (w : World) : Calls Try.prog 42 #[.int .i64 (n : Nat)] w (RetP (polP n (oldO n) n) (rowL n sameO) w) := by
  have HP := Lib.hid (fun j => polP_succ n (oldO n) j)
  have HPL := Lib.hid (fun j => polP_len n (oldO n) j)
  have HFM := Lib.hid (fun (wr : World) (B : Nat) (v : Value) (vs : List Value) (j : Nat) (h : Own2W wr B v vs (polP n (oldO n) j)) => Own2W.form h)
  have H0 := Lib.hid (fun (W : World) (B : Nat) => (show Own2W W B (.slice none 0 0) [] (polP n (oldO n) 0) from Own2W.nil W B))
  have e1 : (n : Int) - 1 = ((n - 1 : Nat) : Int) := by omega
  have HM := Lib.hid (fun w => lb_eq (same_s n h1 h6 w) (same_row n h1 h6))
  have HROW := Lib.hid (fun (j : Nat) (hj : j < n) (w : World) => lb_eq (back_s j n (by omega) h6 w) (old_row n j hj h6))
  skip
  clear e1
  have hn1 : (1 : Int) ≤ (n : Int) := by omega
  have hn6 : (n : Int) ≤ 6 := by omega
  go_enter Try.func42, Try.ntmps42
  go_wp2_with fail
  refine (HM.out _).mono ?_
  rintro e w1 ⟨m, rfl, om, b1⟩
  obtain ⟨am, cm, em⟩ := om.rd
  obtain ⟨em, _, _, _⟩ := em
  rw [rowL_len] at em
  have hz : (w.alloc (.cells #[.slice none 0 0, .slice none 0 0] 25)).heap.size = w.heap.size + 1 := Array.size_push _
  subst em
  have hI0 := Lib.hid (PolI.start w1 (.slice am n cm))
  have hbm : ∀ k, (Value.slice am n cm).ownBlock = some k → k < w1.heap.size := fun k hk => (om.block k hk).2
  have hom : OwnW (w1.alloc (.cells #[.slice none 0 0, .slice am n cm] 25)) (w.heap.size + 1) (.slice am n cm) (rowL n sameO) := OwnW.mono (rowW.alloc om.weak _) (Nat.le_of_eq hz.symm)
  have s1 := b1.size
  have hZb : w.heap.size < w1.heap.size := by
    have h : (w.alloc (.cells #[.slice none 0 0, .slice none 0 0] 25)).heap.size ≤ w1.heap.size := s1
    omega
  have HDN := Lib.hid (fun (wr : World) (v : Value) (vs : List Value) (h : PolI w1.heap.size (w1.alloc (.cells #[.slice none 0 0, .slice am n cm] 25)) wr v vs (polP n (oldO n) n) (.slice am n cm)) (u1 u2 : Value) => h.done (Z := w.heap.size) hom hbm hZb u1 u2)
  have HB1 := Lib.hid (show Below w.heap.size w (w1.alloc (.cells #[.slice none 0 0, .slice am n cm] 25)) from (((Below.refl _ _).alloc (Nat.le_refl _) _).trans (b1.mono (by omega))).alloc (by omega) _)
  have HRES := Lib.hid (fun (wr : World) (hb : Below w1.heap.size (w1.alloc (.cells #[.slice none 0 0, .slice am n cm] 25)) wr) => PolInv.res (Z := w.heap.size) (W0 := w1.alloc (.cells #[.slice none 0 0, .slice am n cm] 25)) (wr := wr) rfl (hb.mono (by omega)) ((b1.mono (by omega)).alloc (by omega) _))
  clear om hom b1 hz hbm s1
  go_wp2
  generalize w1.alloc (.cells #[.slice none 0 0, .slice am n cm] 25) = W0 at *
  generalize w1.heap.size = bp at *
  go_loopw [4] (fun i wr => ∃ (j : Nat) (v : Value) (vs : List Value), j ≤ n ∧ i = .int .i64 (j : Nat) ∧ Hid (PolI bp W0 wr v vs (polP n (oldO n) j) (.slice am n cm))) (fun i _ => n - (intOf i).toNat)
  case atStart => exact ⟨0, _, [], Nat.zero_le _, rfl, hI0⟩
  case round =>
    obtain ⟨j, v, vs, hj, rfl, hI⟩ := hrel
    by_cases hlt : j < n
    · obtain ⟨a, c, hv⟩ := HFM.out _ _ _ _ _ hI.out.1
      rw [HPL.out] at hv
      subst hv
      have HPJ := Lib.hid (HP.out j)
      have HR := Lib.hid (fun w => HROW.out j hlt w)
      have hlen9 : (polP n (oldO n) j).length + 1 ≤ 1000000000 := by rw [HPL.out]; omega
      have HA := Lib.hid (fun (w1 : World) (u : Value) (bb : Below wr.heap.size wr w1) (hu : Own w1 wr.heap.size u (rowL n ((oldO n) j))) => hI.out.app bb hu.weak)
      have HC := Lib.hid (fun (w1 : World) (bb : Below wr.heap.size wr w1) => hI.out.cells bb)
      have HST := Lib.hid (fun (w1 w3 : World) (v' : Value) (vs' : List Value) (bb : Below wr.heap.size wr w1) (o3 : Own2W w3 (bp + 1) v' vs' (polP n (oldO n) j ++ [rowL n ((oldO n) j)])) (b3 : Below (bp + 1) w1 w3) => hI.out.store bb o3 b3)
      obtain ⟨c0, c1, f0, f1, hl0, hl0'⟩ := hI.out.cells (Below.refl _ wr)
      clear hI
      go_wp2
      go_region_law (first | (refine step_app2W w1 rfl (.tmp 14) (.tmp 18) rfl (bp + 1) (.slice a j c) vs (polP n (oldO n) j) (.slice ar nr cr) (rowL n ((oldO n) j)) (by first | rfl | simp [Act.eval, Act.put]) (by first | rfl | simp [Act.eval, Act.put]) (HA.out w1 _ (drewB bb) hu).1 (HA.out w1 _ (drewB bb) hu).2.1 (HA.out w1 _ (drewB bb) hu).2.2.1 (HA.out w1 _ (drewB bb) hu).2.2.2.1 hlen9 (HA.out w1 _ (drewB bb) hu).2.2.2.2 ?_; intro g cap w3 ho3 hb3 hfr3 hg3; obtain ⟨⟨hc3, hf3⟩, hI3⟩ := HST.out w1 w3 _ _ (drewB bb) ho3 hb3) | (go_simp; go_at_call 62; (with_reducible refine (HR.out _).mono ?_); rintro e w1 ⟨u, rfl, hu, bb⟩; obtain ⟨ar, nr, cr, er⟩ := Own.form3 hu; subst er; obtain ⟨k0, k1, k2, k3, k4, k5⟩ := HC.out w1 (drewB bb)))
      all_goals
        rw [HPL.out] at *
        rw [← HPJ.out] at hI3
        have HI3 := Lib.hid hI3
        clear hI3 ho3 hb3 hfr3 hg3 bb hu k0 k1 k2 k3 k4 k5
        go_wp2
        go_roundw
        case rel => exact ⟨j + 1, _, _, by omega, by go_num, HI3⟩
        case measure => simp [intOf]; omega
    · have e : j = n := by omega
      subst e
      obtain ⟨a, c, hv⟩ := HFM.out _ _ _ _ _ hI.out.1
      rw [HPL.out] at hv
      subst hv
      obtain ⟨c0, c1, f0, f1, hl0, _⟩ := hI.out.cells (Below.refl _ wr)
      obtain ⟨r0, r1, q0, q1⟩ := HRES.out wr hI.out.2.2.1
      have hD := Lib.hid (fun u1 u2 => HDN.out wr _ vs hI.out u1 u2)
      have hBB := Lib.hid (HB1.out.trans (hI.out.2.2.1.mono (by omega)))
      have hne : ¬ bp = w.heap.size := by omega
      have hne2 : ¬ w.heap.size = bp := by omega
      clear hI
      go_wp2
      refine bodyPost_ret (v := .agg #[.slice a j c, .slice am j cm]) (by simp [results, Try.results42, go_sem, c0, c1, r0, r1, q0, q1, hne, hne2]) rfl ⟨_, rfl, hD.out _ _, ?_⟩
      exact (hBB.out.setCell (p := ⟨w.heap.size, 0, none⟩) (Nat.le_refl _) _).setCell (p := ⟨w.heap.size, 1, none⟩) (Nat.le_refl _) _

end Go.Proofs.Ythfgaoojgdikpaa
