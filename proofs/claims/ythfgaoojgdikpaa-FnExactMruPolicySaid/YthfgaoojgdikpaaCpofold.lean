/- The program's policyOf with MruPolicy's function value. -/
import Derived.Test.YthfgaoojgdikpaaCpof
import Derived.Test.YthfgaoojgdikpaaColdest
namespace Go.Proofs.Ythfgaoojgdikpaa
open Go.RowKit
set_option maxHeartbeats 4000000 in
set_option maxRecDepth 100000 in
theorem policyOf_old (n : Nat) (h1 : 1 ≤ n) (h6 : n ≤ 6) (o : Nat → Nat → Int) (m0 m1 m2 m3 m4 m5 : Int) (pb : Nat) (w : World) (hF : ∀ age : Nat, age < n → ∀ w', Below w.heap.size w w' → Calls Try.prog 43 #[.int .i64 (age : Nat), .pointer (some ⟨pb, 0, none⟩)] w' (RetB (sixf (o age)) w')) (ms : List Int)
    (hM : ∀ w' : World, OwnW (w'.alloc (.cells (c6 m0 m1 m2 m3 m4 m5) 44)) w'.heap.size (.slice (some ⟨w'.heap.size, 0, none⟩) n n) ms) :
    Calls Try.prog 32 #[.int .i64 (n : Nat), .func (.func 43) #[] #[.pointer (some ⟨pb, 0, none⟩)], six m0 m1 m2 m3 m4 m5] w (RetP (polP n o n) ms w) := by
  have HF := Lib.hid hF
  have HFI := Lib.hid (fun (a b c d e f : Int) (w' : World) => first_i n h1 h6 a b c d e f w')
  have HST := Lib.hid (fun (B : Nat) (j : Nat) (wr : World) (v : Value) (vs : List Value) (hj : j < n) (hO : Own2W wr B v vs (polP n o j)) (hB : B ≤ wr.heap.size) => pol_step n o B j wr v vs hj h6 hO hB)
  have HMM := Lib.hid hM
  have HP := Lib.hid (fun j => polP_succ n o j)
  have HPL := Lib.hid (fun j => polP_len n o j)
  have HFM := Lib.hid (fun (wr : World) (B : Nat) (v : Value) (vs : List Value) (j : Nat) (h : Own2W wr B v vs (polP n o j)) => Own2W.form h)
  have H0 := Lib.hid (fun (W : World) (B : Nat) => (show Own2W W B (.slice none 0 0) [] (polP n o 0) from Own2W.nil W B))
  have HEND := Lib.hid (fun (Z : Nat) (wr : World) (v : Value) (vs : List Value) (hO : Own2W wr (Z + 3) v vs (polP n o n)) (hB : Z + 3 ≤ wr.heap.size) (u0 u1 u2 : Value) => pol_end n o m0 m1 m2 m3 m4 m5 ms hM Z wr v vs hO hB u0 u1 u2)
  have hn1 : (1 : Int) ≤ (n : Int) := by omega
  have hn6 : (n : Int) ≤ 6 := by omega
  have hn7 : n ≤ 6 := h6
  clear hF hM
  unfold six
  go_enter Try.func32, Try.ntmps32
  go_wp2
  generalize hZ : w.heap.size = Z at *
  have hW0 : ∃ W0 : World, W0 = ((w.alloc (.cells (c6 m0 m1 m2 m3 m4 m5) 45)).alloc (.cells #[.slice none 0 0, .slice none 0 0] 25)).alloc (.cells #[.slice none 0 0, .slice none 0 0] 25) := ⟨_, rfl⟩
  obtain ⟨W0, hW0⟩ := hW0
  have hz0 : W0.heap.size = Z + 3 := by rw [hW0, ← hZ]; simp
  have HB0 := Lib.hid (show Below Z w W0 by
    rw [hW0, ← hZ]
    exact (((Below.refl _ _).alloc (Nat.le_refl _) _).alloc (by simp) _).alloc (by simp; omega) _)
  have HP0 := Lib.hid (show W0.cell? ⟨Z + 2, 0, none⟩ = some (.slice none 0 0) ∧ W0.cell? ⟨Z + 2, 1, none⟩ = some (.slice none 0 0) ∧ W0.frozen? ⟨Z + 2, 0, none⟩ = false ∧ W0.frozen? ⟨Z + 2, 1, none⟩ = false by
    rw [hW0, ← hZ]
    exact ⟨by simp [go_sem], by simp [go_sem], by simp [go_sem], by simp [go_sem]⟩)
  have HR0 := Lib.hid (fun (w' : World) (hb : Below (Z + 2) W0 w') => (show (w'.cell? ⟨Z, 0, none⟩ = some (.int .i64 m0) ∧ w'.cell? ⟨Z, 1, none⟩ = some (.int .i64 m1) ∧ w'.cell? ⟨Z, 2, none⟩ = some (.int .i64 m2) ∧ w'.cell? ⟨Z, 3, none⟩ = some (.int .i64 m3) ∧ w'.cell? ⟨Z, 4, none⟩ = some (.int .i64 m4) ∧ w'.cell? ⟨Z, 5, none⟩ = some (.int .i64 m5)) ∧
      w'.cell? ⟨Z + 1, 0, none⟩ = some (.slice none 0 0) ∧ w'.cell? ⟨Z + 1, 1, none⟩ = some (.slice none 0 0) ∧ w'.frozen? ⟨Z + 1, 0, none⟩ = false ∧ w'.frozen? ⟨Z + 1, 1, none⟩ = false by
    have c : ∀ b off, b < Z + 2 → w'.cell? ⟨b, off, none⟩ = W0.cell? ⟨b, off, none⟩ := fun b off h => hb.cell (p := ⟨b, off, none⟩) h
    have f : ∀ b off, b < Z + 2 → w'.frozen? ⟨b, off, none⟩ = W0.frozen? ⟨b, off, none⟩ := fun b off h => hb.frozen (p := ⟨b, off, none⟩) h
    rw [c Z 0 (by omega), c Z 1 (by omega), c Z 2 (by omega), c Z 3 (by omega), c Z 4 (by omega), c Z 5 (by omega), c (Z + 1) 0 (by omega), c (Z + 1) 1 (by omega), f (Z + 1) 0 (by omega), f (Z + 1) 1 (by omega), hW0, ← hZ]
    simp [go_sem]))
  rw [show (w.alloc (.cells #[.int .i64 m0, .int .i64 m1, .int .i64 m2, .int .i64 m3, .int .i64 m4, .int .i64 m5] 45)) = w.alloc (.cells (c6 m0 m1 m2 m3 m4 m5) 45) from rfl, ← hW0]
  clear hW0
  rw [show Z + 1 + 1 = Z + 2 from rfl]
  go_loopw [8, 10] (fun _ i wr => ∃ (j : Nat) (v : Value) (vs : List Value), j ≤ n ∧ i = .int .i64 (j : Nat) ∧ Hid (Own2W wr (Z + 3) v vs (polP n o j)) ∧ Hid (wr.cell? ⟨Z + 2, 0, none⟩ = some v ∧ wr.cell? ⟨Z + 2, 1, none⟩ = some (.slice none 0 0) ∧ wr.frozen? ⟨Z + 2, 0, none⟩ = false ∧ wr.frozen? ⟨Z + 2, 1, none⟩ = false) ∧ Hid (Below (Z + 2) W0 wr) ∧ Hid (Z + 3 ≤ wr.heap.size)) (fun _ i _ => n - (intOf i).toNat)
  case atStart => exact ⟨0, _, [], Nat.zero_le _, rfl, H0.out _ _, HP0, Below.refl _ _, Nat.le_of_eq hz0.symm⟩
  case round =>
    obtain ⟨j, v, vs, hj, rfl, hO, hcc, hb, hsz⟩ := hrel
    by_cases hlt : j < n
    · obtain ⟨a, c, hv⟩ := HFM.out _ _ _ _ _ hO.out
      rw [HPL.out] at hv
      subst hv
      have HA := Lib.hid (HST.out (Z + 3) j wr _ vs hlt hO.out hsz.out)
      have HPJ := Lib.hid (HP.out j)
      have HFJ := Lib.hid (fun w' hb => HF.out j hlt w' hb)
      have hbw : Below Z w wr.drew := (HB0.out.trans (hb.out.mono (by omega))).drew
      obtain ⟨c0, c1, f0, f1⟩ := hcc.out
      have HK := Lib.hid (fun (w' : World) (bb : Below wr.heap.size wr w') => (show w'.cell? ⟨Z + 2, 0, none⟩ = some (.slice a j c) from (bb.cell (p := ⟨Z + 2, 0, none⟩) (by have := hsz.out; show Z + 2 < wr.heap.size; omega)).trans c0))
      have HK2 := Lib.hid (fun (w' : World) (bb : Below wr.heap.size wr w') (o1 o2 : Obj) => (show ((w'.alloc o1).alloc o2).cell? ⟨Z + 2, 0, none⟩ = some (.slice a j c) from
        HK.out _ ((bb.alloc bb.size o1).alloc (by have := bb.size; simp; omega) o2)))
      have HK3 := Lib.hid (fun (w1 w3 : World) (bb : Below wr.heap.size wr w1) (o1 : Obj) (hfr : ∀ b, b < (w1.alloc o1).heap.size → (Value.slice a j c).ownBlock ≠ some b → w3.heap[b]? = (w1.alloc o1).heap[b]?) => (show w3.heap[Z + 2]? = wr.heap[Z + 2]? from by
        have h2 := hsz.out
        have h3 := bb.size
        have h4 : (w1.alloc o1).heap.size = w1.heap.size + 1 := Array.size_push _
        refine (hfr (Z + 2) (by omega) fun e => ?_).trans ((Below.heap_alloc w1 o1 (Z + 2) (by omega)).trans (bb.block (Z + 2) (by omega)))
        have := (World.ownsRow.lt hO.out.2.1 (Z + 2) e).1
        omega))
      unfold sixf at HFJ
      go_wp2
      go_region_law (first | (refine step_app2W (w1.alloc _) rfl (.tmp 14) (.tmp 20) rfl (Z + 3) (.slice a j c) vs (polP n o j) (.slice (some ⟨w1.heap.size, 0, none⟩) n n) (rowL n (o j)) (by first | rfl | simp [Act.eval, Act.put]) (by first | rfl | simp [Act.eval, Act.put]) (HA.out w1 (drewB bb)).1 (HA.out w1 (drewB bb)).2.1 (HA.out w1 (drewB bb)).2.2.1 (HA.out w1 (drewB bb)).2.2.2.1 (HA.out w1 (drewB bb)).2.2.2.2.1 (HA.out w1 (drewB bb)).2.2.2.2.2 ?_; intro g cap w3 ho3 hb3 hfr3 hg3; have e3 := HK3.out w1 w3 (drewB bb) _ hfr3; have hc3 : w3.cell? ⟨Z + 2, 0, none⟩ = some (.slice a j c) := (World.cell?_of_block (w := wr) (a := ⟨Z + 2, 0, none⟩) e3).trans c0; have hf3 : w3.frozen? ⟨Z + 2, 0, none⟩ = false := (World.frozen?_of_block (w := wr) (a := ⟨Z + 2, 0, none⟩) e3).trans f0) | (go_simp; go_at_call 43; (with_reducible refine (HFJ.out _ hbw).mono ?_); rintro e w1 ⟨rfl, bb⟩; have hw1 := HK.out _ (drewB bb); have hl1 : Z + 2 < w1.heap.size := Nat.lt_of_lt_of_le (Nat.lt_of_lt_of_le (Nat.lt_succ_self _) hsz.out) (drewB bb).size; have hl2 : Z + 2 < w1.heap.size + 1 := Nat.lt_succ_of_lt hl1) | (go_simp; go_at_call 59; (with_reducible refine (HFI.out _ _ _ _ _ _ _).mono ?_); rintro e w2 ⟨rfl, rfl⟩))
      all_goals
        rw [HPL.out] at *
        have hW4 : ∀ u, Wr (Z + 2) (Z + 3) w3 (w3.setCell ⟨Z + 2, 0, none⟩ u) := fun u => ⟨rfl, rfl, rfl, by simp [World.setCell], fun b hb hr => Below.heap_setCell _ _ _ _ (by show b ≠ Z + 2; omega)⟩
        have hO4 := Lib.hid (fun u => Own2W.wr ho3 (hW4 u) (fun k hk => (World.ownsRow.lt ho3.2.1 k hk).2) (fun i k hi hk => ((ho3.2.2.1 i hi).block k hk).2) (.inr (Nat.le_refl _)))
        have hc4 := Lib.hid (fun u => (show (w3.setCell ⟨Z + 2, 0, none⟩ u).cell? ⟨Z + 2, 0, none⟩ = some u ∧ (w3.setCell ⟨Z + 2, 0, none⟩ u).cell? ⟨Z + 2, 1, none⟩ = some (.slice none 0 0) ∧ (w3.setCell ⟨Z + 2, 0, none⟩ u).frozen? ⟨Z + 2, 0, none⟩ = false ∧ (w3.setCell ⟨Z + 2, 0, none⟩ u).frozen? ⟨Z + 2, 1, none⟩ = false from
          ⟨World.cell?_setCell_same _ _ _ hc3, (World.cell?_setCell_other _ _ _ _ (by simp)).trans ((World.cell?_of_block (w := wr) (a := ⟨Z + 2, 1, none⟩) e3).trans c1), by simpa using hf3, by simpa using (World.frozen?_of_block (w := wr) (a := ⟨Z + 2, 1, none⟩) e3).trans f1⟩))
        have hz1 : (w1.alloc (.cells (c6 (o j 0) (o j 1) (o j 2) (o j 3) (o j 4) (o j 5)) 44)).heap.size = w1.heap.size + 1 := Array.size_push _
        have hb4 := Lib.hid (fun u => (show Below (Z + 2) W0 (w3.setCell ⟨Z + 2, 0, none⟩ u) from
          ((hb.out.trans ((drewB bb).mono (by have := hsz.out; omega))).alloc (by omega) (.cells (c6 (o j 0) (o j 1) (o j 2) (o j 3) (o j 4) (o j 5)) 44)).trans ((show Below (Z + 2) _ w3 from hb3.mono (Nat.le_succ (Z + 2))).setCell (p := ⟨Z + 2, 0, none⟩) (Nat.le_refl _) u)))
        have hs4 := Lib.hid (fun u => (show Z + 3 ≤ (w3.setCell ⟨Z + 2, 0, none⟩ u).heap.size by
          have k1 : w1.heap.size + 1 ≤ w3.heap.size := by rw [← hz1]; exact hb3.size
          have k2 : (w3.setCell ⟨Z + 2, 0, none⟩ u).heap.size = w3.heap.size := by simp [World.setCell]
          rw [k2]; omega))
        clear hW4 ho3 hb3 hfr3 hg3 hc3 hf3 e3 bb hz1 hl1 hl2 hw1 hbw
        go_wp2
        go_roundw
        case rel => exact ⟨j + 1, _, _, by omega, by go_num, (by rw [HPJ.out]; exact hO4.out _), hc4.out _, hb4.out _, hs4.out _⟩
        case measure => simp [intOf]; omega
    · have e : j = n := by omega
      subst e
      obtain ⟨a, c, hv⟩ := HFM.out _ _ _ _ _ hO.out
      rw [HPL.out] at hv
      subst hv
      obtain ⟨c0, c1, f0, f1⟩ := hcc.out
      obtain ⟨⟨x0, x1, x2, x3, x4, x5⟩, r0, r1, q0, q1⟩ := HR0.out wr hb.out
      have hlt2 : Z + 2 < wr.heap.size := hsz.out
      have hlt3 : Z + 1 < wr.heap.size := by omega
      have hlt4 : Z < wr.heap.size := by omega
      go_wp2_with fail
      refine (HFI.out _ _ _ _ _ _ _).mono ?_
      rintro e w2 ⟨rfl, rfl⟩
      have hE2 := Lib.hid (fun u0 u1 u2 => HEND.out Z wr _ vs hO.out hsz.out u0 u1 u2)
      have hBE := Lib.hid (show Below Z w wr from HB0.out.trans (hb.out.mono (by omega)))
      have hwZ := Lib.hid hZ
      go_wp2
      refine bodyPost_ret (v := .agg #[.slice a j c, .slice (some ⟨wr.heap.size, 0, none⟩) j j]) (by simp [results, Try.results32, go_sem, c0, c1, r0, r1, f0, f1, q0, q1, hlt2, hlt3]) rfl ⟨_, rfl, ?_, ?_⟩
      · rw [hwZ.out]
        exact hE2.out _ _ _
      · rw [hwZ.out]
        have hb5 := hBE.out
        have hz6 : Z ≤ wr.heap.size := by omega
        have h1 := hb5.setCell (p := ⟨Z + 2, 1, none⟩) (show Z ≤ Z + 2 by omega)
        refine (((h1 _).setCell (p := ⟨Z + 1, 0, none⟩) (show Z ≤ Z + 1 by omega) _).setCell (p := ⟨Z + 1, 1, none⟩) (show Z ≤ Z + 1 by omega) _).alloc ?_ _
        simp [World.setCell]; omega

set_option maxHeartbeats 2000000 in
set_option maxRecDepth 100000 in
theorem mru1_i (n age pb : Nat) (hn : n ≤ 6) (ha : age < n) (w : World) (hc : w.cell? ⟨pb, 0, none⟩ = some (.int .i64 (n : Nat))) : Calls Try.prog 43 #[.int .i64 (age : Nat), .pointer (some ⟨pb, 0, none⟩)] w (RetB (sixf (oldO n age)) w) := by
  have HS := Lib.hid (fun w => oldest_i n age hn ha w)
  have HV := Lib.hid (show six (oldO n age 0) (oldO n age 1) (oldO n age 2) (oldO n age 3) (oldO n age 4) (oldO n age 5) = sixf (oldO n age) from rfl)
  unfold sixf six at HS
  unfold six at HV
  have hz := z6_size w
  have hlt := World.block_lt_of_cell? w _ hc
  have hlt : pb < w.heap.size := hlt
  go_enter Try.func43, Try.ntmps43
  go_wp2_with fail
  refine (HS.out _).mono ?_
  rintro e w1 ⟨rfl, b1⟩
  have b1' : Below (w.heap.size + 1) (w.alloc (.cells z6 45)) w1 := b1.mono (Nat.le_of_eq hz.symm)
  obtain ⟨r0, q0⟩ := res6 w w1 b1' 0 (by omega)
  obtain ⟨r1, q1⟩ := res6 w w1 b1' 1 (by omega)
  obtain ⟨r2, q2⟩ := res6 w w1 b1' 2 (by omega)
  obtain ⟨r3, q3⟩ := res6 w w1 b1' 3 (by omega)
  obtain ⟨r4, q4⟩ := res6 w w1 b1' 4 (by omega)
  obtain ⟨r5, q5⟩ := res6 w w1 b1' 5 (by omega)
  have HB := Lib.hid (((Below.refl w.heap.size w).alloc (Nat.le_refl _) (.cells z6 45)).trans (b1'.mono (by omega)))
  clear b1 b1' hz
  generalize oldO n age 0 = y0 at *
  generalize oldO n age 1 = y1 at *
  generalize oldO n age 2 = y2 at *
  generalize oldO n age 3 = y3 at *
  generalize oldO n age 4 = y4 at *
  generalize oldO n age 5 = y5 at *
  go_wp2
  refine bodyPost_ret (v := six y0 y1 y2 y3 y4 y5) (by simp [six, results, Try.results43, go_sem, r0, r1, r2, r3, r4, r5]) rfl ⟨by rw [← HV.out]; rfl, ?_⟩
  have hb5 := HB.out
  go_grown
end Go.Proofs.Ythfgaoojgdikpaa
