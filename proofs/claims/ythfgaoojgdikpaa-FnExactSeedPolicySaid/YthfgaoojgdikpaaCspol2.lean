/- The model's known policies: loops that append a row each. -/
import Derived.Test.YthfgaoojgdikpaaCspol
namespace Go.Proofs.Ythfgaoojgdikpaa
open Go.RowKit
/-- A policy that is being made in the block bp: its rows so far, and Miss. -/
def PolI (bp : Nat) (W0 wr : World) (v : Value) (vs : List Value) (hs : List (List Int)) (m : Value) : Prop :=
  Own2W wr (bp + 1) v vs hs ∧ (wr.cell? ⟨bp, 0, none⟩ = some v ∧ wr.cell? ⟨bp, 1, none⟩ = some m ∧ wr.frozen? ⟨bp, 0, none⟩ = false ∧ wr.frozen? ⟨bp, 1, none⟩ = false) ∧ Below bp W0 wr ∧ bp + 1 ≤ wr.heap.size
theorem PolI.cells {bp : Nat} {W0 wr w1 : World} {v m : Value} {vs : List Value} {hs : List (List Int)} (h : PolI bp W0 wr v vs hs m) (bb : Below wr.heap.size wr w1) :
    w1.cell? ⟨bp, 0, none⟩ = some v ∧ w1.cell? ⟨bp, 1, none⟩ = some m ∧ w1.frozen? ⟨bp, 0, none⟩ = false ∧ w1.frozen? ⟨bp, 1, none⟩ = false ∧ bp < w1.heap.size ∧ bp < w1.heap.size + 1 := by
  obtain ⟨_, ⟨c0, c1, f0, f1⟩, _, hz⟩ := h
  have hl : bp < wr.heap.size := by omega
  have hl1 := Nat.lt_of_lt_of_le hl bb.size
  exact ⟨(bb.cell (p := ⟨bp, 0, none⟩) hl).trans c0, (bb.cell (p := ⟨bp, 1, none⟩) hl).trans c1, (bb.frozen (p := ⟨bp, 0, none⟩) hl).trans f0, (bb.frozen (p := ⟨bp, 1, none⟩) hl).trans f1, hl1, Nat.lt_succ_of_lt hl1⟩
theorem PolI.app {bp : Nat} {W0 wr w1 : World} {v m u : Value} {vs : List Value} {hs : List (List Int)} {zs : List Int} (h : PolI bp W0 wr v vs hs m) (bb : Below wr.heap.size wr w1) (hu : OwnW w1 wr.heap.size u zs) :
    Own2W w1 (bp + 1) v vs hs ∧ OwnW w1 (bp + 1) u zs ∧ (∀ i k, i < hs.length → (vs.getD i s0).ownBlock = some k → u.ownBlock ≠ some k) ∧ (∀ k, u.ownBlock = some k → v.ownBlock ≠ some k) ∧ bp + 1 ≤ w1.heap.size := by
  obtain ⟨hO, _, _, hz⟩ := h
  refine ⟨Own2W.below hO bb (Nat.le_refl _), hu.mono hz, fun i k hi hk e => ?_, fun k hk e => ?_, Nat.le_trans hz bb.size⟩
  · have h1 := ((hO.2.2.1 i hi).block k hk).2
    have h2 := (hu.block k e).1
    omega
  · have h1 := (World.ownsRow.lt hO.2.1 k e).2
    have h2 := (hu.block k hk).1
    omega
theorem PolI.store {bp : Nat} {W0 wr w1 w3 : World} {v v' m : Value} {vs vs' : List Value} {hs hs' : List (List Int)} (h : PolI bp W0 wr v vs hs m) (bb : Below wr.heap.size wr w1) (ho3 : Own2W w3 (bp + 1) v' vs' hs') (hb3 : Below (bp + 1) w1 w3) :
    (w3.cell? ⟨bp, 0, none⟩ = some v ∧ w3.frozen? ⟨bp, 0, none⟩ = false) ∧ PolI bp W0 (w3.setCell ⟨bp, 0, none⟩ v') v' vs' hs' m := by
  obtain ⟨c0, c1, f0, f1, hl, _⟩ := h.cells bb
  have d0 := (hb3.cell (p := ⟨bp, 0, none⟩) (Nat.lt_succ_self bp)).trans c0
  have d1 := (hb3.cell (p := ⟨bp, 1, none⟩) (Nat.lt_succ_self bp)).trans c1
  have g0 := (hb3.frozen (p := ⟨bp, 0, none⟩) (Nat.lt_succ_self bp)).trans f0
  have g1 := (hb3.frozen (p := ⟨bp, 1, none⟩) (Nat.lt_succ_self bp)).trans f1
  have hW4 : Wr bp (bp + 1) w3 (w3.setCell ⟨bp, 0, none⟩ v') := ⟨rfl, rfl, rfl, by simp [World.setCell], fun b hb hr => Below.heap_setCell _ _ _ _ (by show b ≠ bp; omega)⟩
  refine ⟨⟨d0, g0⟩, Own2W.wr ho3 hW4 (fun k hk => (World.ownsRow.lt ho3.2.1 k hk).2) (fun i k hi hk => ((ho3.2.2.1 i hi).block k hk).2) (.inr (Nat.le_refl _)),
    ⟨World.cell?_setCell_same _ _ _ d0, (World.cell?_setCell_other _ _ _ _ (by simp)).trans d1, by simpa using g0, by simpa using g1⟩, ?_, ?_⟩
  · have h2 := h.2.2.1
    have h3 := h.2.2.2
    exact ((h2.trans (bb.mono (by omega))).trans (hb3.mono (by omega))).setCell (p := ⟨bp, 0, none⟩) (Nat.le_refl _) v'
  · have k1 : (w3.setCell ⟨bp, 0, none⟩ v').heap.size = w3.heap.size := by simp [World.setCell]
    have k2 := h.2.2.2
    have k3 := bb.size
    have k4 := hb3.size
    rw [k1]
    omega
/-- What the rows' append wants in a region that draws its order, when one more list has come back. -/
theorem PolI.start (w1 : World) (m : Value) : PolI w1.heap.size (w1.alloc (.cells #[.slice none 0 0, m] 25)) (w1.alloc (.cells #[.slice none 0 0, m] 25)) (.slice none 0 0) [] [] m :=
  ⟨Own2W.nil _ _, ⟨by simp [go_sem], by simp [go_sem], by simp [go_sem], by simp [go_sem]⟩, Below.refl _ _, by simp⟩
/-- A policy out of its variable to that of the result. -/
theorem PolI.done {Z bp : Nat} {W0 wr : World} {v m : Value} {vs : List Value} {hs : List (List Int)} {ms : List Int} (h : PolI bp W0 wr v vs hs m) (hm : OwnW W0 (Z + 1) m ms) (hmb : ∀ k, m.ownBlock = some k → k < bp) (hZ : Z < bp) (u1 u2 : Value) :
    OwnP ((wr.setCell ⟨Z, 0, none⟩ u1).setCell ⟨Z, 1, none⟩ u2) Z ((wr.setCell ⟨Z, 0, none⟩ u1).setCell ⟨Z, 1, none⟩ u2).heap.size (.agg #[v, m]) hs ms := by
  obtain ⟨hO, _, hb, hz⟩ := h
  have hs1 : ((wr.setCell ⟨Z, 0, none⟩ u1).setCell ⟨Z, 1, none⟩ u2).heap.size = wr.heap.size := by simp [World.setCell]
  rw [hs1]
  have hm2 : OwnW wr (Z + 1) m ms := hm.same fun b hb1 hlt => hb.block b (hmb b hb1)
  have hW : ∀ (w : World) (off : Nat) (u : Value), Wr Z (Z + 1) w (w.setCell ⟨Z, off, none⟩ u) := fun w off u => ⟨rfl, rfl, rfl, by simp [World.setCell], fun b' hb hr => Below.heap_setCell _ _ _ _ (by show b' ≠ Z; omega)⟩
  have W1 := (hW wr 0 u1).trans (hW _ 1 u2)
  have hv : ∀ k, v.ownBlock = some k → bp + 1 ≤ k ∧ k < wr.heap.size := fun k hk => World.ownsRow.lt hO.2.1 k hk
  have hvs : ∀ i k, i < hs.length → (vs.getD i s0).ownBlock = some k → bp + 1 ≤ k ∧ k < wr.heap.size := fun i k hi hk => (hO.2.2.1 i hi).block k hk
  have hO2 := hO.wr (U := wr.heap.size) W1 (fun k hk => (hv k hk).2) (fun i k hi hk => (hvs i k hi hk).2) (.inr (by omega))
  have hm3 := hm2.wr (U := bp) W1 hmb (.inr (by omega))
  obtain ⟨g0, g1, g2, g3⟩ := hO2
  refine ⟨v, m, vs, rfl, ⟨g0, ⟨g1.1, ?_⟩, fun i hi => (g2 i hi).mono (by omega), g3⟩, hm3.mono (by omega), fun b hb => ⟨fun e => ?_, fun i hi e => ?_⟩, fun k hk => ?_, fun k hk => (hv k hk).2, fun i k hi hk => (hvs i k hi hk).2⟩
  · rcases g1.2 with hn | ⟨g, cap, cur, hv, hg, r⟩
    · exact .inl hn
    · exact .inr ⟨g, cap, cur, hv, by omega, r⟩
  · have h1 := hmb b hb; have h2 := (hv b e).1; omega
  · have h1 := hmb b hb; have h2 := (hvs i b hi e).1; omega
  · have h1 := hmb k hk; omega

theorem Own.form3 {w : World} {B : Nat} {v : Value} {xs : List Int} (h : Own w B v xs) : ∃ a n c, v = .slice a n c := by
  obtain ⟨a, c, e⟩ := Own.form h
  exact ⟨a, _, c, e⟩
theorem lb_eq {f : FuncId} {args : Array Value} {w : World} {xs ys : List Int} (h : Calls Try.prog f args w (Lb xs w)) (e : xs = ys) : Calls Try.prog f args w (Lb ys w) := e ▸ h
set_option maxHeartbeats 4000000 in
set_option maxRecDepth 100000 in
theorem lru_s (n : Nat) (h1 : 1 ≤ n) (h6 : n ≤ 6) (w : World) : Calls Try.prog 36 #[.int .i64 (n : Nat)] w (RetP (polP n yng n) (rowL n (yng (n - 1))) w) := by
  have HP := Lib.hid (fun j => polP_succ n yng j)
  have HPL := Lib.hid (fun j => polP_len n yng j)
  have HFM := Lib.hid (fun (wr : World) (B : Nat) (v : Value) (vs : List Value) (j : Nat) (h : Own2W wr B v vs (polP n yng j)) => Own2W.form h)
  have H0 := Lib.hid (fun (W : World) (B : Nat) => (show Own2W W B (.slice none 0 0) [] (polP n yng 0) from Own2W.nil W B))
  have e1 : (n : Int) - 1 = ((n - 1 : Nat) : Int) := by omega
  have HM := Lib.hid (fun w => lb_eq (front_s (n - 1) n (by omega) h6 w) (yng_row n (n - 1) (by omega) h6))
  have HROW := Lib.hid (fun (j : Nat) (hj : j < n) (w : World) => lb_eq (front_s j n (by omega) h6 w) (yng_row n j hj h6))
  rw [← e1] at HM
  clear e1
  have hn1 : (1 : Int) ≤ (n : Int) := by omega
  have hn6 : (n : Int) ≤ 6 := by omega
  go_enter Try.func36, Try.ntmps36
  go_wp2_with fail
  refine (HM.out _).mono ?_
  rintro e w1 ⟨m, rfl, om, b1⟩
  obtain ⟨am, cm, em⟩ := om.rd
  obtain ⟨em, _, _, _⟩ := em
  rw [rowL_len] at em
  have hz : (w.alloc (.cells #[.slice none 0 0, .slice none 0 0] 25)).heap.size = w.heap.size + 1 := Array.size_push _
  subst em
  have hI0 := Lib.hid (PolI.start w1 (.slice am n cm))
  have hbm : ∀ k, (Value.slice am n cm).ownBlock = some k → k < w1.heap.size := fun k hk => (om.block k hk).2
  have hom : OwnW (w1.alloc (.cells #[.slice none 0 0, .slice am n cm] 25)) (w.heap.size + 1) (.slice am n cm) (rowL n (yng (n - 1))) := OwnW.mono (rowW.alloc om.weak _) (Nat.le_of_eq hz.symm)
  have s1 := b1.size
  have hZb : w.heap.size < w1.heap.size := by
    have h : (w.alloc (.cells #[.slice none 0 0, .slice none 0 0] 25)).heap.size ≤ w1.heap.size := s1
    omega
  have HDN := Lib.hid (fun (wr : World) (v : Value) (vs : List Value) (h : PolI w1.heap.size (w1.alloc (.cells #[.slice none 0 0, .slice am n cm] 25)) wr v vs (polP n yng n) (.slice am n cm)) (u1 u2 : Value) => h.done (Z := w.heap.size) hom hbm hZb u1 u2)
  have HB1 := Lib.hid (show Below w.heap.size w (w1.alloc (.cells #[.slice none 0 0, .slice am n cm] 25)) from (((Below.refl _ _).alloc (Nat.le_refl _) _).trans (b1.mono (by omega))).alloc (by omega) _)
  have HRES := Lib.hid (fun (wr : World) (hb : Below w1.heap.size (w1.alloc (.cells #[.slice none 0 0, .slice am n cm] 25)) wr) => PolInv.res (Z := w.heap.size) (W0 := w1.alloc (.cells #[.slice none 0 0, .slice am n cm] 25)) (wr := wr) rfl (hb.mono (by omega)) ((b1.mono (by omega)).alloc (by omega) _))
  clear om hom b1 hz hbm s1
  go_wp2
  generalize w1.alloc (.cells #[.slice none 0 0, .slice am n cm] 25) = W0 at *
  generalize w1.heap.size = bp at *
  go_loopw [4] (fun i wr => ∃ (j : Nat) (v : Value) (vs : List Value), j ≤ n ∧ i = .int .i64 (j : Nat) ∧ Hid (PolI bp W0 wr v vs (polP n yng j) (.slice am n cm))) (fun i _ => n - (intOf i).toNat)
  case atStart => exact ⟨0, _, [], Nat.zero_le _, rfl, hI0⟩
  case round =>
    obtain ⟨j, v, vs, hj, rfl, hI⟩ := hrel
    by_cases hlt : j < n
    · obtain ⟨a, c, hv⟩ := HFM.out _ _ _ _ _ hI.out.1
      rw [HPL.out] at hv
      subst hv
      have HPJ := Lib.hid (HP.out j)
      have HR := Lib.hid (fun w => HROW.out j hlt w)
      have hlen9 : (polP n yng j).length + 1 ≤ 1000000000 := by rw [HPL.out]; omega
      have HA := Lib.hid (fun (w1 : World) (u : Value) (bb : Below wr.heap.size wr w1) (hu : Own w1 wr.heap.size u (rowL n (yng j))) => hI.out.app bb hu.weak)
      have HC := Lib.hid (fun (w1 : World) (bb : Below wr.heap.size wr w1) => hI.out.cells bb)
      have HST := Lib.hid (fun (w1 w3 : World) (v' : Value) (vs' : List Value) (bb : Below wr.heap.size wr w1) (o3 : Own2W w3 (bp + 1) v' vs' (polP n yng j ++ [rowL n (yng j)])) (b3 : Below (bp + 1) w1 w3) => hI.out.store bb o3 b3)
      obtain ⟨c0, c1, f0, f1, hl0, hl0'⟩ := hI.out.cells (Below.refl _ wr)
      clear hI
      go_wp2
      go_region_law (first | (refine step_app2W w1 rfl (.tmp 16) (.tmp 20) rfl (bp + 1) (.slice a j c) vs (polP n yng j) (.slice ar nr cr) (rowL n (yng j)) (by first | rfl | simp [Act.eval, Act.put]) (by first | rfl | simp [Act.eval, Act.put]) (HA.out w1 _ (drewB bb) hu).1 (HA.out w1 _ (drewB bb) hu).2.1 (HA.out w1 _ (drewB bb) hu).2.2.1 (HA.out w1 _ (drewB bb) hu).2.2.2.1 hlen9 (HA.out w1 _ (drewB bb) hu).2.2.2.2 ?_; intro g cap w3 ho3 hb3 hfr3 hg3; obtain ⟨⟨hc3, hf3⟩, hI3⟩ := HST.out w1 w3 _ _ (drewB bb) ho3 hb3) | (go_simp; go_at_call 60; (with_reducible refine (HR.out _).mono ?_); rintro e w1 ⟨u, rfl, hu, bb⟩; obtain ⟨ar, nr, cr, er⟩ := Own.form3 hu; subst er; obtain ⟨k0, k1, k2, k3, k4, k5⟩ := HC.out w1 (drewB bb)))
      all_goals
        rw [HPL.out] at *
        rw [← HPJ.out] at hI3
        have HI3 := Lib.hid hI3
        clear hI3 ho3 hb3 hfr3 hg3 bb hu k0 k1 k2 k3 k4 k5
        go_wp2
        go_roundw
        case rel => exact ⟨j + 1, _, _, by omega, by go_num, HI3⟩
        case measure => simp [intOf]; omega
    · have e : j = n := by omega
      subst e
      obtain ⟨a, c, hv⟩ := HFM.out _ _ _ _ _ hI.out.1
      rw [HPL.out] at hv
      subst hv
      obtain ⟨c0, c1, f0, f1, hl0, _⟩ := hI.out.cells (Below.refl _ wr)
      obtain ⟨r0, r1, q0, q1⟩ := HRES.out wr hI.out.2.2.1
      have hD := Lib.hid (fun u1 u2 => HDN.out wr _ vs hI.out u1 u2)
      have hBB := Lib.hid (HB1.out.trans (hI.out.2.2.1.mono (by omega)))
      have hne : ¬ bp = w.heap.size := by omega
      have hne2 : ¬ w.heap.size = bp := by omega
      clear hI
      go_wp2
      refine bodyPost_ret (v := .agg #[.slice a j c, .slice am j cm]) (by simp [results, Try.results36, go_sem, c0, c1, r0, r1, q0, q1, hne, hne2]) rfl ⟨_, rfl, hD.out _ _, ?_⟩
      exact (hBB.out.setCell (p := ⟨w.heap.size, 0, none⟩) (Nat.le_refl _) _).setCell (p := ⟨w.heap.size, 1, none⟩) (Nat.le_refl _) _

set_option maxHeartbeats 4000000 in
set_option maxRecDepth 100000 in
theorem fifo_s (n : Nat) (h1 : 1 ≤ n) (h6 : n ≤ 6) (w : World) : Calls Try.prog 39 #[.int .i64 (n : Nat)] w (RetP (polP n (fun _ => sameO) n) (rowL n (yng (n - 1))) w) := by
  have HP := Lib.hid (fun j => polP_succ n (fun _ => sameO) j)
  have HPL := Lib.hid (fun j => polP_len n (fun _ => sameO) j)
  have HFM := Lib.hid (fun (wr : World) (B : Nat) (v : Value) (vs : List Value) (j : Nat) (h : Own2W wr B v vs (polP n (fun _ => sameO) j)) => Own2W.form h)
  have H0 := Lib.hid (fun (W : World) (B : Nat) => (show Own2W W B (.slice none 0 0) [] (polP n (fun _ => sameO) 0) from Own2W.nil W B))
  have e1 : (n : Int) - 1 = ((n - 1 : Nat) : Int) := by omega
  have HM := Lib.hid (fun w => lb_eq (front_s (n - 1) n (by omega) h6 w) (yng_row n (n - 1) (by omega) h6))
  have HROW := Lib.hid (fun (j : Nat) (hj : j < n) (w : World) => lb_eq (same_s n h1 h6 w) (same_row n h1 h6))
  rw [← e1] at HM
  clear e1
  have hn1 : (1 : Int) ≤ (n : Int) := by omega
  have hn6 : (n : Int) ≤ 6 := by omega
  go_enter Try.func39, Try.ntmps39
  go_wp2_with fail
  refine (HM.out _).mono ?_
  rintro e w1 ⟨m, rfl, om, b1⟩
  obtain ⟨am, cm, em⟩ := om.rd
  obtain ⟨em, _, _, _⟩ := em
  rw [rowL_len] at em
  have hz : (w.alloc (.cells #[.slice none 0 0, .slice none 0 0] 25)).heap.size = w.heap.size + 1 := Array.size_push _
  subst em
  have hI0 := Lib.hid (PolI.start w1 (.slice am n cm))
  have hbm : ∀ k, (Value.slice am n cm).ownBlock = some k → k < w1.heap.size := fun k hk => (om.block k hk).2
  have hom : OwnW (w1.alloc (.cells #[.slice none 0 0, .slice am n cm] 25)) (w.heap.size + 1) (.slice am n cm) (rowL n (yng (n - 1))) := OwnW.mono (rowW.alloc om.weak _) (Nat.le_of_eq hz.symm)
  have s1 := b1.size
  have hZb : w.heap.size < w1.heap.size := by
    have h : (w.alloc (.cells #[.slice none 0 0, .slice none 0 0] 25)).heap.size ≤ w1.heap.size := s1
    omega
  have HDN := Lib.hid (fun (wr : World) (v : Value) (vs : List Value) (h : PolI w1.heap.size (w1.alloc (.cells #[.slice none 0 0, .slice am n cm] 25)) wr v vs (polP n (fun _ => sameO) n) (.slice am n cm)) (u1 u2 : Value) => h.done (Z := w.heap.size) hom hbm hZb u1 u2)
  have HB1 := Lib.hid (show Below w.heap.size w (w1.alloc (.cells #[.slice none 0 0, .slice am n cm] 25)) from (((Below.refl _ _).alloc (Nat.le_refl _) _).trans (b1.mono (by omega))).alloc (by omega) _)
  have HRES := Lib.hid (fun (wr : World) (hb : Below w1.heap.size (w1.alloc (.cells #[.slice none 0 0, .slice am n cm] 25)) wr) => PolInv.res (Z := w.heap.size) (W0 := w1.alloc (.cells #[.slice none 0 0, .slice am n cm] 25)) (wr := wr) rfl (hb.mono (by omega)) ((b1.mono (by omega)).alloc (by omega) _))
  clear om hom b1 hz hbm s1
  go_wp2
  generalize w1.alloc (.cells #[.slice none 0 0, .slice am n cm] 25) = W0 at *
  generalize w1.heap.size = bp at *
  go_loopw [4] (fun i wr => ∃ (j : Nat) (v : Value) (vs : List Value), j ≤ n ∧ i = .int .i64 (j : Nat) ∧ Hid (PolI bp W0 wr v vs (polP n (fun _ => sameO) j) (.slice am n cm))) (fun i _ => n - (intOf i).toNat)
  case atStart => exact ⟨0, _, [], Nat.zero_le _, rfl, hI0⟩
  case round =>
    obtain ⟨j, v, vs, hj, rfl, hI⟩ := hrel
    by_cases hlt : j < n
    · obtain ⟨a, c, hv⟩ := HFM.out _ _ _ _ _ hI.out.1
      rw [HPL.out] at hv
      subst hv
      have HPJ := Lib.hid (HP.out j)
      have HR := Lib.hid (fun w => HROW.out j hlt w)
      have hlen9 : (polP n (fun _ => sameO) j).length + 1 ≤ 1000000000 := by rw [HPL.out]; omega
      have HA := Lib.hid (fun (w1 : World) (u : Value) (bb : Below wr.heap.size wr w1) (hu : Own w1 wr.heap.size u (rowL n ((fun _ => sameO) j))) => hI.out.app bb hu.weak)
      have HC := Lib.hid (fun (w1 : World) (bb : Below wr.heap.size wr w1) => hI.out.cells bb)
      have HST := Lib.hid (fun (w1 w3 : World) (v' : Value) (vs' : List Value) (bb : Below wr.heap.size wr w1) (o3 : Own2W w3 (bp + 1) v' vs' (polP n (fun _ => sameO) j ++ [rowL n ((fun _ => sameO) j)])) (b3 : Below (bp + 1) w1 w3) => hI.out.store bb o3 b3)
      obtain ⟨c0, c1, f0, f1, hl0, hl0'⟩ := hI.out.cells (Below.refl _ wr)
      clear hI
      go_wp2
      go_region_law (first | (refine step_app2W w1 rfl (.tmp 16) (.tmp 19) rfl (bp + 1) (.slice a j c) vs (polP n (fun _ => sameO) j) (.slice ar nr cr) (rowL n ((fun _ => sameO) j)) (by first | rfl | simp [Act.eval, Act.put]) (by first | rfl | simp [Act.eval, Act.put]) (HA.out w1 _ (drewB bb) hu).1 (HA.out w1 _ (drewB bb) hu).2.1 (HA.out w1 _ (drewB bb) hu).2.2.1 (HA.out w1 _ (drewB bb) hu).2.2.2.1 hlen9 (HA.out w1 _ (drewB bb) hu).2.2.2.2 ?_; intro g cap w3 ho3 hb3 hfr3 hg3; obtain ⟨⟨hc3, hf3⟩, hI3⟩ := HST.out w1 w3 _ _ (drewB bb) ho3 hb3) | (go_simp; go_at_call 61; (with_reducible refine (HR.out _).mono ?_); rintro e w1 ⟨u, rfl, hu, bb⟩; obtain ⟨ar, nr, cr, er⟩ := Own.form3 hu; subst er; obtain ⟨k0, k1, k2, k3, k4, k5⟩ := HC.out w1 (drewB bb)))
      all_goals
        rw [HPL.out] at *
        rw [← HPJ.out] at hI3
        have HI3 := Lib.hid hI3
        clear hI3 ho3 hb3 hfr3 hg3 bb hu k0 k1 k2 k3 k4 k5
        go_wp2
        go_roundw
        case rel => exact ⟨j + 1, _, _, by omega, by go_num, HI3⟩
        case measure => simp [intOf]; omega
    · have e : j = n := by omega
      subst e
      obtain ⟨a, c, hv⟩ := HFM.out _ _ _ _ _ hI.out.1
      rw [HPL.out] at hv
      subst hv
      obtain ⟨c0, c1, f0, f1, hl0, _⟩ := hI.out.cells (Below.refl _ wr)
      obtain ⟨r0, r1, q0, q1⟩ := HRES.out wr hI.out.2.2.1
      have hD := Lib.hid (fun u1 u2 => HDN.out wr _ vs hI.out u1 u2)
      have hBB := Lib.hid (HB1.out.trans (hI.out.2.2.1.mono (by omega)))
      have hne : ¬ bp = w.heap.size := by omega
      have hne2 : ¬ w.heap.size = bp := by omega
      clear hI
      go_wp2
      refine bodyPost_ret (v := .agg #[.slice a j c, .slice am j cm]) (by simp [results, Try.results39, go_sem, c0, c1, r0, r1, q0, q1, hne, hne2]) rfl ⟨_, rfl, hD.out _ _, ?_⟩
      exact (hBB.out.setCell (p := ⟨w.heap.size, 0, none⟩) (Nat.le_refl _) _).setCell (p := ⟨w.heap.size, 1, none⟩) (Nat.le_refl _) _

end Go.Proofs.Ythfgaoojgdikpaa
