/- The program's own copy of a space: pageSpaceOf; ValidSpace. -/
import Derived.Test.YtifjkjcgpghmhaaDoorCspb
import Derived.Deep.RegionHeld3
namespace Go.Proofs.YtifjkjcgpghmhaaDoor.Sp
open Go.RowKit
theorem okSpace_eq (root : List Int) (tss : List (List TE)) (buf : List TC) : okSpace root tss buf = (okRoot root tss.length && ((len8 tss && okEnts tss) && okBuf buf)) := by
  unfold okSpace
  rw [okTab_eq]
  cases okRoot root tss.length <;> cases len8 tss <;> cases okEnts tss <;> cases okBuf buf <;> rfl
theorem Rd.row' {w : World} {a : Option Addr} {n c : Nat} {xs : List Int} (h : Rd w (.slice a n c) xs) : Row w a xs := by
  obtain ⟨a', c', e, _, _, hr⟩ := h
  injection e with e1 e2 e3
  subst e1
  exact hr
theorem rowNil {w : World} {a : Option Addr} {xs : List Int} (h : Row w a xs) (ha : a = none) : xs.length = 0 := by
  rcases Nat.eq_zero_or_pos xs.length with h0 | h0
  · exact h0
  · obtain ⟨b, off, e, _⟩ := h 0 h0
    rw [ha] at e; cases e
theorem chNil {w : World} {a : Option Addr} {xs : List RC} (h : Ch.RdR w a xs) (ha : a = none) : xs.length = 0 := by
  rcases Nat.eq_zero_or_pos xs.length with h0 | h0
  · exact h0
  · obtain ⟨b, off, e, _⟩ := h 0 h0
    rw [ha] at e; cases e
/-- The fields of the program's own copy: the buffer and the root are copies, so is the list of the tables, whose rows are those that are read. -/
def PsV (w : World) (B : Nat) (v : Value) (root : List Int) (tss : List (List TE)) (buf : List TC) : Prop :=
  ∃ a1 c1 a2 c2 a3 c3 vs h1 h2, v = .agg #[.slice a3 buf.length c3, .slice a1 root.length c1, .slice a2 tss.length c2] ∧ B ≤ h1 ∧ h1 ≤ h2 ∧ h2 ≤ w.heap.size ∧
    Ch.OwnR w B (.slice a3 buf.length c3) buf ∧ (∀ k, (Value.slice a3 buf.length c3).ownBlock = some k → k < h1) ∧ Own w h1 (.slice a1 root.length c1) root ∧ (∀ k, (Value.slice a1 root.length c1).ownBlock = some k → k < h2) ∧
    w.ownsRow h2 79 1 (.slice a2 tss.length c2) tss.length vs ∧ SlT w vs tss
abbrev z3 : Value := .agg #[.slice none 0 0, .slice none 0 0, .slice none 0 0]
def PsO (root : List Int) (tss : List (List TE)) (buf : List TC) (ok : Bool) (w : World) (e : Ending) (w' : World) : Prop :=
  ∃ v, e = .returned (.tuple #[v, .bool ok]) ∧ Below w.heap.size w w' ∧ (ok = false → v = z3) ∧ (ok = true → PsV w' w.heap.size v root tss buf)
theorem ownsRow_below {w w' : World} {B C e n sz : Nat} {v : Value} {xs : List Value} (h : w.ownsRow B e sz v n xs) (hb : Below C w w') (hC : w.heap.size ≤ C) : w'.ownsRow B e sz v n xs := by
  refine ⟨h.1, ?_⟩
  rcases h.2 with hn | ⟨g, cap, cur, hv, hg, hh, r⟩
  · exact .inl hn
  · exact .inr ⟨g, cap, cur, hv, hg, by rw [hb.block g (Nat.lt_of_lt_of_le (Array.getElem?_eq_some_iff.1 hh).1 hC)]; exact hh, r⟩
theorem ownsRow_same {w w' : World} {B e n sz : Nat} {v : Value} {xs : List Value} (h : w.ownsRow B e sz v n xs) (hb : ∀ b, B ≤ b → b < w.heap.size → w'.heap[b]? = w.heap[b]?) : w'.ownsRow B e sz v n xs := by
  refine ⟨h.1, ?_⟩
  rcases h.2 with hn | ⟨g, cap, cur, hv, hg, hh, r⟩
  · exact .inl hn
  · exact .inr ⟨g, cap, cur, hv, hg, by rw [hb g hg (Array.getElem?_eq_some_iff.1 hh).1]; exact hh, r⟩
theorem ownsRow_form {w : World} {B e n sz : Nat} {v : Value} {xs : List Value} (h : w.ownsRow B e sz v n xs) : ∃ a c, v = .slice a n c := by
  rcases h.2 with ⟨rfl, hn⟩ | ⟨g, cap, cur, hv, _⟩
  · exact ⟨none, 0, by rw [hn]⟩
  · exact ⟨_, cap, hv⟩
theorem SlT.one {w : World} {vs : List Value} {tss : List (List RE)} (h : SlT w vs tss) : ∀ u ∈ vs, u.oneCell' = true := fun u hu => by
  obtain ⟨i, hi, e⟩ := List.mem_iff_getElem.1 hu
  obtain ⟨A, C, e2, _⟩ := h.2 i (by rw [← h.1]; exact hi)
  rw [List.getElem?_eq_getElem hi, e] at e2
  injection e2 with e2
  rw [e2]; rfl
theorem built3 (A3 : Option Addr) (C3 : Nat) (A1 : Option Addr) (C1 : Nat) (A2 : Option Addr) (C2 n3 n1 n2 : Nat) : Tryd.prog.built 59 [(0, .slice A3 n3 C3), (1, .slice A1 n1 C1), (2, .slice A2 n2 C2)] = some #[.slice A3 n3 C3, .slice A1 n1 C1, .slice A2 n2 C2] := by kernel_rfl
set_option maxRecDepth 100000 in
set_option maxHeartbeats 8000000 in
theorem pso_i {w : World} {v : Value} {root : List Int} {tss : List (List TE)} {buf : List TC} (h : RdS w v root tss buf) (hl : tot root.length tss buf.length ≤ 1048576) :
    Calls Tryd.prog 34 #[v] w (PsO root tss buf (okSpace root tss buf) w) := by
  obtain ⟨a1, c1, a2, c2, a3, c3, rfl, r1, r2, r3, hcap⟩ := h
  unfold tot at hl
  rw [okSpace_eq]
  obtain ⟨W0, hW0⟩ : ∃ W0, W0 = (w.alloc (.cells #[.slice a1 root.length c1, .slice a2 tss.length c2, .slice a3 buf.length c3] 32)).alloc (.cells #[.slice none 0 0, .slice none 0 0, .slice none 0 0] 59) := ⟨_, rfl⟩
  have b0 : Below w.heap.size w W0 := by rw [hW0]; exact ((Below.refl _ w).alloc (Nat.le_refl _) _).alloc (by simp) _
  have bz : Blk W0 w.heap.size [.slice a1 root.length c1, .slice a2 tss.length c2, .slice a3 buf.length c3] 32 := by rw [hW0]; exact Blk.alloc (Blk.newAt w _ _ _ rfl) _
  have bz1 : Blk W0 (w.heap.size + 1) [.slice none 0 0, .slice none 0 0, .slice none 0 0] 59 := by rw [hW0]; exact Blk.newAt _ _ _ _ (by simp)
  have hz0 : W0.heap.size = w.heap.size + 2 := by rw [hW0]; simp
  have hlens : ∀ k, (tss.getD k []).length ≤ 1048576 := fun k => by
    by_cases hk : k < tss.length
    · have h1 := sum_step (En.lensT tss) k (by rw [En.lensT_length]; exact hk)
      have h2 := sum_take_le (En.lensT tss) (k + 1)
      rw [En.lensT_get tss k hk] at h1
      omega
    · rw [List.getD_eq_getElem?_getD, List.getElem?_eq_none (by omega)]; exact Nat.zero_le _
  have HR := Lib.hid (root_i a1 c1 tss.length root W0 (by omega) (by omega) ((Rd.row' r1).below b0))
  have HT := Lib.hid (fun (w' : World) (bb : Below w.heap.size w w') => tables_i a2 c2 tss w' (by omega) (r2.below bb) hlens)
  have HB := Lib.hid (fun (w' : World) (bb : Below w.heap.size w w') => buffer_i a3 c3 buf w' (by omega) (r3.below bb) hcap)
  have HCB := Lib.hid (fun (w' : World) (bb : Below w.heap.size w w') => cloneCh a3 c3 buf w' (r3.below bb) (chNil r3) (by omega))
  have HCR := Lib.hid (fun (w' : World) (bb : Below w.heap.size w w') => cloneI a1 c1 root w' ((Rd.row' r1).below bb) (rowNil (Rd.row' r1)) (by omega))
  obtain ⟨vs, hvs, hvc⟩ := RdT.slices r2
  have hvl := hvs.1
  have HCT := Lib.hid (fun (w' : World) (bb : Below w.heap.size w w') => (show Calls Tryd.prog 62 #[.slice a2 tss.length c2] w' (CloT vs w') from by
    rw [← hvl]
    refine cloneT a2 c2 vs w' ⟨fun i hi => ?_, SlT.one hvs⟩ (fun ha => ?_) (by omega)
    · obtain ⟨b, off, e, e2⟩ := hvc i (by omega)
      have hlt : b < w.heap.size := by
        obtain ⟨A, C, e3, _⟩ := hvs.2 i (by omega)
        rw [e3] at e2
        exact World.block_lt_of_cell? w _ e2
      exact ⟨b, off, e, ((bb.cell (p := ⟨b, off + i, none⟩) hlt)).trans e2⟩
    · rcases Nat.eq_zero_or_pos vs.length with h0 | h0
      · exact h0
      · obtain ⟨b, off, e, _⟩ := hvc 0 (by omega)
        rw [ha] at e; cases e))
  have HVS := Lib.hid (fun (w' : World) (bb : Below w.heap.size w w') => hvs.below bb)
  have HVL := Lib.hid hvl
  clear hvs hvc hvl r1 r2 r3 hcap hl hlens
  generalize hN1 : root.length = n1 at *
  generalize hN2 : tss.length = n2 at *
  generalize hN3 : buf.length = n3 at *
  have HN1 := Lib.hid hN1
  have HN2 := Lib.hid hN2
  have HN3 := Lib.hid hN3
  clear hN1 hN2 hN3
  generalize okRoot root n2 = k1 at *
  generalize (len8 tss && okEnts tss) = k2 at *
  generalize okBuf buf = k3 at *
  go_enter Tryd.func34, Tryd.ntmps34
  go_wp2_with fail
  rw [← hW0]
  clear hW0
  refine HR.out.mono ?_; rintro e w1 ⟨rfl, b1⟩
  have B1 := Lib.hid (bt b0 b1)
  have y := bz.below b1 bz.lt
  have y1 := bz1.below b1 bz1.lt
  have s1 := b1.size
  clear b0 b1 bz bz1 HR
  cases k1
  case false =>
    have z0 : w1.cell? ⟨w.heap.size + 1, 0, none⟩ = some (.slice none 0 0) := y1.cell 0
    have z1 : w1.cell? ⟨w.heap.size + 1, 1, none⟩ = some (.slice none 0 0) := y1.cell 1
    have z2 : w1.cell? ⟨w.heap.size + 1, 2, none⟩ = some (.slice none 0 0) := y1.cell 2
    have g0 := y1.froz 0
    have g1 := y1.froz 1
    have g2 := y1.froz 2
    have HB4 := Lib.hid (fun (w4 : World) (e : w4 = ((w1.setCell ⟨w.heap.size + 1, 0, none⟩ (.slice none 0 0)).setCell ⟨w.heap.size + 1, 1, none⟩ (.slice none 0 0)).setCell ⟨w.heap.size + 1, 2, none⟩ (.slice none 0 0)) => (show Below w.heap.size w w4 from by
      rw [e]
      exact ((B1.out.setCell (p := ⟨_, 0, none⟩) (by simp) _).setCell (p := ⟨_, 1, none⟩) (by simp) _).setCell (p := ⟨_, 2, none⟩) (by simp) _))
    clear y y1 HT HB HCB HCR HCT HVS HVL HN1 HN2 HN3
    go_wp2
    refine bodyPost_ret (v := .tuple #[.agg #[.slice none 0 0, .slice none 0 0, .slice none 0 0], .bool false]) (by simp [results, Tryd.results34, go_sem, z0, z1, z2, g0, g1, g2]) rfl ?_
    exact ⟨_, rfl, HB4.out _ rfl, fun _ => rfl, fun h => by cases h⟩
  have p1 : w1.cell? ⟨w.heap.size, 1, none⟩ = some (.slice a2 n2 c2) := y.cell 1
  go_wp2_with fail
  refine (HT.out w1 B1.out).mono ?_; rintro e w2 ⟨rfl, b2⟩
  have B2 := Lib.hid (bt B1.out b2)
  have x := y.below b2 y.lt
  have x1 := y1.below b2 y1.lt
  have s2 := b2.size
  clear b2 y y1 p1 HT B1
  cases k2
  case false =>
    have z0 : w2.cell? ⟨w.heap.size + 1, 0, none⟩ = some (.slice none 0 0) := x1.cell 0
    have z1 : w2.cell? ⟨w.heap.size + 1, 1, none⟩ = some (.slice none 0 0) := x1.cell 1
    have z2 : w2.cell? ⟨w.heap.size + 1, 2, none⟩ = some (.slice none 0 0) := x1.cell 2
    have g0 := x1.froz 0
    have g1 := x1.froz 1
    have g2 := x1.froz 2
    have HB4 := Lib.hid (fun (w4 : World) (e : w4 = ((w2.setCell ⟨w.heap.size + 1, 0, none⟩ (.slice none 0 0)).setCell ⟨w.heap.size + 1, 1, none⟩ (.slice none 0 0)).setCell ⟨w.heap.size + 1, 2, none⟩ (.slice none 0 0)) => (show Below w.heap.size w w4 from by
      rw [e]
      exact ((B2.out.setCell (p := ⟨_, 0, none⟩) (by simp) _).setCell (p := ⟨_, 1, none⟩) (by simp) _).setCell (p := ⟨_, 2, none⟩) (by simp) _))
    clear x x1 HB HCB HCR HCT HVS HVL HN1 HN2 HN3
    go_wp2
    refine bodyPost_ret (v := .tuple #[.agg #[.slice none 0 0, .slice none 0 0, .slice none 0 0], .bool false]) (by simp [results, Tryd.results34, go_sem, z0, z1, z2, g0, g1, g2]) rfl ?_
    exact ⟨_, rfl, HB4.out _ rfl, fun _ => rfl, fun h => by cases h⟩
  have p2 : w2.cell? ⟨w.heap.size, 2, none⟩ = some (.slice a3 n3 c3) := x.cell 2
  go_wp2_with fail
  refine (HB.out w2 B2.out).mono ?_; rintro e w3 ⟨rfl, b3⟩
  have B3 := Lib.hid (bt B2.out b3)
  have y := x.below b3 x.lt
  have y1 := x1.below b3 x1.lt
  have s3 := b3.size
  clear b3 x x1 p2 HB B2
  cases k3
  case false =>
    have z0 : w3.cell? ⟨w.heap.size + 1, 0, none⟩ = some (.slice none 0 0) := y1.cell 0
    have z1 : w3.cell? ⟨w.heap.size + 1, 1, none⟩ = some (.slice none 0 0) := y1.cell 1
    have z2 : w3.cell? ⟨w.heap.size + 1, 2, none⟩ = some (.slice none 0 0) := y1.cell 2
    have g0 := y1.froz 0
    have g1 := y1.froz 1
    have g2 := y1.froz 2
    have HB4 := Lib.hid (fun (w4 : World) (e : w4 = ((w3.setCell ⟨w.heap.size + 1, 0, none⟩ (.slice none 0 0)).setCell ⟨w.heap.size + 1, 1, none⟩ (.slice none 0 0)).setCell ⟨w.heap.size + 1, 2, none⟩ (.slice none 0 0)) => (show Below w.heap.size w w4 from by
      rw [e]
      exact ((B3.out.setCell (p := ⟨_, 0, none⟩) (by simp) _).setCell (p := ⟨_, 1, none⟩) (by simp) _).setCell (p := ⟨_, 2, none⟩) (by simp) _))
    clear y y1 HCB HCR HCT HVS HVL HN1 HN2 HN3
    go_wp2
    refine bodyPost_ret (v := .tuple #[.agg #[.slice none 0 0, .slice none 0 0, .slice none 0 0], .bool false]) (by simp [results, Tryd.results34, go_sem, z0, z1, z2, g0, g1, g2]) rfl ?_
    exact ⟨_, rfl, HB4.out _ rfl, fun _ => rfl, fun h => by cases h⟩
  have p0 : w3.cell? ⟨w.heap.size, 0, none⟩ = some (.slice a1 n1 c1) := y.cell 0
  have p1 : w3.cell? ⟨w.heap.size, 1, none⟩ = some (.slice a2 n2 c2) := y.cell 1
  have p2 : w3.cell? ⟨w.heap.size, 2, none⟩ = some (.slice a3 n3 c3) := y.cell 2
  have z0 : w3.cell? ⟨w.heap.size + 1, 0, none⟩ = some (.slice none 0 0) := y1.cell 0
  have z1 : w3.cell? ⟨w.heap.size + 1, 1, none⟩ = some (.slice none 0 0) := y1.cell 1
  have z2 : w3.cell? ⟨w.heap.size + 1, 2, none⟩ = some (.slice none 0 0) := y1.cell 2
  have HK := Lib.hid (fun (w' : World) (bb : Below w3.heap.size w3 w') => (show w'.cell? ⟨w.heap.size, 0, none⟩ = some (.slice a1 n1 c1) ∧ w'.cell? ⟨w.heap.size, 1, none⟩ = some (.slice a2 n2 c2) ∧ w'.cell? ⟨w.heap.size, 2, none⟩ = some (.slice a3 n3 c3) ∧
      w'.cell? ⟨w.heap.size + 1, 0, none⟩ = some (.slice none 0 0) ∧ w'.cell? ⟨w.heap.size + 1, 1, none⟩ = some (.slice none 0 0) ∧ w'.cell? ⟨w.heap.size + 1, 2, none⟩ = some (.slice none 0 0) ∧ w'.frozen? ⟨w.heap.size + 1, 0, none⟩ = false ∧ w'.frozen? ⟨w.heap.size + 1, 1, none⟩ = false ∧ w'.frozen? ⟨w.heap.size + 1, 2, none⟩ = false from by
    have q := y.below bb y.lt
    have q1 := y1.below bb y1.lt
    exact ⟨q.cell 0, q.cell 1, q.cell 2, q1.cell 0, q1.cell 1, q1.cell 2, q1.froz 0, q1.froz 1, q1.froz 2⟩))
  have HY1 := Lib.hid (fun (w' : World) (bb : Below w3.heap.size w3 w') => y1.below bb y1.lt)
  clear y y1
  have BD : Below w.heap.size w w3.drew := B3.out.drew
  go_wp2
  refine wp_region_noPanic ?_
  refine wp_region_held_drew (S := fun w' => w'.cell? ⟨w.heap.size, 0, none⟩ = some (.slice a1 n1 c1) ∧ w'.cell? ⟨w.heap.size, 1, none⟩ = some (.slice a2 n2 c2) ∧ w'.cell? ⟨w.heap.size, 2, none⟩ = some (.slice a3 n3 c3)) (by kernel_rfl) (⟨p0, p1, p2⟩) (fun hS => ?_)
  refine wpAnyH_take (i := 0) (oi := ⟨some 24, _, _, _, _, _⟩) (v := ?_) rfl (by kernel_rfl) (by kernel_rfl) (by kernel_rfl) (fun _ _ _ h => h) (Or.inl ⟨by rfl, ?_⟩) hS ?_
  rotate_left
  · intro w9 h9
    (try dsimp only at h9)
    go_simp
    try with_reducible rfl
  simp only [Act.put, List.setIfInBounds_toArray, List.set_cons_zero, List.set_cons_succ]
  refine wpAnyH_take (i := 3) (oi := ⟨some 27, _, _, _, _, _⟩) (v := ?_) rfl (by kernel_rfl) (by kernel_rfl) (by kernel_rfl) (fun _ _ _ h => h) (Or.inl ⟨by rfl, ?_⟩) hS ?_
  rotate_left
  · intro w9 h9
    (try dsimp only at h9)
    go_simp
    try with_reducible rfl
  simp only [Act.put, List.setIfInBounds_toArray, List.set_cons_zero, List.set_cons_succ]
  refine wpAnyH_take (i := 6) (oi := ⟨some 30, _, _, _, _, _⟩) (v := ?_) rfl (by kernel_rfl) (by kernel_rfl) (by kernel_rfl) (fun _ _ _ h => h) (Or.inl ⟨by rfl, ?_⟩) hS ?_
  rotate_left
  · intro w9 h9
    (try dsimp only at h9)
    go_simp
    try with_reducible rfl
  simp only [Act.put, List.setIfInBounds_toArray, List.set_cons_zero, List.set_cons_succ]
  refine wpAnyH_take (i := 1) (oi := ⟨some 25, _, _, _, _, _⟩) (v := ?_) rfl (by kernel_rfl) (by kernel_rfl) (by kernel_rfl) (fun _ _ _ h => h) (Or.inl ⟨by rfl, ?_⟩) hS ?_
  rotate_left
  · intro w9 h9
    (try dsimp only at h9)
    go_simp
    try with_reducible rfl
  simp only [Act.put, List.setIfInBounds_toArray, List.set_cons_zero, List.set_cons_succ]
  refine wpAnyH_take (i := 4) (oi := ⟨some 28, _, _, _, _, _⟩) (v := ?_) rfl (by kernel_rfl) (by kernel_rfl) (by kernel_rfl) (fun _ _ _ h => h) (Or.inl ⟨by rfl, ?_⟩) hS ?_
  rotate_left
  · intro w9 h9
    (try dsimp only at h9)
    go_simp
    try with_reducible rfl
  simp only [Act.put, List.setIfInBounds_toArray, List.set_cons_zero, List.set_cons_succ]
  refine wpAnyH_take (i := 7) (oi := ⟨some 31, _, _, _, _, _⟩) (v := ?_) rfl (by kernel_rfl) (by kernel_rfl) (by kernel_rfl) (fun _ _ _ h => h) (Or.inl ⟨by rfl, ?_⟩) hS ?_
  rotate_left
  · intro w9 h9
    (try dsimp only at h9)
    go_simp
    try with_reducible rfl
  simp only [Act.put, List.setIfInBounds_toArray, List.set_cons_zero, List.set_cons_succ]
  refine wpAnyH_ready (rs := [2]) (by kernel_rfl) (by simp) ?_
  refine AllReadyH.cons (o := ⟨some 26, _, _, _, _, _⟩) rfl (fun K hK => ?_) AllReadyH.nil
  go_simp
  go_wp2_with (go_at_call 60; (with_reducible refine (HCB.out _ BD).mono ?_); rintro e w4 ⟨u3, rfl, o3, b4⟩)
  have bb4 : Below w3.heap.size w3 w4 := drew_below b4
  have B4 := Lib.hid (B3.out.trans (bb4.mono B3.out.size))
  obtain ⟨A3, C3, e3, _⟩ := o3.row
  rw [HN3.out] at e3
  subst e3
  refine hK.out _ _ (⟨(HK.out _ bb4).1, (HK.out _ bb4).2.1, (HK.out _ bb4).2.2.1⟩) (fun hS1 => ?_)
  clear hK K hS
  try simp only [Act.put, List.setIfInBounds_toArray, List.set_cons_zero, List.set_cons_succ]
  refine wpAnyH_ready (rs := [5]) (by kernel_rfl) (by simp) ?_
  refine AllReadyH.cons (o := ⟨some 29, _, _, _, _, _⟩) rfl (fun K hK => ?_) AllReadyH.nil
  go_simp
  go_wp2_with (go_at_call 61; (with_reducible refine (HCR.out _ B4.out).mono ?_); rintro e w5 ⟨u1, rfl, o1, b5⟩)
  have bb5 : Below w3.heap.size w3 w5 := bb4.trans (b5.mono bb4.size)
  have B5 := Lib.hid (bt B4.out (b5.mono (Nat.le_refl _)))
  obtain ⟨A1, C1, e1⟩ := o1.form
  rw [HN1.out] at e1
  subst e1
  refine hK.out _ _ (⟨(HK.out _ bb5).1, (HK.out _ bb5).2.1, (HK.out _ bb5).2.2.1⟩) (fun hS2 => ?_)
  clear hK K hS1
  try simp only [Act.put, List.setIfInBounds_toArray, List.set_cons_zero, List.set_cons_succ]
  refine wpAnyH_ready (rs := [8]) (by kernel_rfl) (by simp) ?_
  refine AllReadyH.cons (o := ⟨some 32, _, _, _, _, _⟩) rfl (fun K hK => ?_) AllReadyH.nil
  go_simp
  go_wp2_with (go_at_call 62; (with_reducible refine (HCT.out _ B5.out).mono ?_); rintro e w6 ⟨u2, rfl, o2, b6⟩)
  have bb6 : Below w3.heap.size w3 w6 := bb5.trans (b6.mono bb5.size)
  have B6 := Lib.hid (bt B5.out (b6.mono (Nat.le_refl _)))
  rw [HVL.out] at o2
  obtain ⟨A2, C2, e2⟩ := ownsRow_form o2
  subst e2
  obtain ⟨_, _, _, y0, y1, y2, g0, g1, g2⟩ := HK.out w6 bb6
  have hbt := built3 A3 C3 A1 C1 A2 C2 n3 n1 n2
  refine hK.out _ _ (⟨(HK.out _ bb6).1, (HK.out _ bb6).2.1, (HK.out _ bb6).2.2.1⟩) (fun hS3 => ?_)
  clear hK K hS2
  try simp only [Act.put, List.setIfInBounds_toArray, List.set_cons_zero, List.set_cons_succ]
  refine wpAnyH_take (i := 9) (oi := ⟨some 33, _, _, _, _, _⟩) (v := ?_) rfl (by kernel_rfl) (by kernel_rfl) (by kernel_rfl) (fun _ _ _ h => h) (Or.inl ⟨by rfl, ?_⟩) hS3 ?_
  rotate_left
  · intro w9 h9
    (try dsimp only at h9)
    go_simp
    try with_reducible rfl
  simp only [Act.put, List.setIfInBounds_toArray, List.set_cons_zero, List.set_cons_succ]
  refine wpAnyH_ready (rs := [10]) (by kernel_rfl) (by simp) ?_
  refine AllReadyH.cons (o := ⟨none, _, _, _, _, _⟩) rfl (fun K hK => ?_) AllReadyH.nil
  go_simp
  obtain ⟨w7, hw7⟩ : ∃ w7, w7 = ((w6.setCell ⟨w.heap.size + 1, 0, none⟩ (.slice A3 n3 C3)).setCell ⟨w.heap.size + 1, 1, none⟩ (.slice A1 n1 C1)).setCell ⟨w.heap.size + 1, 2, none⟩ (.slice A2 n2 C2) := ⟨_, rfl⟩
  rw [← hw7]
  have hh : ∀ i, i ≠ w.heap.size + 1 → w7.heap[i]? = w6.heap[i]? := fun i hi => by rw [hw7, heap_set _ _ _ _ i hi, heap_set _ _ _ _ i hi, heap_set _ _ _ _ i hi]
  have hz7 : w7.heap.size = w6.heap.size := by rw [hw7]; simp
  have hc7 : ∀ o, w7.cell? ⟨w.heap.size, o, none⟩ = w6.cell? ⟨w.heap.size, o, none⟩ := fun o => by rw [hw7, World.cell?_setCell_other _ _ _ _ (by simp), World.cell?_setCell_other _ _ _ _ (by simp), World.cell?_setCell_other _ _ _ _ (by simp)]
  refine hK.out _ _ (⟨(hc7 0).trans hS3.1, (hc7 1).trans hS3.2.1, (hc7 2).trans hS3.2.2⟩) (fun hS4 => ?_)
  clear hK K hS3
  try simp only [Act.put, List.setIfInBounds_toArray, List.set_cons_zero, List.set_cons_succ]
  refine wpAnyH_take (i := 11) (oi := ⟨some 3, _, _, _, _, _⟩) (v := ?_) rfl (by kernel_rfl) (by kernel_rfl) (by kernel_rfl) (fun _ _ _ h => h) (Or.inl ⟨by rfl, ?_⟩) hS4 ?_
  rotate_left
  · intro w9 h9
    (try dsimp only at h9)
    go_simp
    try with_reducible rfl
  simp only [Act.put, List.setIfInBounds_toArray, List.set_cons_zero, List.set_cons_succ]
  refine wpAnyH_done (by kernel_rfl) ?_ _
  refine NoPanic.normal ?_
  have T7 : Blk w7 (w.heap.size + 1) [.slice A3 n3 C3, .slice A1 n1 C1, .slice A2 n2 C2] 59 := by rw [hw7]; exact blk_set (w.heap.size + 1) _ [.slice A3 n3 C3, .slice A1 n1 C1, .slice A2 n2 C2] 0 _ w6 (HY1.out w6 bb6) (by simp)
  have q0 : w7.cell? ⟨w.heap.size + 1, 0, none⟩ = some (.slice A3 n3 C3) := T7.cell 0
  have q1 : w7.cell? ⟨w.heap.size + 1, 1, none⟩ = some (.slice A1 n1 C1) := T7.cell 1
  have q2 : w7.cell? ⟨w.heap.size + 1, 2, none⟩ = some (.slice A2 n2 C2) := T7.cell 2
  have t4 := b4.size
  have t5 := b5.size
  have t6 := b6.size
  have t4' : w3.heap.size ≤ w4.heap.size := bb4.size
  have HFIN := Lib.hid (show PsV w7 w.heap.size (.agg #[.slice A3 n3 C3, .slice A1 n1 C1, .slice A2 n2 C2]) root tss buf ∧ Below w.heap.size w w7 from by
    have e1 := HN1.out
    have e2 := HN2.out
    have e3 := HN3.out
    subst e1 e2 e3
    have B7 : Below w.heap.size w w7 := by
      rw [hw7]
      exact ((B6.out.setCell (p := ⟨_, 0, none⟩) (by simp) _).setCell (p := ⟨_, 1, none⟩) (by simp) _).setCell (p := ⟨_, 2, none⟩) (by simp) _
    have o3' := Ch.OwnR.same (w' := w7) (Ch.OwnR.below (Ch.OwnR.below o3 b5 (Nat.le_refl _)) b6 (Nat.le_refl _)) fun b hb _ => hh b (by have := (Ch.OwnR.block o3 b hb).1; have : w3.heap.size ≤ b := this; omega)
    have o1' := Own.same (w' := w7) (Own.below o1 b6 (Nat.le_refl _)) fun b hb _ => hh b (by have := (Own.block o1 b hb).1; omega)
    have o2' := ownsRow_same (w' := w7) o2 fun b hb _ => hh b (by omega)
    refine ⟨⟨A1, C1, A2, C2, A3, C3, vs, w4.heap.size, w5.heap.size, rfl, by omega, by omega, by omega, Ch.OwnR.mono o3' (by show w.heap.size ≤ w3.heap.size; omega), fun k hk => (Ch.OwnR.block o3 k hk).2, o1', fun k hk => (Own.block o1 k hk).2, o2', HVS.out w7 B7⟩, B7⟩)
  clear o3 o1 o2 b4 b5 b6 bb4 bb5 bb6 T7 hh hc7 hw7 hS4 B4 B5 B6 HY1 HK
  go_wp2
  refine bodyPost_ret (v := .tuple #[.agg #[.slice A3 n3 C3, .slice A1 n1 C1, .slice A2 n2 C2], .bool true]) (by simp [results, Tryd.results34, go_sem, q0, q1, q2]) rfl ?_
  exact ⟨_, rfl, HFIN.out.2, fun h => (by cases h), fun _ => HFIN.out.1⟩
end Go.Proofs.YtifjkjcgpghmhaaDoor.Sp
