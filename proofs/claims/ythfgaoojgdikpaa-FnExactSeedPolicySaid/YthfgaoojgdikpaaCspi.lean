/- The program's SeedPolicy. -/
import Derived.Test.YthfgaoojgdikpaaCsp
import Derived.Deep.RegionLaw
namespace Go.Proofs.Ythfgaoojgdikpaa.Sd
open Go.RowKit
/-- What the closure leaves that draws an order: the list, and the seed behind it in its variable. -/
def Drawn (sb : Nat) (xs : List Int) (y : Nat) (w : World) (e : Ending) (w' : World) : Prop :=
  ∃ v, e = .returned v ∧ Own w' w.heap.size v xs ∧ Wr sb (sb + 1) w w' ∧ w'.cell? ⟨sb, 0, none⟩ = some (.int .i64 (y : Nat)) ∧ w'.frozen? ⟨sb, 0, none⟩ = false
def DrawI (sb : Nat) (v : Value) (xs : List Int) (x : Nat) (w : World) (j : Nat) (wr : World) : Prop :=
  Own wr w.heap.size v xs ∧ Wr sb (sb + 1) w wr ∧ wr.cell? ⟨sb, 0, none⟩ = some (.int .i64 (at_ x j : Nat)) ∧ wr.frozen? ⟨sb, 0, none⟩ = false
theorem DrawI.next {sb : Nat} {v : Value} {xs : List Int} {x : Nat} {w : World} {j : Nat} {wr : World} (h : DrawI sb v xs x w j wr) (hsb : sb < w.heap.size) :
    DrawI sb v xs x w (j + 1) (wr.setCell ⟨sb, 0, none⟩ (.int .i64 (nx (at_ x j) : Nat))) := by
  obtain ⟨ho, hw, hc, hf⟩ := h
  have hg : wr.grownBy (wr.setCell ⟨sb, 0, none⟩ (.int .i64 (nx (at_ x j) : Nat))) (some sb) := ⟨rfl, rfl, rfl, by simp [World.setCell], fun k _ hk => Below.heap_setCell _ _ _ _ (fun e => hk (by rw [e]))⟩
  refine ⟨ho.kept hg fun k hk e => ?_, hw.trans ⟨rfl, rfl, rfl, by simp [World.setCell], fun b hb hr => Below.heap_setCell _ _ _ _ (by show b ≠ sb; omega)⟩, World.cell?_setCell_same _ _ _ hc, by simpa using hf⟩
  have := (ho.block k hk).1
  injection e with e
  omega
set_option maxHeartbeats 2000000 in
theorem draw_i (n x sb wb : Nat) (h1 : 1 ≤ n) (h6 : n ≤ 6) (hx1 : 1 ≤ x) (hx2 : x ≤ 2147483646) (w : World) (hne : wb ≠ sb) (hc : w.cell? ⟨sb, 0, none⟩ = some (.int .i64 (x : Nat))) (hf : w.frozen? ⟨sb, 0, none⟩ = false) (hc2 : w.cell? ⟨wb, 0, none⟩ = some (.int .i64 (n : Nat))) :
    Calls Try.prog 48 #[.pointer (some ⟨sb, 0, none⟩), .pointer (some ⟨wb, 0, none⟩)] w (Drawn sb (ord x n) (at_ x (n - 1)) w) := by
  have HO := Lib.hid (fun w => order_yes_i x n w hx1 hx2 (by omega))
  have hsb : sb < w.heap.size := World.block_lt_of_cell? w _ hc
  have hwb : wb < w.heap.size := World.block_lt_of_cell? w _ hc2
  have HP := Lib.hid (fun j => at_pos' x j hx1 hx2)
  have hn1 : (1 : Int) ≤ (n : Int) := by omega
  have hn6 : (n : Int) ≤ 6 := by omega
  go_enter Try.func48, Try.ntmps48
  go_wp2_with fail
  refine (HO.out _).mono ?_
  rintro e w1 ⟨v, rfl, o1, b1⟩
  have k1 := (b1.cell (p := ⟨sb, 0, none⟩) hsb).trans hc
  have k2 := (b1.cell (p := ⟨wb, 0, none⟩) hwb).trans hc2
  have k3 := (b1.frozen (p := ⟨sb, 0, none⟩) hsb).trans hf
  have hD := Lib.hid (show DrawI sb v (ord x n) x w 0 w1 from ⟨o1, ⟨b1.os, b1.tape, b1.output, b1.size, fun b hb _ => b1.block b hb⟩, k1, k3⟩)
  have HSB := Lib.hid hsb
  clear o1 b1 hc hf hc2 k1 k3 hwb
  go_wp2
  go_loopw [13] (fun i wr => ∃ j : Nat, j ≤ n - 1 ∧ i = .int .i64 (j : Nat) ∧ Hid (DrawI sb v (ord x n) x w j wr)) (fun i _ => n - (intOf i).toNat)
  case atStart => exact ⟨0, Nat.zero_le _, rfl, hD⟩
  case round =>
    obtain ⟨j, hj, rfl, hd⟩ := hrel
    by_cases hlt : j < n - 1
    · have hltI : (j : Int) < (n : Int) - 1 := by omega
      have hnx := Lib.hid (DrawI.next hd.out HSB.out)
      have hp := HP.out j
      obtain ⟨_, _, c1, f1⟩ := hd.out
      generalize hy : at_ x j = y at *
      clear hy
      have hyl : y < 2147483647 := by omega
      go_wp2_with (go_at_call 50; refine (next_i y _ hyl).mono ?_; rintro e w' ⟨rfl, rfl⟩)
      go_roundw
      case rel => exact ⟨j + 1, by omega, by go_num, hnx⟩
      case measure => simp [intOf]; omega
    · have e : j = n - 1 := by omega
      have hltI : ¬ (j : Int) < (n : Int) - 1 := by omega
      obtain ⟨d1, d2, d3, d4⟩ := hd.out
      rw [e] at d3
      have D3 := Lib.hid d3
      clear d3 e
      go_wp2
      go_ret
      exact ⟨_, rfl, d1, d2, D3.out, d4⟩
/-- What holds at the head of the loop that makes the policy. -/
def PolJ (Z n s : Nat) (w : World) (v : Value) (vs : List Value) (j : Nat) (wr : World) : Prop :=
  Own2W wr (Z + 4) v vs (polS n s j) ∧ (wr.cell? ⟨Z + 3, 0, none⟩ = some v ∧ wr.cell? ⟨Z + 3, 1, none⟩ = some (.slice none 0 0) ∧ wr.frozen? ⟨Z + 3, 0, none⟩ = false ∧ wr.frozen? ⟨Z + 3, 1, none⟩ = false) ∧
    (wr.cell? ⟨Z + 1, 0, none⟩ = some (.int .i64 (at_ s (j * (n - 1)) : Nat)) ∧ wr.frozen? ⟨Z + 1, 0, none⟩ = false) ∧ wr.cell? ⟨Z, 0, none⟩ = some (.int .i64 (n : Nat)) ∧
    (wr.cell? ⟨Z + 2, 0, none⟩ = some (.slice none 0 0) ∧ wr.cell? ⟨Z + 2, 1, none⟩ = some (.slice none 0 0) ∧ wr.frozen? ⟨Z + 2, 0, none⟩ = false ∧ wr.frozen? ⟨Z + 2, 1, none⟩ = false) ∧ Below Z w wr ∧ Z + 4 ≤ wr.heap.size
/-- The same behind a drawn order, with what append wants. -/
theorem PolJ.draw {Z n s : Nat} {w : World} {v : Value} {vs : List Value} {j : Nat} {wr w1 : World} {u : Value} (h : PolJ Z n s w v vs j wr) (hu : Own w1 wr.heap.size u (rowS n s j)) (hW : Wr (Z + 1) (Z + 2) wr w1)
    (hc : w1.cell? ⟨Z + 1, 0, none⟩ = some (.int .i64 (at_ s ((j + 1) * (n - 1)) : Nat))) (hf : w1.frozen? ⟨Z + 1, 0, none⟩ = false) :
    (Own2W w1 (Z + 4) v vs (polS n s j) ∧ OwnW w1 (Z + 4) u (rowS n s j) ∧ (∀ i k, i < (polS n s j).length → (vs.getD i s0).ownBlock = some k → u.ownBlock ≠ some k) ∧ (∀ k, u.ownBlock = some k → v.ownBlock ≠ some k) ∧ Z + 4 ≤ w1.heap.size) ∧
    (w1.cell? ⟨Z + 3, 0, none⟩ = some v ∧ w1.cell? ⟨Z + 3, 1, none⟩ = some (.slice none 0 0) ∧ w1.frozen? ⟨Z + 3, 0, none⟩ = false ∧ w1.frozen? ⟨Z + 3, 1, none⟩ = false) ∧ w1.cell? ⟨Z, 0, none⟩ = some (.int .i64 (n : Nat)) ∧
    (w1.cell? ⟨Z + 2, 0, none⟩ = some (.slice none 0 0) ∧ w1.cell? ⟨Z + 2, 1, none⟩ = some (.slice none 0 0) ∧ w1.frozen? ⟨Z + 2, 0, none⟩ = false ∧ w1.frozen? ⟨Z + 2, 1, none⟩ = false) ∧ Below Z w w1 := by
  obtain ⟨hO, ⟨c0, c1, f0, f1⟩, _, cn, ⟨r0, r1, q0, q1⟩, hb, hz⟩ := h
  have cc : ∀ b off, b < wr.heap.size → (b < Z + 1 ∨ Z + 2 ≤ b) → w1.cell? ⟨b, off, none⟩ = wr.cell? ⟨b, off, none⟩ := fun b off h1 h2 => World.cell?_of_block (w := wr) (a := ⟨b, off, none⟩) (hW.block b h1 h2)
  have ff : ∀ b off, b < wr.heap.size → (b < Z + 1 ∨ Z + 2 ≤ b) → w1.frozen? ⟨b, off, none⟩ = wr.frozen? ⟨b, off, none⟩ := fun b off h1 h2 => World.frozen?_of_block (w := wr) (a := ⟨b, off, none⟩) (hW.block b h1 h2)
  have hv : ∀ k, v.ownBlock = some k → k < wr.heap.size := fun k hk => (World.ownsRow.lt hO.2.1 k hk).2
  have hvs : ∀ i k, i < (polS n s j).length → (vs.getD i s0).ownBlock = some k → k < wr.heap.size := fun i k hi hk => ((hO.2.2.1 i hi).block k hk).2
  refine ⟨⟨hO.wr hW hv hvs (.inr (by omega)), hu.weak.mono (by omega), fun i k hi hk e => ?_, fun k hk e => ?_, Nat.le_trans hz hW.size⟩, ⟨(cc _ _ (by omega) (by omega)).trans c0, (cc _ _ (by omega) (by omega)).trans c1, (ff _ _ (by omega) (by omega)).trans f0, (ff _ _ (by omega) (by omega)).trans f1⟩,
    (cc _ _ (by omega) (by omega)).trans cn, ⟨(cc _ _ (by omega) (by omega)).trans r0, (cc _ _ (by omega) (by omega)).trans r1, (ff _ _ (by omega) (by omega)).trans q0, (ff _ _ (by omega) (by omega)).trans q1⟩, hW.belowT hb (by omega) (by omega)⟩
  · have := hvs i k hi hk; have := (hu.block k e).1; omega
  · have := hv k e; have := (hu.block k hk).1; omega
theorem PolJ.store {Z n s : Nat} {w : World} {v v' : Value} {vs vs' : List Value} {j : Nat} {wr w1 w3 : World} {u : Value} (h : PolJ Z n s w v vs j wr) (hu : Own w1 wr.heap.size u (rowS n s j)) (hW : Wr (Z + 1) (Z + 2) wr w1)
    (hc : w1.cell? ⟨Z + 1, 0, none⟩ = some (.int .i64 (at_ s ((j + 1) * (n - 1)) : Nat))) (hf : w1.frozen? ⟨Z + 1, 0, none⟩ = false) (ho3 : Own2W w3 (Z + 4) v' vs' (polS n s j ++ [rowS n s j])) (hb3 : Below (Z + 4) w1 w3) :
    (w3.cell? ⟨Z + 3, 0, none⟩ = some v ∧ w3.frozen? ⟨Z + 3, 0, none⟩ = false) ∧ PolJ Z n s w v' vs' (j + 1) (w3.setCell ⟨Z + 3, 0, none⟩ v') := by
  obtain ⟨_, ⟨c0, c1, f0, f1⟩, cn, ⟨r0, r1, q0, q1⟩, hb⟩ := h.draw hu hW hc hf
  have hz := h.2.2.2.2.2.2
  have cc : ∀ b off, b < Z + 4 → w3.cell? ⟨b, off, none⟩ = w1.cell? ⟨b, off, none⟩ := fun b off h1 => hb3.cell (p := ⟨b, off, none⟩) h1
  have ff : ∀ b off, b < Z + 4 → w3.frozen? ⟨b, off, none⟩ = w1.frozen? ⟨b, off, none⟩ := fun b off h1 => hb3.frozen (p := ⟨b, off, none⟩) h1
  have d0 := (cc (Z + 3) 0 (by omega)).trans c0
  have hW4 : Wr (Z + 3) (Z + 4) w3 (w3.setCell ⟨Z + 3, 0, none⟩ v') := ⟨rfl, rfl, rfl, by simp [World.setCell], fun b hb hr => Below.heap_setCell _ _ _ _ (by show b ≠ Z + 3; omega)⟩
  have oc : ∀ b off, (b ≠ Z + 3 ∨ off ≠ 0) → (w3.setCell ⟨Z + 3, 0, none⟩ v').cell? ⟨b, off, none⟩ = w3.cell? ⟨b, off, none⟩ := fun b off h => World.cell?_setCell_other _ _ _ _ (by intro e; injection e with e1 e2; omega)
  have k1 : (w3.setCell ⟨Z + 3, 0, none⟩ v').heap.size = w3.heap.size := by simp [World.setCell]
  refine ⟨⟨d0, (ff (Z + 3) 0 (by omega)).trans f0⟩, by rw [polS_succ]; exact Own2W.wr ho3 hW4 (fun k hk => (World.ownsRow.lt ho3.2.1 k hk).2) (fun i k hi hk => ((ho3.2.2.1 i hi).block k hk).2) (.inr (Nat.le_refl _)),
    ⟨World.cell?_setCell_same _ _ _ d0, (oc _ _ (.inr (by omega))).trans ((cc _ _ (by omega)).trans c1), by simpa using (ff (Z + 3) 0 (by omega)).trans f0, by simpa using (ff (Z + 3) 1 (by omega)).trans f1⟩,
    ⟨(oc _ _ (.inl (by omega))).trans ((cc _ _ (by omega)).trans hc), by simpa using (ff (Z + 1) 0 (by omega)).trans hf⟩, (oc _ _ (.inl (by omega))).trans ((cc _ _ (by omega)).trans cn),
    ⟨(oc _ _ (.inl (by omega))).trans ((cc _ _ (by omega)).trans r0), (oc _ _ (.inl (by omega))).trans ((cc _ _ (by omega)).trans r1), by simpa using (ff (Z + 2) 0 (by omega)).trans q0, by simpa using (ff (Z + 2) 1 (by omega)).trans q1⟩, ?_, ?_⟩
  · exact (hb.trans (hb3.mono (by omega))).setCell (p := ⟨Z + 3, 0, none⟩) (show Z ≤ Z + 3 by omega) v'
  · have := hW.size; have := hb3.size; rw [k1]; omega
theorem PolJ.start (Z n s : Nat) (w : World) (hZ : w.heap.size = Z) : PolJ Z n s w (.slice none 0 0) [] 0
    ((((w.alloc (.cells #[.int .i64 (n : Nat)] 2)).alloc (.cells #[.int .i64 (s : Nat)] 2)).alloc (.cells #[.slice none 0 0, .slice none 0 0] 25)).alloc (.cells #[.slice none 0 0, .slice none 0 0] 25)) := by
  subst hZ
  refine ⟨Own2W.nil _ _, ⟨by simp [go_sem], by simp [go_sem], by simp [go_sem], by simp [go_sem]⟩, ⟨by simp [go_sem, at_], by simp [go_sem]⟩, by simp [go_sem], ⟨by simp [go_sem], by simp [go_sem], by simp [go_sem], by simp [go_sem]⟩, ?_, by simp⟩
  exact ((((Below.refl _ _).alloc (Nat.le_refl _) _).alloc (by simp) _).alloc (by simp; omega) _).alloc (by simp; omega) _
/-- The policy, with Miss drawn last, out of its variable to that of the result. -/
theorem PolJ.done {Z n s : Nat} {w : World} {v : Value} {vs : List Value} {wr w1 : World} {u : Value} (h : PolJ Z n s w v vs n wr) (hu : Own w1 wr.heap.size u (rowS n s n)) (hW : Wr (Z + 1) (Z + 2) wr w1)
    (hc : w1.cell? ⟨Z + 1, 0, none⟩ = some (.int .i64 (at_ s ((n + 1) * (n - 1)) : Nat))) (hf : w1.frozen? ⟨Z + 1, 0, none⟩ = false) (u1 u2 : Value) :
    OwnP (((w1.setCell ⟨Z + 3, 1, none⟩ u).setCell ⟨Z + 2, 0, none⟩ u1).setCell ⟨Z + 2, 1, none⟩ u2) Z (((w1.setCell ⟨Z + 3, 1, none⟩ u).setCell ⟨Z + 2, 0, none⟩ u1).setCell ⟨Z + 2, 1, none⟩ u2).heap.size (.agg #[v, u]) (polS n s n) (rowS n s n) := by
  obtain ⟨⟨hO, hu2, hfar, hfar2, hz⟩, _⟩ := h.draw hu hW hc hf
  have hs1 : (((w1.setCell ⟨Z + 3, 1, none⟩ u).setCell ⟨Z + 2, 0, none⟩ u1).setCell ⟨Z + 2, 1, none⟩ u2).heap.size = w1.heap.size := by simp [World.setCell]
  rw [hs1]
  have hWW : ∀ (w : World) (b off : Nat) (u : Value) (_ : Z ≤ b) (_ : b < Z + 4), Wr Z (Z + 4) w (w.setCell ⟨b, off, none⟩ u) := fun w b off u h1 h2 => ⟨rfl, rfl, rfl, by simp [World.setCell], fun b' hb hr => Below.heap_setCell _ _ _ _ (by show b' ≠ b; omega)⟩
  have W1 := ((hWW w1 (Z + 3) 1 u (by omega) (by omega)).trans (hWW _ (Z + 2) 0 u1 (by omega) (by omega))).trans (hWW _ (Z + 2) 1 u2 (by omega) (by omega))
  have hv : ∀ k, v.ownBlock = some k → k < w1.heap.size := fun k hk => (World.ownsRow.lt hO.2.1 k hk).2
  have hvs : ∀ i k, i < (polS n s n).length → (vs.getD i s0).ownBlock = some k → k < w1.heap.size := fun i k hi hk => ((hO.2.2.1 i hi).block k hk).2
  have hm : ∀ k, u.ownBlock = some k → k < w1.heap.size := fun k hk => (hu2.block k hk).2
  exact OwnP.mono (B := Z + 4) ⟨v, u, vs, rfl, hO.wr W1 hv hvs (.inr (by omega)), hu2.wr W1 hm (.inr (by omega)), fun b hb => ⟨fun e => hfar2 b hb e, fun i hi e => hfar i b hi e hb⟩, hm, hv, hvs⟩ (by omega)
end Go.Proofs.Ythfgaoojgdikpaa.Sd
