/- The program's policyOf. -/
import Derived.Test.YthfgaoojgdikpaaCage2
import Derived.Test.YthfgaoojgdikpaaCap2
import Derived.Test.YthfgaoojgdikpaaCpol
import Derived.Deep.RegionHeld3
namespace Go.Proofs.Ythfgaoojgdikpaa
open Go.RowKit
theorem drewB {w w' : World} (h : Below w.drew.heap.size w.drew w') : Below w.heap.size w w' := (Below.refl _ w).drew.trans h
def rowL (n : Nat) (o : Nat → Int) : List Int := (List.range n).map o
def polP (n : Nat) (o : Nat → Nat → Int) (j : Nat) : List (List Int) := (List.range j).map fun age => rowL n (o age)
theorem polP_succ (n : Nat) (o : Nat → Nat → Int) (j : Nat) : polP n o (j + 1) = polP n o j ++ [rowL n (o j)] := by
  unfold polP; rw [List.range_succ, List.map_append]; rfl
theorem polP_len (n : Nat) (o : Nat → Nat → Int) (j : Nat) : (polP n o j).length = j := by simp [polP]
theorem rowL_len (n : Nat) (o : Nat → Int) : (rowL n o).length = n := by simp [rowL]
/-- What a function leaves that returns a policy of its own. -/
def RetP (hs : List (List Int)) (ms : List Int) (w : World) (e : Ending) (w' : World) : Prop := ∃ v, e = .returned v ∧ OwnP w' w.heap.size w'.heap.size v hs ms ∧ Below w.heap.size w w'
abbrev c6 (a b c d e f : Int) : Array Value := #[.int .i64 a, .int .i64 b, .int .i64 c, .int .i64 d, .int .i64 e, .int .i64 f]
/-- The first ages of an array, as a slice of the call's own. -/
theorem first_i (n : Nat) (h1 : 1 ≤ n) (h6 : n ≤ 6) (a b c d e f : Int) (w : World) :
    Calls Try.prog 59 #[six a b c d e f, .int .i64 (n : Nat)] w fun e' w' => e' = .returned (.slice (some ⟨w.heap.size, 0, none⟩) n n) ∧ w.alloc (.cells (c6 a b c d e f) 44) = w' := by
  unfold six
  have hn1 : (n : Int) ≤ 6 := by omega
  go_enter Try.func59, Try.ntmps59
  go_wp2
  go_ret
  exact ⟨by simp, rfl⟩
theorem first_row (n : Nat) (h6 : n ≤ 6) (o : Nat → Int) (w : World) (T : TypeId) : OwnW (w.alloc (.cells (c6 (o 0) (o 1) (o 2) (o 3) (o 4) (o 5)) T)) w.heap.size (.slice (some ⟨w.heap.size, 0, none⟩) n n) (rowL n o) := by
  unfold OwnW
  rw [rowL_len]
  refine ⟨by rw [List.length_map, rowL_len], .inr ⟨w.heap.size, n, _, T, rfl, Nat.le_refl _, heap_alloc_new w _, Nat.le_refl _, by unfold maxLen; omega, by show n ≤ 6; exact h6, ?_⟩⟩
  have : n = 0 ∨ n = 1 ∨ n = 2 ∨ n = 3 ∨ n = 4 ∨ n = 5 ∨ n = 6 := by omega
  rcases this with rfl | rfl | rfl | rfl | rfl | rfl | rfl <;> rfl
theorem Own2W.form {w : World} {B : Nat} {v : Value} {vs : List Value} {xss : List (List Int)} (h : Own2W w B v vs xss) : ∃ a c, v = .slice a xss.length c := by
  rcases h.cases with ⟨rfl, rfl⟩ | ⟨g, cap, rfl, _⟩
  · exact ⟨_, _, rfl⟩
  · exact ⟨_, _, rfl⟩
/-- One more row for a policy: what append wants of the world behind firstAges. -/
theorem pol_step (n : Nat) (o : Nat → Nat → Int) (B j : Nat) (wr : World) (v : Value) (vs : List Value) (hj : j < n) (h6 : n ≤ 6) (hO : Own2W wr B v vs (polP n o j)) (hB : B ≤ wr.heap.size) (w1 : World) (bb : Below wr.heap.size wr w1) :
    Own2W (w1.alloc (.cells (c6 (o j 0) (o j 1) (o j 2) (o j 3) (o j 4) (o j 5)) 44)) B v vs (polP n o j) ∧
      OwnW (w1.alloc (.cells (c6 (o j 0) (o j 1) (o j 2) (o j 3) (o j 4) (o j 5)) 44)) B (.slice (some ⟨w1.heap.size, 0, none⟩) n n) (rowL n (o j)) ∧
      (∀ i k, i < (polP n o j).length → (vs.getD i s0).ownBlock = some k → (Value.slice (some ⟨w1.heap.size, 0, none⟩) n n).ownBlock ≠ some k) ∧
      (∀ k, (Value.slice (some ⟨w1.heap.size, 0, none⟩) n n).ownBlock = some k → v.ownBlock ≠ some k) ∧ (polP n o j).length + 1 ≤ 1000000000 ∧ B ≤ (w1.alloc (.cells (c6 (o j 0) (o j 1) (o j 2) (o j 3) (o j 4) (o j 5)) 44)).heap.size := by
  have s1 := bb.size
  have hz : (w1.alloc (.cells (c6 (o j 0) (o j 1) (o j 2) (o j 3) (o j 4) (o j 5)) 44)).heap.size = w1.heap.size + 1 := Array.size_push _
  refine ⟨Own2W.below hO (bb.alloc s1 _) (Nat.le_refl _), (first_row n h6 (o j) w1 _).mono (by omega), fun i k hi hk e => ?_, fun k hk e => ?_, by rw [polP_len]; omega, by omega⟩
  · have h1 := ((hO.2.2.1 i hi).block k hk).2
    injection e with e
    have e : w1.heap.size = k := e
    omega
  · injection hk with hk
    have hk : w1.heap.size = k := hk
    have h1 := (World.ownsRow.lt hO.2.1 k e).2
    omega
theorem OwnP.mono {w : World} {B B' T : Nat} {v : Value} {hs : List (List Int)} {ms : List Int} (h : OwnP w B T v hs ms) (hB : B' ≤ B) : OwnP w B' T v hs ms := by
  obtain ⟨hh, m, vs, e, h1, h2, h3, h4⟩ := h
  obtain ⟨g0, g1, g2, g3⟩ := h1
  refine ⟨hh, m, vs, e, ⟨g0, ⟨g1.1, ?_⟩, fun i hi => (g2 i hi).mono hB, g3⟩, h2.mono hB, h3, h4⟩
  rcases g1.2 with hn | ⟨g, cap, cur, hv, hg, r⟩
  · exact .inl hn
  · exact .inr ⟨g, cap, cur, hv, by omega, r⟩
theorem pol_end (n : Nat) (o : Nat → Nat → Int) (m0 m1 m2 m3 m4 m5 : Int) (ms : List Int) (hM : ∀ w' : World, OwnW (w'.alloc (.cells (c6 m0 m1 m2 m3 m4 m5) 44)) w'.heap.size (.slice (some ⟨w'.heap.size, 0, none⟩) n n) ms)
    (Z : Nat) (wr : World) (v : Value) (vs : List Value) (hO : Own2W wr (Z + 3) v vs (polP n o n)) (hB : Z + 3 ≤ wr.heap.size) (u0 u1 u2 : Value) :
    OwnP ((((wr.setCell ⟨Z + 2, 1, none⟩ u0).setCell ⟨Z + 1, 0, none⟩ u1).setCell ⟨Z + 1, 1, none⟩ u2).alloc (.cells (c6 m0 m1 m2 m3 m4 m5) 44)) Z
      ((((wr.setCell ⟨Z + 2, 1, none⟩ u0).setCell ⟨Z + 1, 0, none⟩ u1).setCell ⟨Z + 1, 1, none⟩ u2).alloc (.cells (c6 m0 m1 m2 m3 m4 m5) 44)).heap.size (.agg #[v, .slice (some ⟨wr.heap.size, 0, none⟩) n n]) (polP n o n) ms := by
  have hW : ∀ (w : World) (b off : Nat) (u : Value) (_ : Z ≤ b) (_ : b < Z + 3), Wr Z (Z + 3) w (w.setCell ⟨b, off, none⟩ u) := fun w b off u h1 h2 => ⟨rfl, rfl, rfl, by simp [World.setCell], fun b' hb hr => Below.heap_setCell _ _ _ _ (by show b' ≠ b; omega)⟩
  have W1 := ((hW wr (Z + 2) 1 u0 (by omega) (by omega)).trans (hW _ (Z + 1) 0 u1 (by omega) (by omega))).trans (hW _ (Z + 1) 1 u2 (by omega) (by omega))
  have hs1 : ((((wr.setCell ⟨Z + 2, 1, none⟩ u0).setCell ⟨Z + 1, 0, none⟩ u1).setCell ⟨Z + 1, 1, none⟩ u2)).heap.size = wr.heap.size := by simp [World.setCell]
  have hm := hM (((wr.setCell ⟨Z + 2, 1, none⟩ u0).setCell ⟨Z + 1, 0, none⟩ u1).setCell ⟨Z + 1, 1, none⟩ u2)
  rw [hs1] at hm
  generalize (((wr.setCell ⟨Z + 2, 1, none⟩ u0).setCell ⟨Z + 1, 0, none⟩ u1).setCell ⟨Z + 1, 1, none⟩ u2) = W at *
  have hz' : (W.alloc (.cells (c6 m0 m1 m2 m3 m4 m5) 44)).heap.size = wr.heap.size + 1 := by rw [← hs1]; exact Array.size_push _
  have hv : ∀ k, v.ownBlock = some k → k < wr.heap.size := fun k hk => (World.ownsRow.lt hO.2.1 k hk).2
  have hvs : ∀ i k, i < (polP n o n).length → (vs.getD i s0).ownBlock = some k → k < wr.heap.size := fun i k hi hk => ((hO.2.2.1 i hi).block k hk).2
  have hO2 := hO.wr W1 hv hvs (.inr (by omega))
  have hO3 := Own2W.below hO2 ((Below.refl W.heap.size W).alloc (Nat.le_refl _) (.cells (c6 m0 m1 m2 m3 m4 m5) 44)) (Nat.le_refl _)
  refine OwnP.mono (B := Z + 3) ⟨v, _, vs, rfl, hO3, hm.mono hB, fun b hb => ⟨fun e => ?_, fun i hi e => ?_⟩, fun k hk => ?_, fun k hk => ?_, fun i k hi hk => ?_⟩ (by omega)
  · injection hb with hb; have hb : wr.heap.size = b := hb; have := hv b e; omega
  · injection hb with hb; have hb : wr.heap.size = b := hb; have := hvs i b hi e; omega
  · injection hk with hk; have hk : wr.heap.size = k := hk; omega
  · have := hv k hk; omega
  · have := hvs i k hi hk; omega
set_option maxHeartbeats 4000000 in
set_option maxRecDepth 100000 in
theorem policyOf_tree (n : Nat) (h1 : 1 ≤ n) (h6 : n ≤ 6) (o : Nat → Nat → Int) (m0 m1 m2 m3 m4 m5 : Int) (hF : ∀ age : Nat, age < n → ∀ w', Calls Try.prog 33 #[.int .i64 (age : Nat)] w' (RetB (sixf (o age)) w')) (ms : List Int)
    (hM : ∀ w' : World, OwnW (w'.alloc (.cells (c6 m0 m1 m2 m3 m4 m5) 44)) w'.heap.size (.slice (some ⟨w'.heap.size, 0, none⟩) n n) ms) (w : World) :
    Calls Try.prog 32 #[.int .i64 (n : Nat), .func (.func 33) #[] #[], six m0 m1 m2 m3 m4 m5] w (RetP (polP n o n) ms w) := by
  have HF := Lib.hid hF
  have HFI := Lib.hid (fun (a b c d e f : Int) (w' : World) => first_i n h1 h6 a b c d e f w')
  have HST := Lib.hid (fun (B : Nat) (j : Nat) (wr : World) (v : Value) (vs : List Value) (hj : j < n) (hO : Own2W wr B v vs (polP n o j)) (hB : B ≤ wr.heap.size) => pol_step n o B j wr v vs hj h6 hO hB)
  have HMM := Lib.hid hM
  have HP := Lib.hid (fun j => polP_succ n o j)
  have HPL := Lib.hid (fun j => polP_len n o j)
  have HFM := Lib.hid (fun (wr : World) (B : Nat) (v : Value) (vs : List Value) (j : Nat) (h : Own2W wr B v vs (polP n o j)) => Own2W.form h)
  have H0 := Lib.hid (fun (W : World) (B : Nat) => (show Own2W W B (.slice none 0 0) [] (polP n o 0) from Own2W.nil W B))
  have HEND := Lib.hid (fun (Z : Nat) (wr : World) (v : Value) (vs : List Value) (hO : Own2W wr (Z + 3) v vs (polP n o n)) (hB : Z + 3 ≤ wr.heap.size) (u0 u1 u2 : Value) => pol_end n o m0 m1 m2 m3 m4 m5 ms hM Z wr v vs hO hB u0 u1 u2)
  have hn1 : (1 : Int) ≤ (n : Int) := by omega
  have hn6 : (n : Int) ≤ 6 := by omega
  have hn7 : n ≤ 6 := h6
  clear hF hM
  unfold six
  go_enter Try.func32, Try.ntmps32
  go_wp2
  generalize hZ : w.heap.size = Z at *
  have hW0 : ∃ W0 : World, W0 = ((w.alloc (.cells (c6 m0 m1 m2 m3 m4 m5) 45)).alloc (.cells #[.slice none 0 0, .slice none 0 0] 25)).alloc (.cells #[.slice none 0 0, .slice none 0 0] 25) := ⟨_, rfl⟩
  obtain ⟨W0, hW0⟩ := hW0
  have hz0 : W0.heap.size = Z + 3 := by rw [hW0, ← hZ]; simp
  have HB0 := Lib.hid (show Below Z w W0 by
    rw [hW0, ← hZ]
    exact (((Below.refl _ _).alloc (Nat.le_refl _) _).alloc (by simp) _).alloc (by simp; omega) _)
  have HP0 := Lib.hid (show W0.cell? ⟨Z + 2, 0, none⟩ = some (.slice none 0 0) ∧ W0.cell? ⟨Z + 2, 1, none⟩ = some (.slice none 0 0) ∧ W0.frozen? ⟨Z + 2, 0, none⟩ = false ∧ W0.frozen? ⟨Z + 2, 1, none⟩ = false by
    rw [hW0, ← hZ]
    exact ⟨by simp [go_sem], by simp [go_sem], by simp [go_sem], by simp [go_sem]⟩)
  have HR0 := Lib.hid (fun (w' : World) (hb : Below (Z + 2) W0 w') => (show (w'.cell? ⟨Z, 0, none⟩ = some (.int .i64 m0) ∧ w'.cell? ⟨Z, 1, none⟩ = some (.int .i64 m1) ∧ w'.cell? ⟨Z, 2, none⟩ = some (.int .i64 m2) ∧ w'.cell? ⟨Z, 3, none⟩ = some (.int .i64 m3) ∧ w'.cell? ⟨Z, 4, none⟩ = some (.int .i64 m4) ∧ w'.cell? ⟨Z, 5, none⟩ = some (.int .i64 m5)) ∧
      w'.cell? ⟨Z + 1, 0, none⟩ = some (.slice none 0 0) ∧ w'.cell? ⟨Z + 1, 1, none⟩ = some (.slice none 0 0) ∧ w'.frozen? ⟨Z + 1, 0, none⟩ = false ∧ w'.frozen? ⟨Z + 1, 1, none⟩ = false by
    have c : ∀ b off, b < Z + 2 → w'.cell? ⟨b, off, none⟩ = W0.cell? ⟨b, off, none⟩ := fun b off h => hb.cell (p := ⟨b, off, none⟩) h
    have f : ∀ b off, b < Z + 2 → w'.frozen? ⟨b, off, none⟩ = W0.frozen? ⟨b, off, none⟩ := fun b off h => hb.frozen (p := ⟨b, off, none⟩) h
    rw [c Z 0 (by omega), c Z 1 (by omega), c Z 2 (by omega), c Z 3 (by omega), c Z 4 (by omega), c Z 5 (by omega), c (Z + 1) 0 (by omega), c (Z + 1) 1 (by omega), f (Z + 1) 0 (by omega), f (Z + 1) 1 (by omega), hW0, ← hZ]
    simp [go_sem]))
  rw [show (w.alloc (.cells #[.int .i64 m0, .int .i64 m1, .int .i64 m2, .int .i64 m3, .int .i64 m4, .int .i64 m5] 45)) = w.alloc (.cells (c6 m0 m1 m2 m3 m4 m5) 45) from rfl, ← hW0]
  clear hW0
  rw [show Z + 1 + 1 = Z + 2 from rfl]
  go_loopw [8, 10] (fun _ i wr => ∃ (j : Nat) (v : Value) (vs : List Value), j ≤ n ∧ i = .int .i64 (j : Nat) ∧ Hid (Own2W wr (Z + 3) v vs (polP n o j)) ∧ Hid (wr.cell? ⟨Z + 2, 0, none⟩ = some v ∧ wr.cell? ⟨Z + 2, 1, none⟩ = some (.slice none 0 0) ∧ wr.frozen? ⟨Z + 2, 0, none⟩ = false ∧ wr.frozen? ⟨Z + 2, 1, none⟩ = false) ∧ Hid (Below (Z + 2) W0 wr) ∧ Hid (Z + 3 ≤ wr.heap.size)) (fun _ i _ => n - (intOf i).toNat)
  case atStart => exact ⟨0, _, [], Nat.zero_le _, rfl, H0.out _ _, HP0, Below.refl _ _, Nat.le_of_eq hz0.symm⟩
  case round =>
    obtain ⟨j, v, vs, hj, rfl, hO, hcc, hb, hsz⟩ := hrel
    by_cases hlt : j < n
    · obtain ⟨a, c, hv⟩ := HFM.out _ _ _ _ _ hO.out
      rw [HPL.out] at hv
      subst hv
      have HA := Lib.hid (HST.out (Z + 3) j wr _ vs hlt hO.out hsz.out)
      have HPJ := Lib.hid (HP.out j)
      have HFJ := Lib.hid (fun w' => HF.out j hlt w')
      obtain ⟨c0, c1, f0, f1⟩ := hcc.out
      have HK := Lib.hid (fun (w' : World) (bb : Below wr.heap.size wr w') => (show w'.cell? ⟨Z + 2, 0, none⟩ = some (.slice a j c) from (bb.cell (p := ⟨Z + 2, 0, none⟩) (by have := hsz.out; show Z + 2 < wr.heap.size; omega)).trans c0))
      have HK2 := Lib.hid (fun (w' : World) (bb : Below wr.heap.size wr w') (o1 o2 : Obj) => (show ((w'.alloc o1).alloc o2).cell? ⟨Z + 2, 0, none⟩ = some (.slice a j c) from
        HK.out _ ((bb.alloc bb.size o1).alloc (by have := bb.size; simp; omega) o2)))
      have HK3 := Lib.hid (fun (w1 w3 : World) (bb : Below wr.heap.size wr w1) (o1 : Obj) (hfr : ∀ b, b < (w1.alloc o1).heap.size → (Value.slice a j c).ownBlock ≠ some b → w3.heap[b]? = (w1.alloc o1).heap[b]?) => (show w3.heap[Z + 2]? = wr.heap[Z + 2]? from by
        have h2 := hsz.out
        have h3 := bb.size
        have h4 : (w1.alloc o1).heap.size = w1.heap.size + 1 := Array.size_push _
        refine (hfr (Z + 2) (by omega) fun e => ?_).trans ((Below.heap_alloc w1 o1 (Z + 2) (by omega)).trans (bb.block (Z + 2) (by omega)))
        have := (World.ownsRow.lt hO.out.2.1 (Z + 2) e).1
        omega))
      unfold sixf at HFJ
      go_wp2
      go_region_law (first | (refine step_app2W (w1.alloc _) rfl (.tmp 14) (.tmp 20) rfl (Z + 3) (.slice a j c) vs (polP n o j) (.slice (some ⟨w1.heap.size, 0, none⟩) n n) (rowL n (o j)) (by first | rfl | simp [Act.eval, Act.put]) (by first | rfl | simp [Act.eval, Act.put]) (HA.out w1 (drewB bb)).1 (HA.out w1 (drewB bb)).2.1 (HA.out w1 (drewB bb)).2.2.1 (HA.out w1 (drewB bb)).2.2.2.1 (HA.out w1 (drewB bb)).2.2.2.2.1 (HA.out w1 (drewB bb)).2.2.2.2.2 ?_; intro g cap w3 ho3 hb3 hfr3 hg3; have e3 := HK3.out w1 w3 (drewB bb) _ hfr3; have hc3 : w3.cell? ⟨Z + 2, 0, none⟩ = some (.slice a j c) := (World.cell?_of_block (w := wr) (a := ⟨Z + 2, 0, none⟩) e3).trans c0; have hf3 : w3.frozen? ⟨Z + 2, 0, none⟩ = false := (World.frozen?_of_block (w := wr) (a := ⟨Z + 2, 0, none⟩) e3).trans f0) | (go_simp; go_at_call 33; (with_reducible refine (HFJ.out _).mono ?_); rintro e w1 ⟨rfl, bb⟩; have hw1 := HK.out _ (drewB bb); have hl1 : Z + 2 < w1.heap.size := Nat.lt_of_lt_of_le (Nat.lt_of_lt_of_le (Nat.lt_succ_self _) hsz.out) (drewB bb).size; have hl2 : Z + 2 < w1.heap.size + 1 := Nat.lt_succ_of_lt hl1) | (go_simp; go_at_call 59; (with_reducible refine (HFI.out _ _ _ _ _ _ _).mono ?_); rintro e w2 ⟨rfl, rfl⟩))
      all_goals
        rw [HPL.out] at *
        have hW4 : ∀ u, Wr (Z + 2) (Z + 3) w3 (w3.setCell ⟨Z + 2, 0, none⟩ u) := fun u => ⟨rfl, rfl, rfl, by simp [World.setCell], fun b hb hr => Below.heap_setCell _ _ _ _ (by show b ≠ Z + 2; omega)⟩
        have hO4 := Lib.hid (fun u => Own2W.wr ho3 (hW4 u) (fun k hk => (World.ownsRow.lt ho3.2.1 k hk).2) (fun i k hi hk => ((ho3.2.2.1 i hi).block k hk).2) (.inr (Nat.le_refl _)))
        have hc4 := Lib.hid (fun u => (show (w3.setCell ⟨Z + 2, 0, none⟩ u).cell? ⟨Z + 2, 0, none⟩ = some u ∧ (w3.setCell ⟨Z + 2, 0, none⟩ u).cell? ⟨Z + 2, 1, none⟩ = some (.slice none 0 0) ∧ (w3.setCell ⟨Z + 2, 0, none⟩ u).frozen? ⟨Z + 2, 0, none⟩ = false ∧ (w3.setCell ⟨Z + 2, 0, none⟩ u).frozen? ⟨Z + 2, 1, none⟩ = false from
          ⟨World.cell?_setCell_same _ _ _ hc3, (World.cell?_setCell_other _ _ _ _ (by simp)).trans ((World.cell?_of_block (w := wr) (a := ⟨Z + 2, 1, none⟩) e3).trans c1), by simpa using hf3, by simpa using (World.frozen?_of_block (w := wr) (a := ⟨Z + 2, 1, none⟩) e3).trans f1⟩))
        have hz1 : (w1.alloc (.cells (c6 (o j 0) (o j 1) (o j 2) (o j 3) (o j 4) (o j 5)) 44)).heap.size = w1.heap.size + 1 := Array.size_push _
        have hb4 := Lib.hid (fun u => (show Below (Z + 2) W0 (w3.setCell ⟨Z + 2, 0, none⟩ u) from
          ((hb.out.trans ((drewB bb).mono (by have := hsz.out; omega))).alloc (by omega) (.cells (c6 (o j 0) (o j 1) (o j 2) (o j 3) (o j 4) (o j 5)) 44)).trans ((show Below (Z + 2) _ w3 from hb3.mono (Nat.le_succ (Z + 2))).setCell (p := ⟨Z + 2, 0, none⟩) (Nat.le_refl _) u)))
        have hs4 := Lib.hid (fun u => (show Z + 3 ≤ (w3.setCell ⟨Z + 2, 0, none⟩ u).heap.size by
          have k1 : w1.heap.size + 1 ≤ w3.heap.size := by rw [← hz1]; exact hb3.size
          have k2 : (w3.setCell ⟨Z + 2, 0, none⟩ u).heap.size = w3.heap.size := by simp [World.setCell]
          rw [k2]; omega))
        clear hW4 ho3 hb3 hfr3 hg3 hc3 hf3 e3 bb hz1 hl1 hl2 hw1
        go_wp2
        go_roundw
        case rel => exact ⟨j + 1, _, _, by omega, by go_num, (by rw [HPJ.out]; exact hO4.out _), hc4.out _, hb4.out _, hs4.out _⟩
        case measure => simp [intOf]; omega
    · have e : j = n := by omega
      subst e
      obtain ⟨a, c, hv⟩ := HFM.out _ _ _ _ _ hO.out
      rw [HPL.out] at hv
      subst hv
      obtain ⟨c0, c1, f0, f1⟩ := hcc.out
      obtain ⟨⟨x0, x1, x2, x3, x4, x5⟩, r0, r1, q0, q1⟩ := HR0.out wr hb.out
      have hlt2 : Z + 2 < wr.heap.size := hsz.out
      have hlt3 : Z + 1 < wr.heap.size := by omega
      have hlt4 : Z < wr.heap.size := by omega
      go_wp2_with fail
      refine (HFI.out _ _ _ _ _ _ _).mono ?_
      rintro e w2 ⟨rfl, rfl⟩
      have hE2 := Lib.hid (fun u0 u1 u2 => HEND.out Z wr _ vs hO.out hsz.out u0 u1 u2)
      have hBE := Lib.hid (show Below Z w wr from HB0.out.trans (hb.out.mono (by omega)))
      have hwZ := Lib.hid hZ
      go_wp2
      refine bodyPost_ret (v := .agg #[.slice a j c, .slice (some ⟨wr.heap.size, 0, none⟩) j j]) (by simp [results, Try.results32, go_sem, c0, c1, r0, r1, f0, f1, q0, q1, hlt2, hlt3]) rfl ⟨_, rfl, ?_, ?_⟩
      · rw [hwZ.out]
        exact hE2.out _ _ _
      · rw [hwZ.out]
        have hb5 := hBE.out
        have hz6 : Z ≤ wr.heap.size := by omega
        have h1 := hb5.setCell (p := ⟨Z + 2, 1, none⟩) (show Z ≤ Z + 2 by omega)
        refine (((h1 _).setCell (p := ⟨Z + 1, 0, none⟩) (show Z ≤ Z + 1 by omega) _).setCell (p := ⟨Z + 1, 1, none⟩) (show Z ≤ Z + 1 by omega) _).alloc ?_ _
        simp [World.setCell]; omega

end Go.Proofs.Ythfgaoojgdikpaa
