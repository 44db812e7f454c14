/- The program's order that moves an age to the end. -/
import Derived.Test.YthfgaoojgdikpaaCage2
namespace Go.Proofs.Ythfgaoojgdikpaa
open Go.RowKit
/-- The order that moves an age to the end of n. -/
def oldO (n age i : Nat) : Int := if i < age then i else if i + 1 < n then (i : Int) + 1 else if i + 1 = n then age else i
/-- What lies in the array before the age is put. -/
def oldC (n age i : Nat) : Int := if i < age then i else if i + 1 < n then (i : Int) + 1 else i
theorem cur6_at (j : Nat) (k : Nat) (n : Nat) (v : Value) (hv : ((cur6.drop k).take n)[j]? = some v) : cur6.toArray[k + j]? = some v := by
  rw [List.getElem?_take] at hv
  split at hv
  · rw [List.getElem?_drop] at hv; simpa using hv
  · cases hv
theorem cur6_one2 (k n : Nat) : ∀ v ∈ (cur6.drop k).take n, v.oneCell' = true := fun v hv => by
  have := List.mem_of_mem_drop (List.mem_of_mem_take hv)
  simp [cur6] at this
  rcases this with rfl | rfl | rfl | rfl | rfl | rfl <;> rfl
theorem old_cells (n age : Nat) (hn : n ≤ 6) (ha : age < n) (i : Nat) (hi : i < 6) : (Go.splice cur6 age ((cur6.drop (age + 1)).take (n - (age + 1)))).toArray[i]? = some (.int .i64 (oldC n age i)) := by
  have h7 : n = 0 ∨ n = 1 ∨ n = 2 ∨ n = 3 ∨ n = 4 ∨ n = 5 ∨ n = 6 := by omega
  rcases h7 with rfl | rfl | rfl | rfl | rfl | rfl | rfl <;> rcases below6 (show age < 6 by omega) with rfl | rfl | rfl | rfl | rfl | rfl <;> first | (exact absurd ha (by omega)) | (rcases below6 hi with rfl | rfl | rfl | rfl | rfl | rfl <;> rfl)
theorem old_last (n age : Nat) (ha : age < n) : oldO n age (n - 1) = age := by
  unfold oldO; rw [if_neg (by omega), if_neg (by omega), if_pos (by omega)]
theorem old_other (n age i : Nat) (h : i + 1 ≠ n) : oldO n age i = oldC n age i := by
  unfold oldO oldC; split
  · rfl
  · split
    · rfl
    · first | rfl | rw [if_neg (by omega)] | (split <;> first | rfl | omega)
set_option maxHeartbeats 4000000 in
set_option maxRecDepth 100000 in
theorem oldest_i (n age : Nat) (hn : n ≤ 6) (ha : age < n) (w : World) :
    Calls Try.prog 44 #[.int .i64 (age : Nat), .int .i64 (n : Nat)] w (RetB (sixf (oldO n age)) w) := by
  have HS := Lib.hid (fun w => same_i w)
  have hl : ((cur6.drop (age + 1)).take (n - (age + 1))).length = n - (age + 1) := by rw [List.length_take, List.length_drop]; show min _ (6 - (age + 1)) = _; omega
  have HL := Lib.hid hl
  have HC := Lib.hid (fun i hi => old_cells n age hn ha i hi)
  have HLAST := Lib.hid (old_last n age ha)
  have HOTH := Lib.hid (fun i h => old_other n age i h)
  have h60 : (age : Int) < 6 := by omega
  have h61 : (age : Int) + 1 ≤ (n : Int) := by omega
  have h62 : (n : Int) ≤ 6 := by omega
  have HV := Lib.hid (show six (oldO n age 0) (oldO n age 1) (oldO n age 2) (oldO n age 3) (oldO n age 4) (oldO n age 5) = sixf (oldO n age) from rfl)
  unfold six at HS HV
  clear hl
  have hz := z6_size w
  go_enter Try.func44, Try.ntmps44
  go_wp2_with fail
  refine (HS.out _).mono ?_
  rintro e w1 ⟨rfl, b1⟩
  have b1' : Below (w.heap.size + 1) (w.alloc (.cells z6 45)) w1 := b1.mono (Nat.le_of_eq hz.symm)
  have s1 : w.heap.size + 1 ≤ w1.heap.size := by
    have h : (w.alloc (.cells z6 45)).heap.size ≤ w1.heap.size := b1'.size
    omega
  have hG : Hid ((w1.alloc (.cells cur6.toArray 45)).heap[w1.heap.size]? = some (.cells cur6.toArray 45 (0, 0))) := heap_alloc_new w1 _
  have hb2 : Below w.heap.size w (w1.alloc (.cells cur6.toArray 45)) := (((Below.refl _ _).alloc (Nat.le_refl _) _).trans (b1'.mono (by omega))).alloc (by omega) _
  have hres := Lib.hid (fun (w' : World) (hb : Below (w.heap.size + 1) (w1.alloc (.cells cur6.toArray 45)) w') => res6 w w' ((b1'.alloc s1 _).trans hb))
  clear hz b1 b1'
  go_wp2
  have eW : w1.alloc (.cells #[.int .i64 0, .int .i64 1, .int .i64 2, .int .i64 3, .int .i64 4, .int .i64 5] 45) = w1.alloc (.cells cur6.toArray 45) := rfl
  rw [eW]
  clear eW
  generalize w1.alloc (.cells cur6.toArray 45) = w2 at *
  generalize w1.heap.size = g at *
  have hsrc : ∀ j v, ((cur6.drop (age + 1)).take (n - (age + 1)))[j]? = some v → w2.drew.cell? ((⟨g, age + 1, none⟩ : Addr).add j) = some v := fun j v hv => by
    have e : (⟨g, age + 1, none⟩ : Addr).add j = ⟨g, age + 1 + j, none⟩ := by unfold Addr.add; split <;> simp_all
    rw [e]
    exact (cell_of_row w2 g (age + 1 + j) _ _ (0, 0) hG.out).trans (cur6_at j (age + 1) _ v hv)
  have HSRC := Lib.hid hsrc
  have hBd : Below (w.heap.size + 1) w2 w2.drew := (Below.refl _ _).drew
  clear hsrc
  have e9 : IntKind.i64.wrap ((age : Int) + 1) = (age : Int) + 1 := IntWalk.i64_in _ (by omega)
  have e8 : ((age : Int) + 1).toNat = age + 1 := by omega
  have e7 : (0 : Int) ≤ (age : Int) + 1 := by omega
  have e6 : age ≤ 6 := by omega
  have e5 : age + 1 ≤ n := by omega
  have e4 : n ≤ 6 := hn
  have e3 : (age : Int) ≤ 6 := by omega
  have e2 : (age : Int) + 1 ≤ 6 := by omega
  have hne0 : ¬ age = 6 := by omega
  have hfin : ∀ w4 : World, Hid (w4.heap[g]? = some (.cells (Go.splice cur6 age ((cur6.drop (age + 1)).take (n - (age + 1)))).toArray 45 (0, 0))) → ∀ i, i < 6 → w4.cell? ⟨g, i, none⟩ = some (.int .i64 (oldC n age i)) := fun w4 h i hi => by
    rw [cell_of_row w4 g i _ _ (0, 0) h.out]; exact HC.out i hi
  have hst : ∀ w4 : World, Hid (w4.heap[g]? = some (.cells (Go.splice cur6 age ((cur6.drop (age + 1)).take (n - (age + 1)))).toArray 45 (0, 0))) → ∀ i, i < 6 → (w4.setCell ⟨g, n - 1, none⟩ (.int .i64 (age : Nat))).cell? ⟨g, i, none⟩ = some (.int .i64 (oldO n age i)) := fun w4 h i hi => by
    by_cases e : i + 1 = n
    · have e' : n - 1 = i := by omega
      rw [e', World.cell?_setCell_same _ _ _ (hfin w4 h i hi), ← e', HLAST.out]
    · rw [World.cell?_setCell_other _ _ _ _ (by first | (simp; done) | (simp; omega)), HOTH.out i e]; exact hfin w4 h i hi
  have HFIN := Lib.hid hfin
  have HST := Lib.hid hst
  have hgw : w.heap.size + 1 ≤ g := s1
  clear hfin hst
  by_cases h5 : age + 1 = 6
  · obtain rfl : age = 5 := by omega
    obtain rfl : n = 6 := by omega
    have w6 : IntKind.i64.wrap 6 = 6 := by decide
    go_region_law (refine step_copy_splice rfl (.tmp 8) (.tmp 12) 23 23 rfl 2 Try.underlying23 isz (some ⟨g, 5, none⟩) (some ⟨g, 0, none⟩) 1 1 0 0 (by simp [Act.eval, Act.put]) (by simp [Act.eval, Act.put]) g 5 cur6 45 hG.out ((cur6.drop (5 + 1)).take (6 - (5 + 1))) rfl (fun h => by exact absurd h (by decide)) (by decide) (cur6_one2 _ _) (w.heap.size + 1) w2 hBd hgw ?_; intro w4 hG4 hB4)
    have c0 : (w4.setCell ⟨g, 5, none⟩ (.int .i64 5)).cell? ⟨g, 0, none⟩ = some (.int .i64 (oldO 6 5 0)) := HST.out w4 hG4 0 (by omega)
    have c1 : (w4.setCell ⟨g, 5, none⟩ (.int .i64 5)).cell? ⟨g, 1, none⟩ = some (.int .i64 (oldO 6 5 1)) := HST.out w4 hG4 1 (by omega)
    have c2 : (w4.setCell ⟨g, 5, none⟩ (.int .i64 5)).cell? ⟨g, 2, none⟩ = some (.int .i64 (oldO 6 5 2)) := HST.out w4 hG4 2 (by omega)
    have c3 : (w4.setCell ⟨g, 5, none⟩ (.int .i64 5)).cell? ⟨g, 3, none⟩ = some (.int .i64 (oldO 6 5 3)) := HST.out w4 hG4 3 (by omega)
    have c4 : (w4.setCell ⟨g, 5, none⟩ (.int .i64 5)).cell? ⟨g, 4, none⟩ = some (.int .i64 (oldO 6 5 4)) := HST.out w4 hG4 4 (by omega)
    have c5 : (w4.setCell ⟨g, 5, none⟩ (.int .i64 5)).cell? ⟨g, 5, none⟩ = some (.int .i64 (oldO 6 5 5)) := HST.out w4 hG4 5 (by omega)
    have cl := HFIN.out w4 hG4 5 (by omega)
    have fl := frozen_of_row w4 g 5 _ _ hG4.out
    obtain ⟨r0, q0⟩ := hres.out w4 hB4 0 (by omega)
    obtain ⟨r1, q1⟩ := hres.out w4 hB4 1 (by omega)
    obtain ⟨r2, q2⟩ := hres.out w4 hB4 2 (by omega)
    obtain ⟨r3, q3⟩ := hres.out w4 hB4 3 (by omega)
    obtain ⟨r4, q4⟩ := hres.out w4 hB4 4 (by omega)
    obtain ⟨r5, q5⟩ := hres.out w4 hB4 5 (by omega)
    have hne : ¬ g = w.heap.size := by omega
    have hne2 : ¬ w.heap.size = g := by omega
    have HB4 := Lib.hid (hb2.trans (hB4.mono (by omega)))
    clear hG hG4 hres hB4 hBd hb2 HFIN HST HC HLAST HOTH
    generalize oldO 6 5 0 = y0 at *
    generalize oldO 6 5 1 = y1 at *
    generalize oldO 6 5 2 = y2 at *
    generalize oldO 6 5 3 = y3 at *
    generalize oldO 6 5 4 = y4 at *
    generalize oldO 6 5 5 = y5 at *
    go_wp2
    refine bodyPost_ret (v := six y0 y1 y2 y3 y4 y5) (by simp [six, results, Try.results44, go_sem, c0, c1, c2, c3, c4, c5, r0, r1, r2, r3, r4, r5, hne, hne2]) rfl ⟨by rw [← HV.out]; rfl, ?_⟩
    have hb5 := HB4.out
    have hg9 : w.heap.size ≤ g := by omega
    go_grown
  · have e1 : (age : Int) + 1 < 6 := by omega
    have hne1 : ¬ age + 1 = 6 := h5
    go_region_law (refine step_copy_splice rfl (.tmp 8) (.tmp 12) 23 23 rfl 2 Try.underlying23 isz (some ⟨g, age, none⟩) (some ⟨g, age + 1, none⟩) (6 - age) (6 - age) (n - (age + 1)) (6 - (age + 1)) (by simp [Act.eval, Act.put]; intros; omega) (by simp [Act.eval, Act.put]; omega) g age cur6 45 hG.out ((cur6.drop (age + 1)).take (n - (age + 1))) (by rw [HL.out]; exact (Nat.min_eq_left (by omega)).symm) (fun _ => ⟨rfl, _, rfl, HSRC.out⟩) (by rw [HL.out]; show age + _ ≤ 6; omega) (cur6_one2 _ _) (w.heap.size + 1) w2 hBd hgw ?_; intro w4 hG4 hB4)
    have c0 := HST.out w4 hG4 0 (by omega)
    have c1 := HST.out w4 hG4 1 (by omega)
    have c2 := HST.out w4 hG4 2 (by omega)
    have c3 := HST.out w4 hG4 3 (by omega)
    have c4 := HST.out w4 hG4 4 (by omega)
    have c5 := HST.out w4 hG4 5 (by omega)
    have cl := HFIN.out w4 hG4 (n - 1) (by omega)
    have fl := frozen_of_row w4 g (n - 1) _ _ hG4.out
    obtain ⟨r0, q0⟩ := hres.out w4 hB4 0 (by omega)
    obtain ⟨r1, q1⟩ := hres.out w4 hB4 1 (by omega)
    obtain ⟨r2, q2⟩ := hres.out w4 hB4 2 (by omega)
    obtain ⟨r3, q3⟩ := hres.out w4 hB4 3 (by omega)
    obtain ⟨r4, q4⟩ := hres.out w4 hB4 4 (by omega)
    obtain ⟨r5, q5⟩ := hres.out w4 hB4 5 (by omega)
    have hne : ¬ g = w.heap.size := by omega
    have hne2 : ¬ w.heap.size = g := by omega
    have d9 : IntKind.i64.wrap ((n : Int) - 1) = (n : Int) - 1 := IntWalk.i64_in _ (by omega)
    have d8 : ((n : Int) - 1).toNat = n - 1 := by omega
    have d7 : (0 : Int) ≤ (n : Int) - 1 := by omega
    have d6 : (n : Int) - 1 < 6 := by omega
    have HB4 := Lib.hid (hb2.trans (hB4.mono (by omega)))
    clear hG hG4 hres hB4 hBd hb2 HFIN HST HC HLAST HOTH
    generalize oldO n age 0 = y0 at *
    generalize oldO n age 1 = y1 at *
    generalize oldO n age 2 = y2 at *
    generalize oldO n age 3 = y3 at *
    generalize oldO n age 4 = y4 at *
    generalize oldO n age 5 = y5 at *
    go_wp2
    refine bodyPost_ret (v := six y0 y1 y2 y3 y4 y5) (by simp [six, results, Try.results44, go_sem, c0, c1, c2, c3, c4, c5, r0, r1, r2, r3, r4, r5, hne, hne2]) rfl ⟨by rw [← HV.out]; rfl, ?_⟩
    have hb5 := HB4.out
    have hg9 : w.heap.size ≤ g := by omega
    go_grown
end Go.Proofs.Ythfgaoojgdikpaa
