/- The contract of the program's CountsOf: make, copy, slices.Sort, runs, their counts. -/
import Derived.Test.YtonplmnopfmnmaaCrun
import Derived.Test.YtonplmnopfmnmaaCuses
import Derived.Test.YtonplmnopfmnmaaCwide
import Derived.Test.YtonplmnopfmnmaaCshelf
import Derived.Lib.SlKeysI
namespace Go.Proofs.Ytonplmnopfmnmaa.Tr
open Go.RowKit
def cntK (rs : List (Int × Nat)) (j : Nat) : List Int := (rs.take j).map fun r => ((r.2 : Nat) : Int)
theorem cntK_length (rs : List (Int × Nat)) (j : Nat) (h : j ≤ rs.length) : (cntK rs j).length = j := by unfold cntK; simp; omega
theorem getP (rs : List (Int × Nat)) (j : Nat) (h : j < rs.length) : rs[j] = rs.getD j (0, 0) := by simp [List.getD_eq_getElem?_getD, List.getElem?_eq_getElem h]
theorem cntK_succ (rs : List (Int × Nat)) (j : Nat) (h : j < rs.length) : cntK rs (j + 1) = cntK rs j ++ [(((rs.getD j (0, 0)).2 : Nat) : Int)] := by
  unfold cntK; rw [List.take_succ_eq_append_getElem h, List.map_append, getP rs j h]; rfl
theorem rcells_get : ∀ (rs : List (Int × Nat)) (j : Nat) (h : j < rs.length), (rcells rs)[j * 2]? = some (.int .i64 rs[j].1) ∧ (rcells rs)[j * 2 + 1]? = some (.int .i64 (rs[j].2 : Nat))
  | r :: rs, 0, _ => ⟨rfl, rfl⟩
  | r :: rs, j + 1, h => by
    have ih := rcells_get rs j (by simpa using h)
    have e : (j + 1) * 2 = j * 2 + 1 + 1 := by omega
    rw [e]
    exact ih
theorem OwnR.cells {w : World} {B n : Nat} {a : Option Addr} {cap : Nat} {rs : List (Int × Nat)} (h : OwnR w B (.slice a n cap) rs) (j : Nat) (hj : j < rs.length) :
    ∃ g, a = some ⟨g, 0, none⟩ ∧ g < w.heap.size ∧ w.cell? ⟨g, j * 2, none⟩ = some (.int .i64 (rs.getD j (0, 0)).1) ∧ w.cell? ⟨g, j * 2 + 1, none⟩ = some (.int .i64 ((rs.getD j (0, 0)).2 : Nat)) := by
  obtain ⟨g, cap', hv⟩ := OwnR.form h (by omega)
  injection hv with h1 h2 h3
  subst h1 h2 h3
  have h0 : w.ownsRow B 46 2 (.slice (some ⟨g, 0, none⟩) rs.length cap) rs.length (rcells rs) := h
  obtain ⟨e1, e2⟩ := rcells_get rs j hj
  rw [getP rs j hj] at e1 e2
  refine ⟨g, rfl, (OwnR.block h g rfl).2, ?_, ?_⟩
  · rw [World.ownsRow.cellAt h0 (j * 2) (by omega), e1]
  · rw [World.ownsRow.cellAt h0 (j * 2 + 1) (by omega), e2]
theorem splice_all (xs : List Int) : splice (List.replicate xs.length (Value.int .i64 0)) 0 (xs.map (Value.int .i64)) = xs.map (Value.int .i64) := by
  unfold splice
  simp
/-- What the sort leaves, at a list in a block of the call's own. -/
theorem sort_own (w : World) (g B : Nat) (xs : List Int) (hn : xs.length ≤ 1048576) (hB : B ≤ g) (hg : w.heap[g]? = some (.cells (xs.map (Value.int .i64)).toArray 2 (0, 0))) :
    Calls Try.prog 32 #[.slice (some ⟨g, 0, none⟩) xs.length xs.length] w fun e w' => e = .returned (.tuple #[]) ∧ w.grownBy w' (some g) ∧ Own w' B (.slice (some ⟨g, 0, none⟩) xs.length xs.length) (xs.mergeSort fun x y => decide (x ≤ y)) := by
  have hlt := (Array.getElem?_eq_some_iff.1 hg).1
  refine (Try.slices_sort g 0 xs.length xs w (holds_of_block_i hg (show ((xs.map (Value.int .i64)).toArray.toList).take xs.length = xs.map encZ from List.take_of_length_le (by simp))) hlt (by omega)).mono ?_
  rintro e w' ⟨he, n, os, rfl⟩
  refine ⟨he, grownBy_sorted_i _, ?_⟩
  have hl : (xs.mergeSort fun x y => decide (x ≤ y)).length = xs.length := List.length_mergeSort xs
  have h := ownsRow_sorted_i (os := os) (n := n) (base := B) hl hB hg (Nat.le_refl _) (by unfold maxLen; omega) (by simp)
  show World.ownsRow _ _ _ _ _ (xs.mergeSort fun x y => decide (x ≤ y)).length _
  rw [hl]
  exact h
theorem counts_merge (xs : List Int) : (runsP (xs.mergeSort fun x y => decide (x ≤ y))).map (fun r => ((r.2 : Nat) : Int)) = countsP xs := by
  refine counts_runs xs _ (List.mergeSort_perm xs _) ?_
  have h := List.pairwise_mergeSort (le := fun x y : Int => decide (x ≤ y)) (fun a b c h1 h2 => by simp at *; omega) (fun a b => by simp; omega) xs
  exact h.imp fun h => by simpa using h
set_option maxHeartbeats 2000000 in
set_option maxRecDepth 100000 in
theorem counts_yes_i {v : Value} {xs : List Int} {w : World} (h : Rd w v xs) (hok : okU xs = true) :
    Calls Try.prog 9 #[v] w (Res (countsP xs) true w) := by
  have hn := okU_len hok
  have hU := Lib.hid (uses_iR h (by omega))
  rw [hok] at hU
  obtain ⟨a, c, rfl, _, _, hr⟩ := h
  have hs0 : 0 < xs.length → ∃ ad, a = some ad ∧ ∀ (w1 : World), Below w.heap.size w w1 → ∀ j v, (xs.map (Value.int .i64))[j]? = some v → w1.cell? (ad.add j) = some v := fun hp => by
    obtain ⟨b, off, rfl, _, _⟩ := hr 0 hp
    refine ⟨_, rfl, fun w1 hb j v hv => ?_⟩
    rw [List.getElem?_map, Option.map_eq_some_iff] at hv
    obtain ⟨y, hy, rfl⟩ := hv
    obtain ⟨hj, ey⟩ := List.getElem?_eq_some_iff.1 hy
    obtain ⟨b', off', e, h1, h2⟩ := hr j hj
    injection e with e
    injection e with e1 e2
    subst e1 e2
    have := (hb.cell (p := ⟨b, off + j, none⟩) h2).trans h1
    rw [getD_get xs j hj, ey] at this
    rw [addr_add]
    exact this
  have HS0 := Lib.hid hs0
  have HSO := Lib.hid (fun (w2 : World) (g B : Nat) (hB : B ≤ g) hg => sort_own w2 g B xs (by omega) hB hg)
  have HSP := Lib.hid (splice_all xs)
  have HSL := Lib.hid (show (xs.mergeSort fun x y => decide (x ≤ y)).length = xs.length from List.length_mergeSort xs)
  have HCM := Lib.hid (counts_merge xs)
  have hx1 : (xs.map (Value.int .i64)).length = xs.length := by simp
  have h11 : ∀ v ∈ xs.map (Value.int .i64), v.oneCell' = true := fun v hv => by
    obtain ⟨y, _, rfl⟩ := List.mem_map.1 hv
    rfl
  clear hok hr hs0
  obtain ⟨X1, hX1⟩ : ∃ X1, X1 = xs.map (Value.int .i64) := ⟨_, rfl⟩
  rw [← hX1] at hx1 h11 HS0 HSP HSO
  clear hX1
  generalize countsP xs = CP at *
  generalize (xs.mergeSort fun x y => decide (x ≤ y)) = ys at *
  obtain ⟨i0, hi, hz0, hz1, hz2⟩ := info_parts infoI
  generalize xs.length = N at *
  have HX1 := Lib.hid hx1
  clear hx1
  go_enter Try.func9, Try.ntmps9
  go_wp2_with (first | (go_at_call 31; refine hU.out.mono ?_; rintro e w' ⟨rfl, rfl⟩) | (at_make; refine wpList_make_full _ rfl _ _ 22 rfl w.heap.size 2 i0 (.int .i64 0) 1 Try.underlying22 hi hz0 hz1 .i64 .i64 (N : Int) (N : Int) N ?_ ?_ rfl rfl ?_ ?_ ?_ ?_; rfl; rfl))
  · rw [hz2]; omega
  · unfold maxLen; omega
  · exact Nat.le_refl _
  intro w1 hown hgr
  have hG1 : Hid (w1.heap[w.heap.size]? = some (.cells (List.replicate N (Value.int .i64 0)).toArray 2 (0, 0))) := by
    have hh := Gd.of_made (w := w1) (g := w.heap.size) (n := N) (L := List.replicate N 0) (by
      have e2 := made_zero N
      have h3 : w1.ownsRow w.heap.size 2 1 (.slice (some ⟨w.heap.size, 0, none⟩) N N) N (madeCells #[Value.int .i64 0] N).toList := by simpa using hown
      rw [e2] at h3
      exact h3)
    unfold Gd at hh
    rw [List.map_replicate] at hh
    exact hh
  have hB1 : Below w.heap.size w w1 := (Below.refl _ _).grown hgr (Nat.le_refl _) (by simp)
  clear hown hgr
  go_wp2_with (with_reducible refine wpList_copy_splice rfl (.tmp 14) (.tmp 15) 22 22 rfl 2 Try.underlying22 isz _ _ _ _ _ _ rfl rfl w.heap.size 0 (List.replicate N (Value.int .i64 0)) 2 hG1.out X1 ?_ ?_ ?_ h11 w.heap.size w hB1 (Nat.le_refl _) ?_)
  · rw [HX1.out]; exact (Nat.min_self _).symm
  · intro hp
    obtain ⟨ad, ha, hc⟩ := HS0.out (by rw [HX1.out] at hp; exact hp)
    first | exact ⟨rfl, ad, ha, hc w1 hB1⟩ | exact ⟨ad, ha, hc w1 hB1⟩
  · rw [HX1.out, List.length_replicate]; omega
  intro w2 hG2 hB2
  rw [HSP.out] at hG2
  have HSo := Lib.hid (HSO.out w2 w.heap.size w.heap.size (Nat.le_refl _) hG2.out)
  clear hG1 hB1 HS0 HSO HSP hG2
  go_wp2_with fail
  refine HSo.out.mono ?_
  rintro e w3 ⟨rfl, hg3, ho3⟩
  have hB3 : Below w.heap.size w w3 := hB2.grown hg3 hB2.size (fun k hk => by injection hk with hk; omega)
  have hR := ho3.rd
  obtain ⟨a', c', e, _, _, hrow⟩ := hR
  injection e with e1 e2 e3
  subst e1
  have HRU := runs_i (some ⟨w.heap.size, 0, none⟩) N ys w3 (by rw [HSL.out]; omega) hrow
  rw [HSL.out] at HRU
  have HRU2 := Lib.hid HRU
  have HRL := runsP_len ys ys.length
  rw [List.take_length, HSL.out] at HRL
  have HB3 := Lib.hid hB3
  clear HRU hrow ho3 hg3 hB2 hB3 HSo e2 e3
  generalize runsP ys = RS at *
  go_wp2_with fail
  refine HRU2.out.mono ?_
  rintro e w4 ⟨v4, rfl, o4, b4⟩
  obtain ⟨a4, c4, hv4⟩ := o4.form'
  subst hv4
  have HB4 := Lib.hid (HB3.out.trans (b4.mono HB3.out.size))
  have HO4 := Lib.hid (fun (wr : World) (hb : Below w4.heap.size w4 wr) (j : Nat) (hj : j < RS.length) => OwnR.cells (o4.below hb (Nat.le_refl _)) j hj)
  have HCS := Lib.hid (fun j hj => cntK_succ RS j hj)
  have HCL := Lib.hid (fun j hj => cntK_length RS j hj)
  have HCE : Hid (cntK RS RS.length = CP) := by show _ = _; unfold cntK; rw [List.take_length]; exact HCM.out
  clear o4 b4 HRU2 HB3 HCM
  generalize hM : RS.length = M at *
  have HM := Lib.hid hM
  clear hM
  go_wp2
  go_loopw [5, 7, 22] (fun v _ i wr => ∃ j : Nat, j ≤ M ∧ i = .int .i64 j ∧ Hid (Own wr w4.heap.size v (cntK RS j)) ∧ Hid (Below w4.heap.size w4 wr)) (fun _ _ i _ => M - (intOf i).toNat)
  case atStart => exact ⟨0, Nat.zero_le _, rfl, Own.nil _ _, Below.refl _ _⟩
  case round =>
    obtain ⟨j, hj, rfl, ho, hb⟩ := hrel
    by_cases hlt : j < M
    · obtain ⟨g, rfl, hgl, hc1, hc2⟩ := HO4.out wr hb.out j hlt
      have hs := HCS.out j hlt
      have hql := HCL.out j hj
      have hq : (cntK RS j).length + 1 ≤ 1000000000 := by rw [hql]; omega
      generalize RS.getD j (0, 0) = r at *
      obtain ⟨x, y⟩ := r
      have HS := Lib.hid hs
      have HB5 := Lib.hid (hb.out.alloc hb.out.size (.cells #[.int .i64 x, .int .i64 (y : Nat)] 46))
      have ho5 := Own.below ho.out (Below.alloc (Below.refl wr.heap.size wr) (Nat.le_refl _) (.cells #[.int .i64 x, .int .i64 (y : Nat)] 46)) (Nat.le_refl _)
      have hsz := HB5.out.size
      clear hs hql ho hb
      generalize cntK RS j = l at *
      go_wp2_with (at_builtin; refine wpList_app _ rfl _ _ rfl w4.heap.size _ l _ ?_ ?_ ho5 hq hsz ?_; rfl; exact (show Value.slice (some ⟨wr.heap.size + 1, 0, none⟩) 1 1 = Value.slice (some ⟨(wr.alloc _).heap.size, 0, none⟩) 1 1 from by simp))
      intro v' w6 ho6 hb6
      go_wp2
      go_roundw
      case rel => exact ⟨j + 1, by omega, by go_num, (by rw [HS.out]; exact ho6), HB5.out.trans hb6⟩
      case measure => simp [intOf]; omega
    · have e : j = M := by omega
      subst e
      have hoo := ho.out
      rw [HCE.out] at hoo
      go_wp2
      go_ret2
      exact ⟨_, rfl, hoo.mono HB4.out.size, HB4.out.trans (hb.out.mono HB4.out.size)⟩
end Go.Proofs.Ytonplmnopfmnmaa.Tr
