/- slices.Insert of one number into a list of the call's own without room: a new row. -/
import Derived.Test.YtbajnkojjeakgaaCins
namespace Go.Proofs.Ytbajnkojjeakgaa.Tr
open Go.RowKit Go.Lib
/-- What lies there when a number is put in at a place, in a new row. -/
theorem take_ins_new (ROW : Array Value) (xs : List Int) (i : Nat) (u : Int) (hi : i < xs.length) (hs : xs.length + 1 ≤ ROW.size) (hc : ∀ k, k < i → ROW[k]? = some (.int .i64 (xs.getD k 0))) :
    (setAll (setAll ROW i [.int .i64 u]) (i + 1) ((xs.map (Value.int .i64)).drop i)).toList.take (xs.length + 1) = (xs.take i ++ u :: xs.drop i).map (Value.int .i64) := by
  rw [setAll_swap _ _ _ _ (by simp; omega)]
  exact take_ins ROW xs i u hi hs hc
set_option maxHeartbeats 4000000 in
set_option maxRecDepth 100000 in
theorem ins_grow (B g cap i : Nat) (xs : List Int) (u : Int) (w : World) (hB : B ≤ w.heap.size) (hi : i < xs.length) (hn : xs.length ≤ 1000) (hc : cap = xs.length) (ho : Own w B (.slice (some ⟨g, 0, none⟩) xs.length cap) xs) :
    Calls Try.prog 40 #[.slice (some ⟨g, 0, none⟩) xs.length cap, .int .i64 (i : Nat), .slice (some ⟨w.heap.size, 0, none⟩) 1 1] (w.alloc (.cells #[.int .i64 u] 2)) (InsR B xs i u w) := by
  have ho' : World.ownsRow w B 2 1 (.slice (some ⟨g, 0, none⟩) xs.length cap) xs.length (xs.map (Value.int .i64)) := ho
  rcases ho'.2 with ⟨h, _⟩ | ⟨g', cap', cur, h, hBg, hg, hnc, hcm', hcs, htake⟩
  · cases h
  cases h
  rw [Nat.mul_one] at hcs htake
  have hgl : g < w.heap.size := (Array.getElem?_eq_some_iff.1 hg).1
  have hcur : ∀ k, k < xs.length → cur[k]? = some (.int .i64 (xs.getD k 0)) := fun k hk => by
    have h1 : (cur.toList.take xs.length)[k]? = some (.int .i64 (xs.getD k 0)) := by
      rw [htake, List.getElem?_map, List.getD_eq_getElem?_getD, List.getElem?_eq_getElem hk]; rfl
    rw [List.getElem?_take, if_pos hk, Array.getElem?_toList] at h1
    exact h1
  obtain ⟨W, hW⟩ : ∃ W, W = w.alloc (.cells #[.int .i64 u] 2) := ⟨_, rfl⟩
  have hgW : W.heap[g]? = some (.cells cur 2 (0, 0)) := by rw [hW, heap_alloc_old w _ hgl]; exact hg
  have hcW : ∀ k, W.cell? ⟨g, k, none⟩ = cur[k]? := fun k => cell_of_row W g k _ _ _ hgW
  have hgV : W.heap[w.heap.size]? = some (.cells #[.int .i64 u] 2 (0, 0)) := by rw [hW]; exact heap_alloc_new w _
  have hVS : w.heap.size < W.heap.size := (Array.getElem?_eq_some_iff.1 hgV).1
  obtain ⟨i0, hi0, hz0, hzs, hzb⟩ := info_parts infoI
  have hsz : (Try.prog.info? 2).map (·.size) = some 1 := by rw [hi0]; simp [hzs]
  obtain ⟨n, hN⟩ : ∃ n, n = xs.length := ⟨_, rfl⟩
  rw [← hN] at hc hi hn
  replace hc := hc.symm
  subst hc
  obtain ⟨cs, hcsd⟩ : ∃ cs, cs = xs.map (Value.int .i64) := ⟨_, rfl⟩
  have hcl : cs.length = n := by rw [hcsd, hN]; simp
  have hdl : (cs.drop i).length = n - i := by rw [List.length_drop, hcl]
  have hcsg : ∀ k v, cs[k]? = some v → W.cell? ⟨g, k, none⟩ = some v := fun k v hk => by
    have hlt : k < n := by rw [← hcl]; exact (List.getElem?_eq_some_iff.1 hk).1
    rw [hcW, hcur _ (by rw [← hN]; exact hlt), ← hk, hcsd, List.getElem?_map, List.getD_eq_getElem?_getD, List.getElem?_eq_getElem (by rw [← hN]; exact hlt)]; rfl
  have h1c : ∀ v ∈ cs, v.oneCell' = true := fun v hv => by
    rw [hcsd] at hv
    obtain ⟨x, _, rfl⟩ := List.mem_map.1 hv
    rfl
  have hold : (Builtin.firstCells i0.size i (.slice (some ⟨g, 0, none⟩) i n)).run Try.prog W.drew = .ok (cs.take i).toArray W.drew := by
    rw [hzs]
    exact run_firstCells_some W.drew 1 i ⟨g, 0, none⟩ i n (cs.take i) (by rw [List.length_take]; omega) (fun j v hj => by
      rw [Addr.add_lit, Nat.zero_add]
      rw [List.getElem?_take] at hj
      split at hj
      · exact hcsg j v hj
      · cases hj)
  have hik : i + (n + 1 - i) = n + 1 := by omega
  have hkk : (n : Int) + 1 - (i : Int) = ((n + 1 - i : Nat) : Int) := by omega
  have hrz : ∀ ty, (Builtin.append_ #[22, 3] ty #[.slice (some ⟨g, 0, none⟩) i n, .int .i64 ((n : Int) + 1 - (i : Int))]).run Try.prog W =
      .ok (.slice (some ⟨W.heap.size, 0, none⟩) (n + 1) (grownCap W (n + 1) n 2)) (W.drew.alloc (.cells ((cs.take i).toArray ++ Builtin.zeroCells (Value.int .i64 0).cells (n + 1 - i) ++ Builtin.zeroCells (Value.int .i64 0).cells (grownCap W (n + 1) n 2 - (n + 1))) 2)) := fun ty => by
    have h := Lib.run_append_grow_zeros W 22 3 ty 2 i0 _ .i64 .i64 Try.underlying22 Try.underlying3 hi0 hz0 (some ⟨g, 0, none⟩) i n (cs.take i) hold (n + 1 - i) (by omega) (by omega) (by omega) (by omega) (by rw [hzb]; omega) (by rw [hzb, hik]; exact growslice_fits (by omega) (by omega))
    rw [hik] at h
    rw [hkk]
    exact h
  obtain ⟨G, hG⟩ : ∃ G, G = grownCap W (n + 1) n 2 := ⟨_, rfl⟩
  have hGn : n + 1 ≤ G := by rw [hG]; exact grownCap_ge W _ _ _
  have hGm : G ≤ maxLen := by rw [hG]; exact grownCap_le_maxLen W (n + 1) n 2 (by unfold maxLen; omega)
  have hG63 : G ≤ 9223372036854775807 := by unfold maxLen at hGm; omega
  obtain ⟨ROW, hROW⟩ : ∃ ROW : Array Value, ROW = (cs.take i).toArray ++ Builtin.zeroCells (Value.int .i64 0).cells (n + 1 - i) ++ Builtin.zeroCells (Value.int .i64 0).cells (G - (n + 1)) := ⟨_, rfl⟩
  rw [← hG, ← hROW] at hrz
  have hRl : ROW.size = G := by
    rw [hROW]
    simp [Builtin.zeroCells, Value.cells]
    omega
  have hRc : ∀ k, k < i → ROW[k]? = some (.int .i64 (xs.getD k 0)) := fun k hk => by
    rw [hROW, Array.append_assoc, Array.getElem?_append_left (by simp; omega), List.getElem?_toArray, List.getElem?_take, if_pos hk, hcsd, List.getElem?_map, List.getD_eq_getElem?_getD, List.getElem?_eq_getElem (by omega)]
    rfl
  obtain ⟨W1, hW1⟩ : ∃ W1, W1 = W.drew.alloc (.cells ROW 2) := ⟨_, rfl⟩
  rw [← hW1] at hrz
  have hgN : W1.heap[W.heap.size]? = some (.cells ROW 2 (0, 0)) := by rw [hW1]; exact heap_alloc_new W.drew _
  have hgO : W1.heap[g]? = some (.cells cur 2 (0, 0)) := by rw [hW1, heap_alloc_old W.drew _ (by show g < W.heap.size; omega)]; exact hgW
  have hgV1 : W1.heap[w.heap.size]? = some (.cells #[.int .i64 u] 2 (0, 0)) := by rw [hW1, heap_alloc_old W.drew _ (by show w.heap.size < W.heap.size; omega)]; exact hgV
  have hcpA : ∀ (X : World), (∀ x, X.cell? x = W1.cell? x) → (∀ x, X.frozen? x = W1.frozen? x) → ∀ ty dc, (Builtin.copy_ #[22, 22] ty #[.slice (some ⟨W.heap.size, i, none⟩) (n + 1 - i) dc, .slice (some ⟨w.heap.size, 0, none⟩) 1 1]).run Try.prog X = .ok (goInt 1) (X.setCells W.heap.size i [.int .i64 u]) := fun X hXc hXf ty dc =>
    run_copy_cells X _ _ ty 2 W.heap.size i (n + 1 - i) dc ⟨w.heap.size, 0, none⟩ 1 1 [.int .i64 u] Try.underlying22 hsz (by simp only [Nat.min_def, List.length_cons, List.length_nil]; split <;> omega)
      (fun j v hj => by rw [Addr.add_lit, hXc, cell_of_row W1 _ _ _ _ _ hgV1, ← hj]; simp)
      (fun j hj => by
        simp at hj
        rw [hXc, cell_of_row W1 _ _ _ _ _ hgN, Array.getElem?_eq_getElem (by omega)]; rfl)
      (fun j hj => by rw [hXf]; exact frozen_of_row W1 _ _ _ _ hgN) (fun v hv => by simp at hv; subst hv; rfl)
  obtain ⟨W2, hW2⟩ : ∃ W2, W2 = W1.setCells W.heap.size i [.int .i64 u] := ⟨_, rfl⟩
  have hgN2 : W2.heap[W.heap.size]? = some (.cells (setAll ROW i [.int .i64 u]) 2 (0, 0)) := by rw [hW2]; exact heap_setAll _ _ _ _ _ _ hgN
  have hgO2 : W2.heap[g]? = some (.cells cur 2 (0, 0)) := by rw [hW2, heap_setAll_other _ _ (by omega)]; exact hgO
  have hcpB : ∀ (X : World), (∀ x, X.cell? x = W2.cell? x) → (∀ x, X.frozen? x = W2.frozen? x) → ∀ ty dc sc, (Builtin.copy_ #[22, 22] ty #[.slice (some ⟨W.heap.size, i + 1, none⟩) (n - i) dc, .slice (some ⟨g, i, none⟩) (n - i) sc]).run Try.prog X = .ok (goInt (cs.drop i).length) (X.setCells W.heap.size (i + 1) (cs.drop i)) := fun X hXc hXf ty dc sc =>
    run_copy_cells X _ _ ty 2 W.heap.size (i + 1) (n - i) dc ⟨g, i, none⟩ (n - i) sc (cs.drop i) Try.underlying22 hsz (by rw [hdl]; simp only [Nat.min_def]; split <;> omega)
      (fun j v hj => by
        rw [Addr.add_lit, hXc, cell_of_row W2 _ _ _ _ _ hgO2, ← hcW]
        exact hcsg (i + j) v (by rwa [List.getElem?_drop] at hj))
      (fun j hj => by rw [hXc, cell_of_row W2 _ _ _ _ _ hgN2, Array.getElem?_eq_getElem (by rw [setAll_size]; omega)]; rfl)
      (fun j hj => by rw [hXf]; exact frozen_of_row W2 _ _ _ _ hgN2) (fun v hv => h1c v (List.mem_of_mem_drop hv))
  have hfin : Hid (∀ w', w'.heap[W.heap.size]? = some (.cells (setAll (setAll ROW i [.int .i64 u]) (i + 1) (cs.drop i)) 2 (0, 0)) → Own w' B (.slice (some ⟨W.heap.size, 0, none⟩) (n + 1) G) (xs.take i ++ u :: xs.drop i)) := by
    show ∀ w', _
    intro w' hw'
    have hll : (xs.take i ++ u :: xs.drop i).length = n + 1 := by simp; omega
    show World.ownsRow _ _ _ _ _ (xs.take i ++ u :: xs.drop i).length _
    rw [hll]
    refine ⟨by rw [List.length_map, hll, Nat.mul_one], .inr ⟨W.heap.size, G, setAll (setAll ROW i [.int .i64 u]) (i + 1) (cs.drop i), rfl, by omega, ?_, hGn, hGm, by rw [setAll_size, setAll_size, hRl, Nat.mul_one], ?_⟩⟩
    · exact hw'
    · rw [Nat.mul_one, hcsd, hN]
      exact take_ins_new ROW xs i u (by omega) (by omega) hRc
  have hbel : Hid (Below B w (W.alloc (.cells ROW 2))) := by
    show Below B w (W.alloc (.cells ROW 2))
    have h0 : Below B w W := by rw [hW]; exact (Below.refl B w).alloc hB _
    exact h0.alloc (by omega) _
  have hBW : B ≤ W.heap.size := by omega
  have hgne : g ≠ W.heap.size := by omega
  rw [← hN]
  rw [← hW]
  have mixed : Try.prog.follows .mixedOrders = true := by kernel_rfl
  subst hW2
  subst hW1
  have hE1 : ∀ x, ((W.alloc (.cells ROW 2)).drew).cell? x = (W.drew.alloc (.cells ROW 2)).cell? x := fun x => rfl
  have hE2 : ∀ x, ((W.alloc (.cells ROW 2)).drew).frozen? x = (W.drew.alloc (.cells ROW 2)).frozen? x := fun x => rfl
  have hF1 : ∀ x, (((W.alloc (.cells ROW 2)).drew.setCells W.heap.size i [.int .i64 u]).drew).cell? x = ((W.drew.alloc (.cells ROW 2)).setCells W.heap.size i [.int .i64 u]).cell? x := fun x => rfl
  have hF2 : ∀ x, (((W.alloc (.cells ROW 2)).drew.setCells W.heap.size i [.int .i64 u]).drew).frozen? x = ((W.drew.alloc (.cells ROW 2)).setCells W.heap.size i [.int .i64 u]).frozen? x := fun x => rfl
  have hz2 : ¬ ((i : Int) = (n : Int)) := by omega
  have hz3 : (n : Int) < (n : Int) + 1 := by omega
  have hw1 : IntKind.i64.wrap ((i : Int) + 1) = (i : Int) + 1 := by rw [IntKind.wrap_i64]; omega
  have hw2 : IntKind.i64.wrap ((n : Int) + 1) = (n : Int) + 1 := by rw [IntKind.wrap_i64]; omega
  have hw3 : IntKind.i64.wrap ((n : Int) + 1 - (i : Int)) = (n : Int) + 1 - (i : Int) := by rw [IntKind.wrap_i64]; omega
  have hb1 : (0 : Int) ≤ (i : Int) + 1 := by omega
  have hin : i ≤ n := by omega
  have htn : ((i : Int) + 1).toNat = i + 1 := by omega
  have hb3 : (i : Int) ≤ (n : Int) := by omega
  have hGi : ¬ (G = i) := by omega
  have hGim : ¬ (G = i + 1) := by omega
  have hci : ¬ (n = i) := by omega
  clear hN hgW hcW hgV hgN hgO hgV1 hgN2 hgO2 hW hg hcur htake ho ho' hcs hcsd hkk hik hold hROW hG hRl hRc hcsg hcl
  go_enter Try.func40, Try.ntmps40
  go_wp2_with (first
    | (at_builtin; refine Lib.wpList_append_run _ rfl _ _ _ _ rfl _ _ rfl rfl _ _ (hrz _) ?_)
    | (at_builtin; refine wpList_copy_runI _ rfl _ _ 22 22 rfl _ _ rfl rfl (hcpA _ hE1 hE2 _ _) ?_))
  go_region_law_o (refine step_copy_runI rfl _ _ 22 22 rfl (.slice (some ⟨W.heap.size, i + 1, none⟩) (n - i) (G - (i + 1))) (.slice (some ⟨g, i, none⟩) (n - i) (n - i)) (by simp [Act.eval, Act.put]) (by simp [Act.eval, Act.put]) (hcpB _ hF1 hF2 _ (G - (i + 1)) (n - i)) ?_)
  go_wp2
  go_ret
  refine ⟨_, rfl, hfin.out _ ?_, below_setAll hBW (cs.drop i) (i + 1) _ (Below.drew (below_setAll hBW [.int .i64 u] i _ (Below.drew hbel.out)))⟩
  exact heap_setAll _ _ _ _ ((W.alloc (.cells ROW 2)).drew.setCells W.heap.size i [.int .i64 u]).drew _ (heap_setAll _ _ _ _ (W.alloc (.cells ROW 2)).drew _ (heap_alloc_new W _))
theorem ins_own {v : Value} {xs : List Int} {w : World} {B : Nat} (o : Own w B v xs) (i : Nat) (hi : i ≤ xs.length) (u : Int) (hB : B ≤ w.heap.size) (hn : xs.length ≤ 1000) :
    Calls Try.prog 40 #[v, .int .i64 (i : Nat), .slice (some ⟨w.heap.size, 0, none⟩) 1 1] (w.alloc (.cells #[.int .i64 u] 2)) (InsR B xs i u w) := by
  have o' : World.ownsRow w B 2 1 v xs.length (xs.map (Value.int .i64)) := o
  rcases o'.2 with ⟨rfl, h⟩ | ⟨g, cap, cur, rfl, hBg, hg, hnc, hcm, _⟩
  · have e : xs = [] := List.eq_nil_of_length_eq_zero h
    subst e
    have e : i = 0 := by simpa using hi
    subst e
    exact ins_nil B u w hB
  · have hc63 : cap ≤ 9223372036854775807 := by unfold maxLen at hcm; omega
    rcases Nat.lt_or_ge i xs.length with h | h
    · rcases Nat.lt_or_ge xs.length cap with h2 | h2
      · exact ins_shift B g cap i xs u w hB h hn (by omega) hc63 o
      · exact ins_grow B g cap i xs u w hB h hn (by omega) o
    · have e : i = xs.length := by omega
      subst e
      exact ins_end B g cap xs u w hB hn hnc hc63 o
end Go.Proofs.Ytbajnkojjeakgaa.Tr
