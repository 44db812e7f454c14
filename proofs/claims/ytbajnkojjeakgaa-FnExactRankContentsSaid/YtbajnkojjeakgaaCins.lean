/- slices.Insert of one number into a list of the call's own, with room and without. -/
import Derived.Test.YtbajnkojjeakgaaCown
import Derived.Shelf.Spec.SlicesInsert
import Derived.Shelf.Spec.SlicesInsertGrow
namespace Go.Proofs.Ytbajnkojjeakgaa.Tr
open Go.RowKit Go.Lib
/-- The cells of a block when some are set from a place on. -/
def setAll : Array Value → Nat → List Value → Array Value
  | cur, _, [] => cur
  | cur, o, v :: r => setAll (cur.setIfInBounds o v) (o + 1) r
theorem setAll_size (cur : Array Value) (o : Nat) (vs : List Value) : (setAll cur o vs).size = cur.size := by
  induction vs generalizing cur o with
  | nil => rfl
  | cons v r ih => rw [setAll, ih]; simp
theorem setAll_get (vs : List Value) : ∀ (cur : Array Value) (o k : Nat), o + vs.length ≤ cur.size →
    (setAll cur o vs)[k]? = if o ≤ k ∧ k < o + vs.length then vs[k - o]? else cur[k]? := by
  induction vs with
  | nil => intro cur o k _; rw [setAll, if_neg (by simp)]
  | cons v r ih =>
    intro cur o k h
    have h' : o + (r.length + 1) ≤ cur.size := h
    rw [setAll, ih _ _ _ (by simp; omega)]
    by_cases hk : k = o
    · subst hk
      rw [if_neg (by omega), if_pos ⟨Nat.le_refl _, by simp⟩, Array.getElem?_setIfInBounds, if_pos rfl, if_pos (by omega), Nat.sub_self]
      rfl
    · by_cases h2 : o + 1 ≤ k ∧ k < o + 1 + r.length
      · rw [if_pos h2, if_pos ⟨by omega, by simp; omega⟩, show k - o = (k - (o + 1)) + 1 by omega, List.getElem?_cons_succ]
      · rw [if_neg h2, if_neg (by simp; omega), Array.getElem?_setIfInBounds, if_neg (fun e => hk e.symm)]
theorem heap_setAll (g : Nat) (t : TypeId) (vs : List Value) : ∀ (o : Nat) (w : World) (cur : Array Value), w.heap[g]? = some (.cells cur t (0, 0)) →
    (w.setCells g o vs).heap[g]? = some (.cells (setAll cur o vs) t (0, 0)) := by
  induction vs with
  | nil => intro o w cur h; exact h
  | cons v r ih => intro o w cur h; rw [World.setCells, setAll]; exact ih _ _ _ (heap_setCell_same w g o _ _ _ h)
theorem heap_setAll_other (g k : Nat) (h : k ≠ g) (vs : List Value) : ∀ (o : Nat) (w : World), (w.setCells g o vs).heap[k]? = w.heap[k]? := by
  induction vs with
  | nil => intro o w; rfl
  | cons v r ih => intro o w; rw [World.setCells, ih]; exact heap_setCell_other w _ k v h
theorem below_setAll {B g : Nat} {a : World} (hg : B ≤ g) (vs : List Value) : ∀ (o : Nat) (w : World), Below B a w → Below B a (w.setCells g o vs) := by
  induction vs with
  | nil => intro o w h; exact h
  | cons v r ih => intro o w h; rw [World.setCells]; exact ih _ _ (h.setCell hg v)
/-- What lies there when a number is put in at a place. -/
theorem take_ins (cur : Array Value) (xs : List Int) (i : Nat) (u : Int) (hi : i < xs.length) (hs : xs.length + 1 ≤ cur.size) (hc : ∀ k, k < i → cur[k]? = some (.int .i64 (xs.getD k 0))) :
    (setAll (setAll cur (i + 1) ((xs.map (Value.int .i64)).drop i)) i [.int .i64 u]).toList.take (xs.length + 1) = (xs.take i ++ u :: xs.drop i).map (Value.int .i64) := by
  have hd : ((xs.map (Value.int .i64)).drop i).length = xs.length - i := by simp
  apply List.ext_getElem?
  intro k
  rw [List.getElem?_take]
  by_cases hk : k < xs.length + 1
  · rw [if_pos hk, Array.getElem?_toList, setAll_get _ _ _ _ (by rw [setAll_size]; simp; omega), setAll_get _ _ _ _ (by rw [hd]; omega), hd, List.getElem?_map]
    rcases Nat.lt_trichotomy k i with h | h | h
    · rw [if_neg (by simp; omega), if_neg (by omega), hc k h, List.getElem?_append_left (by simp; omega), List.getElem?_take, if_pos h, List.getD_eq_getElem?_getD, List.getElem?_eq_getElem (show k < xs.length by omega)]
      rfl
    · subst h
      rw [if_pos ⟨Nat.le_refl _, by simp⟩, Nat.sub_self, List.getElem?_append_right (by simp; omega)]
      simp [Nat.min_eq_left (Nat.le_of_lt hi)]
    · rw [if_neg (by simp; omega), if_pos (by omega), List.getElem?_append_right (by simp; omega), List.getElem?_drop, List.getElem?_map, List.length_take, Nat.min_eq_left (Nat.le_of_lt hi), show k - i = (k - (i + 1)) + 1 by omega, List.getElem?_cons_succ, List.getElem?_drop]
  · rw [if_neg hk, List.getElem?_eq_none (by simp; omega)]
theorem setAll_swap (cur : Array Value) (i : Nat) (v : Value) (vs : List Value) (h : i + 1 + vs.length ≤ cur.size) : setAll (setAll cur i [v]) (i + 1) vs = setAll (setAll cur (i + 1) vs) i [v] := by
  apply Array.ext_getElem?
  intro k
  rw [setAll_get _ _ _ _ (by rw [setAll_size]; omega), setAll_get _ _ _ _ (by simp; omega), setAll_get _ _ _ _ (by rw [setAll_size]; simp; omega), setAll_get _ _ _ _ (by omega)]
  by_cases h1 : i + 1 ≤ k ∧ k < i + 1 + vs.length
  · rw [if_pos h1, if_neg (by simp; omega), if_pos h1]
  · rw [if_neg h1, if_neg h1]
/-- What an insertion leaves. -/
def InsR (B : Nat) (xs : List Int) (i : Nat) (u : Int) (w : World) (e : Ending) (w' : World) : Prop := ∃ v', e = .returned v' ∧ Own w' B v' (xs.take i ++ u :: xs.drop i) ∧ Below B w w'
set_option maxHeartbeats 2000000 in
set_option maxRecDepth 100000 in
theorem ins_nil (B : Nat) (u : Int) (w : World) (hB : B ≤ w.heap.size) :
    Calls Try.prog 40 #[.slice none 0 0, .int .i64 0, .slice (some ⟨w.heap.size, 0, none⟩) 1 1] (w.alloc (.cells #[.int .i64 u] 2)) (InsR B [] 0 u w) := by
  have ho := Own.nil w B
  go_enter Try.func40, Try.ntmps40
  go_wp2_with (at_builtin; refine wpList_app w rfl _ _ rfl B _ [] u ?_ ?_ ho (by simp) hB ?_; rfl; rfl)
  intro v' w1 o1 b1
  go_wp2
  go_ret
  exact ⟨_, rfl, o1, b1⟩
set_option maxHeartbeats 2000000 in
set_option maxRecDepth 100000 in
theorem ins_end (B g cap : Nat) (xs : List Int) (u : Int) (w : World) (hB : B ≤ w.heap.size) (hn : xs.length ≤ 1000) (hc : xs.length ≤ cap) (hcm : cap ≤ 9223372036854775807) (ho : Own w B (.slice (some ⟨g, 0, none⟩) xs.length cap) xs) :
    Calls Try.prog 40 #[.slice (some ⟨g, 0, none⟩) xs.length cap, .int .i64 (xs.length : Nat), .slice (some ⟨w.heap.size, 0, none⟩) 1 1] (w.alloc (.cells #[.int .i64 u] 2)) (InsR B xs xs.length u w) := by
  have e1 : Hid (xs.take xs.length ++ u :: xs.drop xs.length = xs ++ [u]) := by show _ = _; rw [List.take_length, List.drop_length]
  have hl : xs.length + 1 ≤ 1000000000 := by omega
  have HO := Lib.hid ho
  clear ho
  generalize hN : xs.length = N at *
  have HN := Lib.hid hN
  clear hN
  by_cases hcN : cap = N
  · subst hcN
    go_enter Try.func40, Try.ntmps40
    go_wp2_with (at_builtin; refine wpList_app w rfl _ _ rfl B _ xs u ?_ ?_ HO.out (by rw [HN.out]; exact hl) hB ?_; rfl; rfl)
    intro v' w1 o1 b1
    go_wp2
    go_ret
    exact ⟨_, rfl, by rw [e1.out]; exact o1, b1⟩
  · skip
    go_enter Try.func40, Try.ntmps40
    go_wp2_with (at_builtin; refine wpList_app w rfl _ _ rfl B _ xs u ?_ ?_ HO.out (by rw [HN.out]; exact hl) hB ?_; rfl; rfl)
    intro v' w1 o1 b1
    go_wp2
    go_ret
    exact ⟨_, rfl, by rw [e1.out]; exact o1, b1⟩
set_option maxHeartbeats 4000000 in
set_option maxRecDepth 100000 in
theorem ins_shift (B g cap i : Nat) (xs : List Int) (u : Int) (w : World) (hB : B ≤ w.heap.size) (hi : i < xs.length) (hn : xs.length ≤ 1000) (hc : xs.length + 1 ≤ cap) (hcm : cap ≤ 9223372036854775807) (ho : Own w B (.slice (some ⟨g, 0, none⟩) xs.length cap) xs) :
    Calls Try.prog 40 #[.slice (some ⟨g, 0, none⟩) xs.length cap, .int .i64 (i : Nat), .slice (some ⟨w.heap.size, 0, none⟩) 1 1] (w.alloc (.cells #[.int .i64 u] 2)) (InsR B xs i u w) := by
  have ho' : World.ownsRow w B 2 1 (.slice (some ⟨g, 0, none⟩) xs.length cap) xs.length (xs.map (Value.int .i64)) := ho
  rcases ho'.2 with ⟨h, _⟩ | ⟨g', cap', cur, h, hBg, hg, hnc, hcm', hcs, htake⟩
  · cases h
  cases h
  rw [Nat.mul_one] at hcs htake
  have hgl : g < w.heap.size := (Array.getElem?_eq_some_iff.1 hg).1
  have hcur : ∀ k, k < xs.length → cur[k]? = some (.int .i64 (xs.getD k 0)) := fun k hk => by
    have h1 : (cur.toList.take xs.length)[k]? = some (.int .i64 (xs.getD k 0)) := by
      rw [htake, List.getElem?_map, List.getD_eq_getElem?_getD, List.getElem?_eq_getElem hk]; rfl
    rw [List.getElem?_take, if_pos hk, Array.getElem?_toList] at h1
    exact h1
  obtain ⟨W, hW⟩ : ∃ W, W = w.alloc (.cells #[.int .i64 u] 2) := ⟨_, rfl⟩
  have hgW : W.heap[g]? = some (.cells cur 2 (0, 0)) := by rw [hW, heap_alloc_old w _ hgl]; exact hg
  have hcW : ∀ k, W.cell? ⟨g, k, none⟩ = cur[k]? := fun k => cell_of_row W g k _ _ _ hgW
  have hfW : ∀ k, W.frozen? ⟨g, k, none⟩ = false := fun k => frozen_of_row W g k _ _ hgW
  have hgV : W.heap[w.heap.size]? = some (.cells #[.int .i64 u] 2 (0, 0)) := by rw [hW]; exact heap_alloc_new w _
  have hsz : (Try.prog.info? 2).map (·.size) = some 1 := by
    obtain ⟨i0, hi0, h0, h1, h2⟩ := info_parts infoI
    rw [hi0]; simp [h1]
  obtain ⟨n, hN⟩ : ∃ n, n = xs.length := ⟨_, rfl⟩
  obtain ⟨cs, hcsd⟩ : ∃ cs, cs = xs.map (Value.int .i64) := ⟨_, rfl⟩
  have hcl : cs.length = n := by rw [hcsd, hN]; simp
  have hdl : (cs.drop i).length = n - i := by rw [List.length_drop, hcl]
  have h1c : ∀ v ∈ cs, v.oneCell' = true := fun v hv => by
    rw [hcsd] at hv
    obtain ⟨x, _, rfl⟩ := List.mem_map.1 hv
    rfl
  have hov : ∀ lb cb, (callFunc 69 #[.slice (some ⟨w.heap.size, 0, none⟩) 1 1, .slice (some ⟨g, i + 1, none⟩) lb cb]).run Try.prog W = .ok (.value (.bool false)) W := fun lb cb => by
    rw [run_callFunc_extern Try.func69 (by kernel_rfl) (by kernel_rfl) (by kernel_rfl) (e := Extern.SlicesOverlaps.overlaps #[22, 22] #[4]) (by kernel_rfl),
      Lib.run_overlaps_apart W 22 4 2 Try.underlying22 1 Try.sizeOf2 ⟨w.heap.size, 0, none⟩ ⟨g, i + 1, none⟩ 1 1 lb cb (by show w.heap.size ≠ g; omega) 2 2 1 cap
        (by simp [World.shape?, hgV]) (by simp [World.shape?, hgW, hcs]) (by omega) (frozen_of_row W _ _ _ _ hgV) (frozen_of_row W _ _ _ _ hgV)]
    rfl
  rw [← hN] at hc hi
  have hcp1 : ∀ ty dc sc, (Builtin.copy_ #[22, 22] ty #[.slice (some ⟨g, i + 1, none⟩) (n - i) dc, .slice (some ⟨g, i, none⟩) (n + 1 - i) sc]).run Try.prog W.drew = .ok (goInt (cs.drop i).length) (W.drew.setCells g (i + 1) (cs.drop i)) := fun ty dc sc =>
    run_copy_cells W.drew _ _ ty 2 g (i + 1) (n - i) dc ⟨g, i, none⟩ (n + 1 - i) sc (cs.drop i) Try.underlying22 hsz (by rw [hdl]; simp only [Nat.min_def]; split <;> omega)
      (fun j v hj => by
        rw [Addr.add_lit]
        show W.cell? ⟨g, i + j, none⟩ = _
        rw [List.getElem?_drop] at hj
        have hlt : i + j < n := by rw [← hcl]; exact (List.getElem?_eq_some_iff.1 hj).1
        rw [hcW, hcur _ (by rw [← hN]; exact hlt), ← hj, hcsd, List.getElem?_map, List.getD_eq_getElem?_getD, List.getElem?_eq_getElem (by rw [← hN]; exact hlt)]; rfl)
      (fun j hj => by show (W.cell? _).isSome = true; rw [hcW, Array.getElem?_eq_getElem (by rw [hcs]; omega)]; rfl) (fun j hj => hfW _) (fun v hv => h1c v (List.mem_of_mem_drop hv))
  obtain ⟨W1, hW1⟩ : ∃ W1, W1 = W.drew.setCells g (i + 1) (cs.drop i) := ⟨_, rfl⟩
  have hgW1 : W1.heap[g]? = some (.cells (setAll cur (i + 1) (cs.drop i)) 2 (0, 0)) := by rw [hW1]; exact heap_setAll g _ _ _ _ _ hgW
  have hgV1 : W1.heap[w.heap.size]? = some (.cells #[.int .i64 u] 2 (0, 0)) := by
    rw [hW1, heap_setAll_other _ _ (by omega)]; exact hgV
  have hcp2 : ∀ (X : World), (∀ x, X.cell? x = W1.cell? x) → (∀ x, X.frozen? x = W1.frozen? x) → ∀ ty dc, (Builtin.copy_ #[22, 22] ty #[.slice (some ⟨g, i, none⟩) (n + 1 - i) dc, .slice (some ⟨w.heap.size, 0, none⟩) 1 1]).run Try.prog X = .ok (goInt 1) (X.setCells g i [.int .i64 u]) := fun X hXc hXf ty dc =>
    run_copy_cells X _ _ ty 2 g i (n + 1 - i) dc ⟨w.heap.size, 0, none⟩ 1 1 [.int .i64 u] Try.underlying22 hsz (by simp only [Nat.min_def, List.length_cons, List.length_nil]; split <;> omega)
      (fun j v hj => by
        rw [Addr.add_lit, hXc, cell_of_row W1 _ _ _ _ _ hgV1, ← hj]; simp)
      (fun j hj => by
        simp at hj
        rw [hXc, cell_of_row W1 _ _ _ _ _ hgW1, Array.getElem?_eq_getElem (by rw [setAll_size, hcs]; omega)]; rfl)
      (fun j hj => by rw [hXf]; exact frozen_of_row W1 _ _ _ _ hgW1) (fun v hv => by simp at hv; subst hv; rfl)
  rw [← hW1] at hcp1
  have hfin : Hid (∀ w', w' = W1.setCells g i [.int .i64 u] → Own w' B (.slice (some ⟨g, 0, none⟩) (n + 1) cap) (xs.take i ++ u :: xs.drop i) ∧ Below B w w') := by
    show ∀ w', _
    rintro w' rfl
    have hll : (xs.take i ++ u :: xs.drop i).length = n + 1 := by simp; omega
    refine ⟨?_, ?_⟩
    · show World.ownsRow _ _ _ _ _ (xs.take i ++ u :: xs.drop i).length _
      rw [hll]
      refine ⟨by rw [List.length_map, hll, Nat.mul_one], .inr ⟨g, cap, setAll (setAll cur (i + 1) (cs.drop i)) i [.int .i64 u], rfl, hBg, heap_setAll g _ _ _ _ _ hgW1, hc, hcm', by rw [setAll_size, setAll_size, hcs, Nat.mul_one], ?_⟩⟩
      rw [Nat.mul_one, hcsd, hN]
      exact take_ins cur xs i u (by omega) (by omega) fun k hk => hcur k (by omega)
    · refine below_setAll hBg _ _ _ ?_
      rw [hW1]
      refine below_setAll hBg _ _ _ ?_
      rw [hW]
      exact (((Below.refl B w).alloc hB _).drew)
  rw [← hN]
  rw [← hW]
  have mixed : Try.prog.follows .mixedOrders = true := by kernel_rfl
  clear hN hgW hcW hfW hgV hW1 hgW1 hgV1 hW hg hcur htake ho ho' hcs hcsd
  have hz2 : ¬ ((i : Int) = (n : Int)) := by omega
  have hw1 : IntKind.i64.wrap ((i : Int) + 1) = (i : Int) + 1 := by rw [IntKind.wrap_i64]; omega
  have hw2 : IntKind.i64.wrap ((n : Int) + 1) = (n : Int) + 1 := by rw [IntKind.wrap_i64]; omega
  have hb1 : (0 : Int) ≤ (i : Int) + 1 := by omega
  have hin : i ≤ n := by omega
  have htn : ((i : Int) + 1).toNat = i + 1 := by omega
  have htn2 : ((n : Int) + 1).toNat = n + 1 := by omega
  have hb2 : ¬ (cap = i + 1) := by omega
  have hb3 : (i : Int) ≤ (n : Int) + 1 := by omega
  have hb4 : ¬ (cap = i) := by omega
  go_enter Try.func40, Try.ntmps40
  go_wp2_with (simp only [hov])
  go_region_law_o (refine step_copy_runI rfl _ _ 22 22 rfl _ _ (by simp [Act.eval, Act.put]) (by simp [Act.eval, Act.put]) (hcp1 _ _ _) ?_)
  go_wp2_with (at_builtin; refine wpList_copy_runI _ rfl _ _ 22 22 rfl _ _ rfl rfl (hcp2 _ (fun _ => rfl) (fun _ => rfl) _ _) ?_)
  go_ret
  obtain ⟨f1, f2⟩ := hfin.out _ rfl
  exact ⟨_, rfl, f1, f2⟩
end Go.Proofs.Ytbajnkojjeakgaa.Tr
