/- The contract of the program's withElement: a rising list with one number more. -/
import Derived.Test.YtdjkmffekfbbcaaCput
import Derived.Test.YtdjkmffekfbbcaaCto
import Derived.Test.YtdjkmffekfbbcaaCshelf
import Derived.Laws.CopyOwn
import Derived.Deep.RegionLaw
import Derived.IntWalk
namespace Go.Proofs.Ytdjkmffekfbbcaa.Tr
open Go.RowKit
set_option maxRecDepth 100000
theorem ins_list {α : Type} (R X1 X2 : List α) (u : α) (h : R.length = X1.length + 1 + X2.length) : splice ((splice R 0 X1).set X1.length u) (X1.length + 1) X2 = X1 ++ u :: X2 := by
  have e1 : splice R 0 X1 = X1 ++ R.drop X1.length := by simp [splice]
  have e2 : R.drop X1.length = (R.drop X1.length).head (by intro hn; have := congrArg List.length hn; simp at this; omega) :: R.drop (X1.length + 1) := by
    conv => lhs; rw [← List.cons_head_tail (l := R.drop X1.length) (by intro hn; have := congrArg List.length hn; simp at this; omega)]
    rw [List.tail_drop]
  rw [e1, e2, List.set_append_right _ _ (Nat.le_refl _), Nat.sub_self, List.set_cons_zero]
  unfold splice
  have e3 : X1 ++ u :: R.drop (X1.length + 1) = (X1 ++ [u]) ++ R.drop (X1.length + 1) := by simp
  rw [e3, List.take_append_of_le_length (by simp), List.take_of_length_le (by simp), List.drop_eq_nil_of_le (by simp; omega)]
  simp
theorem addr_add (b off j : Nat) : (⟨b, off, none⟩ : Addr).add j = ⟨b, off + j, none⟩ := by
  unfold Addr.add
  by_cases h : j = 0 <;> simp [h]
theorem hcell {w : World} {g : Nat} {t : TypeId} {L : List Value} (h : w.heap[g]? = some (.cells L.toArray t (0, 0))) (j : Nat) (hj : j < L.length) : (∃ v, w.cell? ⟨g, j, none⟩ = some v) ∧ w.frozen? ⟨g, j, none⟩ = false := by
  constructor
  · exact ⟨L[j], by simp [World.cell?, h, hj]⟩
  · simp [World.frozen?, h]
theorem hset {w : World} {g : Nat} {t : TypeId} {L : List Value} (h : w.heap[g]? = some (.cells L.toArray t (0, 0))) (j : Nat) (v : Value) : (w.setCell ⟨g, j, none⟩ v).heap[g]? = some (.cells (L.set j v).toArray t (0, 0)) := by
  rw [heap_setCell_same w g j _ _ _ h]
  simp
def Gd (w : World) (g : Nat) (L : List Int) : Prop := w.heap[g]? = some (.cells (L.map (Value.int .i64)).toArray 2 (0, 0))
theorem Gd.own {w : World} {g : Nat} {L : List Int} (h : Gd w g L) (hl : L.length ≤ 1000000) : Own w g (.slice (some ⟨g, 0, none⟩) L.length L.length) L :=
  ⟨by simp, .inr ⟨g, L.length, _, rfl, Nat.le_refl _, h, Nat.le_refl _, by unfold maxLen; omega, by simp, by rw [Nat.mul_one]; exact List.take_of_length_le (by simp)⟩⟩
theorem Gd.of_made {w : World} {g n : Nat} {L : List Int} (h : w.ownsRow g 2 1 (.slice (some ⟨g, 0, none⟩) n n) n (L.map (Value.int .i64))) : Gd w g L := by
  rcases h.2 with ⟨hv, _⟩ | ⟨g', cap, cur, hv, _, hh, _, _, hs, ht⟩
  · cases hv
  · injection hv with h1 h2 h3
    injection h1 with h1
    injection h1 with h1
    subst h1 h3
    have e : cur.toList = L.map (Value.int .i64) := by
      rw [← ht, List.take_of_length_le]; simp; omega
    unfold Gd
    rw [hh, ← e]
theorem Gd.cell {w : World} {g : Nat} {L : List Int} (h : Gd w g L) (j : Nat) (hj : j < L.length) : w.cell? ⟨g, j, none⟩ = some (.int .i64 (L.getD j 0)) ∧ w.frozen? ⟨g, j, none⟩ = false := by
  unfold Gd at h
  constructor
  · simp [World.cell?, h, hj]
  · simp [World.frozen?, h]
theorem Gd.set {w : World} {g : Nat} {L : List Int} (h : Gd w g L) (j : Nat) (u : Int) : Gd (w.setCell ⟨g, j, none⟩ (.int .i64 u)) g (L.set j u) := by
  unfold Gd at h ⊢
  rw [heap_setCell_same w g j _ _ _ h]
  simp [List.map_set]
theorem Gd.below {w w' : World} {g C : Nat} {L : List Int} (h : Gd w g L) (hb : Below C w w') (hC : g < C) : Gd w' g L := by
  unfold Gd at h ⊢
  rw [hb.block g hC, h]
theorem bs_empty (a : Option Addr) (c : Nat) (n : Int) (w : World) :
    Calls Try.prog 70 #[.slice a 0 c, .int .i64 n] w fun e w' => e = .returned (.tuple #[.int .i64 0, .bool false]) ∧ w' = w := by
  go_enter Try.func70, Try.ntmps70
  go_wp2
  refine wp_loop_rounds 1 ?_
  rw [rounds_succ]
  go_wp2
  go_ret2
  exact ⟨rfl, rfl⟩
/-- slices.BinarySearch of a rising list, wherever it lies. -/
theorem bs_i (a : Option Addr) (c : Nat) (xs : List Int) (n : Int) (w : World) (hup : Up xs) (hl : xs.length ≤ 1000) (hr : Row w a xs) :
    Calls Try.prog 70 #[.slice a xs.length c, .int .i64 n] w fun e w' => e = .returned (.tuple #[.int .i64 (below xs n : Nat), .bool (xs.contains n)]) ∧ ∃ q, w' = w.drewN q := by
  cases hx : xs with
  | nil =>
    exact (bs_empty a c n w).mono fun e w' ⟨he, hw⟩ => ⟨by rw [he]; rfl, 0, by rw [hw]; rfl⟩
  | cons y ys =>
    rw [← hx]
    obtain ⟨b, off, rfl, _, _⟩ := hr 0 (by rw [hx]; simp)
    have hc : ∀ j, j < xs.length → w.cell? ⟨b, off + j, none⟩ = some (.int .i64 (xs.getD j 0)) := fun j hj => by
      obtain ⟨b', off', ha, hc, _⟩ := hr j hj
      injection ha with ha
      injection ha with e1 e2
      subst e1 e2
      exact hc
    have h := Try.slices_bs b off xs.length c xs n w (Nat.le_refl _) (by omega) hc (by rw [List.take_length]; exact hup.imp fun {p q} h => by omega)
    rw [List.take_length] at h
    exact h
theorem clone_i (a : Option Addr) (c : Nat) (xs : List Int) (w : World) (hpos : 0 < xs.length) (hl : xs.length ≤ 1000) (hr : Row w a xs) :
    Calls Try.prog 71 #[.slice a xs.length c] w (Lb xs w) := by
  obtain ⟨b, off, rfl, _, _⟩ := hr 0 hpos
  have hc : ∀ j, j < xs.length → w.cell? ⟨b, off + j, none⟩ = some (.int .i64 (xs.getD j 0)) := fun j hj => by
    obtain ⟨b', off', ha, hc, _⟩ := hr j hj
    injection ha with ha
    injection ha with e1 e2
    subst e1 e2
    exact hc
  have h := Try.slices_cl b off xs.length c xs w (Nat.le_refl _) (by omega) hc
  rw [List.take_length] at h
  exact h.mono fun e w' ⟨v, he, ho, _, hb⟩ => ⟨v, he, ho, hb⟩
theorem old_i (a : Option Addr) (c : Nat) (xs : List Int) (n : Int) (w : World) (hup : Up xs) (hl : xs.length ≤ 1000) (hm : n ∈ xs) (hr : Row w a xs) :
    Calls Try.prog 62 #[.slice a xs.length c, .int .i64 n] w (Lb (put xs n) w) := by
  have hB := Lib.hid (bs_i a c xs n w hup hl hr)
  have e : xs.contains n = true := by rw [List.contains_eq_mem]; exact decide_eq_true hm
  rw [e] at hB
  rw [put_old hup hm]
  have hpos : 0 < xs.length := List.length_pos_of_mem hm
  have hC := Lib.hid (fun q => clone_i a c xs (w.drewN q) hpos hl hr)
  clear hr e hm hup
  generalize below xs n = k at *
  go_enter Try.func62, Try.ntmps62
  go_wp2_with (first | (go_at_call 70; refine hB.out.mono ?_; rintro e w1 ⟨rfl, q, rfl⟩) | (go_at_call 71; refine (hC.out _).mono ?_; rintro e w2 ⟨v2, rfl, ho, hb⟩))
  go_ret
  exact ⟨_, rfl, ho, (below_drewN _ (Below.refl _ _)).trans hb⟩
theorem isz : (Try.prog.info? 2).map (·.size) = some 1 := by kernel_rfl
set_option maxHeartbeats 2000000 in
theorem new_i (b off : Nat) (c : Nat) (xs : List Int) (n : Int) (w : World) (hup : Up xs) (hl : xs.length ≤ 1000) (hcc : xs.length ≤ c) (hcm : c ≤ 9223372036854775807) (hm : n ∉ xs) (hr : Row w (some ⟨b, off, none⟩) xs) :
    Calls Try.prog 62 #[.slice (some ⟨b, off, none⟩) xs.length c, .int .i64 n] w (Lb (put xs n) w) := by
  have hB := Lib.hid (bs_i (some ⟨b, off, none⟩) c xs n w hup hl hr)
  have e : xs.contains n = false := by rw [List.contains_eq_mem]; exact decide_eq_false hm
  rw [e] at hB
  have hpn := put_new hup hm
  have hk := below_le xs n
  have hc : ∀ j, j < xs.length → w.cell? ⟨b, off + j, none⟩ = some (.int .i64 (xs.getD j 0)) ∧ b < w.heap.size := fun j hj => by
    obtain ⟨b', off', ha, hc, hb⟩ := hr j hj
    injection ha with ha
    injection ha with e1 e2
    subst e1 e2
    exact ⟨hc, hb⟩
  clear hr e hm hup
  generalize below xs n = k at *
  have hx1 : ((xs.take k).map (Value.int .i64)).length = k := by simp; omega
  have hx2 : ((xs.drop k).map (Value.int .i64)).length = xs.length - k := by simp
  have h11 : ∀ v ∈ (xs.take k).map (Value.int .i64), v.oneCell' = true := fun v hv => by obtain ⟨y, _, rfl⟩ := List.mem_map.1 hv; rfl
  have h12 : ∀ v ∈ (xs.drop k).map (Value.int .i64), v.oneCell' = true := fun v hv => by obtain ⟨y, _, rfl⟩ := List.mem_map.1 hv; rfl
  have hs1 : ∀ (w1 : World), Below w.heap.size w w1 → ∀ j v, ((xs.take k).map (Value.int .i64))[j]? = some v → w1.cell? ((⟨b, off, none⟩ : Addr).add j) = some v := fun w1 hb j v hv => by
    rw [List.getElem?_map, Option.map_eq_some_iff] at hv
    obtain ⟨y, hy, rfl⟩ := hv
    obtain ⟨hj, ey⟩ := List.getElem?_eq_some_iff.1 hy
    have hj' : j < k := by simp at hj; omega
    obtain ⟨h1, h2⟩ := hc j (by omega)
    have := (hb.cell (p := ⟨b, off + j, none⟩) h2).trans h1
    rw [getD_get' xs j (by omega)] at this
    rw [List.getElem_take] at ey
    rw [← ey]
    rw [addr_add]
    exact this
  have hs2 : ∀ (w1 : World), Below w.heap.size w w1 → ∀ j v, ((xs.drop k).map (Value.int .i64))[j]? = some v → w1.cell? ((⟨b, off + k, none⟩ : Addr).add j) = some v := fun w1 hb j v hv => by
    rw [List.getElem?_map, Option.map_eq_some_iff] at hv
    obtain ⟨y, hy, rfl⟩ := hv
    obtain ⟨hj, ey⟩ := List.getElem?_eq_some_iff.1 hy
    have hj' : k + j < xs.length := by simp at hj; omega
    obtain ⟨h1, h2⟩ := hc (k + j) hj'
    have := (hb.cell (p := ⟨b, off + (k + j), none⟩) h2).trans h1
    rw [getD_get' xs (k + j) hj'] at this
    rw [List.getElem_drop] at ey
    rw [← ey]
    rw [addr_add, Nat.add_assoc]
    exact this
  have HI := Lib.hid (fun (R : List Value) (h : R.length = xs.length + 1) => (ins_list R ((xs.take k).map (Value.int .i64)) ((xs.drop k).map (Value.int .i64)) (.int .i64 n) (by rw [hx1, hx2]; omega)))
  have HPN := Lib.hid (show (xs.take k).map (Value.int .i64) ++ .int .i64 n :: (xs.drop k).map (Value.int .i64) = (put xs n).map (Value.int .i64) by rw [hpn]; simp)
  have HPL := Lib.hid (show (put xs n).length = xs.length + 1 by rw [hpn]; simp; omega)
  clear hpn hc
  have HS1 := Lib.hid hs1
  have HS2 := Lib.hid hs2
  clear hs1 hs2
  obtain ⟨X1, hX1⟩ : ∃ X1, X1 = (xs.take k).map (Value.int .i64) := ⟨_, rfl⟩
  obtain ⟨X2, hX2⟩ : ∃ X2, X2 = (xs.drop k).map (Value.int .i64) := ⟨_, rfl⟩
  rw [← hX1] at hx1 h11 HS1 HI HPN
  rw [← hX2] at hx2 h12 HS2 HI HPN
  clear hX1 hX2
  generalize put xs n = ys at *
  obtain ⟨i0, hi, hz0, hz1, hz2⟩ := info_parts infoI
  generalize xs.length = N at *
  have HX1 := Lib.hid hx1
  have HX2 := Lib.hid hx2
  clear hx1 hx2
  go_enter Try.func62, Try.ntmps62
  go_wp2_with (first | (go_at_call 70; refine hB.out.mono ?_; rintro e w1 ⟨rfl, q, rfl⟩) | (at_make; refine wpList_make_full _ rfl _ _ 24 rfl w.heap.size 2 i0 (.int .i64 0) 1 Try.underlying24 hi hz0 hz1 .i64 .i64 ((N : Int) + 1) ((N : Int) + 1) (N + 1) ?_ ?_ (by omega) (by omega) ?_ ?_ ?_ ?_; rfl; rfl))
  · rw [hz2]; omega
  · unfold maxLen; omega
  · exact Nat.le_refl _
  intro w1 hown hgr
  have hG1 : Hid (w1.heap[w.heap.size]? = some (.cells (List.replicate (N + 1) (Value.int .i64 0)).toArray 2 (0, 0))) := by
    have hh := Gd.of_made (w := w1) (g := w.heap.size) (n := N + 1) (L := List.replicate (N + 1) 0) (by
      have e2 := made_zero (N + 1)
      have h3 : w1.ownsRow w.heap.size 2 1 (.slice (some ⟨w.heap.size, 0, none⟩) (N + 1) (N + 1)) (N + 1) (madeCells #[Value.int .i64 0] (N + 1)).toList := by simpa using hown
      rw [e2] at h3
      exact h3)
    unfold Gd at hh
    rw [List.map_replicate] at hh
    exact hh
  have hB1 : Below w.heap.size w w1 := (below_drewN _ (Below.refl _ _)).grown hgr (Nat.le_refl _) (by simp)
  clear hown hgr
  go_wp2_with (with_reducible refine wpList_copy_splice rfl (.tmp 21) (.tmp 24) 24 24 rfl 2 Try.underlying24 isz _ _ _ _ _ _ rfl rfl w.heap.size 0 (List.replicate (N + 1) (Value.int .i64 0)) 2 hG1.out X1 ?_ ?_ ?_ h11 w.heap.size w hB1 (Nat.le_refl _) ?_)
  · rw [HX1.out]; exact (Nat.min_eq_left (by omega)).symm
  · intro _; first | exact ⟨rfl, _, rfl, HS1.out w1 hB1⟩ | exact (fun j v h => by have := HS1.out w1 hB1 j v h; rwa [addr_add] at this)
  · rw [HX1.out, List.length_replicate]; omega
  intro w2 hG2 hB2
  have hl2 : (splice (List.replicate (N + 1) (Value.int .i64 0)) 0 X1).length = N + 1 := by rw [length_splice _ _ _ (by rw [HX1.out, List.length_replicate]; omega), List.length_replicate]
  obtain ⟨⟨old, hc2⟩, hf2⟩ := hcell hG2.out k (by rw [hl2]; omega)
  have hG3 := Lib.hid (hset hG2.out k (.int .i64 n))
  have hB3 := hB2.setCell (p := ⟨w.heap.size, k, none⟩) (Nat.le_refl _) (.int .i64 n)
  have HL2 := Lib.hid hl2
  clear hl2
  by_cases hkN : k = N
  · subst hkN
    have e9 : IntKind.i64.wrap ((k : Int) + 1) = (k : Int) + 1 := IntWalk.i64_in _ (by omega)
    have e8 : ((k : Int) + 1).toNat = k + 1 := by omega
    have e7 : (0 : Int) ≤ (k : Int) + 1 := by omega
    go_wp2
    go_region_law (refine step_copy_splice rfl (.tmp 33) (.tmp 36) 24 24 rfl 2 Try.underlying24 isz (some ⟨w.heap.size, 0, none⟩) (if c = k then some ⟨b, off, none⟩ else some ⟨b, off + k, none⟩) 0 0 0 (c - k) (by simp [Act.eval, Act.put]) (by simp [Act.eval, Act.put]) w.heap.size (k + 1) _ 2 hG3.out X2 (by rw [HX2.out]; simp) (fun h => by rw [HX2.out] at h; omega) (by rw [HX2.out]; simp; rw [HL2.out]; omega) h12 w.heap.size w hB3.drew (Nat.le_refl _) ?_; intro w4 hG4 hB4)
    go_wp2
    all_goals
      go_ret
      have hh := HI.out (List.replicate (k + 1) (Value.int .i64 0)) (by rw [List.length_replicate])
      rw [HX1.out] at hh
      have h4 : Gd w4 w.heap.size ys := by
        unfold Gd
        have h5 := hG4.out
        rw [hh, HPN.out] at h5
        exact h5
      have h6 := h4.own (by rw [HPL.out]; omega)
      rw [HPL.out] at h6
      exact ⟨_, rfl, h6, hB4⟩
  · have e9 : IntKind.i64.wrap ((k : Int) + 1) = (k : Int) + 1 := IntWalk.i64_in _ (by omega)
    have e8 : ((k : Int) + 1).toNat = k + 1 := by omega
    have e7 : (0 : Int) ≤ (k : Int) + 1 := by omega
    have e6 : (k : Int) + 1 ≤ (N : Int) + 1 := by omega
    have e5 : ¬ N = k := fun h => hkN h.symm
    have e4 : ¬ c = k := by omega
    have e3 : (k : Int) ≤ (N : Int) := by omega
    go_wp2
    go_region_law (refine step_copy_splice rfl (.tmp 33) (.tmp 36) 24 24 rfl 2 Try.underlying24 isz (some ⟨w.heap.size, k + 1, none⟩) (some ⟨b, off + k, none⟩) (N - k) (N - k) (N - k) (c - k) (by simp [Act.eval, Act.put]) (by simp [Act.eval, Act.put]) w.heap.size (k + 1) _ 2 hG3.out X2 (by rw [HX2.out]; simp) (fun _ => ⟨rfl, _, rfl, HS2.out _ hB3.drew⟩) (by rw [HX2.out]; simp; rw [HL2.out]; omega) h12 w.heap.size w hB3.drew (Nat.le_refl _) ?_; intro w4 hG4 hB4)
    go_wp2
    go_ret
    have hh := HI.out (List.replicate (N + 1) (Value.int .i64 0)) (by rw [List.length_replicate])
    rw [HX1.out] at hh
    have h4 : Gd w4 w.heap.size ys := by
      unfold Gd
      have h5 := hG4.out
      rw [hh, HPN.out] at h5
      exact h5
    have h6 := h4.own (by rw [HPL.out]; omega)
    rw [HPL.out] at h6
    exact ⟨_, rfl, h6, hB4⟩
set_option maxHeartbeats 1000000 in
theorem none_i (c : Nat) (n : Int) (w : World) (hcm : c ≤ 9223372036854775807) :
    Calls Try.prog 62 #[.slice none ([] : List Int).length c, .int .i64 n] w (Lb (put [] n) w) := by
  have hB := Lib.hid ((bs_empty none c n w).mono (R' := fun e w' => e = .returned (.tuple #[.int .i64 0, .bool false]) ∧ w = w') fun e w' ⟨he, hw⟩ => ⟨he, hw.symm⟩)
  obtain ⟨i0, hi, hz0, hz1, hz2⟩ := info_parts infoI
  show Calls _ _ #[.slice none 0 c, .int .i64 n] w (Lb [n] w)
  have e9 : IntKind.i64.wrap (1 : Int) = 1 := by decide
  have h00 : ∀ v ∈ ([] : List Value), v.oneCell' = true := fun v hv => by cases hv
  go_enter Try.func62, Try.ntmps62
  go_wp2_with (first | (go_at_call 70; refine hB.out.mono ?_; rintro e w1 ⟨rfl, rfl⟩) | (at_make; refine wpList_make_full _ rfl _ _ 24 rfl w.heap.size 2 i0 (.int .i64 0) 1 Try.underlying24 hi hz0 hz1 .i64 .i64 1 1 1 ?_ ?_ (by omega) (by omega) ?_ ?_ ?_ ?_; rfl; rfl))
  · rw [hz2]; omega
  · unfold maxLen; omega
  · exact Nat.le_refl _
  intro w1 hown hgr
  have hG1 : Hid (w1.heap[w.heap.size]? = some (.cells [Value.int .i64 0].toArray 2 (0, 0))) := by
    have hh := Gd.of_made (w := w1) (g := w.heap.size) (n := 1) (L := List.replicate 1 0) (by
      have e2 := made_zero 1
      have h3 : w1.ownsRow w.heap.size 2 1 (.slice (some ⟨w.heap.size, 0, none⟩) 1 1) 1 (madeCells #[Value.int .i64 0] 1).toList := by simpa using hown
      rw [e2] at h3
      exact h3)
    exact hh
  have hB1 : Below w.heap.size w w1 := (Below.refl _ _).grown hgr (Nat.le_refl _) (by simp)
  clear hown hgr
  go_wp2_with (with_reducible refine wpList_copy_splice rfl (.tmp 21) (.tmp 24) 24 24 rfl 2 Try.underlying24 isz _ _ _ _ _ _ rfl rfl w.heap.size 0 [Value.int .i64 0] 2 hG1.out [] ?_ ?_ ?_ h00 w.heap.size w hB1 (Nat.le_refl _) ?_)
  · rfl
  · exact Nat.zero_le _
  intro w2 hG2 hB2
  have e2 : splice [Value.int .i64 0] 0 [] = [Value.int .i64 0] := rfl
  rw [e2] at hG2
  obtain ⟨⟨old, hc2⟩, hf2⟩ := hcell hG2.out 0 (by simp)
  have hG3 := Lib.hid (hset hG2.out 0 (.int .i64 n))
  have hB3 := hB2.setCell (p := ⟨w.heap.size, 0, none⟩) (Nat.le_refl _) (.int .i64 n)
  clear e2
  go_wp2
  go_region_law (refine step_copy_splice rfl (.tmp 33) (.tmp 36) 24 24 rfl 2 Try.underlying24 isz (some ⟨w.heap.size, 0, none⟩) none 0 0 0 c (by simp [Act.eval, Act.put]) (by simp [Act.eval, Act.put]) w.heap.size 1 _ 2 hG3.out [] rfl (fun h => by simp at h) (by simp) h00 w.heap.size w hB3.drew (Nat.le_refl _) ?_; intro w4 hG4 hB4)
  go_wp2
  all_goals
    go_ret
    have h4 : Gd w4 w.heap.size [n] := hG4.out
    exact ⟨_, rfl, h4.own (by simp), hB4⟩
theorem wide_any (a : Option Addr) (c : Nat) (xs : List Int) (n : Int) (w : World) (hup : Up xs) (hl : xs.length ≤ 1000) (hcc : xs.length ≤ c) (hcm : c ≤ 9223372036854775807) (hf : a = none ∨ ∃ b off, a = some ⟨b, off, none⟩) (hr : Row w a xs) :
    Calls Try.prog 62 #[.slice a xs.length c, .int .i64 n] w (Lb (put xs n) w) := by
  by_cases hm : n ∈ xs
  · exact old_i a c xs n w hup hl hm hr
  · rcases hf with rfl | ⟨b, off, rfl⟩
    · have e : xs = [] := by
        cases xs with
        | nil => rfl
        | cons y ys => obtain ⟨b, off, h, _⟩ := hr 0 (by simp); cases h
      subst e
      exact none_i c n w hcm
    · exact new_i b off c xs n w hup hl hcc hcm hm hr
theorem wide_R {v : Value} {xs : List Int} {w : World} (n : Int) (h : Rd w v xs) (hup : Up xs) (hl : xs.length ≤ 1000) : Calls Try.prog 62 #[v, .int .i64 n] w (Lb (put xs n) w) := by
  obtain ⟨a, c, rfl, h1, h2, hr⟩ := h
  exact wide_any a c xs n w hup hl h1 h2.1 h2.2 hr
end Go.Proofs.Ytdjkmffekfbbcaa.Tr
