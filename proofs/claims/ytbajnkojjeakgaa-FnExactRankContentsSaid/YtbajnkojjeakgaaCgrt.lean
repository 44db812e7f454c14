/- The address with the greatest rank, and the program's set without it. -/
import Derived.Test.YtbajnkojjeakgaaPlainMem
import Derived.Test.YtbajnkojjeakgaaCshelf
import Derived.Test.YtbajnkojjeakgaaCins
import Derived.Test.YtbajnkojjeakgaaCrk
import Derived.Deep.QuietTactic
import Derived.BigQuiet
namespace Go.Proofs.Ytbajnkojjeakgaa.Tr
open Go.RowKit Go.Lib
def Nwv (n : Int) (w : World) (e : Ending) (w' : World) : Prop := e = .returned (.int .i64 n) ∧ w = w'
def cmpv (a b : Int) : Int := if a < b then -1 else if b < a then 1 else 0
theorem cmpv_pos (a b : Int) : decide (0 < cmpv a b) = decide (b < a) := by
  unfold cmpv
  by_cases h : a < b
  · rw [if_pos h, decide_eq_false (show ¬ b < a by omega)]; rfl
  · rw [if_neg h]
    by_cases h2 : b < a
    · rw [if_pos h2, decide_eq_true h2]; rfl
    · rw [if_neg h2, decide_eq_false h2]; rfl
theorem nanv_i (a : Int) (w : World) : Calls Try.prog 80 #[.int .i64 a] w (Bl false w) := by
  go_enter Try.func80, Try.ntmps80
  go_wp2
  go_ret
  exact ⟨ret_bool (by simp), rfl⟩
theorem cmpv_i (a b : Int) (w : World) : Calls Try.prog 68 #[.int .i64 a, .int .i64 b] w (Nwv (cmpv a b) w) := by
  have hA := Lib.hid (nanv_i a w)
  have hB := Lib.hid (nanv_i b w)
  unfold cmpv
  by_cases h : a < b
  · rw [if_pos h]
    go_enter Try.func68, Try.ntmps68
    go_wp2_with (go_at_call 80; first | ((with_reducible refine hA.out.mono ?_); rintro e w' ⟨rfl, rfl⟩) | ((with_reducible refine hB.out.mono ?_); rintro e w' ⟨rfl, rfl⟩))
    go_ret
    exact ⟨rfl, rfl⟩
  · rw [if_neg h]
    by_cases h2 : b < a
    · rw [if_pos h2]
      go_enter Try.func68, Try.ntmps68
      go_wp2_with (go_at_call 80; first | ((with_reducible refine hA.out.mono ?_); rintro e w' ⟨rfl, rfl⟩) | ((with_reducible refine hB.out.mono ?_); rintro e w' ⟨rfl, rfl⟩))
      go_ret
      exact ⟨rfl, rfl⟩
    · rw [if_neg h2]
      go_enter Try.func68, Try.ntmps68
      go_wp2_with (go_at_call 80; first | ((with_reducible refine hA.out.mono ?_); rintro e w' ⟨rfl, rfl⟩) | ((with_reducible refine hB.out.mono ?_); rintro e w' ⟨rfl, rfl⟩))
      go_ret
      exact ⟨rfl, rfl⟩
theorem byrank_i (Z br offr cr : Nat) (rs : List Int) (x y : Nat) (w : World) (hx : x < 64) (hy : y < 64) (hZ : w.cell? ⟨Z, 0, none⟩ = some (.slice (some ⟨br, offr, none⟩) 64 cr))
    (hr : ∀ j, j < 64 → w.cell? ⟨br, offr + j, none⟩ = some (.int .i64 (rs.getD j 0))) :
    Calls Try.prog 67 #[.int .i64 (x : Nat), .int .i64 (y : Nat), .pointer (some ⟨Z, 0, none⟩)] w fun e w' => e = .returned (.int .i64 (cmpv (rs.getD x 0) (rs.getD y 0))) ∧ ∃ q, w' = w.drewN q := by
  have c1 := hr x hx
  have c2 := hr y hy
  have hx' : (x : Int) < 64 := by omega
  have hy' : (y : Int) < 64 := by omega
  have hC := Lib.hid (fun n => (cmpv_i (rs.getD x 0) (rs.getD y 0) (w.drewN n)).mono (R' := fun e w' => e = .returned (.int .i64 (cmpv (rs.getD x 0) (rs.getD y 0))) ∧ ∃ m, w' = w.drewN m) fun e w' ⟨he, hw⟩ => ⟨he, n, hw.symm⟩)
  clear hr
  generalize cmpv (rs.getD x 0) (rs.getD y 0) = z at *
  generalize rs.getD x 0 = u at *
  generalize rs.getD y 0 = v at *
  go_enter Try.func67, Try.ntmps67
  go_wp2
  go_quiet (exact hC.out _)
  go_wp2
  go_ret
  exact ⟨rfl, _, rfl⟩
/-- A set as the kit has it: its numbers are below 64. -/
def toF (x : Int) : Fin 64 := Fin.ofNat 64 x.toNat
def ofF (x : Fin 64) : Value := .int .i64 (x.val : Nat)
theorem ofF_toF (x : Int) (h : 0 ≤ x ∧ x ≤ 63) : ((toF x).val : Int) = x := by
  have e : (toF x).val = x.toNat % 64 := rfl
  rw [e]; omega
def rowF (s : List Int) : Array (Fin 64) := (s.map toF).toArray
def cfF (rs : List Int) (x y : Fin 64) : Int := cmpv (rs.getD x.val 0) (rs.getD y.val 0)
/-- The address with the greatest rank. -/
def grt (rs s : List Int) : Int := ((Lib.pickBy (fun x m => decide (0 < cfF rs x m)) (rowF s) ((rowF s).size - 1)).val : Nat)
theorem pick_max (rs : List Int) (d : Array (Fin 64)) (i : Nat) : (∃ j, j ≤ i ∧ Lib.pickBy (fun x m => decide (0 < cfF rs x m)) d i = d[j]!) ∧ ∀ j, j ≤ i → rs.getD (d[j]!).val 0 ≤ rs.getD (Lib.pickBy (fun x m => decide (0 < cfF rs x m)) d i).val 0 := by
  induction i with
  | zero =>
    refine ⟨⟨0, Nat.le_refl _, rfl⟩, fun j hj => ?_⟩
    have e : j = 0 := by omega
    subst e
    exact Int.le_refl _
  | succ i ih =>
    obtain ⟨⟨j0, hj0, e0⟩, hm⟩ := ih
    unfold Lib.pickBy
    have hc : decide (0 < cfF rs d[i + 1]! (Lib.pickBy (fun x m => decide (0 < cfF rs x m)) d i)) = decide (rs.getD (Lib.pickBy (fun x m => decide (0 < cfF rs x m)) d i).val 0 < rs.getD (d[i + 1]!).val 0) := cmpv_pos _ _
    simp only [hc]
    generalize Lib.pickBy (fun x m => decide (0 < cfF rs x m)) d i = p at *
    by_cases h : rs.getD p.val 0 < rs.getD (d[i + 1]!).val 0
    · rw [decide_eq_true h, if_pos rfl]
      refine ⟨⟨i + 1, Nat.le_refl _, rfl⟩, fun j hj => ?_⟩
      rcases Nat.lt_or_ge i j with h2 | h2
      · have e : j = i + 1 := by omega
        subst e; exact Int.le_refl _
      · have := hm j h2; omega
    · rw [decide_eq_false h, if_neg (by simp)]
      refine ⟨⟨j0, by omega, e0⟩, fun j hj => ?_⟩
      rcases Nat.lt_or_ge i j with h2 | h2
      · have e : j = i + 1 := by omega
        subst e; omega
      · exact hm j h2
theorem rowF_size (s : List Int) : (rowF s).size = s.length := by simp [rowF]
theorem rowF_get (s : List Int) (j : Nat) (hj : j < s.length) : (rowF s)[j]! = toF (s.getD j 0) := by
  rw [getElem!_pos (rowF s) j (by rw [rowF_size]; exact hj)]
  simp [rowF, List.getD_eq_getElem?_getD, List.getElem?_eq_getElem hj]
theorem grt_max (rs s : List Int) (h0 : 0 < s.length) (hs : ∀ y ∈ s, 0 ≤ y ∧ y ≤ 63) : grt rs s ∈ s ∧ ∀ y ∈ s, rkn rs y ≤ rkn rs (grt rs s) := by
  have h := pick_max rs (rowF s) ((rowF s).size - 1)
  unfold grt
  generalize Lib.pickBy (fun x m => decide (0 < cfF rs x m)) (rowF s) ((rowF s).size - 1) = p at *
  rw [rowF_size] at h
  obtain ⟨⟨j, hj, e⟩, hm⟩ := h
  have hjl : j < s.length := by omega
  rw [rowF_get s j hjl] at e
  have hmem : s.getD j 0 ∈ s := by rw [getD_get' s j hjl]; exact List.getElem_mem hjl
  have e2 : ((p.val : Nat) : Int) = s.getD j 0 := by rw [e]; exact ofF_toF _ (hs _ hmem)
  refine ⟨by rw [e2]; exact hmem, fun y hy => ?_⟩
  obtain ⟨i, hi, e3⟩ := List.getElem_of_mem hy
  have q := hm i (by omega)
  rw [rowF_get s i hi, getD_get' s i hi, e3] at q
  have e4 : (toF y).val = y.toNat := by have := ofF_toF y (hs y hy); omega
  rw [e4] at q
  unfold rkn
  exact q
theorem max_i {B g cap Z br offr cr : Nat} {rs s : List Int} {w : World} (h0 : 0 < s.length) (hn : s.length ≤ 1000) (hs : ∀ y ∈ s, 0 ≤ y ∧ y ≤ 63) (ho : Own w B (.slice (some ⟨g, 0, none⟩) s.length cap) s)
    (hZ : w.cell? ⟨Z, 0, none⟩ = some (.slice (some ⟨br, offr, none⟩) 64 cr)) (hZg : Z ≠ g) (hbg : br ≠ g)
    (hr : ∀ j, j < 64 → w.cell? ⟨br, offr + j, none⟩ = some (.int .i64 (rs.getD j 0))) :
    Calls Try.prog 66 #[.slice (some ⟨g, 0, none⟩) s.length cap, .func (.func 67) #[] #[.pointer (some ⟨Z, 0, none⟩)]] w fun e w' => e = .returned (.int .i64 (grt rs s)) ∧ Below w.heap.size w w' := by
  obtain ⟨hg, hcell, hfz⟩ : g < w.heap.size ∧ (∀ i, i < s.length → w.cell? ⟨g, i, none⟩ = some (.int .i64 (s.getD i 0))) ∧ ∀ i, w.frozen? ⟨g, i, none⟩ = false := by
    rcases ho.cases with ⟨hv, _⟩ | ⟨g', cap', hv, _, hg, _, hc, hf⟩
    · cases hv
    · cases hv; exact ⟨hg, hc, hf⟩
  have hmem : ∀ i, i < s.length → s.getD i 0 ∈ s := fun i hi => by rw [getD_get' s i hi]; exact List.getElem_mem hi
  have hH : Sort.Holds ofF w g 0 (rowF s) := fun j hj => by
    rw [rowF_size] at hj
    rw [Nat.zero_add, rowF_get s j hj]
    refine ⟨?_, hfz j⟩
    rw [hcell j hj]
    show _ = some (Value.int .i64 (((toF (s.getD j 0)).val : Nat) : Int))
    rw [ofF_toF _ (hs _ (hmem j hj))]
  have hZl : Z < w.heap.size := World.block_lt_of_cell? w _ hZ
  have hbl : br < w.heap.size := World.block_lt_of_cell? w _ (hr 0 (by omega))
  have hcmp : CmpLays1 Try.prog 67 #[.pointer (some ⟨Z, 0, none⟩)] ofF (cfF rs) g 0 (rowF s).size w := fun m os dk _ x y => by
    have hc : ∀ (a : Addr), a.block ≠ g → a.block < w.heap.size → (sortWorld ofF w g 0 m dk os).cell? a = w.cell? a := fun a ha hl => by
      have e : sortWorld ofF w g 0 m dk os = Sort.putRow ofF (Sort.grow (Sort.ahead w m) os) g 0 dk := by
        unfold sortWorld; rw [Sort.putRow_grow _ (Sort.ahead w m) _ g 0 _ hg]
      rw [e, Sort.cell?_putRow_other _ _ g 0 dk _ (.inl ha), Sort.cell?_grow _ _ _ (by exact hl)]; rfl
    refine (byrank_i Z br offr cr rs x.val y.val _ x.isLt y.isLt ((hc ⟨Z, 0, none⟩ hZg hZl).trans hZ) (fun j hj => (hc ⟨br, offr + j, none⟩ hbg hbl).trans (hr j hj))).mono ?_
    rintro e w' ⟨he, q, hq⟩
    exact ⟨he, q, #[], by rw [hq, Sort.grow_empty]⟩
  have h := Any.slices_MaxFunc Try.laysMax ofF (fun _ => rfl) (cfF rs) 67 #[.pointer (some ⟨Z, 0, none⟩)] g 0 cap (rowF s) w (fun args w => by kernel_rfl) hcmp hH hg (by rw [rowF_size]; omega) (by rw [rowF_size]; exact h0)
  rw [rowF_size] at h
  refine h.mono ?_
  rintro e w' ⟨he, m, os, hw⟩
  refine ⟨by rw [he]; unfold grt; rw [rowF_size]; rfl, ?_⟩
  have e1 : w' = Sort.grow (Sort.ahead w m) os := by
    rw [hw]; unfold sortWorld
    rw [Sort.putRow_self ofF (Sort.ahead w m) g 0 (rowF s) hH]
  rw [e1]
  exact ⟨rfl, rfl, rfl, by show _ ≤ (w.heap ++ os).size; rw [Array.size_append]; omega, fun k hk => by show (w.heap ++ os)[k]? = _; rw [Array.getElem?_append_left hk]⟩
end Go.Proofs.Ytbajnkojjeakgaa.Tr
