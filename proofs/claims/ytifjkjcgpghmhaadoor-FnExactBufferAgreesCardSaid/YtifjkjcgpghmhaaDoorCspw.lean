/- The entry of a page: the model's l08Walk and the program's entryOf. -/
import Derived.Test.YtifjkjcgpghmhaaDoorCspm
import Derived.Test.YtifjkjcgpghmhaaDoorCspo
namespace Go.Proofs.YtifjkjcgpghmhaaDoor.Sp
open Go.RowKit
/-- The entry of a page as the tables have it. -/
def entAt (root : List Int) (tss : List (List TE)) (P : Nat) : TE := if root.getD (P / 8) 0 < 0 then emp else (tss.getD (root.getD (P / 8) 0).toNat []).getD (P % 8) dE
def OkT (root : List Int) (tss : List (List TE)) : Prop := root.length = 8 ∧ (∀ j, j < 8 → -1 ≤ root.getD j 0 ∧ root.getD j 0 ≤ (tss.length : Int) - 1) ∧ (∀ k, k < tss.length → (tss.getD k []).length = 8) ∧ tss.length ≤ 8
theorem okTab_ok {root : List Int} {tss : List (List TE)} (h : okTab root tss = true) : OkT root tss := by
  obtain ⟨h1, h2, h3⟩ := okTab_row h
  refine ⟨h1, fun j hj => ?_, h3, h2⟩
  unfold okTab at h
  simp only [Bool.and_eq_true, decide_eq_true_eq, List.all_eq_true, List.mem_range] at h
  have := h.2.2 _ (mem_getD root j (by omega))
  simpa [inR] using this
theorem ents_ok {tss : List (List TE)} (h : okEnts tss = true) (k j : Nat) (hk : k < tss.length) (hj : j < (tss.getD k []).length) : (tss.getD k []).getD j dE = emp ∨ isF ((tss.getD k []).getD j dE).1 = true := by
  have h0 : ∃ s0, tabF (some []) (tss.take k) = some s0 := by
    cases e : tabF (some []) (tss.take k) with
    | some s => exact ⟨s, rfl⟩
    | none => exfalso; unfold okEnts at h; rw [tabF_split _ _ k, e, tabF_none] at h; cases h
  obtain ⟨s0, h0⟩ := h0
  have h1 : ∃ s1, rowF (some s0) ((tss.getD k []).take j) = some s1 := by
    cases e : rowF (some s0) ((tss.getD k []).take j) with
    | some s => exact ⟨s, rfl⟩
    | none =>
      exfalso
      unfold okEnts at h
      rw [tabF_split _ _ (k + 1), tabF_succ _ _ _ hk, h0, rowF_split _ _ j, e, rowF_none, tabF_none] at h
      cases h
  obtain ⟨s1, h1⟩ := h1
  generalize he : (tss.getD k []).getD j dE = u at *
  by_cases e1 : u = emp
  · exact .inl e1
  · cases hF : isF u.1
    · have := okEnts_no tss k j hk hj s0 s1 h0 h1 (by rw [he]; exact eOk_no s1 u.1 u.2.1 u.2.2.1 u.2.2.2 e1 (.inl hF))
      rw [h] at this; cases this
    · exact .inr rfl
/-- An entry of a valid space is that of no page, or has a frame. -/
theorem entAt_ok {root : List Int} {tss : List (List TE)} (ht : OkT root tss) (he : okEnts tss = true) (P : Nat) (hP : P < 64) : entAt root tss P = emp ∨ (0 ≤ (entAt root tss P).1 ∧ (entAt root tss P).1 ≤ 15) := by
  unfold entAt
  obtain ⟨h1, h2, h3, _⟩ := ht
  have hk := h2 (P / 8) (by omega)
  by_cases h0 : root.getD (P / 8) 0 < 0
  · rw [if_pos h0]; exact .inl rfl
  · rw [if_neg h0]
    have hT : (root.getD (P / 8) 0).toNat < tss.length := by omega
    have hl := h3 _ hT
    rcases ents_ok he _ (P % 8) hT (by omega) with h | h
    · exact .inl h
    · exact .inr (by simpa [isF] using h)
def EnP (e : TE) (w : World) (x : Ending) (w' : World) : Prop := x = .returned (.agg #[.int .i64 e.1, .bool e.2.1, .bool e.2.2.1, .bool e.2.2.2]) ∧ Below w.heap.size w w'
theorem emp_s (w : World) : Calls Tryd.prog 54 #[] w (UnP w) := by
  go_enter Tryd.func54, Tryd.ntmps54
  go_wp2
  refine bodyPost_ret (v := .agg #[.int .i64 (-1), .bool false, .bool false, .bool false]) (by simp [results, Tryd.results54, go_sem]) rfl ?_
  exact ⟨rfl, (Below.refl _ _).alloc (Nat.le_refl _) _⟩
/-- The cells that an entry is read from. -/
def EntC (w : World) (a1 a2 : Option Addr) (root : List Int) (tss : List (List TE)) (P : Nat) : Prop :=
  ∃ b1 o1, a1 = some ⟨b1, o1, none⟩ ∧ w.cell? ⟨b1, o1 + P / 8, none⟩ = some (.int .i64 (root.getD (P / 8) 0)) ∧ (0 ≤ root.getD (P / 8) 0 → ∃ b2 o2 A C, a2 = some ⟨b2, o2, none⟩ ∧ root.getD (P / 8) 0 < tss.length ∧ w.cell? ⟨b2, o2 + (root.getD (P / 8) 0).toNat, none⟩ = some (.slice A 8 C) ∧
    ∃ b3 o3, A = some ⟨b3, o3, none⟩ ∧ w.cell? ⟨b3, o3 + P % 8 * 4, none⟩ = some (.int .i64 (entAt root tss P).1) ∧ w.cell? ⟨b3, o3 + P % 8 * 4 + 1, none⟩ = some (.bool (entAt root tss P).2.1) ∧ w.cell? ⟨b3, o3 + P % 8 * 4 + 2, none⟩ = some (.bool (entAt root tss P).2.2.1) ∧
      w.cell? ⟨b3, o3 + P % 8 * 4 + 3, none⟩ = some (.bool (entAt root tss P).2.2.2))
theorem entC {w : World} {a1 a2 : Option Addr} {root : List Int} {tss : List (List TE)} (hr : Row w a1 root) (ht : En.RdT w a2 tss) (ok : OkT root tss) (P : Nat) (hP : P < 64) : EntC w a1 a2 root tss P := by
  obtain ⟨k1, k2, k3, _⟩ := ok
  obtain ⟨b1, o1, e1, c1, _⟩ := hr (P / 8) (by omega)
  refine ⟨b1, o1, e1, c1, fun h0 => ?_⟩
  have hk := k2 (P / 8) (by omega)
  have hT : (root.getD (P / 8) 0).toNat < tss.length := by omega
  obtain ⟨b2, o2, A, C, e2, c2, hrd, _⟩ := ht.2 _ hT
  rw [k3 _ hT] at c2
  obtain ⟨b3, o3, e3, d0, d1, d2, d3, _⟩ := hrd (P % 8) (by rw [k3 _ hT]; omega)
  have he : entAt root tss P = (tss.getD (root.getD (P / 8) 0).toNat []).getD (P % 8) dE := by unfold entAt; rw [if_neg (by omega)]
  rw [he]
  exact ⟨b2, o2, A, C, e2, by omega, c2, b3, o3, e3, d0, d1, d2, d3⟩
theorem slT_rdT {w : World} {B n c : Nat} {a : Option Addr} {vs : List Value} {tss : List (List RE)} (h : w.ownsRow B 79 1 (.slice a n c) tss.length vs) (hs : SlT w vs tss) : En.RdT w a tss := by
  rcases h.2 with ⟨hv, hn⟩ | ⟨g, cap, cur, hv, hB, hg, hnc, hcm, _⟩
  · exact ⟨by omega, fun i hi => by omega⟩
  · injection hv with e1 e2 e3
    subst e1 e2 e3
    refine ⟨by unfold maxLen at hcm; omega, fun i hi => ?_⟩
    obtain ⟨A, C, e, hr, hm⟩ := hs.2 i hi
    refine ⟨g, 0, A, C, rfl, ?_, hr, hm, (Array.getElem?_eq_some_iff.1 hg).1⟩
    rw [Nat.zero_add, World.ownsRow.cellAt h i (by omega), e]
set_option maxRecDepth 100000 in
set_option maxHeartbeats 4000000 in
theorem walk_s (p N : Nat) (a1 a2 : Option Addr) (c1 c2 : Nat) (root : List Int) (tss : List (List TE)) (w : World) (hN : tss.length = N) (h0 : w.cell? ⟨p, 0, none⟩ = some (.slice a1 8 c1)) (h1 : w.cell? ⟨p, 1, none⟩ = some (.slice a2 N c2)) (P : Nat) (hP : P < 64) (hc : EntC w a1 a2 root tss P) (hN8 : N ≤ 8) :
    Calls Tryd.prog 30 #[.pointer (some ⟨p, 0, none⟩), .int .i64 (P : Nat)] w (EnP (entAt root tss P) w) := by
  obtain ⟨b1, o1, rfl, cr, hT⟩ := hc
  have hE := Lib.hid (fun w => emp_s w)
  have hp := World.block_lt_of_cell? w _ h0
  have l1 : b1 < w.heap.size := World.block_lt_of_cell? w _ cr
  have hq : (P : Int) / 8 = ((P / 8 : Nat) : Int) := by omega
  have hm : (P : Int) % 8 = ((P % 8 : Nat) : Int) := by omega
  have hk8 : P / 8 < 8 := by omega
  have hr8 : P % 8 < 8 := by omega
  by_cases hu : root.getD (P / 8) 0 < 0
  · have he : entAt root tss P = emp := by unfold entAt; rw [if_pos hu]
    rw [he]
    clear he hT
    generalize root.getD (P / 8) 0 = u at *
    generalize hkk : P / 8 = k at *
    have bz := Blk.newAt w w.heap.size [.int .i64 0, .bool false, .bool false, .bool false] 37 rfl
    have b0 := (Below.refl w.heap.size w).alloc (Nat.le_refl _) (.cells [.int .i64 0, .bool false, .bool false, .bool false].toArray 37)
    have HZ := Lib.hid (fun (w' : World) (bb : Below (w.alloc (.cells [.int .i64 0, .bool false, .bool false, .bool false].toArray 37)).heap.size (w.alloc (.cells [.int .i64 0, .bool false, .bool false, .bool false].toArray 37)) w') => (⟨bz.below bb bz.lt, bt b0 bb⟩ : _ ∧ _))
    clear bz b0
    go_enter Tryd.func30, Tryd.ntmps30
    go_wp2_with fail
    refine (hE.out _).mono ?_; rintro e w1 ⟨rfl, b1⟩
    obtain ⟨y, hB⟩ := HZ.out w1 b1
    have z0 : w1.cell? ⟨w.heap.size, 0, none⟩ = some (.int .i64 0) := y.cell 0
    have z1 : w1.cell? ⟨w.heap.size, 1, none⟩ = some (.bool false) := y.cell 1
    have z2 : w1.cell? ⟨w.heap.size, 2, none⟩ = some (.bool false) := y.cell 2
    have z3 : w1.cell? ⟨w.heap.size, 3, none⟩ = some (.bool false) := y.cell 3
    have g0 := y.froz 0
    have g1 := y.froz 1
    have g2 := y.froz 2
    have g3 := y.froz 3
    have HB := Lib.hid (fun (v0 v1 v2 v3 : Value) => (((hB.setCell (p := ⟨w.heap.size, 0, none⟩) (Nat.le_refl _) v0).setCell (p := ⟨w.heap.size, 1, none⟩) (Nat.le_refl _) v1).setCell (p := ⟨w.heap.size, 2, none⟩) (Nat.le_refl _) v2).setCell (p := ⟨w.heap.size, 3, none⟩) (Nat.le_refl _) v3)
    clear y hB b1 HZ
    go_wp2
    refine bodyPost_ret (v := .agg #[.int .i64 (-1), .bool false, .bool false, .bool false]) (by simp [results, Tryd.results30, go_sem, z0, z1, z2, z3, g0, g1, g2, g3]) rfl ?_
    exact ⟨rfl, HB.out _ _ _ _⟩
  · obtain ⟨b2, o2, A, C, rfl, hlt, c2', b3, o3, rfl, d0, d1, d2, d3⟩ := hT (by omega)
    obtain ⟨T, hT⟩ : ∃ T : Nat, root.getD (P / 8) 0 = (T : Int) := ⟨(root.getD (P / 8) 0).toNat, by omega⟩
    rw [hT] at hu hlt c2' cr
    have hTN : T < N := by omega
    rw [Int.toNat_natCast] at c2'
    have l2 : b2 < w.heap.size := World.block_lt_of_cell? w _ c2'
    have l3 : b3 < w.heap.size := World.block_lt_of_cell? w _ d0
    generalize entAt root tss P = e at *
    obtain ⟨f, wt, us, di⟩ := e
    have hT8 : (T : Int) < 8 := by omega
    generalize hkk : P / 8 = k at *
    generalize hrr : P % 8 = r at *
    clear hT hlt hN
    go_enter Tryd.func30, Tryd.ntmps30
    go_wp2
    refine bodyPost_ret (v := .agg #[.int .i64 f, .bool wt, .bool us, .bool di]) (by simp [results, Tryd.results30, go_sem]) rfl ?_
    exact ⟨rfl, by first | exact (Below.refl _ _).alloc (Nat.le_refl _) _ | go_grown⟩
end Go.Proofs.YtifjkjcgpghmhaaDoor.Sp
