/- Valid protocols: the model's test. -/
import Derived.Test.YtmmjdmgnmlhjeaaCptc
import Derived.Test.YtmmjdmgnmlhjeaaCcpy1
namespace Go.Proofs.Ytmmjdmgnmlhjeaa.Pt
open Go.RowKit Sy
/-- A rule that may stand at q in the table k. -/
def okM (k q : Nat) (r : Ru.R) : Prop := (isC r.1 = true ∧ isC r.2.1 = true) ∧ (k = 0 → r.1 ≠ 0 ∧ r.2.1 ≠ 0) ∧ (k = 2 → r.1 = 0) ∧ (2 ≤ k → q = 0 → r.1 = 0 ∧ r.2.2 = false)
def okP (X : Nat → List Ru.R) : Prop := ∀ k, k < 5 → (X k).length = 4 ∧ ∀ q, q < 4 → okM k q ((X k).getD q Ru.dR)
def TabS (A C : Nat → Int) : Prop := True
set_option maxHeartbeats 2000000 in
theorem tables_s (g : Nat) (A : Nat → Option Addr) (N C : Nat → Nat) (w : World) (hB : Blk w g [.slice (A 0) (N 0) (C 0), .slice (A 1) (N 1) (C 1), .slice (A 2) (N 2) (C 2), .slice (A 3) (N 3) (C 3), .slice (A 4) (N 4) (C 4)] 24) :
    Calls Try.prog 46 #[.pointer (some ⟨g, 0, none⟩)] w (fun e w' => ∃ T, e = .returned (.slice (some ⟨T, 0, none⟩) 5 5) ∧ Blk w' T [.slice (A 0) (N 0) (C 0), .slice (A 1) (N 1) (C 1), .slice (A 2) (N 2) (C 2), .slice (A 3) (N 3) (C 3), .slice (A 4) (N 4) (C 4)] 22 ∧ w.heap.size ≤ T ∧ Below w.heap.size w w') := by
  have hlt := hB.lt
  have x0 : w.cell? ⟨g, 0, none⟩ = some (.slice (A 0) (N 0) (C 0)) := hB.cell 0
  have x1 : w.cell? ⟨g, 1, none⟩ = some (.slice (A 1) (N 1) (C 1)) := hB.cell 1
  have x2 : w.cell? ⟨g, 2, none⟩ = some (.slice (A 2) (N 2) (C 2)) := hB.cell 2
  have x3 : w.cell? ⟨g, 3, none⟩ = some (.slice (A 3) (N 3) (C 3)) := hB.cell 3
  have x4 : w.cell? ⟨g, 4, none⟩ = some (.slice (A 4) (N 4) (C 4)) := hB.cell 4
  clear hB
  go_enter Try.func46, Try.ntmps46
  go_wp2
  go_region
  all_goals
    go_wp2
    go_ret
    exact ⟨w.heap.size, rfl, Blk.newAt w.drew _ _ _ rfl, Nat.le_refl _, ((Below.refl _ _).drew).alloc (Nat.le_refl _) _⟩
def Bf (b : Bool) (w : World) (e : Ending) (w' : World) : Prop := e = .returned (.bool b) ∧ Below w.heap.size w w'
set_option maxHeartbeats 8000000 in
set_option maxRecDepth 100000 in
theorem is_s (g : Nat) (A : Nat → Option Addr) (C : Nat → Nat) (X : Nat → List Ru.R) (b : Bool) (hb : b = true ↔ okP X) (w : World) (hB : Blk w g [.slice (A 0) (X 0).length (C 0), .slice (A 1) (X 1).length (C 1), .slice (A 2) (X 2).length (C 2), .slice (A 3) (X 3).length (C 3), .slice (A 4) (X 4).length (C 4)] 24)
    (hr : ∀ k, k < 5 → Ru.RdR w (A k) (X k)) (hm : ∀ k, k < 5 → (X k).length ≤ 1048576) :
    Calls Try.prog 39 #[.pointer (some ⟨g, 0, none⟩)] w (Bf b w) := by
  have HT := Lib.hid (tables_s g A (fun k => (X k).length) C w hB)
  have HC := Lib.hid (fun (n : Int) (w : World) => copy_s n w)
  have HF := Lib.hid (fun (k : Nat) (hk : k < 5) (hx : (X k).length ≠ 4) => (show b = false from false_of hb (fun h => hx (h k hk).1)))
  have HF2 := Lib.hid (fun (k q : Nat) (hk : k < 5) (hq : q < 4) (hx : ¬ okM k q ((X k).getD q Ru.dR)) => (show b = false from false_of hb (fun h => hx ((h k hk).2 q hq))))
  have HY := Lib.hid (fun (h : okP X) => (show b = true from hb.2 h))
  have HR := Lib.hid hr
  have HM := Lib.hid hm
  clear hb hr hm hB
  go_enter Try.func39, Try.ntmps39
  go_wp2_with fail
  refine HT.out.mono ?_; rintro e w1 ⟨T, rfl, bt1, hT, b1⟩
  have BT := Lib.hid (fun (w' : World) (hb : Below w1.heap.size w1 w') (k : Nat) (hk : k < 5) => (show w'.cell? ⟨T, k, none⟩ = some (.slice (A k) (X k).length (C k)) from by
    have h := (bt1.below hb bt1.lt).cell k
    rw [h]
    match k, hk with
    | 0, _ => rfl
    | 1, _ => rfl
    | 2, _ => rfl
    | 3, _ => rfl
    | 4, _ => rfl))
  have B1 := Lib.hid b1
  have tl := bt1.lt
  clear bt1 b1 HT
  go_wp2
  go_loopw [4] (fun i wr => ∃ k : Nat, k ≤ 5 ∧ i = .int .i64 k ∧ Hid (∀ k', k' < k → (X k').length = 4 ∧ ∀ q, q < 4 → okM k' q ((X k').getD q Ru.dR)) ∧ Hid (Below w1.heap.size w1 wr)) (fun i _ => 5 - (intOf i).toNat)
  case atStart => exact ⟨0, Nat.zero_le _, rfl, Lib.hid (fun i h => by omega), Below.refl _ _⟩
  case round =>
    obtain ⟨k, hk, rfl, ho, hb⟩ := hrel
    by_cases hk5 : k < 5
    · have hc := BT.out wr hb.out k hk5
      have hk5' : (k : Int) < 5 := by omega
      have HRk := Lib.hid (Ru.RdR.below (HR.out k hk5) (bt B1.out hb.out))
      have BW := Lib.hid (bt B1.out hb.out)
      have HFk := Lib.hid (HF.out k hk5)
      have HF2k := Lib.hid (fun (q : Nat) (hq : q < 4) => HF2.out k q hk5 hq)
      have HNX := Lib.hid (fun (hl : (X k).length = 4) (h : ∀ q, q < 4 → okM k q ((X k).getD q Ru.dR)) => (show ∀ k', k' < k + 1 → (X k').length = 4 ∧ ∀ q, q < 4 → okM k' q ((X k').getD q Ru.dR) from fun k' hk' => by
        by_cases e : k' = k
        · subst e; exact ⟨hl, h⟩
        · exact ho.out k' (by omega)))
      have hml := HM.out k hk5
      have hsz := hb.out.size
      have HBk := Lib.hid hb.out
      unfold Ru.RdR at HRk
      clear ho
      obtain ⟨xs, hX⟩ : ∃ xs, X k = xs := ⟨_, rfl⟩
      obtain ⟨a, hA⟩ : ∃ a, A k = a := ⟨_, rfl⟩
      obtain ⟨c, hC⟩ : ∃ c, C k = c := ⟨_, rfl⟩
      rw [hX] at HRk HFk HF2k HNX hml
      rw [hA] at HRk
      rw [hX, hA, hC] at hc
      have HKX := Lib.hid (show Value.slice (A k) (X k).length (C k) = .slice a xs.length c by rw [hX, hA, hC])
      clear hX hA hC
      by_cases hl : xs.length = 4
      · have HNX2 := Lib.hid (HNX.out hl)
        have HN := Lib.hid hl
        rw [hl] at hc
        clear HFk HNX hl hml
        go_wp2
        generalize wr = W9 at *
        go_loopw [5] (fun i w2 => ∃ q : Nat, q ≤ 4 ∧ i = .int .i64 q ∧ Hid (∀ q', q' < q → okM k q' (xs.getD q' Ru.dR)) ∧ Hid (Below W9.heap.size W9 w2)) (fun i _ => 4 - (intOf i).toNat)
        case atStart => exact ⟨0, Nat.zero_le _, rfl, Lib.hid (fun i h => by omega), Below.refl _ _⟩
        case round =>
          obtain ⟨q, hq, rfl, ho2, hb2⟩ := hrel
          by_cases hq4 : q < 4
          · obtain ⟨p, of, rfl, d0, d1, d2, hp⟩ := HRk.out q (by rw [HN.out]; exact hq4)
            have hc2 := BT.out wr (bt HBk.out hb2.out) k hk5
            have hq4' : (q : Int) < 4 := by omega
            have d0 := (hb2.out.cell (p := ⟨p, of + q * 3, none⟩) hp).trans d0
            have d1 := (hb2.out.cell (p := ⟨p, of + q * 3 + 1, none⟩) hp).trans d1
            have d2 := (hb2.out.cell (p := ⟨p, of + q * 3 + 2, none⟩) hp).trans d2
            have HFq := Lib.hid (HF2k.out q hq4)
            have HNq := Lib.hid (fun (h : okM k q (xs.getD q Ru.dR)) => (show ∀ q', q' < q + 1 → okM k q' (xs.getD q' Ru.dR) from fun q' hq' => by
              by_cases e : q' = q
              · subst e; exact h
              · exact ho2.out q' (by omega)))
            rw [HKX.out, HN.out] at hc2
            generalize xs.getD q Ru.dR = r at *
            obtain ⟨n, s, bk⟩ := r
            have d0 : wr.cell? ⟨p, of + q * 3, none⟩ = some (.int .i64 n) := d0
            have d1 : wr.cell? ⟨p, of + q * 3 + 1, none⟩ = some (.int .i64 s) := d1
            have d2 : wr.cell? ⟨p, of + q * 3 + 2, none⟩ = some (.bool bk) := d2
            have HB3 := Lib.hid (hb2.out.alloc hb2.out.size (.cells #[.int .i64 n, .int .i64 s, .bool bk] 40))
            have HBF := Lib.hid (bt BW.out HB3.out)
            have HCn := Lib.hid (fun w => HC.out n w)
            have HCs := Lib.hid (fun w => HC.out s w)
            have hp2 : p < wr.heap.size := Nat.lt_of_lt_of_le hp hb2.out.size
            clear ho2 hb2 hp
            rcases (show k = 0 ∨ k = 1 ∨ k = 2 ∨ 3 ≤ k by omega) with hk0 | hk0 | hk0 | hk0
            · have e0 : ((k : Int) == 0) = true := by subst hk0; rfl
              have e2 : ((k : Int) == 2) = false := by subst hk0; rfl
              have eg : ¬ (2 ≤ (k : Int)) := by omega
              have HK0 := Lib.hid hk0
              clear hk0
              cases hn : isC n
              · rw [hn] at HCn
                have e := HFq.out (fun h => by have := h.1.1; rw [hn] at this; cases this)
                clear HFq HNq
                subst e
                go_wp2_with (go_at_call 44; first | (refine (HCn.out _).mono ?_; rintro e w' ⟨rfl, rfl⟩) | (refine (HCs.out _).mono ?_; rintro e w' ⟨rfl, rfl⟩))
                go_ret
                exact ⟨rfl, HBF.out⟩
              · rw [hn] at HCn
                cases hs : isC s
                · rw [hs] at HCs
                  have e := HFq.out (fun h => by have := h.1.2; rw [hs] at this; cases this)
                  clear HFq HNq
                  subst e
                  go_wp2_with (go_at_call 44; first | (refine (HCn.out _).mono ?_; rintro e w' ⟨rfl, rfl⟩) | (refine (HCs.out _).mono ?_; rintro e w' ⟨rfl, rfl⟩))
                  go_ret
                  exact ⟨rfl, HBF.out⟩
                · rw [hs] at HCs
                  by_cases n0 : n = 0
                  · subst n0
                    have e := HFq.out (fun h => (h.2.1 HK0.out).1 rfl)
                    clear HFq HNq
                    subst e
                    go_wp2_with (go_at_call 44; first | (refine (HCn.out _).mono ?_; rintro e w' ⟨rfl, rfl⟩) | (refine (HCs.out _).mono ?_; rintro e w' ⟨rfl, rfl⟩))
                    go_ret
                    exact ⟨rfl, HBF.out⟩
                  · have n1 : (n == 0) = false := by simp [n0]
                    by_cases s0 : s = 0
                    · subst s0
                      have e := HFq.out (fun h => (h.2.1 HK0.out).2 rfl)
                      clear HFq HNq
                      subst e
                      go_wp2_with (go_at_call 44; first | (refine (HCn.out _).mono ?_; rintro e w' ⟨rfl, rfl⟩) | (refine (HCs.out _).mono ?_; rintro e w' ⟨rfl, rfl⟩))
                      go_ret
                      exact ⟨rfl, HBF.out⟩
                    · have s1 : (s == 0) = false := by simp [s0]
                      have HN3 := Lib.hid (HNq.out ⟨⟨hn, hs⟩, fun _ => ⟨n0, s0⟩, fun h => by have := HK0.out; omega, fun h => by have := HK0.out; omega⟩)
                      clear HFq HNq
                      go_wp2_with (go_at_call 44; first | (refine (HCn.out _).mono ?_; rintro e w' ⟨rfl, rfl⟩) | (refine (HCs.out _).mono ?_; rintro e w' ⟨rfl, rfl⟩))
                      go_roundw
                      case rel => exact ⟨q + 1, by omega, by go_num, HN3, HB3⟩
                      case measure => simp [intOf]; omega
            · have e0 : ((k : Int) == 0) = false := by subst hk0; rfl
              have e2 : ((k : Int) == 2) = false := by subst hk0; rfl
              have eg : ¬ (2 ≤ (k : Int)) := by omega
              have HK0 := Lib.hid hk0
              clear hk0
              cases hn : isC n
              · rw [hn] at HCn
                have e := HFq.out (fun h => by have := h.1.1; rw [hn] at this; cases this)
                clear HFq HNq
                subst e
                go_wp2_with (go_at_call 44; first | (refine (HCn.out _).mono ?_; rintro e w' ⟨rfl, rfl⟩) | (refine (HCs.out _).mono ?_; rintro e w' ⟨rfl, rfl⟩))
                go_ret
                exact ⟨rfl, HBF.out⟩
              · rw [hn] at HCn
                cases hs : isC s
                · rw [hs] at HCs
                  have e := HFq.out (fun h => by have := h.1.2; rw [hs] at this; cases this)
                  clear HFq HNq
                  subst e
                  go_wp2_with (go_at_call 44; first | (refine (HCn.out _).mono ?_; rintro e w' ⟨rfl, rfl⟩) | (refine (HCs.out _).mono ?_; rintro e w' ⟨rfl, rfl⟩))
                  go_ret
                  exact ⟨rfl, HBF.out⟩
                · rw [hs] at HCs
                  have HN3 := Lib.hid (HNq.out ⟨⟨hn, hs⟩, fun h => by have := HK0.out; omega, fun h => by have := HK0.out; omega, fun h => by have := HK0.out; omega⟩)
                  clear HFq HNq
                  go_wp2_with (go_at_call 44; first | (refine (HCn.out _).mono ?_; rintro e w' ⟨rfl, rfl⟩) | (refine (HCs.out _).mono ?_; rintro e w' ⟨rfl, rfl⟩))
                  go_roundw
                  case rel => exact ⟨q + 1, by omega, by go_num, HN3, HB3⟩
                  case measure => simp [intOf]; omega
            · have e0 : ((k : Int) == 0) = false := by subst hk0; rfl
              have e2 : ((k : Int) == 2) = true := by subst hk0; rfl
              have eg : (2 ≤ (k : Int)) := by omega
              have HK0 := Lib.hid hk0
              clear hk0
              cases hn : isC n
              · rw [hn] at HCn
                have e := HFq.out (fun h => by have := h.1.1; rw [hn] at this; cases this)
                clear HFq HNq
                subst e
                go_wp2_with (go_at_call 44; first | (refine (HCn.out _).mono ?_; rintro e w' ⟨rfl, rfl⟩) | (refine (HCs.out _).mono ?_; rintro e w' ⟨rfl, rfl⟩))
                go_ret
                exact ⟨rfl, HBF.out⟩
              · rw [hn] at HCn
                cases hs : isC s
                · rw [hs] at HCs
                  have e := HFq.out (fun h => by have := h.1.2; rw [hs] at this; cases this)
                  clear HFq HNq
                  subst e
                  go_wp2_with (go_at_call 44; first | (refine (HCn.out _).mono ?_; rintro e w' ⟨rfl, rfl⟩) | (refine (HCs.out _).mono ?_; rintro e w' ⟨rfl, rfl⟩))
                  go_ret
                  exact ⟨rfl, HBF.out⟩
                · rw [hs] at HCs
                  by_cases n0 : n = 0
                  · subst n0
                    by_cases hq0 : q = 0
                    · have g0 : ((q : Int) == 0) = true := by subst hq0; rfl
                      have HQ0 := Lib.hid hq0
                      clear hq0
                      cases bk
                      · skip
                        have HN3 := Lib.hid (HNq.out ⟨⟨hn, hs⟩, fun h => by have := HK0.out; omega, fun _ => rfl, fun _ _ => ⟨rfl, rfl⟩⟩)
                        clear HFq HNq
                        go_wp2_with (go_at_call 44; first | (refine (HCn.out _).mono ?_; rintro e w' ⟨rfl, rfl⟩) | (refine (HCs.out _).mono ?_; rintro e w' ⟨rfl, rfl⟩))
                        go_roundw
                        case rel => exact ⟨q + 1, by omega, by go_num, HN3, HB3⟩
                        case measure => simp [intOf]; omega
                      · skip
                        have e := HFq.out (fun h => by have := (h.2.2.2 (by omega) HQ0.out).2; cases this)
                        clear HFq HNq
                        subst e
                        go_wp2_with (go_at_call 44; first | (refine (HCn.out _).mono ?_; rintro e w' ⟨rfl, rfl⟩) | (refine (HCs.out _).mono ?_; rintro e w' ⟨rfl, rfl⟩))
                        go_ret
                        exact ⟨rfl, HBF.out⟩
                    · have g0 : ((q : Int) == 0) = false := by simp; omega
                      have HN3 := Lib.hid (HNq.out ⟨⟨hn, hs⟩, fun h => by have := HK0.out; omega, fun _ => rfl, fun _ h => absurd h hq0⟩)
                      clear HFq HNq
                      go_wp2_with (go_at_call 44; first | (refine (HCn.out _).mono ?_; rintro e w' ⟨rfl, rfl⟩) | (refine (HCs.out _).mono ?_; rintro e w' ⟨rfl, rfl⟩))
                      go_roundw
                      case rel => exact ⟨q + 1, by omega, by go_num, HN3, HB3⟩
                      case measure => simp [intOf]; omega
                  · have n1 : (n != 0) = true := by simp [n0]
                    have e := HFq.out (fun h => n0 (h.2.2.1 HK0.out))
                    clear HFq HNq
                    subst e
                    go_wp2_with (go_at_call 44; first | (refine (HCn.out _).mono ?_; rintro e w' ⟨rfl, rfl⟩) | (refine (HCs.out _).mono ?_; rintro e w' ⟨rfl, rfl⟩))
                    go_ret
                    exact ⟨rfl, HBF.out⟩
            · have e0 : ((k : Int) == 0) = false := by simp; omega
              have e2 : ((k : Int) == 2) = false := by simp; omega
              have eg : (2 ≤ (k : Int)) := by omega
              cases hn : isC n
              · rw [hn] at HCn
                have e := HFq.out (fun h => by have := h.1.1; rw [hn] at this; cases this)
                clear HFq HNq
                subst e
                go_wp2_with (go_at_call 44; first | (refine (HCn.out _).mono ?_; rintro e w' ⟨rfl, rfl⟩) | (refine (HCs.out _).mono ?_; rintro e w' ⟨rfl, rfl⟩))
                go_ret
                exact ⟨rfl, HBF.out⟩
              · rw [hn] at HCn
                cases hs : isC s
                · rw [hs] at HCs
                  have e := HFq.out (fun h => by have := h.1.2; rw [hs] at this; cases this)
                  clear HFq HNq
                  subst e
                  go_wp2_with (go_at_call 44; first | (refine (HCn.out _).mono ?_; rintro e w' ⟨rfl, rfl⟩) | (refine (HCs.out _).mono ?_; rintro e w' ⟨rfl, rfl⟩))
                  go_ret
                  exact ⟨rfl, HBF.out⟩
                · rw [hs] at HCs
                  by_cases hq0 : q = 0
                  · have g0 : ((q : Int) == 0) = true := by subst hq0; rfl
                    have HQ0 := Lib.hid hq0
                    clear hq0
                    by_cases n0 : n = 0
                    · subst n0
                      cases bk
                      · skip
                        have HN3 := Lib.hid (HNq.out ⟨⟨hn, hs⟩, fun h => by omega, fun h => by omega, fun _ _ => ⟨rfl, rfl⟩⟩)
                        clear HFq HNq
                        go_wp2_with (go_at_call 44; first | (refine (HCn.out _).mono ?_; rintro e w' ⟨rfl, rfl⟩) | (refine (HCs.out _).mono ?_; rintro e w' ⟨rfl, rfl⟩))
                        go_roundw
                        case rel => exact ⟨q + 1, by omega, by go_num, HN3, HB3⟩
                        case measure => simp [intOf]; omega
                      · skip
                        have e := HFq.out (fun h => by have := (h.2.2.2 (by omega) HQ0.out).2; cases this)
                        clear HFq HNq
                        subst e
                        go_wp2_with (go_at_call 44; first | (refine (HCn.out _).mono ?_; rintro e w' ⟨rfl, rfl⟩) | (refine (HCs.out _).mono ?_; rintro e w' ⟨rfl, rfl⟩))
                        go_ret
                        exact ⟨rfl, HBF.out⟩
                    · have n1 : (n != 0) = true := by simp [n0]
                      have e := HFq.out (fun h => n0 (h.2.2.2 (by omega) HQ0.out).1)
                      clear HFq HNq
                      subst e
                      go_wp2_with (go_at_call 44; first | (refine (HCn.out _).mono ?_; rintro e w' ⟨rfl, rfl⟩) | (refine (HCs.out _).mono ?_; rintro e w' ⟨rfl, rfl⟩))
                      go_ret
                      exact ⟨rfl, HBF.out⟩
                  · have g0 : ((q : Int) == 0) = false := by simp; omega
                    have HN3 := Lib.hid (HNq.out ⟨⟨hn, hs⟩, fun h => by omega, fun h => by omega, fun _ h => absurd h hq0⟩)
                    clear HFq HNq
                    go_wp2_with (go_at_call 44; first | (refine (HCn.out _).mono ?_; rintro e w' ⟨rfl, rfl⟩) | (refine (HCs.out _).mono ?_; rintro e w' ⟨rfl, rfl⟩))
                    go_roundw
                    case rel => exact ⟨q + 1, by omega, by go_num, HN3, HB3⟩
                    case measure => simp [intOf]; omega
          · have e : q = 4 := by omega
            subst e
            have HO := Lib.hid (HNX2.out ho2.out)
            have HB3 := Lib.hid (bt HBk.out hb2.out)
            clear ho2 hb2 HNX2
            go_wp2
            go_roundw
            case rel => exact ⟨k + 1, by omega, by go_num, HO, HB3⟩
            case measure => simp [intOf]; omega
      · have e := HFk.out hl
        have hne : ((xs.length : Int) != 4) = true := by simp; omega
        clear HFk HNX HKX
        generalize xs.length = N at *
        subst e
        go_wp2
        go_ret
        exact ⟨rfl, BW.out⟩
    · have e : k = 5 := by omega
      subst e
      have e := HY.out (fun k hk => ho.out k hk)
      have BW := Lib.hid (bt B1.out hb.out)
      clear HY HF HF2 ho hb
      subst e
      go_wp2
      go_ret
      exact ⟨rfl, BW.out⟩
end Go.Proofs.Ytmmjdmgnmlhjeaa.Pt
