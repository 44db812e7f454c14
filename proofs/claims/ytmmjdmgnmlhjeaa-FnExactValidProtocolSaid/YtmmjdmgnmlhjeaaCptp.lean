/- Valid protocols: the program's tests. -/
import Derived.Test.YtmmjdmgnmlhjeaaCptv
namespace Go.Proofs.Ytmmjdmgnmlhjeaa.Pt
open Go.RowKit Sy
def okR (r : Ru.R) : Prop := isC r.1 = true ∧ isC r.2.1 = true
def okT (xs : List Ru.R) : Prop := xs.length = 4 ∧ ∀ q, q < 4 → okR (xs.getD q Ru.dR)
set_option maxHeartbeats 2000000 in
theorem table_i (a : Option Addr) (c : Nat) (xs : List Ru.R) (b : Bool) (hb : b = true ↔ okT xs) (w : World) (hr : Ru.RdR w a xs) (hm : xs.length ≤ 1048576) :
    Calls Try.prog 42 #[.slice a xs.length c] w (Bf b w) := by
  have HC := Lib.hid (fun (n : Int) (w : World) => copy_i n w)
  by_cases hl : xs.length = 4
  · have HF := Lib.hid (fun (q : Nat) (hq : q < 4) (hx : ¬ okR (xs.getD q Ru.dR)) => (show b = false from false_of hb (fun h => hx (h.2 q hq))))
    have HY := Lib.hid (fun (h : ∀ q, q < 4 → okR (xs.getD q Ru.dR)) => (show b = true from hb.2 ⟨hl, h⟩))
    have HR := Lib.hid hr
    have HN := Lib.hid hl
    unfold Ru.RdR at HR
    rw [hl]
    clear hb hr hm hl
    go_enter Try.func42, Try.ntmps42
    go_wp2
    go_loopw [10] (fun i wr => ∃ q : Nat, q ≤ 4 ∧ i = .int .i64 q ∧ Hid (∀ q', q' < q → okR (xs.getD q' Ru.dR)) ∧ Hid (Below w.heap.size w wr)) (fun i _ => 4 - (intOf i).toNat)
    case atStart => exact ⟨0, Nat.zero_le _, rfl, Lib.hid (fun i h => by omega), Below.refl _ _⟩
    case round =>
      obtain ⟨q, hq, rfl, ho2, hb2⟩ := hrel
      by_cases hq4 : q < 4
      · obtain ⟨p, of, rfl, d0, d1, d2, hp⟩ := HR.out q (by rw [HN.out]; exact hq4)
        have hq4' : (q : Int) < 4 := by omega
        have d0 := (hb2.out.cell (p := ⟨p, of + q * 3, none⟩) hp).trans d0
        have d1 := (hb2.out.cell (p := ⟨p, of + q * 3 + 1, none⟩) hp).trans d1
        have d2 := (hb2.out.cell (p := ⟨p, of + q * 3 + 2, none⟩) hp).trans d2
        have HFq := Lib.hid (HF.out q hq4)
        have HNq := Lib.hid (fun (h : okR (xs.getD q Ru.dR)) => (show ∀ q', q' < q + 1 → okR (xs.getD q' Ru.dR) from fun q' hq' => by
          by_cases e : q' = q
          · subst e; exact h
          · exact ho2.out q' (by omega)))
        generalize xs.getD q Ru.dR = r at *
        obtain ⟨n, s, bk⟩ := r
        have d0 : wr.cell? ⟨p, of + q * 3, none⟩ = some (.int .i64 n) := d0
        have d1 : wr.cell? ⟨p, of + q * 3 + 1, none⟩ = some (.int .i64 s) := d1
        have d2 : wr.cell? ⟨p, of + q * 3 + 2, none⟩ = some (.bool bk) := d2
        have HB3 := Lib.hid (hb2.out.alloc hb2.out.size (.cells #[.int .i64 n, .int .i64 s, .bool bk] 40))
        have HCn := Lib.hid (fun w => HC.out n w)
        have HCs := Lib.hid (fun w => HC.out s w)
        clear ho2 hb2 hp
        cases hn : isC n
        · rw [hn] at HCn
          have e := HFq.out (fun h => by have := h.1; rw [hn] at this; cases this)
          clear HFq HNq
          subst e
          go_wp2_with (go_at_call 48; first | (refine (HCn.out _).mono ?_; rintro e w' ⟨rfl, rfl⟩) | (refine (HCs.out _).mono ?_; rintro e w' ⟨rfl, rfl⟩))
          go_ret
          exact ⟨rfl, HB3.out⟩
        · rw [hn] at HCn
          cases hs : isC s
          · rw [hs] at HCs
            have e := HFq.out (fun h => by have := h.2; rw [hs] at this; cases this)
            clear HFq HNq
            subst e
            go_wp2_with (go_at_call 48; first | (refine (HCn.out _).mono ?_; rintro e w' ⟨rfl, rfl⟩) | (refine (HCs.out _).mono ?_; rintro e w' ⟨rfl, rfl⟩))
            go_ret
            exact ⟨rfl, HB3.out⟩
          · rw [hs] at HCs
            have HN3 := Lib.hid (HNq.out ⟨hn, hs⟩)
            clear HFq HNq
            go_wp2_with (go_at_call 48; first | (refine (HCn.out _).mono ?_; rintro e w' ⟨rfl, rfl⟩) | (refine (HCs.out _).mono ?_; rintro e w' ⟨rfl, rfl⟩))
            go_roundw
            case rel => exact ⟨q + 1, by omega, by go_num, HN3, HB3⟩
            case measure => simp [intOf]; omega
      · have e : q = 4 := by omega
        subst e
        have e := HY.out ho2.out
        clear HY HF ho2
        subst e
        go_wp2
        go_ret
        exact ⟨rfl, hb2.out⟩
  · have e := false_of hb (fun h => hl h.1)
    have hne : ((xs.length : Int) != 4) = true := by simp; omega
    clear hb hr hm hl
    generalize xs.length = N at *
    subst e
    go_enter Try.func42, Try.ntmps42
    go_wp2
    go_ret
    exact ⟨rfl, Below.refl _ _⟩
set_option maxHeartbeats 2000000 in
set_option maxRecDepth 100000 in
theorem tables_i (a0 a1 a2 a3 a4 : Option Addr) (n0 n1 n2 n3 n4 c0 c1 c2 c3 c4 : Nat) (w : World) :
    Calls Try.prog 41 #[.agg #[.slice a0 n0 c0, .slice a1 n1 c1, .slice a2 n2 c2, .slice a3 n3 c3, .slice a4 n4 c4]] w (fun e w' => e = .returned (.agg #[.slice a0 n0 c0, .slice a1 n1 c1, .slice a2 n2 c2, .slice a3 n3 c3, .slice a4 n4 c4]) ∧ Below w.heap.size w w') := by
  go_enter Try.func41, Try.ntmps41
  go_wp2
  refine bodyPost_ret (v := .agg #[.slice a0 n0 c0, .slice a1 n1 c1, .slice a2 n2 c2, .slice a3 n3 c3, .slice a4 n4 c4]) (by simp [results, Try.results41, go_sem]) rfl ⟨rfl, ?_⟩
  go_grown
theorem und5 : Try.prog.underlying 69 = some (.array 5 22) := by kernel_rfl
theorem run_ix5 (w : World) (k : Nat) (hk : k < 5) (v0 v1 v2 v3 v4 : Value) :
    (Instr.index 69 (.agg #[v0, v1, v2, v3, v4]) (.int .i64 (k : Int))).run Try.prog w = .ok ([v0, v1, v2, v3, v4].getD k v0) w := by
  have hu := run_underlying und5 w
  have hz := Try.sizeOf22 w
  have ha := Try.isAgg22 w
  match k, hk with
  | 0, _ => simp [Instr.index, asIntOf, hu, hz, part, ha, Result.andThen]
  | 1, _ => simp [Instr.index, asIntOf, hu, hz, part, ha, Result.andThen]
  | 2, _ => simp [Instr.index, asIntOf, hu, hz, part, ha, Result.andThen]
  | 3, _ => simp [Instr.index, asIntOf, hu, hz, part, ha, Result.andThen]
  | 4, _ => simp [Instr.index, asIntOf, hu, hz, part, ha, Result.andThen]
set_option maxHeartbeats 16000000 in
set_option maxRecDepth 100000 in
theorem vp_i (A : Nat → Option Addr) (C : Nat → Nat) (X : Nat → List Ru.R) (b : Bool) (hb : b = true ↔ okP X) (w : World) (hr : ∀ k, k < 5 → Ru.RdR w (A k) (X k)) (hm : ∀ k, k < 5 → (X k).length ≤ 1048576) :
    Calls Try.prog 19 #[.agg #[.slice (A 0) (X 0).length (C 0), .slice (A 1) (X 1).length (C 1), .slice (A 2) (X 2).length (C 2), .slice (A 3) (X 3).length (C 3), .slice (A 4) (X 4).length (C 4)]] w (Bf b w) := by
  obtain ⟨t0, ht0⟩ : ∃ t : Bool, t = true ↔ okT (X 0) := ⟨@decide _ (Classical.propDecidable _), @decide_eq_true_iff _ (Classical.propDecidable _)⟩
  have HT0 := Lib.hid (fun (w' : World) (hb : Below w.heap.size w w') => table_i (A 0) (C 0) (X 0) t0 ht0 w' (Ru.RdR.below (hr 0 (by omega)) hb) (hm 0 (by omega)))
  have HX0 := Lib.hid (fun (e : t0 = false) => (show b = false from false_of hb (fun h => by
    have h1 : okT (X 0) := ⟨(h 0 (by omega)).1, fun q hq => (((h 0 (by omega)).2 q hq).1 : _ ∧ _)⟩
    rw [ht0.2 h1] at e
    cases e)))
  have HD0 := Lib.hid (fun (e : t0 = true) => ht0.1 e)
  have HR0 := Lib.hid (hr 0 (by omega))
  unfold Ru.RdR at HR0
  obtain ⟨t1, ht1⟩ : ∃ t : Bool, t = true ↔ okT (X 1) := ⟨@decide _ (Classical.propDecidable _), @decide_eq_true_iff _ (Classical.propDecidable _)⟩
  have HT1 := Lib.hid (fun (w' : World) (hb : Below w.heap.size w w') => table_i (A 1) (C 1) (X 1) t1 ht1 w' (Ru.RdR.below (hr 1 (by omega)) hb) (hm 1 (by omega)))
  have HX1 := Lib.hid (fun (e : t1 = false) => (show b = false from false_of hb (fun h => by
    have h1 : okT (X 1) := ⟨(h 1 (by omega)).1, fun q hq => (((h 1 (by omega)).2 q hq).1 : _ ∧ _)⟩
    rw [ht1.2 h1] at e
    cases e)))
  have HD1 := Lib.hid (fun (e : t1 = true) => ht1.1 e)
  have HR1 := Lib.hid (hr 1 (by omega))
  unfold Ru.RdR at HR1
  obtain ⟨t2, ht2⟩ : ∃ t : Bool, t = true ↔ okT (X 2) := ⟨@decide _ (Classical.propDecidable _), @decide_eq_true_iff _ (Classical.propDecidable _)⟩
  have HT2 := Lib.hid (fun (w' : World) (hb : Below w.heap.size w w') => table_i (A 2) (C 2) (X 2) t2 ht2 w' (Ru.RdR.below (hr 2 (by omega)) hb) (hm 2 (by omega)))
  have HX2 := Lib.hid (fun (e : t2 = false) => (show b = false from false_of hb (fun h => by
    have h1 : okT (X 2) := ⟨(h 2 (by omega)).1, fun q hq => (((h 2 (by omega)).2 q hq).1 : _ ∧ _)⟩
    rw [ht2.2 h1] at e
    cases e)))
  have HD2 := Lib.hid (fun (e : t2 = true) => ht2.1 e)
  have HR2 := Lib.hid (hr 2 (by omega))
  unfold Ru.RdR at HR2
  obtain ⟨t3, ht3⟩ : ∃ t : Bool, t = true ↔ okT (X 3) := ⟨@decide _ (Classical.propDecidable _), @decide_eq_true_iff _ (Classical.propDecidable _)⟩
  have HT3 := Lib.hid (fun (w' : World) (hb : Below w.heap.size w w') => table_i (A 3) (C 3) (X 3) t3 ht3 w' (Ru.RdR.below (hr 3 (by omega)) hb) (hm 3 (by omega)))
  have HX3 := Lib.hid (fun (e : t3 = false) => (show b = false from false_of hb (fun h => by
    have h1 : okT (X 3) := ⟨(h 3 (by omega)).1, fun q hq => (((h 3 (by omega)).2 q hq).1 : _ ∧ _)⟩
    rw [ht3.2 h1] at e
    cases e)))
  have HD3 := Lib.hid (fun (e : t3 = true) => ht3.1 e)
  have HR3 := Lib.hid (hr 3 (by omega))
  unfold Ru.RdR at HR3
  obtain ⟨t4, ht4⟩ : ∃ t : Bool, t = true ↔ okT (X 4) := ⟨@decide _ (Classical.propDecidable _), @decide_eq_true_iff _ (Classical.propDecidable _)⟩
  have HT4 := Lib.hid (fun (w' : World) (hb : Below w.heap.size w w') => table_i (A 4) (C 4) (X 4) t4 ht4 w' (Ru.RdR.below (hr 4 (by omega)) hb) (hm 4 (by omega)))
  have HX4 := Lib.hid (fun (e : t4 = false) => (show b = false from false_of hb (fun h => by
    have h1 : okT (X 4) := ⟨(h 4 (by omega)).1, fun q hq => (((h 4 (by omega)).2 q hq).1 : _ ∧ _)⟩
    rw [ht4.2 h1] at e
    cases e)))
  have HD4 := Lib.hid (fun (e : t4 = true) => ht4.1 e)
  have HR4 := Lib.hid (hr 4 (by omega))
  unfold Ru.RdR at HR4
  have HE0 := Lib.hid (fun (hl : (X 0).length = 4) (q : Nat) (hq : q < 4) (w' : World) (hb : Below w.heap.size w w') => (show ∃ p of, A 0 = some ⟨p, of, none⟩ ∧ w'.cell? ⟨p, of + q * 3, none⟩ = some (.int .i64 ((X 0).getD q Ru.dR).1) ∧ w'.cell? ⟨p, of + q * 3 + 1, none⟩ = some (.int .i64 ((X 0).getD q Ru.dR).2.1) ∧ w'.cell? ⟨p, of + q * 3 + 2, none⟩ = some (.bool ((X 0).getD q Ru.dR).2.2) from by
    obtain ⟨p, of, e, d0, d1, d2, hp⟩ := HR0.out q (by rw [hl]; exact hq)
    exact ⟨p, of, e, (hb.cell (p := ⟨p, of + q * 3, none⟩) hp).trans d0, (hb.cell (p := ⟨p, of + q * 3 + 1, none⟩) hp).trans d1, (hb.cell (p := ⟨p, of + q * 3 + 2, none⟩) hp).trans d2⟩))
  have HE2 := Lib.hid (fun (hl : (X 2).length = 4) (q : Nat) (hq : q < 4) (w' : World) (hb : Below w.heap.size w w') => (show ∃ p of, A 2 = some ⟨p, of, none⟩ ∧ w'.cell? ⟨p, of + q * 3, none⟩ = some (.int .i64 ((X 2).getD q Ru.dR).1) ∧ w'.cell? ⟨p, of + q * 3 + 1, none⟩ = some (.int .i64 ((X 2).getD q Ru.dR).2.1) ∧ w'.cell? ⟨p, of + q * 3 + 2, none⟩ = some (.bool ((X 2).getD q Ru.dR).2.2) from by
    obtain ⟨p, of, e, d0, d1, d2, hp⟩ := HR2.out q (by rw [hl]; exact hq)
    exact ⟨p, of, e, (hb.cell (p := ⟨p, of + q * 3, none⟩) hp).trans d0, (hb.cell (p := ⟨p, of + q * 3 + 1, none⟩) hp).trans d1, (hb.cell (p := ⟨p, of + q * 3 + 2, none⟩) hp).trans d2⟩))
  have HE3 := Lib.hid (fun (hl : (X 3).length = 4) (q : Nat) (hq : q < 4) (w' : World) (hb : Below w.heap.size w w') => (show ∃ p of, A 3 = some ⟨p, of, none⟩ ∧ w'.cell? ⟨p, of + q * 3, none⟩ = some (.int .i64 ((X 3).getD q Ru.dR).1) ∧ w'.cell? ⟨p, of + q * 3 + 1, none⟩ = some (.int .i64 ((X 3).getD q Ru.dR).2.1) ∧ w'.cell? ⟨p, of + q * 3 + 2, none⟩ = some (.bool ((X 3).getD q Ru.dR).2.2) from by
    obtain ⟨p, of, e, d0, d1, d2, hp⟩ := HR3.out q (by rw [hl]; exact hq)
    exact ⟨p, of, e, (hb.cell (p := ⟨p, of + q * 3, none⟩) hp).trans d0, (hb.cell (p := ⟨p, of + q * 3 + 1, none⟩) hp).trans d1, (hb.cell (p := ⟨p, of + q * 3 + 2, none⟩) hp).trans d2⟩))
  have HE4 := Lib.hid (fun (hl : (X 4).length = 4) (q : Nat) (hq : q < 4) (w' : World) (hb : Below w.heap.size w w') => (show ∃ p of, A 4 = some ⟨p, of, none⟩ ∧ w'.cell? ⟨p, of + q * 3, none⟩ = some (.int .i64 ((X 4).getD q Ru.dR).1) ∧ w'.cell? ⟨p, of + q * 3 + 1, none⟩ = some (.int .i64 ((X 4).getD q Ru.dR).2.1) ∧ w'.cell? ⟨p, of + q * 3 + 2, none⟩ = some (.bool ((X 4).getD q Ru.dR).2.2) from by
    obtain ⟨p, of, e, d0, d1, d2, hp⟩ := HR4.out q (by rw [hl]; exact hq)
    exact ⟨p, of, e, (hb.cell (p := ⟨p, of + q * 3, none⟩) hp).trans d0, (hb.cell (p := ⟨p, of + q * 3 + 1, none⟩) hp).trans d1, (hb.cell (p := ⟨p, of + q * 3 + 2, none⟩) hp).trans d2⟩))
  have HZ2 := Lib.hid (fun (hx : ¬ (((X 2).getD 0 Ru.dR).1 = 0 ∧ ((X 2).getD 0 Ru.dR).2.2 = false)) => (show b = false from false_of hb (fun h => hx (((h 2 (by omega)).2 0 (by omega)).2.2.2 (by omega) rfl))))
  have HZ3 := Lib.hid (fun (hx : ¬ (((X 3).getD 0 Ru.dR).1 = 0 ∧ ((X 3).getD 0 Ru.dR).2.2 = false)) => (show b = false from false_of hb (fun h => hx (((h 3 (by omega)).2 0 (by omega)).2.2.2 (by omega) rfl))))
  have HZ4 := Lib.hid (fun (hx : ¬ (((X 4).getD 0 Ru.dR).1 = 0 ∧ ((X 4).getD 0 Ru.dR).2.2 = false)) => (show b = false from false_of hb (fun h => hx (((h 4 (by omega)).2 0 (by omega)).2.2.2 (by omega) rfl))))
  have HQ0 := Lib.hid (fun (q : Nat) (hq : q < 4) (hx : ¬ (((X 0).getD q Ru.dR).1 ≠ 0 ∧ ((X 0).getD q Ru.dR).2.1 ≠ 0)) => (show b = false from false_of hb (fun h => hx (((h 0 (by omega)).2 q hq).2.1 rfl))))
  have HQ2 := Lib.hid (fun (q : Nat) (hq : q < 4) (hx : ¬ (((X 2).getD q Ru.dR).1 = 0)) => (show b = false from false_of hb (fun h => hx (((h 2 (by omega)).2 q hq).2.2.1 rfl))))
  have HY := Lib.hid (fun (hT : ∀ k, k < 5 → okT (X k)) (hz : ∀ k, 2 ≤ k → k < 5 → ((X k).getD 0 Ru.dR).1 = 0 ∧ ((X k).getD 0 Ru.dR).2.2 = false) (h0 : ∀ q, q < 4 → (((X 0).getD q Ru.dR).1 ≠ 0 ∧ ((X 0).getD q Ru.dR).2.1 ≠ 0) ∧ ((X 2).getD q Ru.dR).1 = 0) => (show b = true from hb.2 fun k hk => ⟨(hT k hk).1, fun q hq => ⟨(hT k hk).2 q hq, fun e => by subst e; exact (h0 q hq).1, fun e => by subst e; exact (h0 q hq).2, fun h2 e => by subst e; exact hz k h2 hk⟩⟩))
  clear hb hr hm
  clear ht0 HR0
  clear ht1 HR1
  clear ht2 HR2
  clear ht3 HR3
  clear ht4 HR4
  have b0 := (Below.refl w.heap.size w).alloc (Nat.le_refl _) (.cells #[.slice (A 0) (X 0).length (C 0), .slice (A 1) (X 1).length (C 1), .slice (A 2) (X 2).length (C 2), .slice (A 3) (X 3).length (C 3), .slice (A 4) (X 4).length (C 4)] 24)
  have BP := Blk.newAt w w.heap.size [.slice (A 0) (X 0).length (C 0), .slice (A 1) (X 1).length (C 1), .slice (A 2) (X 2).length (C 2), .slice (A 3) (X 3).length (C 3), .slice (A 4) (X 4).length (C 4)] 24 rfl
  have HTB := Lib.hid (fun w => tables_i (A 0) (A 1) (A 2) (A 3) (A 4) (X 0).length (X 1).length (X 2).length (X 3).length (X 4).length (C 0) (C 1) (C 2) (C 3) (C 4) w)
  obtain ⟨N0, hN0⟩ : ∃ N, (X 0).length = N := ⟨_, rfl⟩
  have HN0 := Lib.hid hN0
  obtain ⟨N1, hN1⟩ : ∃ N, (X 1).length = N := ⟨_, rfl⟩
  have HN1 := Lib.hid hN1
  obtain ⟨N2, hN2⟩ : ∃ N, (X 2).length = N := ⟨_, rfl⟩
  have HN2 := Lib.hid hN2
  obtain ⟨N3, hN3⟩ : ∃ N, (X 3).length = N := ⟨_, rfl⟩
  have HN3 := Lib.hid hN3
  obtain ⟨N4, hN4⟩ : ∃ N, (X 4).length = N := ⟨_, rfl⟩
  have HN4 := Lib.hid hN4
  rw [hN0, hN1, hN2, hN3, hN4] at HTB b0 BP ⊢
  rw [hN0] at HT0
  rw [hN1] at HT1
  rw [hN2] at HT2
  rw [hN3] at HT3
  rw [hN4] at HT4
  clear hN0 hN1 hN2 hN3 hN4
  go_enter Try.func19, Try.ntmps19
  go_wp2_with fail
  have eL : (w.alloc (.cells #[.slice (A 0) N0 (C 0), .slice (A 1) N1 (C 1), .slice (A 2) N2 (C 2), .slice (A 3) N3 (C 3), .slice (A 4) N4 (C 4)] 24)) = w.alloc (.cells [.slice (A 0) N0 (C 0), .slice (A 1) N1 (C 1), .slice (A 2) N2 (C 2), .slice (A 3) N3 (C 3), .slice (A 4) N4 (C 4)].toArray 24) := rfl
  rw [eL] at b0 ⊢
  clear eL
  generalize w.alloc (.cells [.slice (A 0) N0 (C 0), .slice (A 1) N1 (C 1), .slice (A 2) N2 (C 2), .slice (A 3) N3 (C 3), .slice (A 4) N4 (C 4)].toArray 24) = W0 at *
  have B0 := Lib.hid b0
  have bl0 := BP.lt
  have HBP := Lib.hid (fun (w' : World) (hb : Below W0.heap.size W0 w') => (show w'.cell? ⟨w.heap.size, 0, none⟩ = some (.slice (A 0) N0 (C 0)) ∧ w'.cell? ⟨w.heap.size, 1, none⟩ = some (.slice (A 1) N1 (C 1)) ∧ w'.cell? ⟨w.heap.size, 2, none⟩ = some (.slice (A 2) N2 (C 2)) ∧ w'.cell? ⟨w.heap.size, 3, none⟩ = some (.slice (A 3) N3 (C 3)) ∧ w'.cell? ⟨w.heap.size, 4, none⟩ = some (.slice (A 4) N4 (C 4)) from by
    have k := BP.below hb bl0
    exact ⟨k.cell 0, k.cell 1, k.cell 2, k.cell 3, k.cell 4⟩))
  clear b0 BP
  refine (HTB.out W0).mono ?_; rintro e w1 ⟨rfl, b1⟩
  have B1 := Lib.hid b1
  clear b1 HTB
  go_wp2
  refine wp_loop_rounds 6 ?_
  have ri : (Instr.index 69 (.agg #[.slice (A 0) N0 (C 0), .slice (A 1) N1 (C 1), .slice (A 2) N2 (C 2), .slice (A 3) N3 (C 3), .slice (A 4) N4 (C 4)]) (.int .i64 0)).run Try.prog w1 = .ok (.slice (A 0) N0 (C 0)) w1 := run_ix5 w1 0 (by omega) _ _ _ _ _
  rw [rounds_succ]
  go_wp2_with fail
  refine (HT0.out _ (bt B0.out B1.out)).mono ?_; rintro e u0 ⟨rfl, bb⟩
  have D0 := Lib.hid (bt B1.out bb)
  clear bb
  clear ri
  cases t0
  · have e := HX0.out rfl
    clear HX0 HX1 HX2 HX3 HX4 HY HD0 HD1 HD2 HD3 HD4
    subst e
    go_wp2
    go_ret
    exact ⟨rfl, bt B0.out D0.out⟩
  · have K0 := Lib.hid (HD0.out rfl)
    go_wp2
    have ri : (Instr.index 69 (.agg #[.slice (A 0) N0 (C 0), .slice (A 1) N1 (C 1), .slice (A 2) N2 (C 2), .slice (A 3) N3 (C 3), .slice (A 4) N4 (C 4)]) (.int .i64 1)).run Try.prog u0 = .ok (.slice (A 1) N1 (C 1)) u0 := run_ix5 u0 1 (by omega) _ _ _ _ _
    rw [rounds_succ]
    go_wp2_with fail
    refine (HT1.out _ (bt B0.out D0.out)).mono ?_; rintro e u1 ⟨rfl, bb⟩
    have D1 := Lib.hid (bt D0.out bb)
    clear bb
    clear ri
    cases t1
    · have e := HX1.out rfl
      clear HX0 HX1 HX2 HX3 HX4 HY HD0 HD1 HD2 HD3 HD4
      subst e
      go_wp2
      go_ret
      exact ⟨rfl, bt B0.out D1.out⟩
    · have K1 := Lib.hid (HD1.out rfl)
      go_wp2
      have ri : (Instr.index 69 (.agg #[.slice (A 0) N0 (C 0), .slice (A 1) N1 (C 1), .slice (A 2) N2 (C 2), .slice (A 3) N3 (C 3), .slice (A 4) N4 (C 4)]) (.int .i64 2)).run Try.prog u1 = .ok (.slice (A 2) N2 (C 2)) u1 := run_ix5 u1 2 (by omega) _ _ _ _ _
      rw [rounds_succ]
      go_wp2_with fail
      refine (HT2.out _ (bt B0.out D1.out)).mono ?_; rintro e u2 ⟨rfl, bb⟩
      have D2 := Lib.hid (bt D1.out bb)
      clear bb
      clear ri
      cases t2
      · have e := HX2.out rfl
        clear HX0 HX1 HX2 HX3 HX4 HY HD0 HD1 HD2 HD3 HD4
        subst e
        go_wp2
        go_ret
        exact ⟨rfl, bt B0.out D2.out⟩
      · have K2 := Lib.hid (HD2.out rfl)
        go_wp2
        have ri : (Instr.index 69 (.agg #[.slice (A 0) N0 (C 0), .slice (A 1) N1 (C 1), .slice (A 2) N2 (C 2), .slice (A 3) N3 (C 3), .slice (A 4) N4 (C 4)]) (.int .i64 3)).run Try.prog u2 = .ok (.slice (A 3) N3 (C 3)) u2 := run_ix5 u2 3 (by omega) _ _ _ _ _
        rw [rounds_succ]
        go_wp2_with fail
        refine (HT3.out _ (bt B0.out D2.out)).mono ?_; rintro e u3 ⟨rfl, bb⟩
        have D3 := Lib.hid (bt D2.out bb)
        clear bb
        clear ri
        cases t3
        · have e := HX3.out rfl
          clear HX0 HX1 HX2 HX3 HX4 HY HD0 HD1 HD2 HD3 HD4
          subst e
          go_wp2
          go_ret
          exact ⟨rfl, bt B0.out D3.out⟩
        · have K3 := Lib.hid (HD3.out rfl)
          go_wp2
          have ri : (Instr.index 69 (.agg #[.slice (A 0) N0 (C 0), .slice (A 1) N1 (C 1), .slice (A 2) N2 (C 2), .slice (A 3) N3 (C 3), .slice (A 4) N4 (C 4)]) (.int .i64 4)).run Try.prog u3 = .ok (.slice (A 4) N4 (C 4)) u3 := run_ix5 u3 4 (by omega) _ _ _ _ _
          rw [rounds_succ]
          go_wp2_with fail
          refine (HT4.out _ (bt B0.out D3.out)).mono ?_; rintro e u4 ⟨rfl, bb⟩
          have D4 := Lib.hid (bt D3.out bb)
          clear bb
          clear ri
          cases t4
          · have e := HX4.out rfl
            clear HX0 HX1 HX2 HX3 HX4 HY HD0 HD1 HD2 HD3 HD4
            subst e
            go_wp2
            go_ret
            exact ⟨rfl, bt B0.out D4.out⟩
          · have K4 := Lib.hid (HD4.out rfl)
            go_wp2
            have HG0 := Lib.hid (HE0.out K0.out.1)
            have HG2 := Lib.hid (HE2.out K2.out.1)
            have HG3 := Lib.hid (HE3.out K3.out.1)
            have HG4 := Lib.hid (HE4.out K4.out.1)
            have e0 : N0 = 4 := by rw [← HN0.out]; exact K0.out.1
            have e1 : N1 = 4 := by rw [← HN1.out]; exact K1.out.1
            have e2 : N2 = 4 := by rw [← HN2.out]; exact K2.out.1
            have e3 : N3 = 4 := by rw [← HN3.out]; exact K3.out.1
            have e4 : N4 = 4 := by rw [← HN4.out]; exact K4.out.1
            clear HE0 HE2 HE3 HE4 HX0 HX1 HX2 HX3 HX4 HD0 HD1 HD2 HD3 HD4 HT0 HT1 HT2 HT3 HT4 HN0 HN1 HN2 HN3 HN4
            subst e0 e1 e2 e3 e4
            have HK := Lib.hid (fun k (hk : k < 5) => (show okT (X k) from match k, hk with | 0, _ => K0.out | 1, _ => K1.out | 2, _ => K2.out | 3, _ => K3.out | 4, _ => K4.out))
            clear K0 K1 K2 K3 K4
            have BWu := Lib.hid (bt B0.out D4.out)
            obtain ⟨P0, O0, e0, _⟩ := HG0.out 0 (by omega) u4 BWu.out
            have HV0 := Lib.hid (fun (q : Nat) (hq : q < 4) (w' : World) (hb : Below w.heap.size w w') => (show w'.cell? ⟨P0, O0 + q * 3, none⟩ = some (.int .i64 ((X 0).getD q Ru.dR).1) ∧ w'.cell? ⟨P0, O0 + q * 3 + 1, none⟩ = some (.int .i64 ((X 0).getD q Ru.dR).2.1) ∧ w'.cell? ⟨P0, O0 + q * 3 + 2, none⟩ = some (.bool ((X 0).getD q Ru.dR).2.2) from by
              obtain ⟨p, of, e, h⟩ := HG0.out q hq w' hb
              rw [e0] at e
              injection e with e
              injection e with e1 e2
              subst e1 e2
              exact h))
            obtain ⟨P2, O2, e2, _⟩ := HG2.out 0 (by omega) u4 BWu.out
            have HV2 := Lib.hid (fun (q : Nat) (hq : q < 4) (w' : World) (hb : Below w.heap.size w w') => (show w'.cell? ⟨P2, O2 + q * 3, none⟩ = some (.int .i64 ((X 2).getD q Ru.dR).1) ∧ w'.cell? ⟨P2, O2 + q * 3 + 1, none⟩ = some (.int .i64 ((X 2).getD q Ru.dR).2.1) ∧ w'.cell? ⟨P2, O2 + q * 3 + 2, none⟩ = some (.bool ((X 2).getD q Ru.dR).2.2) from by
              obtain ⟨p, of, e, h⟩ := HG2.out q hq w' hb
              rw [e2] at e
              injection e with e
              injection e with e1 e2
              subst e1 e2
              exact h))
            obtain ⟨P3, O3, e3, _⟩ := HG3.out 0 (by omega) u4 BWu.out
            have HV3 := Lib.hid (fun (q : Nat) (hq : q < 4) (w' : World) (hb : Below w.heap.size w w') => (show w'.cell? ⟨P3, O3 + q * 3, none⟩ = some (.int .i64 ((X 3).getD q Ru.dR).1) ∧ w'.cell? ⟨P3, O3 + q * 3 + 1, none⟩ = some (.int .i64 ((X 3).getD q Ru.dR).2.1) ∧ w'.cell? ⟨P3, O3 + q * 3 + 2, none⟩ = some (.bool ((X 3).getD q Ru.dR).2.2) from by
              obtain ⟨p, of, e, h⟩ := HG3.out q hq w' hb
              rw [e3] at e
              injection e with e
              injection e with e1 e2
              subst e1 e2
              exact h))
            obtain ⟨P4, O4, e4, _⟩ := HG4.out 0 (by omega) u4 BWu.out
            have HV4 := Lib.hid (fun (q : Nat) (hq : q < 4) (w' : World) (hb : Below w.heap.size w w') => (show w'.cell? ⟨P4, O4 + q * 3, none⟩ = some (.int .i64 ((X 4).getD q Ru.dR).1) ∧ w'.cell? ⟨P4, O4 + q * 3 + 1, none⟩ = some (.int .i64 ((X 4).getD q Ru.dR).2.1) ∧ w'.cell? ⟨P4, O4 + q * 3 + 2, none⟩ = some (.bool ((X 4).getD q Ru.dR).2.2) from by
              obtain ⟨p, of, e, h⟩ := HG4.out q hq w' hb
              rw [e4] at e
              injection e with e
              injection e with e1 e2
              subst e1 e2
              exact h))
            rw [e0, e2, e3, e4] at HBP ⊢
            clear HG0 HG2 HG3 HG4 e0 e2 e3 e4
            obtain ⟨p0, p1, p2, p3, p4⟩ := HBP.out u4 D4.out
            obtain ⟨V0, hV0⟩ : ∃ V, V = u4.alloc (.cells #[.slice (some ⟨P2, O2, none⟩) 4 (C 2), .slice (some ⟨P3, O3, none⟩) 4 (C 3), .slice (some ⟨P4, O4, none⟩) 4 (C 4)] 22) := ⟨_, rfl⟩
            have BV : Blk V0 u4.heap.size [.slice (some ⟨P2, O2, none⟩) 4 (C 2), .slice (some ⟨P3, O3, none⟩) 4 (C 3), .slice (some ⟨P4, O4, none⟩) 4 (C 4)] 22 := by rw [hV0]; exact Blk.newAt _ _ _ _ rfl
            have DV := Lib.hid (show Below W0.heap.size W0 V0 by rw [hV0]; exact D4.out.alloc D4.out.size _)
            have bv := BV.lt
            have HBV := Lib.hid (fun (w' : World) (hb : Below V0.heap.size V0 w') => BV.below hb bv)
            rw [rounds_succ]
            go_wp2
            rw [← hV0]
            clear hV0 p0 p1 p2 p3 p4 BV
            have SV := Lib.hid (Below.refl V0.heap.size V0)
            refine wp_loop_rounds 4 ?_
            obtain ⟨n, s, bk, hr⟩ : ∃ n s bk, (X 2).getD 0 Ru.dR = (n, s, bk) := ⟨_, _, _, rfl⟩
            obtain ⟨d0, d1, d2⟩ := HV2.out 0 (by omega) V0 (bt B0.out (bt DV.out SV.out))
            rw [hr] at d0 d1 d2
            have HZ := Lib.hid (show ¬ (n = 0 ∧ bk = false) → b = false from by have h := HZ2.out; rw [hr] at h; exact h)
            have HW2 := Lib.hid (fun (h : n = 0 ∧ bk = false) => (show ((X 2).getD 0 Ru.dR).1 = 0 ∧ ((X 2).getD 0 Ru.dR).2.2 = false from by rw [hr]; exact h))
            have d0 : V0.cell? ⟨P2, O2, none⟩ = some (.int .i64 n) := by simpa using d0
            have d1 : V0.cell? ⟨P2, O2 + 1, none⟩ = some (.int .i64 s) := by simpa using d1
            have d2 : V0.cell? ⟨P2, O2 + 2, none⟩ = some (.bool bk) := by simpa using d2
            have v : V0.cell? ⟨u4.heap.size, 0, none⟩ = some (.slice (some ⟨P2, O2, none⟩) 4 (C 2)) := (HBV.out _ SV.out).cell 0
            clear hr HZ2
            have SA := Lib.hid (SV.out.alloc SV.out.size (.cells #[.int .i64 n, .int .i64 s, .bool bk] 40))
            have FA := Lib.hid (bt B0.out (bt DV.out SA.out))
            by_cases n0 : n = 0
            · subst n0
              cases bk
              · have HWa2 := Lib.hid (HW2.out ⟨rfl, rfl⟩)
                rw [rounds_succ]
                go_wp2
                clear HZ FA d0 d1 d2 v
                generalize V0.alloc (.cells #[.int .i64 0, .int .i64 s, .bool false] 40) = V1 at *
                have SV1 := SA
                clear SA
                obtain ⟨n, s, bk, hr⟩ : ∃ n s bk, (X 3).getD 0 Ru.dR = (n, s, bk) := ⟨_, _, _, rfl⟩
                obtain ⟨d0, d1, d2⟩ := HV3.out 0 (by omega) V1 (bt B0.out (bt DV.out SV1.out))
                rw [hr] at d0 d1 d2
                have HZ := Lib.hid (show ¬ (n = 0 ∧ bk = false) → b = false from by have h := HZ3.out; rw [hr] at h; exact h)
                have HW3 := Lib.hid (fun (h : n = 0 ∧ bk = false) => (show ((X 3).getD 0 Ru.dR).1 = 0 ∧ ((X 3).getD 0 Ru.dR).2.2 = false from by rw [hr]; exact h))
                have d0 : V1.cell? ⟨P3, O3, none⟩ = some (.int .i64 n) := by simpa using d0
                have d1 : V1.cell? ⟨P3, O3 + 1, none⟩ = some (.int .i64 s) := by simpa using d1
                have d2 : V1.cell? ⟨P3, O3 + 2, none⟩ = some (.bool bk) := by simpa using d2
                have v : V1.cell? ⟨u4.heap.size, 1, none⟩ = some (.slice (some ⟨P3, O3, none⟩) 4 (C 3)) := (HBV.out _ SV1.out).cell 1
                clear hr HZ3
                have SA := Lib.hid (SV1.out.alloc SV1.out.size (.cells #[.int .i64 n, .int .i64 s, .bool bk] 40))
                have FA := Lib.hid (bt B0.out (bt DV.out SA.out))
                by_cases n0 : n = 0
                · subst n0
                  cases bk
                  · have HWa3 := Lib.hid (HW3.out ⟨rfl, rfl⟩)
                    rw [rounds_succ]
                    go_wp2
                    clear HZ FA d0 d1 d2 v
                    generalize V1.alloc (.cells #[.int .i64 0, .int .i64 s, .bool false] 40) = V2 at *
                    have SV2 := SA
                    clear SA
                    obtain ⟨n, s, bk, hr⟩ : ∃ n s bk, (X 4).getD 0 Ru.dR = (n, s, bk) := ⟨_, _, _, rfl⟩
                    obtain ⟨d0, d1, d2⟩ := HV4.out 0 (by omega) V2 (bt B0.out (bt DV.out SV2.out))
                    rw [hr] at d0 d1 d2
                    have HZ := Lib.hid (show ¬ (n = 0 ∧ bk = false) → b = false from by have h := HZ4.out; rw [hr] at h; exact h)
                    have HW4 := Lib.hid (fun (h : n = 0 ∧ bk = false) => (show ((X 4).getD 0 Ru.dR).1 = 0 ∧ ((X 4).getD 0 Ru.dR).2.2 = false from by rw [hr]; exact h))
                    have d0 : V2.cell? ⟨P4, O4, none⟩ = some (.int .i64 n) := by simpa using d0
                    have d1 : V2.cell? ⟨P4, O4 + 1, none⟩ = some (.int .i64 s) := by simpa using d1
                    have d2 : V2.cell? ⟨P4, O4 + 2, none⟩ = some (.bool bk) := by simpa using d2
                    have v : V2.cell? ⟨u4.heap.size, 2, none⟩ = some (.slice (some ⟨P4, O4, none⟩) 4 (C 4)) := (HBV.out _ SV2.out).cell 2
                    clear hr HZ4
                    have SA := Lib.hid (SV2.out.alloc SV2.out.size (.cells #[.int .i64 n, .int .i64 s, .bool bk] 40))
                    have FA := Lib.hid (bt B0.out (bt DV.out SA.out))
                    by_cases n0 : n = 0
                    · subst n0
                      cases bk
                      · have HWa4 := Lib.hid (HW4.out ⟨rfl, rfl⟩)
                        rw [rounds_succ]
                        go_wp2
                        clear HZ FA d0 d1 d2 v
                        generalize V2.alloc (.cells #[.int .i64 0, .int .i64 s, .bool false] 40) = V3 at *
                        have SV3 := SA
                        clear SA
                        rw [rounds_succ]
                        go_wp2
                        have DB := Lib.hid (bt DV.out SV3.out)
                        go_loopw [42] (fun i wr => ∃ q : Nat, q ≤ 4 ∧ i = .int .i64 q ∧ Hid (∀ q', q' < q → (((X 0).getD q' Ru.dR).1 ≠ 0 ∧ ((X 0).getD q' Ru.dR).2.1 ≠ 0) ∧ ((X 2).getD q' Ru.dR).1 = 0) ∧ Hid (Below W0.heap.size W0 wr)) (fun i _ => 4 - (intOf i).toNat)
                        case atStart => exact ⟨0, Nat.zero_le _, rfl, Lib.hid (fun i h => by omega), DB⟩
                        case round =>
                          obtain ⟨q, hq, rfl, ho, hb2⟩ := hrel
                          by_cases hq4 : q < 4
                          · have hq4' : (q : Int) < 4 := by omega
                            obtain ⟨d0, d1, d2⟩ := HV0.out q hq4 wr (bt B0.out hb2.out)
                            obtain ⟨f0, f1, f2⟩ := HV2.out q hq4 wr (bt B0.out hb2.out)
                            obtain ⟨p0, _, p2, _, _⟩ := HBP.out wr hb2.out
                            have HF0 := Lib.hid (HQ0.out q hq4)
                            have HF2 := Lib.hid (HQ2.out q hq4)
                            have HN := Lib.hid (fun (h : (((X 0).getD q Ru.dR).1 ≠ 0 ∧ ((X 0).getD q Ru.dR).2.1 ≠ 0) ∧ ((X 2).getD q Ru.dR).1 = 0) => (show ∀ q', q' < q + 1 → (((X 0).getD q' Ru.dR).1 ≠ 0 ∧ ((X 0).getD q' Ru.dR).2.1 ≠ 0) ∧ ((X 2).getD q' Ru.dR).1 = 0 from fun q' hq' => by
                              by_cases e : q' = q
                              · subst e; exact h
                              · exact ho.out q' (by omega)))
                            clear ho
                            generalize (X 0).getD q Ru.dR = r at *
                            obtain ⟨n, s, bk⟩ := r
                            generalize (X 2).getD q Ru.dR = r at *
                            obtain ⟨m, y, z⟩ := r
                            have d0 : wr.cell? ⟨P0, O0 + q * 3, none⟩ = some (.int .i64 n) := d0
                            have d1 : wr.cell? ⟨P0, O0 + q * 3 + 1, none⟩ = some (.int .i64 s) := d1
                            have d2 : wr.cell? ⟨P0, O0 + q * 3 + 2, none⟩ = some (.bool bk) := d2
                            have f0 : wr.cell? ⟨P2, O2 + q * 3, none⟩ = some (.int .i64 m) := f0
                            clear f1 f2
                            have SA := Lib.hid (hb2.out.alloc (by have := hb2.out.size; omega) (.cells #[.int .i64 n, .int .i64 s, .bool bk] 40))
                            have FA := Lib.hid (bt B0.out SA.out)
                            have q0 := Lib.hid (hb2.out.size)
                            have hp2 : P2 < wr.heap.size := by
                              rcases Nat.lt_or_ge P2 wr.heap.size with h | h
                              · exact h
                              · exact World.block_lt_of_cell? wr _ f0
                            have hpw : w.heap.size < wr.heap.size := by have := q0.out; omega
                            clear hb2
                            by_cases n0 : n = 0
                            · subst n0
                              have e := HF0.out (fun h => h.1 rfl)
                              clear HF0 HF2 HN HY
                              subst e
                              go_wp2
                              go_ret
                              exact ⟨rfl, FA.out⟩
                            · have n1 : (n == 0) = false := by simp [n0]
                              by_cases s0 : s = 0
                              · subst s0
                                have e := HF0.out (fun h => h.2 rfl)
                                clear HF0 HF2 HN HY
                                subst e
                                go_wp2
                                go_ret
                                exact ⟨rfl, FA.out⟩
                              · have s1 : (s == 0) = false := by simp [s0]
                                by_cases m0 : m = 0
                                · subst m0
                                  have HN3 := Lib.hid (HN.out ⟨⟨n0, s0⟩, rfl⟩)
                                  clear HF0 HF2 HN
                                  go_wp2
                                  go_roundw
                                  case rel => exact ⟨q + 1, by omega, by go_num, HN3, SA⟩
                                  case measure => simp [intOf]; omega
                                · have m1 : (m != 0) = true := by simp [m0]
                                  have e := HF2.out m0
                                  clear HF0 HF2 HN HY
                                  subst e
                                  go_wp2
                                  go_ret
                                  exact ⟨rfl, FA.out⟩
                          · have e : q = 4 := by omega
                            subst e
                            have e := HY.out HK.out (fun k h2 h5 => by
                              match k, h2, h5 with
                              | 2, _, _ => exact HWa2.out
                              | 3, _, _ => exact HWa3.out
                              | 4, _, _ => exact HWa4.out) ho.out
                            clear HY HQ0 HQ2 ho
                            subst e
                            go_wp2
                            go_ret
                            exact ⟨rfl, bt B0.out hb2.out⟩
                      · have e := HZ.out (by simp)
                        clear HZ HY HQ0 HQ2
                        subst e
                        rw [rounds_succ]
                        go_wp2
                        go_ret
                        exact ⟨rfl, FA.out⟩
                    · have n1 : (n != 0) = true := by simp [n0]
                      have e := HZ.out (fun h => n0 h.1)
                      clear HZ HY HQ0 HQ2
                      subst e
                      rw [rounds_succ]
                      go_wp2
                      go_ret
                      exact ⟨rfl, FA.out⟩
                  · have e := HZ.out (by simp)
                    clear HZ HY HQ0 HQ2
                    subst e
                    rw [rounds_succ]
                    go_wp2
                    go_ret
                    exact ⟨rfl, FA.out⟩
                · have n1 : (n != 0) = true := by simp [n0]
                  have e := HZ.out (fun h => n0 h.1)
                  clear HZ HY HQ0 HQ2
                  subst e
                  rw [rounds_succ]
                  go_wp2
                  go_ret
                  exact ⟨rfl, FA.out⟩
              · have e := HZ.out (by simp)
                clear HZ HY HQ0 HQ2
                subst e
                rw [rounds_succ]
                go_wp2
                go_ret
                exact ⟨rfl, FA.out⟩
            · have n1 : (n != 0) = true := by simp [n0]
              have e := HZ.out (fun h => n0 h.1)
              clear HZ HY HQ0 HQ2
              subst e
              rw [rounds_succ]
              go_wp2
              go_ret
              exact ⟨rfl, FA.out⟩
end Go.Proofs.Ytmmjdmgnmlhjeaa.Pt
