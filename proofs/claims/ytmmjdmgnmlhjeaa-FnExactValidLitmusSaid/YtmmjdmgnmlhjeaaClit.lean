/- Valid threads: the model and the program. -/
import Derived.Test.YtmmjdmgnmlhjeaaCtaq
import Derived.Test.YtmmjdmgnmlhjeaaCbtg
import Derived.Test.YtmmjdmgnmlhjeaaCbt
namespace Go.Proofs.Ytmmjdmgnmlhjeaa.Sq
open Go.RowKit
def okSt (r : R) : Prop := (r.1 = 2 ∧ r.2.1 = 0 ∧ r.2.2 = 0) ∨ (r.1 = 0 ∧ (0 ≤ r.2.1 ∧ r.2.1 ≤ 1) ∧ r.2.2 = 0) ∨ (r.1 = 1 ∧ (0 ≤ r.2.1 ∧ r.2.1 ≤ 1) ∧ (1 ≤ r.2.2 ∧ r.2.2 ≤ 2))
def okL (xss : List (List R)) : Prop := (1 ≤ xss.length ∧ xss.length ≤ 2) ∧ ∀ k, k < xss.length → (xss.getD k []).length ≤ 4 ∧ ∀ i, i < (xss.getD k []).length → okSt ((xss.getD k []).getD i dR)
theorem false_of {b : Bool} {P : Prop} (h : b = true ↔ P) (hn : ¬ P) : b = false := by cases b <;> simp_all
def in01 (n : Int) : Bool := decide (0 ≤ n) && decide (n ≤ 1)
def in12 (n : Int) : Bool := decide (1 ≤ n) && decide (n ≤ 2)
theorem in01_iff (n : Int) : in01 n = true ↔ 0 ≤ n ∧ n ≤ 1 := by simp [in01]
theorem in12_iff (n : Int) : in12 n = true ↔ 1 ≤ n ∧ n ≤ 2 := by simp [in12]
theorem s01 (n : Int) (w : World) : Calls Try.prog 43 #[.int .i64 n, .int .i64 0, .int .i64 1] w (Bl (in01 n) w) := Tr.in_g n 0 1 w
theorem s12 (n : Int) (w : World) : Calls Try.prog 43 #[.int .i64 n, .int .i64 1, .int .i64 2] w (Bl (in12 n) w) := Tr.in_g n 1 2 w
theorem i01 (n : Int) (w : World) : Calls Try.prog 47 #[.int .i64 n, .int .i64 0, .int .i64 1] w (Bl (in01 n) w) := Tr.btw_g n 0 1 w
theorem i12 (n : Int) (w : World) : Calls Try.prog 47 #[.int .i64 n, .int .i64 1, .int .i64 2] w (Bl (in12 n) w) := Tr.btw_g n 1 2 w

set_option maxHeartbeats 2000000 in
theorem step_i (k p v : Int) (b : Bool) (hb : b = true ↔ okSt (k, p, v)) (w : World) :
    Calls Try.prog 61 #[.agg #[.int .i64 k, .int .i64 p, .int .i64 v]] w (BbA b w) := by
  have H1 := Lib.hid (fun w => i01 p w)
  have H2 := Lib.hid (fun w => i12 v w)
  have b0 := Lib.hid ((Below.refl w.heap.size w).alloc (Nat.le_refl _) (.cells #[.int .i64 k, .int .i64 p, .int .i64 v] 96))
  have HF := Lib.hid (fun (h : ¬ okSt (k, p, v)) => (show b = false from false_of hb h))
  have HT := Lib.hid (fun (h : okSt (k, p, v)) => (show b = true from hb.2 h))
  clear hb
  by_cases k0 : k = 0
  · subst k0
    cases hp : in01 p
    · rw [hp] at H1
      have e := HF.out (fun h => by
        rcases h with ⟨h1, h2, h3⟩ | ⟨_, h1, _⟩ | ⟨h1, _⟩
        · exact absurd h1 (show ¬ ((0 : Int) = 2) by decide)
        · rw [(in01_iff p).2 h1] at hp; cases hp
        · exact absurd h1 (show ¬ ((0 : Int) = 1) by decide))
      clear HF HT
      subst e
      go_enter Try.func61, Try.ntmps61
      go_wp2_with (go_at_call 47; first | ((with_reducible refine (H1.out _).mono ?_); rintro e w' ⟨rfl, rfl⟩) | ((with_reducible refine (H2.out _).mono ?_); rintro e w' ⟨rfl, rfl⟩))
      all_goals
        go_ret
        exact ⟨rfl, (Below.refl _ _).alloc (Nat.le_refl _) _⟩
    · rw [hp] at H1
      have hp' := (in01_iff p).1 hp
      by_cases v0 : v = 0
      · subst v0
        have e := HT.out (.inr (.inl ⟨rfl, hp', rfl⟩))
        clear HF HT
        subst e
        go_enter Try.func61, Try.ntmps61
        go_wp2_with (go_at_call 47; first | ((with_reducible refine (H1.out _).mono ?_); rintro e w' ⟨rfl, rfl⟩) | ((with_reducible refine (H2.out _).mono ?_); rintro e w' ⟨rfl, rfl⟩))
        all_goals
          go_ret
          exact ⟨rfl, (Below.refl _ _).alloc (Nat.le_refl _) _⟩
      · have v1 : (v == 0) = false := by simp [v0]
        have e := HF.out (fun h => by
          rcases h with ⟨h1, h2, h3⟩ | ⟨_, _, h1⟩ | ⟨h1, _⟩
          · exact absurd h1 (show ¬ ((0 : Int) = 2) by decide)
          · exact v0 h1
          · exact absurd h1 (show ¬ ((0 : Int) = 1) by decide))
        clear HF HT
        subst e
        go_enter Try.func61, Try.ntmps61
        go_wp2_with (go_at_call 47; first | ((with_reducible refine (H1.out _).mono ?_); rintro e w' ⟨rfl, rfl⟩) | ((with_reducible refine (H2.out _).mono ?_); rintro e w' ⟨rfl, rfl⟩))
        all_goals
          go_ret
          exact ⟨rfl, (Below.refl _ _).alloc (Nat.le_refl _) _⟩
  · have k01 : (k == 0) = false := by simp [k0]
    by_cases k1 : k = 1
    · subst k1
      cases hp : in01 p
      · rw [hp] at H1
        have e := HF.out (fun h => by
          rcases h with ⟨h1, h2, h3⟩ | ⟨h1, _⟩ | ⟨_, h1, _⟩
          · exact absurd h1 (show ¬ ((1 : Int) = 2) by decide)
          · exact absurd h1 (show ¬ ((1 : Int) = 0) by decide)
          · rw [(in01_iff p).2 h1] at hp; cases hp)
        clear HF HT
        subst e
        go_enter Try.func61, Try.ntmps61
        go_wp2_with (go_at_call 47; first | ((with_reducible refine (H1.out _).mono ?_); rintro e w' ⟨rfl, rfl⟩) | ((with_reducible refine (H2.out _).mono ?_); rintro e w' ⟨rfl, rfl⟩))
        all_goals
          go_ret
          exact ⟨rfl, (Below.refl _ _).alloc (Nat.le_refl _) _⟩
      · rw [hp] at H1
        have hp' := (in01_iff p).1 hp
        cases hv : in12 v
        · rw [hv] at H2
          have e := HF.out (fun h => by
            rcases h with ⟨h1, h2, h3⟩ | ⟨h1, _⟩ | ⟨_, _, h1⟩
            · exact absurd h1 (show ¬ ((1 : Int) = 2) by decide)
            · exact absurd h1 (show ¬ ((1 : Int) = 0) by decide)
            · rw [(in12_iff v).2 h1] at hv; cases hv)
          clear HF HT
          subst e
          go_enter Try.func61, Try.ntmps61
          go_wp2_with (go_at_call 47; first | ((with_reducible refine (H1.out _).mono ?_); rintro e w' ⟨rfl, rfl⟩) | ((with_reducible refine (H2.out _).mono ?_); rintro e w' ⟨rfl, rfl⟩))
          all_goals
            go_ret
            exact ⟨rfl, (Below.refl _ _).alloc (Nat.le_refl _) _⟩
        · rw [hv] at H2
          have hv' := (in12_iff v).1 hv
          have e := HT.out (.inr (.inr ⟨rfl, hp', hv'⟩))
          clear HF HT
          subst e
          go_enter Try.func61, Try.ntmps61
          go_wp2_with (go_at_call 47; first | ((with_reducible refine (H1.out _).mono ?_); rintro e w' ⟨rfl, rfl⟩) | ((with_reducible refine (H2.out _).mono ?_); rintro e w' ⟨rfl, rfl⟩))
          all_goals
            go_ret
            exact ⟨rfl, (Below.refl _ _).alloc (Nat.le_refl _) _⟩
    · have k11 : (k == 1) = false := by simp [k1]
      by_cases k2 : k = 2 ∧ p = 0 ∧ v = 0
      · obtain ⟨rfl, rfl, rfl⟩ := k2
        have e := HT.out (.inl ⟨rfl, rfl, rfl⟩)
        clear HF HT
        subst e
        go_enter Try.func61, Try.ntmps61
        go_wp2_with (go_at_call 47; first | ((with_reducible refine (H1.out _).mono ?_); rintro e w' ⟨rfl, rfl⟩) | ((with_reducible refine (H2.out _).mono ?_); rintro e w' ⟨rfl, rfl⟩))
        all_goals
          go_ret
          exact ⟨rfl, (Below.refl _ _).alloc (Nat.le_refl _) _⟩
      · have e := HF.out (fun h => by
          rcases h with ⟨h1, h2, h3⟩ | ⟨h1, _⟩ | ⟨h1, _⟩
          · exact k2 ⟨h1, h2, h3⟩
          · exact k0 h1
          · exact k1 h1)
        clear HF HT
        subst e
        go_enter Try.func61, Try.ntmps61
        go_wp2_with (go_at_call 47; first | ((with_reducible refine (H1.out _).mono ?_); rintro e w' ⟨rfl, rfl⟩) | ((with_reducible refine (H2.out _).mono ?_); rintro e w' ⟨rfl, rfl⟩))
        all_goals
          go_ret
          exact ⟨rfl, (Below.refl _ _).alloc (Nat.le_refl _) _⟩

set_option maxHeartbeats 8000000 in
set_option maxRecDepth 100000 in
theorem lit_s (a : Option Addr) (c : Nat) (xss : List (List R)) (b : Bool) (hb : b = true ↔ okL xss) (w : World) (hr : RdT w a xss) (hm : xss.length ≤ 1048576) (hm2 : ∀ k, k < xss.length → (xss.getD k []).length ≤ 1048576) :
    Calls Try.prog 59 #[.slice a xss.length c] w (BbA b w) := by
  have HR := Lib.hid hr.2
  have HF1 := Lib.hid (fun (h : ¬ (1 ≤ xss.length ∧ xss.length ≤ 2)) => (show b = false from false_of hb (fun k => h k.1)))
  have HF := Lib.hid (fun (k : Nat) (hk : k < xss.length) (h : ¬ (xss.getD k []).length ≤ 4) => (show b = false from false_of hb (fun g => h (g.2 k hk).1)))
  have HF2 := Lib.hid (fun (k i : Nat) (hk : k < xss.length) (hi : i < (xss.getD k []).length) (h : ¬ okSt ((xss.getD k []).getD i dR)) => (show b = false from false_of hb (fun g => h ((g.2 k hk).2 i hi))))
  have HY := Lib.hid (fun (h1 : 1 ≤ xss.length ∧ xss.length ≤ 2) (h : ∀ k, k < xss.length → (xss.getD k []).length ≤ 4 ∧ ∀ i, i < (xss.getD k []).length → okSt ((xss.getD k []).getD i dR)) => (show b = true from hb.2 ⟨h1, h⟩))
  have HM2 := Lib.hid hm2
  clear hb hr hm2
  have HE := Lib.hid (fun w => s12 (xss.length : Int) w)
  generalize hNx : xss.length = N at *
  clear hNx
  go_enter Try.func59, Try.ntmps59
  go_wp2
  go_loopw [3] (fun i wr => ∃ k : Nat, k ≤ N ∧ i = .int .i64 k ∧ Hid (∀ k', k' < k → (xss.getD k' []).length ≤ 4 ∧ ∀ i, i < (xss.getD k' []).length → okSt ((xss.getD k' []).getD i dR)) ∧ Hid (Below w.heap.size w wr)) (fun i _ => N - (intOf i).toNat)
  case atStart => exact ⟨0, Nat.zero_le _, rfl, Lib.hid (fun i h => by omega), Below.refl _ _⟩
  case round =>
    obtain ⟨k, hk, rfl, ho, hb⟩ := hrel
    by_cases hkN : k < N
    · obtain ⟨p, o, A, C, rfl, hc, hrow, hmx, hp⟩ := HR.out k hkN
      have HC := Lib.hid (fun (w' : World) (h : Below w.heap.size w w') => (h.cell (p := ⟨p, o + k, none⟩) hp).trans hc)
      have HRW := Lib.hid (fun (w' : World) (h : Below w.heap.size w w') => RdR.below hrow h)
      have HFk := Lib.hid (HF.out k hkN)
      have HF2k := Lib.hid (fun i hi => HF2.out k i hkN hi)
      have HN := Lib.hid (fun (h : (xss.getD k []).length ≤ 4 ∧ ∀ i, i < (xss.getD k []).length → okSt ((xss.getD k []).getD i dR)) => (show ∀ k', k' < k + 1 → (xss.getD k' []).length ≤ 4 ∧ ∀ i, i < (xss.getD k' []).length → okSt ((xss.getD k' []).getD i dR) from fun k' hk' => by
        by_cases e : k' = k
        · subst e; exact h
        · exact ho.out k' (by omega)))
      have BW := Lib.hid hb.out
      have hc1 := HC.out wr hb.out
      have hmk := HM2.out k hkN
      unfold RdR at HRW
      clear ho hc hrow HR HF HF2
      generalize xss.getD k [] = xs at *
      by_cases hl : xs.length ≤ 4
      · have hl' : ¬ (4 < (xs.length : Int)) := by omega
        have HN2 := Lib.hid (fun h => HN.out ⟨hl, h⟩)
        clear HFk HN hb
        obtain ⟨n, hn⟩ : ∃ n, xs.length = n := ⟨_, rfl⟩
        have HNx := Lib.hid hn
        rw [hn] at hl hl' hc1 hmk hmx
        clear hn
        go_wp2
        generalize wr = W9 at *
        go_loopw [4] (fun i w2 => ∃ q : Nat, q ≤ n ∧ i = .int .i64 q ∧ Hid (∀ q', q' < q → okSt (xs.getD q' dR)) ∧ Hid (Below w.heap.size w w2)) (fun i _ => n - (intOf i).toNat)
        case atStart => exact ⟨0, Nat.zero_le _, rfl, Lib.hid (fun i h => by omega), BW⟩
        case round =>
          obtain ⟨q, hq, rfl, ho2, hb2⟩ := hrel
          have hc2 := HC.out wr hb2.out
          rw [HNx.out] at hc2
          by_cases hqn : q < n
          · obtain ⟨p2, o2, rfl, d0, d1, d2, hp2⟩ := HRW.out wr hb2.out q (by rw [HNx.out]; exact hqn)
            have HFq := Lib.hid (HF2k.out q (by rw [HNx.out]; exact hqn))
            have HNq := Lib.hid (fun (h : okSt (xs.getD q dR)) => (show ∀ q', q' < q + 1 → okSt (xs.getD q' dR) from fun q' hq' => by
              by_cases e : q' = q
              · subst e; exact h
              · exact ho2.out q' (by omega)))
            generalize xs.getD q dR = r at *
            obtain ⟨kd, pl, vl⟩ := r
            have d0 : wr.cell? ⟨p2, o2 + q * 3, none⟩ = some (.int .i64 kd) := d0
            have d1 : wr.cell? ⟨p2, o2 + q * 3 + 1, none⟩ = some (.int .i64 pl) := d1
            have d2 : wr.cell? ⟨p2, o2 + q * 3 + 2, none⟩ = some (.int .i64 vl) := d2
            have SA := Lib.hid (hb2.out.alloc hb2.out.size (.cells #[.int .i64 kd, .int .i64 pl, .int .i64 vl] 96))
            have hq1 := hb2.out.size
            clear ho2 hb2
            have H1 := Lib.hid (fun w => s01 pl w)
            have H2 := Lib.hid (fun w => s12 vl w)
            by_cases k0 : kd = 0
            · subst k0
              cases hp : in01 pl
              · rw [hp] at H1
                have e := HFq.out (fun h => by
                  rcases h with ⟨h1, h2, h3⟩ | ⟨h1, h2, h3⟩ | ⟨h1, h2, h3⟩
                  · exact absurd h1 (show ¬ ((0 : Int) = 2) by decide)
                  · rw [(in01_iff pl).2 h2] at hp; cases hp
                  · exact absurd h1 (show ¬ ((0 : Int) = 1) by decide))
                clear HFq HNq HY
                subst e
                go_wp2_with (go_at_call 43; first | ((with_reducible refine (H1.out _).mono ?_); rintro e w' ⟨rfl, rfl⟩) | ((with_reducible refine (H2.out _).mono ?_); rintro e w' ⟨rfl, rfl⟩))
                go_ret
                exact ⟨rfl, SA.out⟩
              · rw [hp] at H1
                have hp' := (in01_iff pl).1 hp
                by_cases v0 : vl = 0
                · subst v0
                  have HN3 := Lib.hid (HNq.out (.inr (.inl ⟨rfl, hp', rfl⟩)))
                  clear HFq HNq
                  go_wp2_with (go_at_call 43; first | ((with_reducible refine (H1.out _).mono ?_); rintro e w' ⟨rfl, rfl⟩) | ((with_reducible refine (H2.out _).mono ?_); rintro e w' ⟨rfl, rfl⟩))
                  go_roundw
                  case rel => exact ⟨q + 1, by omega, by go_num, HN3, SA⟩
                  case measure => simp [intOf]; omega
                · have v1 : (vl == 0) = false := by simp [v0]
                  have e := HFq.out (fun h => by
                    rcases h with ⟨h1, h2, h3⟩ | ⟨h1, h2, h3⟩ | ⟨h1, h2, h3⟩
                    · exact absurd h1 (show ¬ ((0 : Int) = 2) by decide)
                    · exact v0 h3
                    · exact absurd h1 (show ¬ ((0 : Int) = 1) by decide))
                  clear HFq HNq HY
                  subst e
                  go_wp2_with (go_at_call 43; first | ((with_reducible refine (H1.out _).mono ?_); rintro e w' ⟨rfl, rfl⟩) | ((with_reducible refine (H2.out _).mono ?_); rintro e w' ⟨rfl, rfl⟩))
                  go_ret
                  exact ⟨rfl, SA.out⟩
            · have k01 : (kd == 0) = false := by simp [k0]
              by_cases k1 : kd = 1
              · subst k1
                cases hp : in01 pl
                · rw [hp] at H1
                  have e := HFq.out (fun h => by
                    rcases h with ⟨h1, h2, h3⟩ | ⟨h1, h2, h3⟩ | ⟨h1, h2, h3⟩
                    · exact absurd h1 (show ¬ ((1 : Int) = 2) by decide)
                    · exact absurd h1 (show ¬ ((1 : Int) = 0) by decide)
                    · rw [(in01_iff pl).2 h2] at hp; cases hp)
                  clear HFq HNq HY
                  subst e
                  go_wp2_with (go_at_call 43; first | ((with_reducible refine (H1.out _).mono ?_); rintro e w' ⟨rfl, rfl⟩) | ((with_reducible refine (H2.out _).mono ?_); rintro e w' ⟨rfl, rfl⟩))
                  go_ret
                  exact ⟨rfl, SA.out⟩
                · rw [hp] at H1
                  have hp' := (in01_iff pl).1 hp
                  cases hv : in12 vl
                  · rw [hv] at H2
                    have e := HFq.out (fun h => by
                      rcases h with ⟨h1, h2, h3⟩ | ⟨h1, h2, h3⟩ | ⟨h1, h2, h3⟩
                      · exact absurd h1 (show ¬ ((1 : Int) = 2) by decide)
                      · exact absurd h1 (show ¬ ((1 : Int) = 0) by decide)
                      · rw [(in12_iff vl).2 h3] at hv; cases hv)
                    clear HFq HNq HY
                    subst e
                    go_wp2_with (go_at_call 43; first | ((with_reducible refine (H1.out _).mono ?_); rintro e w' ⟨rfl, rfl⟩) | ((with_reducible refine (H2.out _).mono ?_); rintro e w' ⟨rfl, rfl⟩))
                    go_ret
                    exact ⟨rfl, SA.out⟩
                  · rw [hv] at H2
                    have hv' := (in12_iff vl).1 hv
                    have HN3 := Lib.hid (HNq.out (.inr (.inr ⟨rfl, hp', hv'⟩)))
                    clear HFq HNq
                    go_wp2_with (go_at_call 43; first | ((with_reducible refine (H1.out _).mono ?_); rintro e w' ⟨rfl, rfl⟩) | ((with_reducible refine (H2.out _).mono ?_); rintro e w' ⟨rfl, rfl⟩))
                    go_roundw
                    case rel => exact ⟨q + 1, by omega, by go_num, HN3, SA⟩
                    case measure => simp [intOf]; omega
              · have k11 : (kd == 1) = false := by simp [k1]
                by_cases k2 : kd = 2
                · subst k2
                  by_cases p0 : pl = 0
                  · subst p0
                    by_cases v0 : vl = 0
                    · subst v0
                      have HN3 := Lib.hid (HNq.out (.inl ⟨rfl, rfl, rfl⟩))
                      clear HFq HNq
                      go_wp2_with (go_at_call 43; first | ((with_reducible refine (H1.out _).mono ?_); rintro e w' ⟨rfl, rfl⟩) | ((with_reducible refine (H2.out _).mono ?_); rintro e w' ⟨rfl, rfl⟩))
                      go_roundw
                      case rel => exact ⟨q + 1, by omega, by go_num, HN3, SA⟩
                      case measure => simp [intOf]; omega
                    · have v1 : (vl == 0) = false := by simp [v0]
                      have e := HFq.out (fun h => by
                        rcases h with ⟨h1, h2, h3⟩ | ⟨h1, h2, h3⟩ | ⟨h1, h2, h3⟩
                        · exact v0 h3
                        · exact k0 h1
                        · exact k1 h1)
                      clear HFq HNq HY
                      subst e
                      go_wp2_with (go_at_call 43; first | ((with_reducible refine (H1.out _).mono ?_); rintro e w' ⟨rfl, rfl⟩) | ((with_reducible refine (H2.out _).mono ?_); rintro e w' ⟨rfl, rfl⟩))
                      go_ret
                      exact ⟨rfl, SA.out⟩
                  · have p1 : (pl == 0) = false := by simp [p0]
                    have e := HFq.out (fun h => by
                      rcases h with ⟨h1, h2, h3⟩ | ⟨h1, h2, h3⟩ | ⟨h1, h2, h3⟩
                      · exact p0 h2
                      · exact k0 h1
                      · exact k1 h1)
                    clear HFq HNq HY
                    subst e
                    go_wp2_with (go_at_call 43; first | ((with_reducible refine (H1.out _).mono ?_); rintro e w' ⟨rfl, rfl⟩) | ((with_reducible refine (H2.out _).mono ?_); rintro e w' ⟨rfl, rfl⟩))
                    go_ret
                    exact ⟨rfl, SA.out⟩
                · have k21 : (kd == 2) = false := by simp [k2]
                  have e := HFq.out (fun h => by
                    rcases h with ⟨h1, h2, h3⟩ | ⟨h1, h2, h3⟩ | ⟨h1, h2, h3⟩
                    · exact k2 h1
                    · exact k0 h1
                    · exact k1 h1)
                  clear HFq HNq HY
                  subst e
                  go_wp2_with (go_at_call 43; first | ((with_reducible refine (H1.out _).mono ?_); rintro e w' ⟨rfl, rfl⟩) | ((with_reducible refine (H2.out _).mono ?_); rintro e w' ⟨rfl, rfl⟩))
                  go_ret
                  exact ⟨rfl, SA.out⟩
          · have e : q = n := by omega
            subst e
            have HO := Lib.hid (HN2.out (by rw [HNx.out]; exact ho2.out))
            clear ho2 HN2
            go_wp2
            go_roundw
            case rel => exact ⟨k + 1, by omega, by go_num, HO, hb2⟩
            case measure => simp [intOf]; omega
      · have e := HFk.out hl
        have hl' : (4 < (xs.length : Int)) := by omega
        clear HFk HN hl HF2k HRW
        generalize xs.length = n at *
        subst e
        go_wp2
        go_ret
        exact ⟨rfl, BW.out⟩
    · have e : k = N := by omega
      subst e
      by_cases h1 : 1 ≤ k ∧ k ≤ 2
      · have e := HY.out h1 (fun k' h => ho.out k' h)
        rw [show in12 (k : Int) = true from (in12_iff _).2 (by omega)] at HE
        clear HY HF HF2 HF1 ho
        subst e
        go_wp2_with fail
        refine (HE.out _).mono ?_; rintro e w' ⟨rfl, rfl⟩
        go_wp2
        go_ret
        exact ⟨rfl, hb.out⟩
      · have e := HF1.out h1
        have hf : in12 (k : Int) = false := by
          cases hh : in12 (k : Int)
          · rfl
          · exact absurd ((in12_iff _).1 hh) (by omega)
        rw [hf] at HE
        clear HY HF HF2 HF1 ho
        subst e
        go_wp2_with fail
        refine (HE.out _).mono ?_; rintro e w' ⟨rfl, rfl⟩
        go_wp2
        go_ret
        exact ⟨rfl, hb.out⟩
set_option maxHeartbeats 8000000 in
set_option maxRecDepth 100000 in
theorem lit_i (a : Option Addr) (c : Nat) (xss : List (List R)) (b : Bool) (hb : b = true ↔ okL xss) (w : World) (hr : RdT w a xss) (hm : xss.length ≤ 1048576) (hm2 : ∀ k, k < xss.length → (xss.getD k []).length ≤ 1048576) :
    Calls Try.prog 31 #[.slice a xss.length c] w (BbA b w) := by
  have HR := Lib.hid hr.2
  have HF1 := Lib.hid (fun (h : ¬ (1 ≤ xss.length ∧ xss.length ≤ 2)) => (show b = false from false_of hb (fun k => h k.1)))
  have HF := Lib.hid (fun (k : Nat) (hk : k < xss.length) (h : ¬ (xss.getD k []).length ≤ 4) => (show b = false from false_of hb (fun g => h (g.2 k hk).1)))
  have HF2 := Lib.hid (fun (k i : Nat) (hk : k < xss.length) (hi : i < (xss.getD k []).length) (h : ¬ okSt ((xss.getD k []).getD i dR)) => (show b = false from false_of hb (fun g => h ((g.2 k hk).2 i hi))))
  have HY := Lib.hid (fun (h1 : 1 ≤ xss.length ∧ xss.length ≤ 2) (h : ∀ k, k < xss.length → (xss.getD k []).length ≤ 4 ∧ ∀ i, i < (xss.getD k []).length → okSt ((xss.getD k []).getD i dR)) => (show b = true from hb.2 ⟨h1, h⟩))
  have HM2 := Lib.hid hm2
  clear hb hr hm2
  by_cases hN : 1 ≤ xss.length ∧ xss.length ≤ 2
  case neg =>
    have e := HF1.out hN
    clear HF1 HF HF2 HY HM2 HR
    generalize xss.length = N at *
    subst e
    by_cases h1 : (N : Int) < 1
    · go_enter Try.func31, Try.ntmps31
      go_wp2
      go_ret
      exact ⟨rfl, Below.refl _ _⟩
    · have h2 : 2 < (N : Int) := by omega
      go_enter Try.func31, Try.ntmps31
      go_wp2
      go_ret
      exact ⟨rfl, Below.refl _ _⟩
  have hN1 : ¬ ((xss.length : Int) < 1) := by omega
  have hN2 : ¬ (2 < (xss.length : Int)) := by omega
  have HNN := Lib.hid hN
  clear hN
  generalize hNx : xss.length = N at *
  clear hNx
  go_enter Try.func31, Try.ntmps31
  go_wp2
  go_loopw [17] (fun i wr => ∃ k : Nat, k ≤ N ∧ i = .int .i64 k ∧ Hid (∀ k', k' < k → (xss.getD k' []).length ≤ 4 ∧ ∀ i, i < (xss.getD k' []).length → okSt ((xss.getD k' []).getD i dR)) ∧ Hid (Below w.heap.size w wr)) (fun i _ => N - (intOf i).toNat)
  case atStart => exact ⟨0, Nat.zero_le _, rfl, Lib.hid (fun i h => by omega), Below.refl _ _⟩
  case round =>
    obtain ⟨k, hk, rfl, ho, hb⟩ := hrel
    by_cases hkN : k < N
    · obtain ⟨p, o, A, C, rfl, hc, hrow, hmx, hp⟩ := HR.out k hkN
      have HC := Lib.hid (fun (w' : World) (h : Below w.heap.size w w') => (h.cell (p := ⟨p, o + k, none⟩) hp).trans hc)
      have HRW := Lib.hid (fun (w' : World) (h : Below w.heap.size w w') => RdR.below hrow h)
      have HFk := Lib.hid (HF.out k hkN)
      have HF2k := Lib.hid (fun i hi => HF2.out k i hkN hi)
      have HN := Lib.hid (fun (h : (xss.getD k []).length ≤ 4 ∧ ∀ i, i < (xss.getD k []).length → okSt ((xss.getD k []).getD i dR)) => (show ∀ k', k' < k + 1 → (xss.getD k' []).length ≤ 4 ∧ ∀ i, i < (xss.getD k' []).length → okSt ((xss.getD k' []).getD i dR) from fun k' hk' => by
        by_cases e : k' = k
        · subst e; exact h
        · exact ho.out k' (by omega)))
      have BW := Lib.hid hb.out
      have hc1 := HC.out wr hb.out
      have hmk := HM2.out k hkN
      unfold RdR at HRW
      clear ho hc hrow HR HF HF2
      generalize xss.getD k [] = xs at *
      by_cases hl : xs.length ≤ 4
      · have hl' : ¬ (4 < (xs.length : Int)) := by omega
        have HN2 := Lib.hid (fun h => HN.out ⟨hl, h⟩)
        clear HFk HN hb
        obtain ⟨n, hn⟩ : ∃ n, xs.length = n := ⟨_, rfl⟩
        have HNx := Lib.hid hn
        rw [hn] at hl hl' hc1 hmk hmx
        clear hn
        go_wp2
        generalize wr = W9 at *
        go_loopw [26] (fun i w2 => ∃ q : Nat, q ≤ n ∧ i = .int .i64 q ∧ Hid (∀ q', q' < q → okSt (xs.getD q' dR)) ∧ Hid (Below w.heap.size w w2)) (fun i _ => n - (intOf i).toNat)
        case atStart => exact ⟨0, Nat.zero_le _, rfl, Lib.hid (fun i h => by omega), BW⟩
        case round =>
          obtain ⟨q, hq, rfl, ho2, hb2⟩ := hrel
          have hc2 := HC.out wr hb2.out
          rw [HNx.out] at hc2
          by_cases hqn : q < n
          · obtain ⟨p2, o2, rfl, d0, d1, d2, hp2⟩ := HRW.out wr hb2.out q (by rw [HNx.out]; exact hqn)
            have HFq := Lib.hid (HF2k.out q (by rw [HNx.out]; exact hqn))
            have HNq := Lib.hid (fun (h : okSt (xs.getD q dR)) => (show ∀ q', q' < q + 1 → okSt (xs.getD q' dR) from fun q' hq' => by
              by_cases e : q' = q
              · subst e; exact h
              · exact ho2.out q' (by omega)))
            generalize xs.getD q dR = r at *
            obtain ⟨kd, pl, vl⟩ := r
            have d0 : wr.cell? ⟨p2, o2 + q * 3, none⟩ = some (.int .i64 kd) := d0
            have d1 : wr.cell? ⟨p2, o2 + q * 3 + 1, none⟩ = some (.int .i64 pl) := d1
            have d2 : wr.cell? ⟨p2, o2 + q * 3 + 2, none⟩ = some (.int .i64 vl) := d2
            have SA := Lib.hid (hb2.out.alloc hb2.out.size (.cells #[.int .i64 kd, .int .i64 pl, .int .i64 vl] 96))
            have hq1 := hb2.out.size
            clear ho2 hb2
            obtain ⟨t, ht⟩ : ∃ t : Bool, t = true ↔ okSt (kd, pl, vl) := ⟨@decide _ (Classical.propDecidable _), @decide_eq_true_iff _ (Classical.propDecidable _)⟩
            have HS := Lib.hid (fun w => step_i kd pl vl t ht w)
            cases t
            · have e := HFq.out (fun h => by have := ht.2 h; cases this)
              clear HFq HNq HY ht
              subst e
              go_wp2_with (go_at_call 61; (with_reducible refine (HS.out _).mono ?_); rintro e w' ⟨rfl, b9⟩)
              have B9 := Lib.hid (bt SA.out b9)
              clear b9
              go_wp2
              go_ret
              exact ⟨rfl, B9.out⟩
            · have HN3 := Lib.hid (HNq.out (ht.1 rfl))
              clear HFq HNq ht
              go_wp2_with (go_at_call 61; (with_reducible refine (HS.out _).mono ?_); rintro e w' ⟨rfl, b9⟩)
              have B9 := Lib.hid (bt SA.out b9)
              clear b9
              go_wp2
              go_roundw
              case rel => exact ⟨q + 1, by omega, by go_num, HN3, B9⟩
              case measure => simp [intOf]; omega
          · have e : q = n := by omega
            subst e
            have HO := Lib.hid (HN2.out (by rw [HNx.out]; exact ho2.out))
            clear ho2 HN2
            go_wp2
            go_roundw
            case rel => exact ⟨k + 1, by omega, by go_num, HO, hb2⟩
            case measure => simp [intOf]; omega
      · have e := HFk.out hl
        have hl' : (4 < (xs.length : Int)) := by omega
        clear HFk HN hl HF2k HRW
        generalize xs.length = n at *
        subst e
        go_wp2
        go_ret
        exact ⟨rfl, BW.out⟩
    · have e : k = N := by omega
      subst e
      have e := HY.out HNN.out (fun k' h => ho.out k' h)
      clear HY HF HF2 HF1 ho
      subst e
      go_wp2
      go_ret
      exact ⟨rfl, hb.out⟩
end Go.Proofs.Ytmmjdmgnmlhjeaa.Sq
