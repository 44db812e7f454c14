/- Lists of lists of the call's own: what they are, and the law's comparison of two. -/
import Derived.Test.YtakjkbjooongkaaCsl
namespace Go.Proofs.Ytakjkbjooongkaa
open Go.RowKit
/-- The empty slice, where a place is asked beyond the end. -/
abbrev s0 : Value := .slice none 0 0
/-- A list of lists of the call's own: the row holds slices, each of the call's own, each in a block of its own. -/
def Own2 (w : World) (B : Nat) (v : Value) (vs : List Value) (xss : List (List Int)) : Prop :=
  vs.length = xss.length ∧ w.ownsRow B 24 1 v vs.length vs ∧ (∀ i, i < xss.length → Own w B (vs.getD i s0) (xss.getD i [])) ∧
    (∀ i j k, i < j → j < xss.length → (vs.getD i s0).ownBlock = some k → (vs.getD j s0).ownBlock ≠ some k) ∧ ∀ i k, i < xss.length → (vs.getD i s0).ownBlock = some k → v.ownBlock ≠ some k
theorem Own2.nil (w : World) (B : Nat) : Own2 w B (.slice none 0 0) [] [] := ⟨rfl, World.ownsRow_nil _ _ _ _, fun i h => by simp at h, fun i j k _ h => by simp at h, fun i k h => by simp at h⟩
theorem Own2.cases {w : World} {B : Nat} {v : Value} {vs : List Value} {xss : List (List Int)} (h : Own2 w B v vs xss) :
    (v = .slice none 0 0 ∧ xss = []) ∨ ∃ g cap, v = .slice (some ⟨g, 0, none⟩) xss.length cap ∧ B ≤ g ∧ g < w.heap.size ∧ xss.length ≤ 9223372036854775807 ∧
      (∀ i, i < xss.length → w.cell? ⟨g, i, none⟩ = some (vs.getD i s0)) ∧ ∀ i, w.frozen? ⟨g, i, none⟩ = false := by
  obtain ⟨hl, h0, _⟩ := h
  rcases h0.2 with ⟨rfl, hn⟩ | ⟨g, cap, cur, rfl, hB, hg, hnc, hcm, hcs, htake⟩
  · exact .inl ⟨rfl, List.eq_nil_of_length_eq_zero (by omega)⟩
  · refine .inr ⟨g, cap, by rw [hl], hB, (Array.getElem?_eq_some_iff.1 hg).1, by unfold maxLen at hcm; omega, fun i hi => ?_, fun i => h0.frozenAt i⟩
    rw [h0.cellAt i (by omega), List.getElem?_eq_getElem (by omega), List.getD_eq_getElem?_getD, List.getElem?_eq_getElem (by omega)]
    rfl
theorem Own2.below {w w' : World} {B : Nat} {v : Value} {vs : List Value} {xss : List (List Int)} (h : Own2 w B v vs xss) {C : Nat} (hb : Below C w w') (hC : w.heap.size ≤ C) : Own2 w' B v vs xss := by
  obtain ⟨hl, h0, h1, h2⟩ := h
  refine ⟨hl, ?_, fun i hi => (h1 i hi).below hb hC, h2⟩
  refine ⟨h0.1, ?_⟩
  rcases h0.2 with hn | ⟨g, cap, cur, hv, hg, hh, r⟩
  · exact .inl hn
  · exact .inr ⟨g, cap, cur, hv, hg, by rw [hb.block g (Nat.lt_of_lt_of_le (Array.getElem?_eq_some_iff.1 hh).1 hC)]; exact hh, r⟩
theorem Own2.drewN {w : World} {B : Nat} {v : Value} {vs : List Value} {xss : List (List Int)} (h : Own2 w B v vs xss) (k : Nat) : Own2 (w.drewN k) B v vs xss := h
theorem eq2_zero (a1 a2 : Option Addr) (c1 c2 : Nat) (w : World) : Calls Try.prog 29 #[.slice a1 0 c1, .slice a2 0 c2] w (Drew w) := by
  go_enter Try.func29, Try.ntmps29
  go_wp2
  refine wp_loop_rounds 1 ?_
  rw [rounds_succ]
  go_wp2
  go_ret
  exact ⟨0, rfl, rfl⟩
set_option maxHeartbeats 400000 in
theorem eq2_cells (b1 b2 c1 c2 N : Nat) (vs1 vs2 : List Value) (w : World) (hn : N ≤ 9223372036854775807)
    (h1 : ∀ i, i < N → w.cell? ⟨b1, i, none⟩ = some (vs1.getD i s0)) (h2 : ∀ i, i < N → w.cell? ⟨b2, i, none⟩ = some (vs2.getD i s0))
    (he : ∀ i q, i < N → Calls Try.prog 30 #[vs1.getD i s0, vs2.getD i s0] (w.drewN q) (Drew (w.drewN q))) :
    Calls Try.prog 29 #[.slice (some ⟨b1, 0, none⟩) N c1, .slice (some ⟨b2, 0, none⟩) N c2] w (Drew w) := by
  have H1 := Lib.hid h1
  have H2 := Lib.hid h2
  have HE := Lib.hid he
  clear h1 h2 he
  go_enter Try.func29, Try.ntmps29
  go_wp2
  go_loopw [5] (fun i wr => ∃ k q : Nat, k ≤ N ∧ i = .int .i64 k ∧ wr = w.drewN q) (fun i _ => N - (intOf i).toNat)
  case atStart => exact ⟨0, 0, Nat.zero_le _, rfl, rfl⟩
  case round =>
    obtain ⟨k, q, hk, rfl, rfl⟩ := hrel
    by_cases hlt : k < N
    · have g1 := H1.out k hlt
      have g2 := H2.out k hlt
      have ge := Lib.hid (fun n => (show Calls Try.prog 30 #[vs1.getD k s0, vs2.getD k s0] (w.drewN (q + n)) fun e w' => e = .returned (.bool true) ∧ ∃ m, w' = w.drewN (q + m) from
        (HE.out k (q + n) hlt).mono fun e w' ⟨m, h1, h2⟩ => ⟨h1, n + m, by rw [h2, World.drewN_drewN, Nat.add_assoc]⟩))
      generalize vs1.getD k s0 = u1 at *
      generalize vs2.getD k s0 = u2 at *
      go_wp2
      go_quiet (exact ge.out _)
      go_wp2
      go_roundw
      case rel => exact ⟨k + 1, _, by omega, by go_num, rfl⟩
      case measure => simp [intOf]; omega
    · go_wp2
      go_ret
      exact ⟨q, rfl, rfl⟩
theorem eq2_own {w : World} {B1 B2 : Nat} {v1 v2 : Value} {vs1 vs2 : List Value} {xss : List (List Int)} (h1 : Own2 w B1 v1 vs1 xss) (h2 : Own2 w B2 v2 vs2 xss) :
    Calls Try.prog 29 #[v1, v2] w (Drew w) := by
  rcases h1.cases with ⟨rfl, rfl⟩ | ⟨g1, c1, rfl, _, _, hm, hc1, _⟩
  · rcases h2.cases with ⟨rfl, _⟩ | ⟨g2, c2, rfl, _, _, _, hc2, _⟩
    · exact eq2_zero _ _ _ _ _
    · exact eq2_zero _ _ _ _ _
  · rcases h2.cases with ⟨rfl, rfl⟩ | ⟨g2, c2, rfl, _, _, _, hc2, _⟩
    · exact eq2_zero _ _ _ _ _
    · exact eq2_cells _ _ _ _ _ vs1 vs2 w hm hc1 hc2 (fun i q hi => eq_own ((h1.2.2.1 i hi).drewN q) ((h2.2.2.1 i hi).drewN q))
end Go.Proofs.Ytakjkbjooongkaa
