/- The program's rank of a use: how many different addresses are used before the first use of its address; its CanonicalUses. -/
import Derived.Test.YtepgbnhmobhmfaaCsetI
import Derived.Test.YtepgbnhmobhmfaaPlainUses
import Derived.Lib.Slices
namespace Go.Proofs.Ytepgbnhmobhmfaa.Tr
open Go.RowKit
/-- The first index at which a number stands. -/
theorem first_of (xs : List Int) (x : Int) (h : x ∈ xs) : ∃ f, f < xs.length ∧ xs.getD f 0 = x ∧ ∀ k, k < f → xs.getD k 0 ≠ x := by
  induction xs with
  | nil => cases h
  | cons y ys ih =>
    by_cases e : y = x
    · exact ⟨0, by simp, by simp [e], fun k hk => by omega⟩
    · obtain ⟨f, h1, h2, h3⟩ := ih (by rcases List.mem_cons.1 h with h | h; exact absurd h.symm e; exact h)
      refine ⟨f + 1, by simp; omega, by simpa using h2, fun k hk => ?_⟩
      cases k with
      | zero => simpa using e
      | succ k => have := h3 k (by omega); simpa using this
theorem idx_i (a : Option Addr) (c f : Nat) (xs : List Int) (x : Int) (w : World) (hl : xs.length ≤ 1000) (hf : f < xs.length) (hfx : xs.getD f 0 = x) (hmin : ∀ k, k < f → xs.getD k 0 ≠ x) (hr : Row w a xs) :
    Calls Try.prog 42 #[.slice a xs.length c, .int .i64 x] w (fun e w' => e = .returned (.int .i64 (f : Int)) ∧ w = w') := by
  obtain ⟨b, off, rfl, _, _⟩ := hr f hf
  have hc : ∀ j, j < xs.length → w.cell? ⟨b, off + j, none⟩ = some (.int .i64 (xs.getD j 0)) := fun j hj => by
    obtain ⟨b', off', ha, hc, _⟩ := hr j hj
    injection ha with ha
    injection ha with e1 e2
    subst e1 e2
    exact hc
  have h := Try.slices_idx b off xs.length c xs x w (Nat.le_refl _) (by omega) hc
  rw [Lib.idxOf_hit xs xs.length f x hf (Nat.le_refl _) hfx hmin] at h
  exact h.mono fun e w' ⟨he, hw⟩ => ⟨he, hw.symm⟩
set_option maxHeartbeats 1000000 in
theorem rank_i (a : Option Addr) (c : Nat) (xs : List Int) (j : Nat) (w : World) (hl : xs.length ≤ 60) (hcc : xs.length ≤ c) (hcm : c ≤ 9223372036854775807) (hj : j < xs.length) (hr : Row w a xs) :
    Calls Try.prog 33 #[.slice a xs.length c, .int .i64 (j : Int)] w (Nb (canonAt xs j) w) := by
  obtain ⟨b, off, rfl, c1, _⟩ := hr j hj
  obtain ⟨f, hf, hfx, hmin⟩ := first_of xs (xs.getD j 0) (by rw [getD_get' xs j hj]; exact List.getElem_mem hj)
  have hfj : f ≤ j := by
    apply Classical.byContradiction
    intro h
    exact hmin j (by omega) rfl
  have hcan := canon_rank xs j f hj hfj hfx hmin
  have hI := Lib.hid (idx_i (some ⟨b, off, none⟩) c f xs (xs.getD j 0) w (by omega) hf hfx hmin hr)
  have hlen : (xs.take f).length = f := by simp; omega
  have hrow : Row w (some ⟨b, off, none⟩) (xs.take f) := by
    have := hr.sub 0 f (Nat.zero_le _) (by omega)
    simpa using this
  have hV := Lib.hid (valu_value (some ⟨b, off, none⟩) f c w)
  have hS := valu_set (some ⟨b, off, none⟩) c (xs.take f) (by omega) w hrow
  rw [hlen] at hS
  have HS := Lib.hid hS
  rw [hcan]
  have hb0 : Below w.heap.size w (w.alloc (.cells #[.slice (some ⟨b, off, none⟩) f c] 41)) := (Below.refl _ _).alloc (Nat.le_refl _) _
  clear hS hrow hlen hcan hmin hr hfx
  generalize setP (xs.take f) = ys at *
  generalize xs.getD j 0 = u at *
  generalize xs.length = N at *
  have e1 : (f : Int) ≤ (c : Int) := by omega
  have e2 : (0 : Int) ≤ (f : Int) := by omega
  go_enter Try.func33, Try.ntmps33
  go_wp2_with (first | (go_at_call 42; refine hI.out.mono ?_; rintro e w' ⟨rfl, rfl⟩) | (go_at_call 43; refine hV.out.mono ?_; rintro e w0 ⟨rfl, rfl⟩) | (go_at_call 26; refine HS.out.mono ?_; rintro e w1 ⟨v1, rfl, ho, hb⟩; obtain ⟨a1, c1, hv1⟩ := ho.form; subst hv1))
  go_ret
  exact ⟨rfl, hb0.trans (hb.mono (by simp))⟩
end Go.Proofs.Ytepgbnhmobhmfaa.Tr
