/- The walk of laws.FnExactValidLitmus: the call returns true and writes nothing that was there. -/
import Derived.Test.YtmmjdmgnmlhjeaaClit
namespace Go.Proofs.Ytmmjdmgnmlhjeaa.fnExactValidLitmus
open Go.RowKit Sq
theorem len_le (xss : List (List R)) (k : Nat) (hk : k < xss.length) : (xss.getD k []).length ≤ (lensT xss).sum := by
  have h := lensT_get xss k hk
  rw [← h]
  have hl := lensT_length xss
  have : ∀ (l : List Nat) (j : Nat), j < l.length → l.getD j 0 ≤ l.sum := by
    intro l
    induction l with
    | nil => intro j h; simp at h
    | cons x l ih =>
      intro j h
      cases j with
      | zero => simp
      | succ j => have := ih j (by simpa using h); simp at this ⊢; omega
  exact this _ k (by omega)
set_option maxHeartbeats 2000000 in
theorem walk (a0 : Option Addr) (cap0 : Nat) (xss : List (List R)) (w : World) (hr : RdT w a0 xss) :
    Calls Try.prog 8 #[.slice a0 xss.length cap0] w fun e w' => e = .returned (.bool true) ∧ Below w.heap.size w w' := by
  by_cases hl : xss.length + (lensT xss).sum ≤ 1048576
  · have HZ := Lib.hid (szT_yes a0 cap0 xss 1048576 w hr (by omega) (by omega))
    have HTO := Lib.hid (fun (w' : World) (hb : Below w.heap.size w w') => toT_any a0 cap0 xss w' (hr.below hb) hl)
    obtain ⟨ok, hok⟩ : ∃ t : Bool, t = true ↔ okL xss := ⟨@decide _ (Classical.propDecidable _), @decide_eq_true_iff _ (Classical.propDecidable _)⟩
    have hk : ∀ k, k < xss.length → (xss.getD k []).length ≤ 1048576 := fun k h => by have := len_le xss k h; omega
    have HVS : Hid (∀ (w' : World) (B : Nat) (v : Value) (vs : List Value), Own2E w' B v vs xss → Calls Try.prog 29 #[v] w' (BbA ok w')) := fun w' B v vs h => by
      obtain ⟨a, c, rfl, hrd⟩ := h.rd
      have H := Lib.hid (lit_s a c xss ok hok w' hrd (by omega) hk)
      clear hrd h
      generalize xss.length = n at *
      go_enter Try.func29, Try.ntmps29
      go_wp2_with fail
      refine H.out.mono ?_; rintro e w1 ⟨rfl, b1⟩
      have B1 := Lib.hid b1
      clear b1
      go_wp2
      go_ret
      exact ⟨rfl, B1.out⟩
    have HI : Hid (∀ (w' : World) (B : Nat) (v : Value) (vs : List Value), Own2E w' B v vs xss → Calls Try.prog 31 #[v] w' (BbA ok w')) := fun w' B v vs h => by
      obtain ⟨a, c, rfl, hrd⟩ := h.rd
      exact lit_i a c xss ok hok w' hrd (by omega) hk
    have HE : Hid (∀ (w' : World) (B1 B2 : Nat) (v1 v2 : Value) (vs1 vs2 : List Value), Own2E w' B1 v1 vs1 xss → Own2E w' B2 v2 vs2 xss → Calls Try.prog 32 #[v1, v2] w' (BbA true w')) := fun w' B1 B2 v1 v2 vs1 vs2 h1 h2 => by
      obtain ⟨a1, c1, rfl, r1⟩ := h1.rd
      obtain ⟨a2, c2, rfl, r2⟩ := h2.rd
      exact eqT_any a1 a2 c1 c2 xss w' hl r1 r2
    have hl2 : ¬ ((1048576 : Int) - (xss.length : Int) - ((lensT xss).sum : Nat)) < 0 := by omega
    clear hr hok hk
    generalize (lensT xss).sum = T at *
    generalize hN : xss.length = N at *
    clear hN
    go_enter Try.func8, Try.ntmps8
    go_wp2_with fail
    refine HZ.out.mono ?_; rintro e w' ⟨rfl, rfl⟩
    go_wp2_with fail
    refine (HTO.out w (Below.refl _ _)).mono ?_; rintro e w1 ⟨v1, vs1, rfl, o1, b1⟩
    go_wp2_with fail
    refine (HVS.out w1 _ v1 vs1 o1).mono ?_; rintro e w1' ⟨rfl, b1'⟩
    have B1 : Below w.heap.size w w1' := bt b1 b1'
    go_wp2_with fail
    refine (HTO.out w1' B1).mono ?_; rintro e w2 ⟨v2, vs2, rfl, o2, b2⟩
    have B2 : Below w.heap.size w w2 := bt B1 b2
    go_wp2_with fail
    refine (HI.out w2 _ v2 vs2 o2).mono ?_; rintro e w3 ⟨rfl, b3⟩
    have B3 : Below w.heap.size w w3 := bt B2 b3
    have o3 := Own2E.below o2 b3 (Nat.le_refl _)
    go_wp2_with fail
    refine (HTO.out w3 B3).mono ?_; rintro e w4 ⟨v4, vs4, rfl, o4, b4⟩
    have B4 : Below w.heap.size w w4 := bt B3 b4
    go_wp2_with fail
    refine (HE.out w4 _ _ v2 v4 vs2 vs4 (Own2E.below o3 b4 (Nat.le_refl _)) o4).mono ?_; rintro e w5 ⟨rfl, b5⟩
    go_wp2
    go_ret
    exact ⟨rfl, bt B4 b5⟩
  · have HZ := Lib.hid (szT_no a0 cap0 xss 1048576 w hr (by omega) (by omega) (by omega))
    clear hr hl
    generalize xss.length = N at *
    go_enter Try.func8, Try.ntmps8
    go_wp2_with fail
    refine HZ.out.mono ?_; rintro e w' ⟨rfl, rfl⟩
    go_wp2
    go_ret
    exact ⟨rfl, Below.refl _ _⟩
end Go.Proofs.Ytmmjdmgnmlhjeaa.fnExactValidLitmus
