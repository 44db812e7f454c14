/- The walk of laws.FnExactReadList: the call returns true and writes nothing that was there. -/
import Derived.Test.YtdilbogjihafoaaDoorCirl
import Derived.Test.YtdilbogjihafoaaDoorCmark1
namespace Go.Proofs.YtdilbogjihafoaaDoor.fnExactReadList
open Go.RowKit
theorem gov_len : ∀ (ws : List (List UInt8)) (out r : List Int), out.length ≤ 80 → Nm.gov ws out = some r → r.length ≤ 80
  | [], out, r, h, e => by simp only [Nm.gov, Option.some.injEq] at e; subst e; exact h
  | x :: xs, out, r, h, e => by
    unfold Nm.gov at e
    cases hx : Rd.rd x with
    | none => rw [hx] at e; simp at e
    | some n =>
      rw [hx] at e
      simp only [Option.bind_some] at e
      split at e
      · cases e
      · exact gov_len xs _ r (by simp; omega) e
theorem nums_len (l : List UInt8) : ((Nm.nums l).getD []).length ≤ 80 := by
  cases h : Nm.nums l with
  | none => simp
  | some r =>
    unfold Nm.nums at h
    split at h
    · simp only [Option.some.injEq] at h; subst h; simp
    · rw [Nm.go_gov] at h
      exact gov_len _ [] r (by simp) h
set_option maxHeartbeats 1000000 in
theorem core (s : ByteArray) (xs : List Int) (ok : Bool) (w : World) (hz : ¬ (1048576 : Int) < s.size) (hl : xs.length ≤ 1000000)
    (hS : ∀ w, Calls Tryd.prog 30 #[.string s] w (Res xs ok w)) (hI : ∀ w', Below w.heap.size w w' → Calls Tryd.prog 19 #[.string s] w' (Res xs ok w')) :
    Calls Tryd.prog 9 #[.string s] w fun e w' => e = .returned (.bool true) ∧ Below w.heap.size w w' := by
  have HS := Lib.hid hS
  have HI := Lib.hid hI
  clear hS hI
  have hN : (0 : Int) ≤ xs.length := by omega
  have hb1 : xs.length + 1 ≤ 9223372036854775807 := by omega
  go_enter Tryd.func9, Tryd.ntmps9
  go_wp2_with fail
  refine (HS.out _).mono ?_; rintro e w1 ⟨v0, rfl, o0, b0⟩
  go_wp2_with fail
  refine (HI.out _ b0).mono ?_; rintro e w2 ⟨v1, rfl, o1, b1⟩
  go_wp2_with fail
  have p0 := o0.below b1 (Nat.le_refl _)
  refine (eq_own o1 p0).mono ?_; rintro e w3 ⟨k1, rfl, rfl⟩
  go_wp2_with fail
  refine (mark1 (o1.drewN k1) hb1).mono ?_; rintro e w4 ⟨rfl, om, gr⟩
  have s2 : w2.heap.size ≤ w4.heap.size := gr.size
  have p1 : Own w4 w.heap.size v0 xs := (p0.drewN k1).kept gr (fun k hk h => by have h1 := (o0.block k hk).2; have h2 := (o1.block k h.symm).1; omega)
  have c4 : Below w1.heap.size w1 w4 := (below_drewN k1 b1).grown gr b1.size (fun k hk => (o1.block k hk).1)
  have s1 := b0.size
  have s4 := c4.size
  go_wp2_with fail
  refine (held1 om hb1).mono ?_; rintro e w5 ⟨rfl, rfl⟩
  go_wp2_with fail
  refine (HI.out _ (b0.trans (c4.mono s1))).mono ?_; rintro e w6 ⟨v2, rfl, o2, b2⟩
  go_wp2_with fail
  refine (eq_own o2 (p1.below b2 (Nat.le_refl _))).mono ?_; rintro e w7 ⟨k2, rfl, rfl⟩
  go_wp2_with fail
  refine (held1 ((om.below b2 (Nat.le_refl _)).drewN k2) hb1).mono ?_; rintro e w8 ⟨rfl, rfl⟩
  go_wp2
  go_ret
  exact ⟨rfl, below_drewN k2 ((b0.trans (c4.mono s1)).trans (b2.mono (Nat.le_trans s1 s4)))⟩
theorem walk (a0 : ByteArray) (_w0 : a0.size ≤ maxLen) (w : World) (hS : Rd.Sent w) (htab : Lib.TabIs Tryd.prog w "internal/strconv.uint64pow10" .u64 Lib.pow10Tab) (m : Int) (hm : w.cell? ⟨3, 0, none⟩ = some (.int .i64 m)) :
    Calls Tryd.prog 9 #[.string a0] w fun e w' => e = .returned (.bool true) ∧ Below w.heap.size w w' := by
  by_cases h : (1048576 : Int) < a0.size
  · go_enter Tryd.func9, Tryd.ntmps9
    go_wp2
    go_ret
    exact ⟨rfl, Below.refl _ _⟩
  · have hs : a0.size ≤ 1048576 := by omega
    have hlt := Tb.tab_lt htab
    refine core a0 _ _ w h (by have := nums_len a0.data.toList; omega) (fun w => Nm.spec_rl a0 w hs) (fun w' hb => Nm.impl_rl a0 w' hs (hS.below hb) (Tb.tab_below htab hb hlt) m ?_)
    exact (hb.cell (World.block_lt_of_cell? w _ hm)).trans hm
end Go.Proofs.YtdilbogjihafoaaDoor.fnExactReadList
