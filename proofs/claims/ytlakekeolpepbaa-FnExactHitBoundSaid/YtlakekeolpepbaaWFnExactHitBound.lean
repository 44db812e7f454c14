/- The walk of laws.FnExactHitBound: the call returns true and writes nothing that was there. -/
import Derived.Test.YtlakekeolpepbaaChit
import Derived.Test.YtlakekeolpepbaaCto
import Derived.Test.YtlakekeolpepbaaCmarkE
namespace Go.Proofs.Ytlakekeolpepbaa.fnExactHitBound
open Go.RowKit
set_option maxHeartbeats 4000000 in
theorem core (a0 : Option Addr) (len0 cap0 : Nat) (z0 : List Int) (n : Int) (a1 : Option Addr) (len1 cap1 : Nat) (z1 : List Int) (V : Int) (ok : Bool) (hl2 : len0 ≤ 1048576) (hl3 : len1 ≤ 1048576)
    (hS : ∀ w' B C v u, Own w' B v (z0.take len0) → Own w' C u (z1.take len1) → Calls Try.prog 17 #[v, .int .i64 n, u] w' (fun e w2 => e = .returned (.tuple #[.int .i64 V, .bool ok]) ∧ Below w'.heap.size w' w2))
    (hI : ∀ w' B C v u, Own w' B v (z0.take len0) → Own w' C u (z1.take len1) → Calls Try.prog 18 #[v, .int .i64 n, u] w' (fun e w2 => e = .returned (.tuple #[.int .i64 V, .bool ok]) ∧ Below w'.heap.size w' w2)) (w : World) (w0 : IsRow .i64 w a0 len0 cap0 z0) (w1 : IsRow .i64 w a1 len1 cap1 z1) :
    Calls Try.prog 5 #[.slice a0 len0 cap0, .int .i64 n, .slice a1 len1 cap1] w fun e w' => e = .returned (.bool true) ∧ Below w.heap.size w w' := by
  have hl4 : (len0 : Int) ≤ 1048576 := by omega
  have hl5 : (len1 : Int) ≤ 1048576 := by omega
  have HTO := Lib.hid (fun w' (h : IsRow .i64 w' a0 len0 cap0 z0) => to_any a0 len0 cap0 z0 w' h hl2)
  have HTP := Lib.hid (fun w' (h : IsRow .i64 w' a1 len1 cap1 z1) => to_any a1 len1 cap1 z1 w' h hl3)
  have HS := Lib.hid hS
  have HI := Lib.hid hI
  clear hS hI
  generalize z0.take len0 = xs at *
  generalize z1.take len1 = ts at *
  have hne : (V != V) = false := by simp
  cases ok <;> (
  go_enter Try.func5, Try.ntmps5
  go_wp2_with fail
  refine (HTO.out w w0).mono ?_; rintro e x1 ⟨v1, rfl, o1, b1⟩
  go_wp2_with fail
  refine (HTP.out x1 (isRow_below w1 b1)).mono ?_; rintro e x2 ⟨v2, rfl, o2, b2⟩
  have B2 : Below w.heap.size w x2 := b1.trans (b2.mono b1.size)
  go_wp2_with fail
  refine (HS.out x2 _ _ v1 v2 (o1.below b2 (Nat.le_refl _)) o2).mono ?_; rintro e x3 ⟨rfl, b3⟩
  have B3 : Below w.heap.size w x3 := B2.trans (b3.mono B2.size)
  go_wp2_with fail
  refine (HTO.out x3 (isRow_below w0 B3)).mono ?_; rintro e x4 ⟨vx, rfl, ox, b4⟩
  have B4 : Below w.heap.size w x4 := B3.trans (b4.mono B3.size)
  go_wp2_with fail
  refine (HTP.out x4 (isRow_below w1 B4)).mono ?_; rintro e x5 ⟨vt, rfl, ot, b5⟩
  have B5 : Below w.heap.size w x5 := B4.trans (b5.mono B4.size)
  have ox5 := ox.below b5 (Nat.le_refl _)
  go_wp2_with fail
  refine (HI.out x5 _ _ vx vt ox5 ot).mono ?_; rintro e x6 ⟨rfl, b6⟩
  have B6 : Below w.heap.size w x6 := B5.trans (b6.mono B5.size)
  have ox6 := ox5.below b6 (Nat.le_refl _)
  have ot6 := ot.below b6 (Nat.le_refl _)
  clear o1 o2 ox ot ox5 b1 b2 b3 b4 b5 b6 B2 B3 B4 B5
  go_wp2_with fail
  refine (HTO.out x6 (isRow_below w0 B6)).mono ?_; rintro e x8 ⟨v8, rfl, o8, b8⟩
  have B8 : Below w.heap.size w x8 := B6.trans (b8.mono B6.size)
  have ox8 := ox6.below b8 (Nat.le_refl _)
  have ot8 := ot6.below b8 (Nat.le_refl _)
  clear ox6 ot6 b8
  go_wp2_with fail
  refine (eq_below ox8 o8).mono ?_; rintro e x9 ⟨rfl, b9⟩
  have B9 : Below w.heap.size w x9 := B8.trans (b9.mono B8.size)
  go_wp2_with fail
  refine (HTP.out x9 (isRow_below w1 B9)).mono ?_; rintro e x10 ⟨v10, rfl, o10, b10⟩
  have B10 : Below w.heap.size w x10 := B9.trans (b10.mono B9.size)
  have ot10 := (ot8.below b9 (Nat.le_refl _)).below b10 (Nat.le_refl _)
  clear ox8 ot8 o8 b9 b10
  go_wp2_with fail
  refine (eq_below ot10 o10).mono ?_; rintro e x11 ⟨rfl, b11⟩
  have B11 : Below w.heap.size w x11 := B10.trans (b11.mono B10.size)
  go_wp2
  go_ret
  exact ⟨rfl, B11⟩)
theorem long (a0 : Option Addr) (len0 cap0 : Nat) (n : Int) (a1 : Option Addr) (len1 cap1 : Nat) (w : World) (hl : ¬ (len0 ≤ 1048576 ∧ len1 ≤ 1048576)) :
    Calls Try.prog 5 #[.slice a0 len0 cap0, .int .i64 n, .slice a1 len1 cap1] w fun e w' => e = .returned (.bool true) ∧ Below w.heap.size w w' := by
  by_cases h0 : len0 ≤ 1048576
  · have h1 : (1048576 : Int) < len1 := by omega
    have h2 : ¬ ((1048576 : Int) < len0) := by omega
    clear hl
    go_enter Try.func5, Try.ntmps5
    go_wp2
    go_ret
    exact ⟨rfl, Below.refl _ _⟩
  · have h2 : ((1048576 : Int) < len0) := by omega
    clear hl
    go_enter Try.func5, Try.ntmps5
    go_wp2
    go_ret
    exact ⟨rfl, Below.refl _ _⟩
theorem walk (a0 : Option Addr) (len0 cap0 : Nat) (z0 : List Int) (n : Int) (a2 : Option Addr) (len2 cap2 : Nat) (z2 : List Int) (w : World) (w0 : IsRow .i64 w a0 len0 cap0 z0) (_w1 : (Lit.int .i64 n).wf = true) (w2 : IsRow .i64 w a2 len2 cap2 z2) :
    Calls Try.prog 5 #[.slice a0 len0 cap0, .int .i64 n, .slice a2 len2 cap2] w fun e w' => e = .returned (.bool true) ∧ Below w.heap.size w w' := by
  by_cases hl : len0 ≤ 1048576 ∧ len2 ≤ 1048576
  · have hx : (z0.take len0).length ≤ 1048576 := by rw [List.length_take]; omega
    have hy : (z2.take len2).length ≤ 1048576 := by rw [List.length_take]; omega
    refine core a0 len0 cap0 z0 n a2 len2 cap2 z2 (Tr.hitV (z0.take len0) n (z2.take len2)) (Tr.hitOk (z0.take len0) n (z2.take len2)) hl.1 hl.2 (fun w' B C v u h1 h2 => ?_) (fun w' B C v u h1 h2 => ?_) w w0 w2
    · obtain ⟨a, c, rfl, _, _, r1⟩ := h1.rd
      obtain ⟨b, d, rfl, _, _, r2⟩ := h2.rd
      exact Tr.hit_s a b c d _ _ n w' hx hy r1 r2
    · obtain ⟨a, c, rfl, _, _, r1⟩ := h1.rd
      obtain ⟨b, d, rfl, _, _, r2⟩ := h2.rd
      exact Tr.hit_i a b c d _ _ n w' hx hy r1 r2
  · exact long a0 len0 cap0 n a2 len2 cap2 w hl
end Go.Proofs.Ytlakekeolpepbaa.fnExactHitBound
