/- The walk of laws.FnExactRecoverJournal: the call returns true and writes nothing that was there. -/
import Derived.Test.YtlcogbphodakfaaCjs
namespace Go.Proofs.Ytlcogbphodakfaa.fnExactRecoverJournal
open Go.RowKit Sj Jn
theorem keptS {w w' : World} {B : Nat} {v : Value} {xs : List ByteArray} {row : Option Nat} (h : OwnS w B v xs) (hg : w.grownBy w' row) (hne : ∀ k, v.ownBlock = some k → some k ≠ row) : OwnS w' B v xs := by
  refine World.ownsRow.kept h hg ?_
  cases hv : v.ownBlock with
  | none => exact .inl rfl
  | some k => exact .inr (hne k hv)
def M1 (B : Nat) (v : Value) (N : Nat) (w : World) (e : Ending) (w' : World) : Prop := e = .returned (.int .i64 (1 + (N : Int))) ∧ OwnS w' B v (mks 1 N) ∧ w.grownBy w' v.ownBlock
def H1 (N : Nat) (w : World) (e : Ending) (w' : World) : Prop := e = .returned (.int .i64 (1 + (N : Int))) ∧ Below w.heap.size w w'
theorem mark1S {w : World} {B : Nat} {v : Value} {xs : List ByteArray} (h : OwnS w B v xs) (hn : xs.length ≤ 4000) :
    Calls Try.prog 12 #[v, .int .i64 1] w (M1 B v xs.length w) := mark_s 1 h (Nat.le_refl _) (by omega)
theorem held1S {w : World} {B : Nat} {v : Value} {N : Nat} (h : OwnS w B v (mks 1 N)) (hn : N ≤ 4000) :
    Calls Try.prog 13 #[v, .int .i64 1] w (H1 N w) := held_s 1 N h (Nat.le_refl _) (by omega)
set_option maxHeartbeats 1000000 in
theorem core (s : ByteArray) (xs : List ByteArray) (n : Nat) (ok : Bool) (w : World) (hz : ¬ (1048576 : Int) < s.size) (hl : xs.length ≤ 4000)
    (hS : ∀ w, Calls Try.prog 10 #[.string s] w (Rj xs n ok w)) (hI : ∀ w, Calls Try.prog 11 #[.string s] w (Rj xs n ok w)) :
    Calls Try.prog 4 #[.string s] w fun e w' => e = .returned (.bool true) ∧ Below w.heap.size w w' := by
  have HS := Lib.hid hS
  have HI := Lib.hid hI
  clear hS hI
  have hN : (0 : Int) ≤ xs.length := by omega
  have hb1 : xs.length + 1 ≤ 9223372036854775807 := by omega
  go_enter Try.func4, Try.ntmps4
  go_wp2_with fail
  refine (HS.out _).mono ?_; rintro e w1 ⟨v0, rfl, o0, b0⟩
  go_wp2_with fail
  refine (HI.out _).mono ?_; rintro e w2 ⟨v1, rfl, o1, b1⟩
  go_wp2_with fail
  have p0 := o0.below b1 (Nat.le_refl _)
  refine (eq_s o1 p0 (by omega)).mono ?_; rintro e w3 ⟨k1, rfl, rfl⟩
  go_wp2_with fail
  refine (mark1S (show OwnS (w2.drewN k1) _ _ _ from o1) hl).mono ?_; rintro e w4 ⟨rfl, om, gr⟩
  have s2 : w2.heap.size ≤ w4.heap.size := gr.size
  have p1 : OwnS w4 w.heap.size v0 xs := keptS (show OwnS (w2.drewN k1) _ _ _ from p0) gr (fun k hk h => by have h1 := (o0.block k hk).2; have h2 := (o1.block k h.symm).1; omega)
  have c4 : Below w1.heap.size w1 w4 := (below_drewN k1 b1).grown gr b1.size (fun k hk => (o1.block k hk).1)
  have s1 := b0.size
  have s4 := c4.size
  go_wp2_with fail
  refine (held1S om hl).mono ?_; rintro e w5 ⟨rfl, b5⟩
  have c5 : Below w1.heap.size w1 w5 := bt c4 b5
  have om5 := om.below b5 (Nat.le_refl _)
  have p5 := p1.below b5 (Nat.le_refl _)
  have s5 := b5.size
  go_wp2_with fail
  refine (HI.out _).mono ?_; rintro e w6 ⟨v2, rfl, o2, b2⟩
  go_wp2_with fail
  refine (eq_s o2 (p5.below b2 (Nat.le_refl _)) (by omega)).mono ?_; rintro e w7 ⟨k2, rfl, rfl⟩
  go_wp2_with fail
  refine (held1S (show OwnS (w6.drewN k2) _ _ _ from om5.below (below_drewN k2 b2) (Nat.le_refl _)) hl).mono ?_; rintro e w8 ⟨rfl, b8⟩
  go_wp2
  go_ret
  exact ⟨rfl, bt (below_drewN k2 (bt (bt b0 c5) b2)) b8⟩
theorem rc_le (s : ByteArray) (hs : s.size ≤ 4000) : (rc s (nl s.data.toList 0) 0 ByteArray.empty).1.length ≤ 4000 := by
  have h1 := rc_len s (nl s.data.toList 0) 0 ByteArray.empty
  have h2 := nl_len s.data.toList 0
  simp at h2
  omega
theorem walk (a0 : ByteArray) (_w0 : a0.size ≤ maxLen) (w : World) :
    Calls Try.prog 4 #[.string a0] w fun e w' => e = .returned (.bool true) ∧ Below w.heap.size w w' := by
  by_cases h : (1048576 : Int) < a0.size
  · go_enter Try.func4, Try.ntmps4
    go_wp2
    go_ret
    exact ⟨rfl, Below.refl _ _⟩
  · by_cases h2 : (4000 : Int) < a0.size
    · exact core a0 [] 0 false w h (by decide) (fun w => long_s a0 h2 w) (fun w => long_i a0 h2 w)
    · exact core a0 _ _ true w h (rc_le a0 (by omega)) (fun w => rec_s a0 h2 w) (fun w => rec_i a0 h2 w)
end Go.Proofs.Ytlcogbphodakfaa.fnExactRecoverJournal
