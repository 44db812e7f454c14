/- Protocol by value: what the call owns, what is read, and the law's helpers. -/
import Derived.Test.YtmmjdmgnmlhjeaaCrul
import Derived.Test.YtmmjdmgnmlhjeaaCblk
import Derived.Test.YtmmjdmgnmlhjeaaCbt
import Derived.Test.YtmmjdmgnmlhjeaaCto
import Derived.Test.YtmmjdmgnmlhjeaaCrd
import Derived.Deep.RegionHeld3
import Derived.Handy
namespace Go.Proofs.Ytmmjdmgnmlhjeaa.Pt
open Go.RowKit
/-- Only blocks from B on and below T are written. -/
def WrB (B T : Nat) (w w' : World) : Prop := (w'.os = w.os ∧ w'.tape = w.tape ∧ w'.output = w.output) ∧ w.heap.size ≤ w'.heap.size ∧ ∀ b, b < w.heap.size → (b < B ∨ T ≤ b) → w'.heap[b]? = w.heap[b]?
theorem WrB.trans {B T : Nat} {a b c : World} (h : WrB B T a b) (k : WrB B T b c) : WrB B T a c :=
  ⟨⟨k.1.1.trans h.1.1, k.1.2.1.trans h.1.2.1, k.1.2.2.trans h.1.2.2⟩, Nat.le_trans h.2.1 k.2.1, fun i hi hr => (k.2.2 i (by have := h.2.1; omega) hr).trans (h.2.2 i hi hr)⟩
theorem WrB.size {B T : Nat} {w w' : World} (h : WrB B T w w') : w.heap.size ≤ w'.heap.size := h.2.1
theorem WrB.of_below {B T C : Nat} {w w' : World} (h : Below C w w') (hC : w.heap.size ≤ C) : WrB B T w w' := ⟨⟨h.os, h.tape, h.output⟩, h.size, fun b hb _ => h.block b (by omega)⟩
theorem WrB.below {B T C : Nat} {w w' : World} (h : WrB B T w w') (hC : C ≤ B) (hw : C ≤ w.heap.size) : Below C w w' := ⟨h.1.1, h.1.2.1, h.1.2.2, h.2.1, fun b hb => h.2.2 b (by omega) (.inl (by omega))⟩
theorem WrB.grown {B T : Nat} {w w' : World} {r : Option Nat} (h : w.grownBy w' r) (hr : ∀ k, r = some k → B ≤ k ∧ k < T) : WrB B T w w' :=
  ⟨⟨h.os, h.tape, h.output⟩, h.size, fun b hb hc => h.block b hb (fun e => by have := hr b e.symm; omega)⟩
def NbI (n : Int) (w : World) (e : Ending) (w' : World) : Prop := e = .returned (.int .i64 n) ∧ Below w.heap.size w w'
def BbX (b : Bool) (w : World) (e : Ending) (w' : World) : Prop := e = .returned (.bool b) ∧ Below w.heap.size w w'
theorem heap_set (w : World) (b o : Nat) (v : Value) (i : Nat) (h : i ≠ b) : (w.setCell ⟨b, o, none⟩ v).heap[i]? = w.heap[i]? := Go.heap_setCell_other w ⟨b, o, none⟩ i v (fun e => h (by simpa using e))
/-- One of the call's own, its blocks from B on and below T, in order. -/
def OwnX (w : World) (B T : Nat) (v : Value) (xs0 : List Ru.R) (xs1 : List Ru.R) (xs2 : List Ru.R) (xs3 : List Ru.R) (xs4 : List Ru.R) : Prop :=
  ∃ a0 c0 a1 c1 a2 c2 a3 c3 a4 c4 h1 h2 h3 h4, v = .agg #[.slice a0 xs0.length c0, .slice a1 xs1.length c1, .slice a2 xs2.length c2, .slice a3 xs3.length c3, .slice a4 xs4.length c4] ∧ B ≤ h1 ∧ h1 ≤ h2 ∧ h2 ≤ h3 ∧ h3 ≤ h4 ∧ h4 ≤ T ∧ T ≤ w.heap.size ∧ Ru.OwnR w B (.slice a0 xs0.length c0) xs0 ∧ (∀ k, (Value.slice a0 xs0.length c0).ownBlock = some k → k < h1) ∧ Ru.OwnR w h1 (.slice a1 xs1.length c1) xs1 ∧ (∀ k, (Value.slice a1 xs1.length c1).ownBlock = some k → k < h2) ∧ Ru.OwnR w h2 (.slice a2 xs2.length c2) xs2 ∧ (∀ k, (Value.slice a2 xs2.length c2).ownBlock = some k → k < h3) ∧ Ru.OwnR w h3 (.slice a3 xs3.length c3) xs3 ∧ (∀ k, (Value.slice a3 xs3.length c3).ownBlock = some k → k < h4) ∧ Ru.OwnR w h4 (.slice a4 xs4.length c4) xs4 ∧ (∀ k, (Value.slice a4 xs4.length c4).ownBlock = some k → k < T)
theorem OwnX.below {w w' : World} {B T C : Nat} {v : Value} {xs0 : List Ru.R} {xs1 : List Ru.R} {xs2 : List Ru.R} {xs3 : List Ru.R} {xs4 : List Ru.R} (h : OwnX w B T v xs0 xs1 xs2 xs3 xs4) (hb : Below C w w') (hC : w.heap.size ≤ C) : OwnX w' B T v xs0 xs1 xs2 xs3 xs4 := by
  obtain ⟨a0, c0, a1, c1, a2, c2, a3, c3, a4, c4, h1, h2, h3, h4, e, l0, l1, l2, l3, l4, lT, o0, k0, o1, k1, o2, k2, o3, k3, o4, k4⟩ := h
  exact ⟨a0, c0, a1, c1, a2, c2, a3, c3, a4, c4, h1, h2, h3, h4, e, l0, l1, l2, l3, l4, Nat.le_trans lT hb.size, Ru.OwnR.below o0 hb hC, k0, Ru.OwnR.below o1 hb hC, k1, Ru.OwnR.below o2 hb hC, k2, Ru.OwnR.below o3 hb hC, k3, Ru.OwnR.below o4 hb hC, k4⟩
theorem OwnX.same {w w' : World} {B T : Nat} {v : Value} {xs0 : List Ru.R} {xs1 : List Ru.R} {xs2 : List Ru.R} {xs3 : List Ru.R} {xs4 : List Ru.R} (h : OwnX w B T v xs0 xs1 xs2 xs3 xs4) (hb : ∀ b, B ≤ b → b < T → w'.heap[b]? = w.heap[b]?) (hs : w.heap.size ≤ w'.heap.size) : OwnX w' B T v xs0 xs1 xs2 xs3 xs4 := by
  obtain ⟨a0, c0, a1, c1, a2, c2, a3, c3, a4, c4, h1, h2, h3, h4, e, l0, l1, l2, l3, l4, lT, o0, k0, o1, k1, o2, k2, o3, k3, o4, k4⟩ := h
  exact ⟨a0, c0, a1, c1, a2, c2, a3, c3, a4, c4, h1, h2, h3, h4, e, l0, l1, l2, l3, l4, Nat.le_trans lT hs, Ru.OwnR.same o0 fun b hk _ => hb b (by have := (Ru.OwnR.block o0 b hk).1; omega) (by have := k0 b hk; omega), k0, Ru.OwnR.same o1 fun b hk _ => hb b (by have := (Ru.OwnR.block o1 b hk).1; omega) (by have := k1 b hk; omega), k1, Ru.OwnR.same o2 fun b hk _ => hb b (by have := (Ru.OwnR.block o2 b hk).1; omega) (by have := k2 b hk; omega), k2, Ru.OwnR.same o3 fun b hk _ => hb b (by have := (Ru.OwnR.block o3 b hk).1; omega) (by have := k3 b hk; omega), k3, Ru.OwnR.same o4 fun b hk _ => hb b (by have := (Ru.OwnR.block o4 b hk).1; omega) (by have := k4 b hk; omega), k4⟩
theorem OwnX.moreT {w : World} {B T T' : Nat} {v : Value} {xs0 : List Ru.R} {xs1 : List Ru.R} {xs2 : List Ru.R} {xs3 : List Ru.R} {xs4 : List Ru.R} (h : OwnX w B T v xs0 xs1 xs2 xs3 xs4) (t1 : T ≤ T') (t2 : T' ≤ w.heap.size) : OwnX w B T' v xs0 xs1 xs2 xs3 xs4 := by
  obtain ⟨a0, c0, a1, c1, a2, c2, a3, c3, a4, c4, h1, h2, h3, h4, e, l0, l1, l2, l3, l4, lT, o0, k0, o1, k1, o2, k2, o3, k3, o4, k4⟩ := h
  exact ⟨a0, c0, a1, c1, a2, c2, a3, c3, a4, c4, h1, h2, h3, h4, e, l0, l1, l2, l3, Nat.le_trans l4 t1, t2, o0, k0, o1, k1, o2, k2, o3, k3, o4, fun b hb => Nat.lt_of_lt_of_le (k4 b hb) t1⟩
theorem OwnX.form {w : World} {B T : Nat} {v : Value} {xs0 : List Ru.R} {xs1 : List Ru.R} {xs2 : List Ru.R} {xs3 : List Ru.R} {xs4 : List Ru.R} (h : OwnX w B T v xs0 xs1 xs2 xs3 xs4) : ∃ a0 c0 a1 c1 a2 c2 a3 c3 a4 c4, v = .agg #[.slice a0 xs0.length c0, .slice a1 xs1.length c1, .slice a2 xs2.length c2, .slice a3 xs3.length c3, .slice a4 xs4.length c4] := by
  obtain ⟨a0, c0, a1, c1, a2, c2, a3, c3, a4, c4, h1, h2, h3, h4, e, l0, l1, l2, l3, l4, lT, o0, k0, o1, k1, o2, k2, o3, k3, o4, k4⟩ := h
  exact ⟨a0, c0, a1, c1, a2, c2, a3, c3, a4, c4, e⟩
/-- One that is read, wherever it lies. -/
def RdX (w : World) (v : Value) (xs0 : List Ru.R) (xs1 : List Ru.R) (xs2 : List Ru.R) (xs3 : List Ru.R) (xs4 : List Ru.R) : Prop :=
  ∃ a0 c0 a1 c1 a2 c2 a3 c3 a4 c4, v = .agg #[.slice a0 xs0.length c0, .slice a1 xs1.length c1, .slice a2 xs2.length c2, .slice a3 xs3.length c3, .slice a4 xs4.length c4] ∧ Ru.RdR w a0 xs0 ∧ Ru.RdR w a1 xs1 ∧ Ru.RdR w a2 xs2 ∧ Ru.RdR w a3 xs3 ∧ Ru.RdR w a4 xs4
theorem RdX.below {w w' : World} {v : Value} {xs0 : List Ru.R} {xs1 : List Ru.R} {xs2 : List Ru.R} {xs3 : List Ru.R} {xs4 : List Ru.R} (h : RdX w v xs0 xs1 xs2 xs3 xs4) (hb : Below w.heap.size w w') : RdX w' v xs0 xs1 xs2 xs3 xs4 := by
  obtain ⟨a0, c0, a1, c1, a2, c2, a3, c3, a4, c4, e, o0, o1, o2, o3, o4⟩ := h
  exact ⟨a0, c0, a1, c1, a2, c2, a3, c3, a4, c4, e, Ru.RdR.below o0 hb, Ru.RdR.below o1 hb, Ru.RdR.below o2 hb, Ru.RdR.below o3 hb, Ru.RdR.below o4 hb⟩
theorem rdAtRu {w : World} {B n c : Nat} {a : Option Addr} {xs : List Ru.R} (h : Ru.OwnR w B (.slice a n c) xs) : Ru.RdR w a xs := by
  obtain ⟨a', c', e, hr⟩ := h.row
  injection e with e1 e2 e3
  subst e1
  exact hr
theorem OwnX.rd {w : World} {B T : Nat} {v : Value} {xs0 : List Ru.R} {xs1 : List Ru.R} {xs2 : List Ru.R} {xs3 : List Ru.R} {xs4 : List Ru.R} (h : OwnX w B T v xs0 xs1 xs2 xs3 xs4) : RdX w v xs0 xs1 xs2 xs3 xs4 := by
  obtain ⟨a0, c0, a1, c1, a2, c2, a3, c3, a4, c4, h1, h2, h3, h4, e, l0, l1, l2, l3, l4, lT, o0, k0, o1, k1, o2, k2, o3, k3, o4, k4⟩ := h
  exact ⟨a0, c0, a1, c1, a2, c2, a3, c3, a4, c4, e, rdAtRu o0, rdAtRu o1, rdAtRu o2, rdAtRu o3, rdAtRu o4⟩
theorem szX_yes (a0 a1 a2 a3 a4 : Option Addr) (c0 c1 c2 c3 c4 : Nat) (n0 n1 n2 n3 n4 : Nat) (w : World) (h : n0 + n1 + n2 + n3 + n4 ≤ 1048576) :
    Calls Try.prog 16 #[.agg #[.slice a0 n0 c0, .slice a1 n1 c1, .slice a2 n2 c2, .slice a3 n3 c3, .slice a4 n4 c4], .int .i64 1048576] w (NbI (1048576 - ((n0 + n1 + n2 + n3 + n4 : Nat) : Int)) w) := by
  have b0 := (Below.refl w.heap.size w).alloc (Nat.le_refl _) (.cells #[.slice a0 n0 c0, .slice a1 n1 c1, .slice a2 n2 c2, .slice a3 n3 c3, .slice a4 n4 c4] 31)
  have H0 := Lib.hid (Ru.sz_yes a0 n0 c0 (1048576) (w.alloc (.cells #[.slice a0 n0 c0, .slice a1 n1 c1, .slice a2 n2 c2, .slice a3 n3 c3, .slice a4 n4 c4] 31)) (by omega) (by omega))
  have H1 := Lib.hid (Ru.sz_yes a1 n1 c1 (1048576 - (n0 : Int)) (w.alloc (.cells #[.slice a0 n0 c0, .slice a1 n1 c1, .slice a2 n2 c2, .slice a3 n3 c3, .slice a4 n4 c4] 31)) (by omega) (by omega))
  have H2 := Lib.hid (Ru.sz_yes a2 n2 c2 (1048576 - (n0 : Int) - (n1 : Int)) (w.alloc (.cells #[.slice a0 n0 c0, .slice a1 n1 c1, .slice a2 n2 c2, .slice a3 n3 c3, .slice a4 n4 c4] 31)) (by omega) (by omega))
  have H3 := Lib.hid (Ru.sz_yes a3 n3 c3 (1048576 - (n0 : Int) - (n1 : Int) - (n2 : Int)) (w.alloc (.cells #[.slice a0 n0 c0, .slice a1 n1 c1, .slice a2 n2 c2, .slice a3 n3 c3, .slice a4 n4 c4] 31)) (by omega) (by omega))
  have H4 := Lib.hid (Ru.sz_yes a4 n4 c4 (1048576 - (n0 : Int) - (n1 : Int) - (n2 : Int) - (n3 : Int)) (w.alloc (.cells #[.slice a0 n0 c0, .slice a1 n1 c1, .slice a2 n2 c2, .slice a3 n3 c3, .slice a4 n4 c4] 31)) (by omega) (by omega))
  have q0 : ¬ ((1048576 - (n0 : Int))) < 0 := by omega
  have q1 : ¬ ((1048576 - (n0 : Int) - (n1 : Int))) < 0 := by omega
  have q2 : ¬ ((1048576 - (n0 : Int) - (n1 : Int) - (n2 : Int))) < 0 := by omega
  have q3 : ¬ ((1048576 - (n0 : Int) - (n1 : Int) - (n2 : Int) - (n3 : Int))) < 0 := by omega
  have q4 : ¬ ((1048576 - (n0 : Int) - (n1 : Int) - (n2 : Int) - (n3 : Int) - (n4 : Int))) < 0 := by omega
  have HT : Hid (1048576 - (n0 : Int) - (n1 : Int) - (n2 : Int) - (n3 : Int) - (n4 : Int) = 1048576 - ((n0 + n1 + n2 + n3 + n4 : Nat) : Int)) := by show _ = _; omega
  clear h
  generalize 1048576 - ((n0 + n1 + n2 + n3 + n4 : Nat) : Int) = Z at *
  go_enter Try.func16, Try.ntmps16
  go_wp2_with fail
  refine H0.out.mono ?_; rintro e w' ⟨rfl, rfl⟩
  go_wp2_with fail
  refine H1.out.mono ?_; rintro e w' ⟨rfl, rfl⟩
  go_wp2_with fail
  refine H2.out.mono ?_; rintro e w' ⟨rfl, rfl⟩
  go_wp2_with fail
  refine H3.out.mono ?_; rintro e w' ⟨rfl, rfl⟩
  go_wp2_with fail
  refine H4.out.mono ?_; rintro e w' ⟨rfl, rfl⟩
  go_wp2
  go_ret
  exact ⟨ret_i64 HT.out, b0⟩
set_option maxHeartbeats 1000000 in
theorem szX_no (a0 a1 a2 a3 a4 : Option Addr) (c0 c1 c2 c3 c4 : Nat) (n0 n1 n2 n3 n4 : Nat) (w : World) (g0 : n0 ≤ 9223372036854775807) (g1 : n1 ≤ 9223372036854775807) (g2 : n2 ≤ 9223372036854775807) (g3 : n3 ≤ 9223372036854775807) (g4 : n4 ≤ 9223372036854775807) (h : ¬ n0 + n1 + n2 + n3 + n4 ≤ 1048576) :
    Calls Try.prog 16 #[.agg #[.slice a0 n0 c0, .slice a1 n1 c1, .slice a2 n2 c2, .slice a3 n3 c3, .slice a4 n4 c4], .int .i64 1048576] w (NbI (-1) w) := by
  have b0 := (Below.refl w.heap.size w).alloc (Nat.le_refl _) (.cells #[.slice a0 n0 c0, .slice a1 n1 c1, .slice a2 n2 c2, .slice a3 n3 c3, .slice a4 n4 c4] 31)
  by_cases k0 : n0 ≤ 1048576
  · skip
    by_cases k1 : n0 + n1 ≤ 1048576
    · skip
      by_cases k2 : n0 + n1 + n2 ≤ 1048576
      · skip
        by_cases k3 : n0 + n1 + n2 + n3 ≤ 1048576
        · skip
          have H0 := Lib.hid (Ru.sz_yes a0 n0 c0 (1048576) (w.alloc (.cells #[.slice a0 n0 c0, .slice a1 n1 c1, .slice a2 n2 c2, .slice a3 n3 c3, .slice a4 n4 c4] 31)) (by omega) (by omega))
          have q0 : ¬ ((1048576 - (n0 : Int))) < 0 := by omega
          have H1 := Lib.hid (Ru.sz_yes a1 n1 c1 (1048576 - (n0 : Int)) (w.alloc (.cells #[.slice a0 n0 c0, .slice a1 n1 c1, .slice a2 n2 c2, .slice a3 n3 c3, .slice a4 n4 c4] 31)) (by omega) (by omega))
          have q1 : ¬ ((1048576 - (n0 : Int) - (n1 : Int))) < 0 := by omega
          have H2 := Lib.hid (Ru.sz_yes a2 n2 c2 (1048576 - (n0 : Int) - (n1 : Int)) (w.alloc (.cells #[.slice a0 n0 c0, .slice a1 n1 c1, .slice a2 n2 c2, .slice a3 n3 c3, .slice a4 n4 c4] 31)) (by omega) (by omega))
          have q2 : ¬ ((1048576 - (n0 : Int) - (n1 : Int) - (n2 : Int))) < 0 := by omega
          have H3 := Lib.hid (Ru.sz_yes a3 n3 c3 (1048576 - (n0 : Int) - (n1 : Int) - (n2 : Int)) (w.alloc (.cells #[.slice a0 n0 c0, .slice a1 n1 c1, .slice a2 n2 c2, .slice a3 n3 c3, .slice a4 n4 c4] 31)) (by omega) (by omega))
          have q3 : ¬ ((1048576 - (n0 : Int) - (n1 : Int) - (n2 : Int) - (n3 : Int))) < 0 := by omega
          have H4 := Lib.hid (Ru.sz_no a4 n4 c4 (1048576 - (n0 : Int) - (n1 : Int) - (n2 : Int) - (n3 : Int)) (w.alloc (.cells #[.slice a0 n0 c0, .slice a1 n1 c1, .slice a2 n2 c2, .slice a3 n3 c3, .slice a4 n4 c4] 31)) (by omega) (by omega) (by omega) g4)
          clear h k0 k1 k2 k3
          go_enter Try.func16, Try.ntmps16
          go_wp2_with fail
          refine H0.out.mono ?_; rintro e w' ⟨rfl, rfl⟩
          go_wp2_with fail
          refine H1.out.mono ?_; rintro e w' ⟨rfl, rfl⟩
          go_wp2_with fail
          refine H2.out.mono ?_; rintro e w' ⟨rfl, rfl⟩
          go_wp2_with fail
          refine H3.out.mono ?_; rintro e w' ⟨rfl, rfl⟩
          go_wp2_with fail
          refine H4.out.mono ?_; rintro e w' ⟨rfl, rfl⟩
          go_wp2
          go_ret
          exact ⟨rfl, b0⟩
        · skip
          have H0 := Lib.hid (Ru.sz_yes a0 n0 c0 (1048576) (w.alloc (.cells #[.slice a0 n0 c0, .slice a1 n1 c1, .slice a2 n2 c2, .slice a3 n3 c3, .slice a4 n4 c4] 31)) (by omega) (by omega))
          have q0 : ¬ ((1048576 - (n0 : Int))) < 0 := by omega
          have H1 := Lib.hid (Ru.sz_yes a1 n1 c1 (1048576 - (n0 : Int)) (w.alloc (.cells #[.slice a0 n0 c0, .slice a1 n1 c1, .slice a2 n2 c2, .slice a3 n3 c3, .slice a4 n4 c4] 31)) (by omega) (by omega))
          have q1 : ¬ ((1048576 - (n0 : Int) - (n1 : Int))) < 0 := by omega
          have H2 := Lib.hid (Ru.sz_yes a2 n2 c2 (1048576 - (n0 : Int) - (n1 : Int)) (w.alloc (.cells #[.slice a0 n0 c0, .slice a1 n1 c1, .slice a2 n2 c2, .slice a3 n3 c3, .slice a4 n4 c4] 31)) (by omega) (by omega))
          have q2 : ¬ ((1048576 - (n0 : Int) - (n1 : Int) - (n2 : Int))) < 0 := by omega
          have H3 := Lib.hid (Ru.sz_no a3 n3 c3 (1048576 - (n0 : Int) - (n1 : Int) - (n2 : Int)) (w.alloc (.cells #[.slice a0 n0 c0, .slice a1 n1 c1, .slice a2 n2 c2, .slice a3 n3 c3, .slice a4 n4 c4] 31)) (by omega) (by omega) (by omega) g3)
          clear h k0 k1 k2 k3
          go_enter Try.func16, Try.ntmps16
          go_wp2_with fail
          refine H0.out.mono ?_; rintro e w' ⟨rfl, rfl⟩
          go_wp2_with fail
          refine H1.out.mono ?_; rintro e w' ⟨rfl, rfl⟩
          go_wp2_with fail
          refine H2.out.mono ?_; rintro e w' ⟨rfl, rfl⟩
          go_wp2_with fail
          refine H3.out.mono ?_; rintro e w' ⟨rfl, rfl⟩
          go_wp2
          go_ret
          exact ⟨rfl, b0⟩
      · skip
        have H0 := Lib.hid (Ru.sz_yes a0 n0 c0 (1048576) (w.alloc (.cells #[.slice a0 n0 c0, .slice a1 n1 c1, .slice a2 n2 c2, .slice a3 n3 c3, .slice a4 n4 c4] 31)) (by omega) (by omega))
        have q0 : ¬ ((1048576 - (n0 : Int))) < 0 := by omega
        have H1 := Lib.hid (Ru.sz_yes a1 n1 c1 (1048576 - (n0 : Int)) (w.alloc (.cells #[.slice a0 n0 c0, .slice a1 n1 c1, .slice a2 n2 c2, .slice a3 n3 c3, .slice a4 n4 c4] 31)) (by omega) (by omega))
        have q1 : ¬ ((1048576 - (n0 : Int) - (n1 : Int))) < 0 := by omega
        have H2 := Lib.hid (Ru.sz_no a2 n2 c2 (1048576 - (n0 : Int) - (n1 : Int)) (w.alloc (.cells #[.slice a0 n0 c0, .slice a1 n1 c1, .slice a2 n2 c2, .slice a3 n3 c3, .slice a4 n4 c4] 31)) (by omega) (by omega) (by omega) g2)
        clear h k0 k1 k2
        go_enter Try.func16, Try.ntmps16
        go_wp2_with fail
        refine H0.out.mono ?_; rintro e w' ⟨rfl, rfl⟩
        go_wp2_with fail
        refine H1.out.mono ?_; rintro e w' ⟨rfl, rfl⟩
        go_wp2_with fail
        refine H2.out.mono ?_; rintro e w' ⟨rfl, rfl⟩
        go_wp2
        go_ret
        exact ⟨rfl, b0⟩
    · skip
      have H0 := Lib.hid (Ru.sz_yes a0 n0 c0 (1048576) (w.alloc (.cells #[.slice a0 n0 c0, .slice a1 n1 c1, .slice a2 n2 c2, .slice a3 n3 c3, .slice a4 n4 c4] 31)) (by omega) (by omega))
      have q0 : ¬ ((1048576 - (n0 : Int))) < 0 := by omega
      have H1 := Lib.hid (Ru.sz_no a1 n1 c1 (1048576 - (n0 : Int)) (w.alloc (.cells #[.slice a0 n0 c0, .slice a1 n1 c1, .slice a2 n2 c2, .slice a3 n3 c3, .slice a4 n4 c4] 31)) (by omega) (by omega) (by omega) g1)
      clear h k0 k1
      go_enter Try.func16, Try.ntmps16
      go_wp2_with fail
      refine H0.out.mono ?_; rintro e w' ⟨rfl, rfl⟩
      go_wp2_with fail
      refine H1.out.mono ?_; rintro e w' ⟨rfl, rfl⟩
      go_wp2
      go_ret
      exact ⟨rfl, b0⟩
  · skip
    have H0 := Lib.hid (Ru.sz_no a0 n0 c0 (1048576) (w.alloc (.cells #[.slice a0 n0 c0, .slice a1 n1 c1, .slice a2 n2 c2, .slice a3 n3 c3, .slice a4 n4 c4] 31)) (by omega) (by omega) (by omega) g0)
    clear h k0
    go_enter Try.func16, Try.ntmps16
    go_wp2_with fail
    refine H0.out.mono ?_; rintro e w' ⟨rfl, rfl⟩
    go_wp2
    go_ret
    exact ⟨rfl, b0⟩
def CopX (xs0 : List Ru.R) (xs1 : List Ru.R) (xs2 : List Ru.R) (xs3 : List Ru.R) (xs4 : List Ru.R) (w : World) (e : Ending) (w' : World) : Prop := ∃ v, e = .returned v ∧ OwnX w' w.heap.size w'.heap.size v xs0 xs1 xs2 xs3 xs4 ∧ Below w.heap.size w w'
set_option maxHeartbeats 4000000 in
set_option maxRecDepth 100000 in
theorem toX_any (a0 a1 a2 a3 a4 : Option Addr) (c0 c1 c2 c3 c4 : Nat) (xs0 : List Ru.R) (xs1 : List Ru.R) (xs2 : List Ru.R) (xs3 : List Ru.R) (xs4 : List Ru.R) (w : World) (h0 : Ru.RdR w a0 xs0) (h1 : Ru.RdR w a1 xs1) (h2 : Ru.RdR w a2 xs2) (h3 : Ru.RdR w a3 xs3) (h4 : Ru.RdR w a4 xs4) (h : xs0.length + xs1.length + xs2.length + xs3.length + xs4.length ≤ 1048576) :
    Calls Try.prog 18 #[.agg #[.slice a0 xs0.length c0, .slice a1 xs1.length c1, .slice a2 xs2.length c2, .slice a3 xs3.length c3, .slice a4 xs4.length c4]] w (CopX xs0 xs1 xs2 xs3 xs4 w) := by
  have HR0 := Lib.hid (fun (w' : World) (hb : Below w.heap.size w w') => Ru.to_any a0 c0 xs0 w' (Ru.RdR.below h0 hb) (by omega))
  have HR1 := Lib.hid (fun (w' : World) (hb : Below w.heap.size w w') => Ru.to_any a1 c1 xs1 w' (Ru.RdR.below h1 hb) (by omega))
  have HR2 := Lib.hid (fun (w' : World) (hb : Below w.heap.size w w') => Ru.to_any a2 c2 xs2 w' (Ru.RdR.below h2 hb) (by omega))
  have HR3 := Lib.hid (fun (w' : World) (hb : Below w.heap.size w w') => Ru.to_any a3 c3 xs3 w' (Ru.RdR.below h3 hb) (by omega))
  have HR4 := Lib.hid (fun (w' : World) (hb : Below w.heap.size w w') => Ru.to_any a4 c4 xs4 w' (Ru.RdR.below h4 hb) (by omega))
  clear h h0 h1 h2 h3 h4
  generalize hN0 : xs0.length = N0 at *
  have HN0 := Lib.hid hN0
  clear hN0
  generalize hN1 : xs1.length = N1 at *
  have HN1 := Lib.hid hN1
  clear hN1
  generalize hN2 : xs2.length = N2 at *
  have HN2 := Lib.hid hN2
  clear hN2
  generalize hN3 : xs3.length = N3 at *
  have HN3 := Lib.hid hN3
  clear hN3
  generalize hN4 : xs4.length = N4 at *
  have HN4 := Lib.hid hN4
  clear hN4
  go_enter Try.func18, Try.ntmps18
  go_wp2_with fail
  obtain ⟨W0, hW0⟩ : ∃ W0, W0 = (((w.alloc (.cells #[.slice a0 N0 c0, .slice a1 N1 c1, .slice a2 N2 c2, .slice a3 N3 c3, .slice a4 N4 c4] 31)).alloc (.cells #[.slice none 0 0, .slice none 0 0, .slice none 0 0, .slice none 0 0, .slice none 0 0] 24)).alloc (.cells #[.slice none 0 0, .slice none 0 0, .slice none 0 0, .slice none 0 0, .slice none 0 0] 24)) := ⟨_, rfl⟩
  have b0 : Below w.heap.size w W0 := by rw [hW0]; exact (((Below.refl _ w).alloc (Nat.le_refl _) _).alloc (by simp) _).alloc (by simp; omega) _
  have BZ : Blk W0 (w.heap.size) [.slice a0 N0 c0, .slice a1 N1 c1, .slice a2 N2 c2, .slice a3 N3 c3, .slice a4 N4 c4] 31 := by rw [hW0]; exact Blk.alloc (Blk.alloc (Blk.newAt w _ _ _ rfl) _) _
  have BZ1 : Blk W0 (w.heap.size + 1) [.slice none 0 0, .slice none 0 0, .slice none 0 0, .slice none 0 0, .slice none 0 0] 24 := by rw [hW0]; exact Blk.alloc (Blk.newAt _ _ _ _ (by simp)) _
  have BZ2 : Blk W0 (w.heap.size + 1 + 1) [.slice none 0 0, .slice none 0 0, .slice none 0 0, .slice none 0 0, .slice none 0 0] 24 := by rw [hW0]; exact Blk.newAt _ _ _ _ (by simp)
  have hz0 : W0.heap.size = w.heap.size + 3 := by rw [hW0]; simp
  rw [← hW0]
  clear hW0
  have BB0 := Lib.hid b0
  clear b0
  have SZ0 := Lib.hid hz0
  refine (HR0.out W0 BB0.out).mono ?_; rintro e w1 ⟨v0, rfl, o0, b1⟩
  have Ob0 := Lib.hid (Ru.OwnR.block o0)
  have O0 := o0
  obtain ⟨A0, C0, e0, _⟩ := o0.row
  rw [HN0.out] at e0
  subst e0
  have r0 := BZ.below b1 BZ.lt
  have r1 := BZ1.below b1 BZ1.lt
  have r2 := BZ2.below b1 BZ2.lt
  have s1 := b1.size
  have B1 := Lib.hid (bt BB0.out b1)
  clear b1 BZ BZ1 BZ2
  have P0_0 := Lib.hid o0
  clear o0 O0
  have p1 : w1.cell? ⟨w.heap.size, 1, none⟩ = some (.slice a1 N1 c1) := r0.cell 1
  have q0 : w1.cell? ⟨w.heap.size + 1 + 1, 0, none⟩ = some (.slice none 0 0) := r2.cell 0
  have f0 := r2.froz 0
  go_wp2_with fail
  have kS : Keep (w.heap.size + 1 + 1) w1 (w1.setCell ⟨w.heap.size + 1 + 1, 0, none⟩ (.slice A0 N0 C0)) := keep_set (w.heap.size + 1 + 1) [.slice A0 N0 C0] 0 w1
  have bS : Blk (w1.setCell ⟨w.heap.size + 1 + 1, 0, none⟩ (.slice A0 N0 C0)) (w.heap.size + 1 + 1) [.slice A0 N0 C0, .slice none 0 0, .slice none 0 0, .slice none 0 0, .slice none 0 0] 24 := blk_set (w.heap.size + 1 + 1) _ [.slice A0 N0 C0] 0 _ w1 r2 (by simp)
  have bS1 := kS.blk r1 (by omega)
  have bS0 := kS.blk r0 (by omega)
  have O0_1 := Lib.hid (Ru.OwnR.same P0_0.out (w' := w1.setCell ⟨w.heap.size + 1 + 1, 0, none⟩ (.slice A0 N0 C0)) fun b hb _ => heap_set _ _ _ _ b (by have := (Ob0.out b hb).1; omega))
  have BB1 := Lib.hid (B1.out.trans (kS.below (by omega)))
  have zS := kS.size
  generalize w1.setCell ⟨w.heap.size + 1 + 1, 0, none⟩ (.slice A0 N0 C0) = S1 at *
  clear kS r0 r1 r2 p1 q0 f0
  have BZ := bS0
  have BZ1 := bS1
  have BZ2 := bS
  clear bS0 bS1 bS
  refine (HR1.out S1 BB1.out).mono ?_; rintro e w2 ⟨v1, rfl, o1, b2⟩
  have O0_2 := Lib.hid (Ru.OwnR.below O0_1.out b2 (Nat.le_refl _))
  have Ob1 := Lib.hid (Ru.OwnR.block o1)
  have O1 := o1
  obtain ⟨A1, C1, e1, _⟩ := o1.row
  rw [HN1.out] at e1
  subst e1
  have r0 := BZ.below b2 BZ.lt
  have r1 := BZ1.below b2 BZ1.lt
  have r2 := BZ2.below b2 BZ2.lt
  have s2 := b2.size
  have B2 := Lib.hid (bt BB1.out b2)
  clear b2 BZ BZ1 BZ2
  have P1_2 := Lib.hid o1
  clear o1 O1
  have p1 : w2.cell? ⟨w.heap.size, 2, none⟩ = some (.slice a2 N2 c2) := r0.cell 2
  have q0 : w2.cell? ⟨w.heap.size + 1 + 1, 1, none⟩ = some (.slice none 0 0) := r2.cell 1
  have f0 := r2.froz 1
  go_wp2_with fail
  have kS : Keep (w.heap.size + 1 + 1) w2 (w2.setCell ⟨w.heap.size + 1 + 1, 1, none⟩ (.slice A1 N1 C1)) := keep_set (w.heap.size + 1 + 1) [.slice A1 N1 C1] 1 w2
  have bS : Blk (w2.setCell ⟨w.heap.size + 1 + 1, 1, none⟩ (.slice A1 N1 C1)) (w.heap.size + 1 + 1) [.slice A0 N0 C0, .slice A1 N1 C1, .slice none 0 0, .slice none 0 0, .slice none 0 0] 24 := blk_set (w.heap.size + 1 + 1) _ [.slice A1 N1 C1] 1 _ w2 r2 (by simp)
  have bS1 := kS.blk r1 (by omega)
  have bS0 := kS.blk r0 (by omega)
  have O0_3 := Lib.hid (Ru.OwnR.same O0_2.out (w' := w2.setCell ⟨w.heap.size + 1 + 1, 1, none⟩ (.slice A1 N1 C1)) fun b hb _ => heap_set _ _ _ _ b (by have := (Ob0.out b hb).1; omega))
  have O1_3 := Lib.hid (Ru.OwnR.same P1_2.out (w' := w2.setCell ⟨w.heap.size + 1 + 1, 1, none⟩ (.slice A1 N1 C1)) fun b hb _ => heap_set _ _ _ _ b (by have := (Ob1.out b hb).1; omega))
  have BB2 := Lib.hid (B2.out.trans (kS.below (by omega)))
  have zS := kS.size
  generalize w2.setCell ⟨w.heap.size + 1 + 1, 1, none⟩ (.slice A1 N1 C1) = S2 at *
  clear kS r0 r1 r2 p1 q0 f0
  have BZ := bS0
  have BZ1 := bS1
  have BZ2 := bS
  clear bS0 bS1 bS
  refine (HR2.out S2 BB2.out).mono ?_; rintro e w3 ⟨v2, rfl, o2, b3⟩
  have O0_4 := Lib.hid (Ru.OwnR.below O0_3.out b3 (Nat.le_refl _))
  have O1_4 := Lib.hid (Ru.OwnR.below O1_3.out b3 (Nat.le_refl _))
  have Ob2 := Lib.hid (Ru.OwnR.block o2)
  have O2 := o2
  obtain ⟨A2, C2, e2, _⟩ := o2.row
  rw [HN2.out] at e2
  subst e2
  have r0 := BZ.below b3 BZ.lt
  have r1 := BZ1.below b3 BZ1.lt
  have r2 := BZ2.below b3 BZ2.lt
  have s3 := b3.size
  have B3 := Lib.hid (bt BB2.out b3)
  clear b3 BZ BZ1 BZ2
  have P2_4 := Lib.hid o2
  clear o2 O2
  have p1 : w3.cell? ⟨w.heap.size, 3, none⟩ = some (.slice a3 N3 c3) := r0.cell 3
  have q0 : w3.cell? ⟨w.heap.size + 1 + 1, 2, none⟩ = some (.slice none 0 0) := r2.cell 2
  have f0 := r2.froz 2
  go_wp2_with fail
  have kS : Keep (w.heap.size + 1 + 1) w3 (w3.setCell ⟨w.heap.size + 1 + 1, 2, none⟩ (.slice A2 N2 C2)) := keep_set (w.heap.size + 1 + 1) [.slice A2 N2 C2] 2 w3
  have bS : Blk (w3.setCell ⟨w.heap.size + 1 + 1, 2, none⟩ (.slice A2 N2 C2)) (w.heap.size + 1 + 1) [.slice A0 N0 C0, .slice A1 N1 C1, .slice A2 N2 C2, .slice none 0 0, .slice none 0 0] 24 := blk_set (w.heap.size + 1 + 1) _ [.slice A2 N2 C2] 2 _ w3 r2 (by simp)
  have bS1 := kS.blk r1 (by omega)
  have bS0 := kS.blk r0 (by omega)
  have O0_5 := Lib.hid (Ru.OwnR.same O0_4.out (w' := w3.setCell ⟨w.heap.size + 1 + 1, 2, none⟩ (.slice A2 N2 C2)) fun b hb _ => heap_set _ _ _ _ b (by have := (Ob0.out b hb).1; omega))
  have O1_5 := Lib.hid (Ru.OwnR.same O1_4.out (w' := w3.setCell ⟨w.heap.size + 1 + 1, 2, none⟩ (.slice A2 N2 C2)) fun b hb _ => heap_set _ _ _ _ b (by have := (Ob1.out b hb).1; omega))
  have O2_5 := Lib.hid (Ru.OwnR.same P2_4.out (w' := w3.setCell ⟨w.heap.size + 1 + 1, 2, none⟩ (.slice A2 N2 C2)) fun b hb _ => heap_set _ _ _ _ b (by have := (Ob2.out b hb).1; omega))
  have BB3 := Lib.hid (B3.out.trans (kS.below (by omega)))
  have zS := kS.size
  generalize w3.setCell ⟨w.heap.size + 1 + 1, 2, none⟩ (.slice A2 N2 C2) = S3 at *
  clear kS r0 r1 r2 p1 q0 f0
  have BZ := bS0
  have BZ1 := bS1
  have BZ2 := bS
  clear bS0 bS1 bS
  refine (HR3.out S3 BB3.out).mono ?_; rintro e w4 ⟨v3, rfl, o3, b4⟩
  have O0_6 := Lib.hid (Ru.OwnR.below O0_5.out b4 (Nat.le_refl _))
  have O1_6 := Lib.hid (Ru.OwnR.below O1_5.out b4 (Nat.le_refl _))
  have O2_6 := Lib.hid (Ru.OwnR.below O2_5.out b4 (Nat.le_refl _))
  have Ob3 := Lib.hid (Ru.OwnR.block o3)
  have O3 := o3
  obtain ⟨A3, C3, e3, _⟩ := o3.row
  rw [HN3.out] at e3
  subst e3
  have r0 := BZ.below b4 BZ.lt
  have r1 := BZ1.below b4 BZ1.lt
  have r2 := BZ2.below b4 BZ2.lt
  have s4 := b4.size
  have B4 := Lib.hid (bt BB3.out b4)
  clear b4 BZ BZ1 BZ2
  have P3_6 := Lib.hid o3
  clear o3 O3
  have p1 : w4.cell? ⟨w.heap.size, 4, none⟩ = some (.slice a4 N4 c4) := r0.cell 4
  have q0 : w4.cell? ⟨w.heap.size + 1 + 1, 3, none⟩ = some (.slice none 0 0) := r2.cell 3
  have f0 := r2.froz 3
  go_wp2_with fail
  have kS : Keep (w.heap.size + 1 + 1) w4 (w4.setCell ⟨w.heap.size + 1 + 1, 3, none⟩ (.slice A3 N3 C3)) := keep_set (w.heap.size + 1 + 1) [.slice A3 N3 C3] 3 w4
  have bS : Blk (w4.setCell ⟨w.heap.size + 1 + 1, 3, none⟩ (.slice A3 N3 C3)) (w.heap.size + 1 + 1) [.slice A0 N0 C0, .slice A1 N1 C1, .slice A2 N2 C2, .slice A3 N3 C3, .slice none 0 0] 24 := blk_set (w.heap.size + 1 + 1) _ [.slice A3 N3 C3] 3 _ w4 r2 (by simp)
  have bS1 := kS.blk r1 (by omega)
  have bS0 := kS.blk r0 (by omega)
  have O0_7 := Lib.hid (Ru.OwnR.same O0_6.out (w' := w4.setCell ⟨w.heap.size + 1 + 1, 3, none⟩ (.slice A3 N3 C3)) fun b hb _ => heap_set _ _ _ _ b (by have := (Ob0.out b hb).1; omega))
  have O1_7 := Lib.hid (Ru.OwnR.same O1_6.out (w' := w4.setCell ⟨w.heap.size + 1 + 1, 3, none⟩ (.slice A3 N3 C3)) fun b hb _ => heap_set _ _ _ _ b (by have := (Ob1.out b hb).1; omega))
  have O2_7 := Lib.hid (Ru.OwnR.same O2_6.out (w' := w4.setCell ⟨w.heap.size + 1 + 1, 3, none⟩ (.slice A3 N3 C3)) fun b hb _ => heap_set _ _ _ _ b (by have := (Ob2.out b hb).1; omega))
  have O3_7 := Lib.hid (Ru.OwnR.same P3_6.out (w' := w4.setCell ⟨w.heap.size + 1 + 1, 3, none⟩ (.slice A3 N3 C3)) fun b hb _ => heap_set _ _ _ _ b (by have := (Ob3.out b hb).1; omega))
  have BB4 := Lib.hid (B4.out.trans (kS.below (by omega)))
  have zS := kS.size
  generalize w4.setCell ⟨w.heap.size + 1 + 1, 3, none⟩ (.slice A3 N3 C3) = S4 at *
  clear kS r0 r1 r2 p1 q0 f0
  have BZ := bS0
  have BZ1 := bS1
  have BZ2 := bS
  clear bS0 bS1 bS
  refine (HR4.out S4 BB4.out).mono ?_; rintro e w5 ⟨v4, rfl, o4, b5⟩
  have O0_8 := Lib.hid (Ru.OwnR.below O0_7.out b5 (Nat.le_refl _))
  have O1_8 := Lib.hid (Ru.OwnR.below O1_7.out b5 (Nat.le_refl _))
  have O2_8 := Lib.hid (Ru.OwnR.below O2_7.out b5 (Nat.le_refl _))
  have O3_8 := Lib.hid (Ru.OwnR.below O3_7.out b5 (Nat.le_refl _))
  have Ob4 := Lib.hid (Ru.OwnR.block o4)
  have O4 := o4
  obtain ⟨A4, C4, e4, _⟩ := o4.row
  rw [HN4.out] at e4
  subst e4
  have r0 := BZ.below b5 BZ.lt
  have r1 := BZ1.below b5 BZ1.lt
  have r2 := BZ2.below b5 BZ2.lt
  have s5 := b5.size
  have B5 := Lib.hid (bt BB4.out b5)
  clear b5 BZ BZ1 BZ2
  have P4_8 := Lib.hid o4
  clear o4 O4
  have x0 : w5.cell? ⟨w.heap.size + 1 + 1, 0, none⟩ = some (.slice A0 N0 C0) := r2.cell 0
  have y0 : w5.cell? ⟨w.heap.size + 1, 0, none⟩ = some (.slice none 0 0) := r1.cell 0
  have g0 := r1.froz 0
  have x1 : w5.cell? ⟨w.heap.size + 1 + 1, 1, none⟩ = some (.slice A1 N1 C1) := r2.cell 1
  have y1 : w5.cell? ⟨w.heap.size + 1, 1, none⟩ = some (.slice none 0 0) := r1.cell 1
  have g1 := r1.froz 1
  have x2 : w5.cell? ⟨w.heap.size + 1 + 1, 2, none⟩ = some (.slice A2 N2 C2) := r2.cell 2
  have y2 : w5.cell? ⟨w.heap.size + 1, 2, none⟩ = some (.slice none 0 0) := r1.cell 2
  have g2 := r1.froz 2
  have x3 : w5.cell? ⟨w.heap.size + 1 + 1, 3, none⟩ = some (.slice A3 N3 C3) := r2.cell 3
  have y3 : w5.cell? ⟨w.heap.size + 1, 3, none⟩ = some (.slice none 0 0) := r1.cell 3
  have g3 := r1.froz 3
  have x4 : w5.cell? ⟨w.heap.size + 1 + 1, 4, none⟩ = some (.slice none 0 0) := r2.cell 4
  have y4 : w5.cell? ⟨w.heap.size + 1, 4, none⟩ = some (.slice none 0 0) := r1.cell 4
  have g4 := r1.froz 4
  have f4 := r2.froz 4
  have HP := Lib.hid (fun (wz : World) (X4 Y0 Y1 Y2 Y3 Y4 : Value) (e : wz = ((((((w5.setCell ⟨w.heap.size + 1 + 1, 4, none⟩ X4).setCell ⟨w.heap.size + 1, 0, none⟩ Y0).setCell ⟨w.heap.size + 1, 1, none⟩ Y1).setCell ⟨w.heap.size + 1, 2, none⟩ Y2).setCell ⟨w.heap.size + 1, 3, none⟩ Y3).setCell ⟨w.heap.size + 1, 4, none⟩ Y4)) => (show OwnX wz w.heap.size wz.heap.size (.agg #[.slice A0 N0 C0, .slice A1 N1 C1, .slice A2 N2 C2, .slice A3 N3 C3, .slice A4 N4 C4]) xs0 xs1 xs2 xs3 xs4 ∧ Below w.heap.size w wz from by
    have hh : ∀ i, w.heap.size + 3 ≤ i → wz.heap[i]? = w5.heap[i]? := fun i hi => by
      rw [e, heap_set _ _ _ _ i (by omega), heap_set _ _ _ _ i (by omega), heap_set _ _ _ _ i (by omega), heap_set _ _ _ _ i (by omega), heap_set _ _ _ _ i (by omega), heap_set _ _ _ _ i (by omega)]
    have hz : wz.heap.size = w5.heap.size := by rw [e]; simp
    have e0 := HN0.out
    have e1 := HN1.out
    have e2 := HN2.out
    have e3 := HN3.out
    have e4 := HN4.out
    subst e0 e1 e2 e3 e4
    refine ⟨⟨A0, C0, A1, C1, A2, C2, A3, C3, A4, C4, w1.heap.size, w2.heap.size, w3.heap.size, w4.heap.size, rfl, by omega, by omega, by omega, by omega, by omega, by omega, ?_, fun k hk => ?_, ?_, fun k hk => ?_, ?_, fun k hk => ?_, ?_, fun k hk => ?_, ?_, fun k hk => ?_⟩, ?_⟩
    · have h5 := Ru.OwnR.same O0_8.out (w' := wz) fun b hb _ => hh b (by have := (Ob0.out b hb).1; omega)
      exact h5.mono (by omega)
    · have := (Ob0.out k hk).2; omega
    · have h5 := Ru.OwnR.same O1_8.out (w' := wz) fun b hb _ => hh b (by have := (Ob1.out b hb).1; omega)
      exact h5.mono (by omega)
    · have := (Ob1.out k hk).2; omega
    · have h5 := Ru.OwnR.same O2_8.out (w' := wz) fun b hb _ => hh b (by have := (Ob2.out b hb).1; omega)
      exact h5.mono (by omega)
    · have := (Ob2.out k hk).2; omega
    · have h5 := Ru.OwnR.same O3_8.out (w' := wz) fun b hb _ => hh b (by have := (Ob3.out b hb).1; omega)
      exact h5.mono (by omega)
    · have := (Ob3.out k hk).2; omega
    · have h5 := Ru.OwnR.same P4_8.out (w' := wz) fun b hb _ => hh b (by have := (Ob4.out b hb).1; omega)
      exact h5.mono (by omega)
    · have := (Ob4.out k hk).2; omega
    · rw [e]
      exact ((((((B5.out.setCell (p := ⟨_, 4, none⟩) (by simp; omega) _).setCell (p := ⟨_, 0, none⟩) (by simp) _).setCell (p := ⟨_, 1, none⟩) (by simp) _).setCell (p := ⟨_, 2, none⟩) (by simp) _).setCell (p := ⟨_, 3, none⟩) (by simp) _).setCell (p := ⟨_, 4, none⟩) (by simp) _)))
  clear O0_8 O1_8 O2_8 O3_8 P4_8 B5 r0 r1 r2
  go_wp2
  refine bodyPost_ret (v := .agg #[.slice A0 N0 C0, .slice A1 N1 C1, .slice A2 N2 C2, .slice A3 N3 C3, .slice A4 N4 C4]) (by simp [results, Try.results18, go_sem, x0, x1, x2, x3, x4, y0, y1, y2, y3, y4, g0, g1, g2, g3, g4, f4]) rfl ?_
  obtain ⟨h1, h2⟩ := HP.out _ _ _ _ _ _ _ rfl
  exact ⟨_, rfl, h1, h2⟩
set_option maxHeartbeats 1000000 in
theorem eqX_rd {w : World} {v1 v2 : Value} {xs0 : List Ru.R} {xs1 : List Ru.R} {xs2 : List Ru.R} {xs3 : List Ru.R} {xs4 : List Ru.R} (h : xs0.length + xs1.length + xs2.length + xs3.length + xs4.length ≤ 1048576) (o1 : RdX w v1 xs0 xs1 xs2 xs3 xs4) (o2 : RdX w v2 xs0 xs1 xs2 xs3 xs4) :
    Calls Try.prog 11 #[v1, v2] w (BbX true w) := by
  obtain ⟨a0, c0, a1, c1, a2, c2, a3, c3, a4, c4, rfl, x0, x1, x2, x3, x4⟩ := o1
  obtain ⟨b0, d0, b1, d1, b2, d2, b3, d3, b4, d4, rfl, y0, y1, y2, y3, y4⟩ := o2
  obtain ⟨W0, hW0⟩ : ∃ W0, W0 = (w.alloc (.cells #[.slice a0 xs0.length c0, .slice a1 xs1.length c1, .slice a2 xs2.length c2, .slice a3 xs3.length c3, .slice a4 xs4.length c4] 24)).alloc (.cells #[.slice b0 xs0.length d0, .slice b1 xs1.length d1, .slice b2 xs2.length d2, .slice b3 xs3.length d3, .slice b4 xs4.length d4] 24) := ⟨_, rfl⟩
  have bw : Below w.heap.size w W0 := by rw [hW0]; exact ((Below.refl _ _).alloc (Nat.le_refl _) _).alloc (by simp) _
  have e1 : Blk W0 w.heap.size [.slice a0 xs0.length c0, .slice a1 xs1.length c1, .slice a2 xs2.length c2, .slice a3 xs3.length c3, .slice a4 xs4.length c4] 24 := by rw [hW0]; exact Blk.alloc (Blk.newAt w _ _ _ rfl) _
  have e2 : Blk W0 (w.heap.size + 1) [.slice b0 xs0.length d0, .slice b1 xs1.length d1, .slice b2 xs2.length d2, .slice b3 xs3.length d3, .slice b4 xs4.length d4] 24 := by rw [hW0]; exact Blk.newAt _ _ _ _ (by simp)
  have H0 := Lib.hid (fun (w' : World) (hb : Below w.heap.size w w') => Ru.eq_any a0 b0 c0 d0 xs0 w' (by omega) (Ru.RdR.below x0 hb) (Ru.RdR.below y0 hb))
  have H1 := Lib.hid (fun (w' : World) (hb : Below w.heap.size w w') => Ru.eq_any a1 b1 c1 d1 xs1 w' (by omega) (Ru.RdR.below x1 hb) (Ru.RdR.below y1 hb))
  have H2 := Lib.hid (fun (w' : World) (hb : Below w.heap.size w w') => Ru.eq_any a2 b2 c2 d2 xs2 w' (by omega) (Ru.RdR.below x2 hb) (Ru.RdR.below y2 hb))
  have H3 := Lib.hid (fun (w' : World) (hb : Below w.heap.size w w') => Ru.eq_any a3 b3 c3 d3 xs3 w' (by omega) (Ru.RdR.below x3 hb) (Ru.RdR.below y3 hb))
  have H4 := Lib.hid (fun (w' : World) (hb : Below w.heap.size w w') => Ru.eq_any a4 b4 c4 d4 xs4 w' (by omega) (Ru.RdR.below x4 hb) (Ru.RdR.below y4 hb))
  clear h x0 y0 x1 y1 x2 y2 x3 y3 x4 y4
  generalize xs0.length = n0 at *
  generalize xs1.length = n1 at *
  generalize xs2.length = n2 at *
  generalize xs3.length = n3 at *
  generalize xs4.length = n4 at *
  go_enter Try.func11, Try.ntmps11
  go_wp2_with fail
  rw [← hW0]
  clear hW0
  have Bw := Lib.hid bw
  clear bw
  refine (H0.out W0 Bw.out).mono ?_; rintro e u1 ⟨rfl, bb⟩
  have f1 := e1.below bb e1.lt
  have f2 := e2.below bb e2.lt
  have Bw1 := Lib.hid (bt Bw.out bb)
  clear e1 e2 bb
  have e1 := f1
  have e2 := f2
  clear f1 f2
  have p1 : u1.cell? ⟨w.heap.size, 1, none⟩ = some (.slice a1 n1 c1) := e1.cell 1
  have p2 : u1.cell? ⟨w.heap.size + 1, 1, none⟩ = some (.slice b1 n1 d1) := e2.cell 1
  go_wp2_with fail
  clear p1 p2
  refine (H1.out u1 Bw1.out).mono ?_; rintro e u2 ⟨rfl, bb⟩
  have f1 := e1.below bb e1.lt
  have f2 := e2.below bb e2.lt
  have Bw2 := Lib.hid (bt Bw1.out bb)
  clear e1 e2 bb
  have e1 := f1
  have e2 := f2
  clear f1 f2
  have p1 : u2.cell? ⟨w.heap.size, 2, none⟩ = some (.slice a2 n2 c2) := e1.cell 2
  have p2 : u2.cell? ⟨w.heap.size + 1, 2, none⟩ = some (.slice b2 n2 d2) := e2.cell 2
  go_wp2_with fail
  clear p1 p2
  refine (H2.out u2 Bw2.out).mono ?_; rintro e u3 ⟨rfl, bb⟩
  have f1 := e1.below bb e1.lt
  have f2 := e2.below bb e2.lt
  have Bw3 := Lib.hid (bt Bw2.out bb)
  clear e1 e2 bb
  have e1 := f1
  have e2 := f2
  clear f1 f2
  have p1 : u3.cell? ⟨w.heap.size, 3, none⟩ = some (.slice a3 n3 c3) := e1.cell 3
  have p2 : u3.cell? ⟨w.heap.size + 1, 3, none⟩ = some (.slice b3 n3 d3) := e2.cell 3
  go_wp2_with fail
  clear p1 p2
  refine (H3.out u3 Bw3.out).mono ?_; rintro e u4 ⟨rfl, bb⟩
  have f1 := e1.below bb e1.lt
  have f2 := e2.below bb e2.lt
  have Bw4 := Lib.hid (bt Bw3.out bb)
  clear e1 e2 bb
  have e1 := f1
  have e2 := f2
  clear f1 f2
  have p1 : u4.cell? ⟨w.heap.size, 4, none⟩ = some (.slice a4 n4 c4) := e1.cell 4
  have p2 : u4.cell? ⟨w.heap.size + 1, 4, none⟩ = some (.slice b4 n4 d4) := e2.cell 4
  go_wp2_with fail
  clear p1 p2
  refine (H4.out u4 Bw4.out).mono ?_; rintro e u5 ⟨rfl, bb⟩
  have f1 := e1.below bb e1.lt
  have f2 := e2.below bb e2.lt
  have Bw5 := Lib.hid (bt Bw4.out bb)
  clear e1 e2 bb
  have e1 := f1
  have e2 := f2
  clear f1 f2
  go_wp2
  go_ret
  exact ⟨rfl, Bw5.out⟩
def MkX (B T : Nat) (v : Value) (n0 n1 n2 n3 n4 : Nat) (w : World) (e : Ending) (w' : World) : Prop :=
  e = .returned (.int .i64 (1 + 3 * (n0 : Int) + 3 * (n1 : Int) + 3 * (n2 : Int) + 3 * (n3 : Int) + 3 * (n4 : Int))) ∧ OwnX w' B T v (Ru.mkG (1) n0) (Ru.mkG (1 + 3 * (n0 : Int)) n1) (Ru.mkG (1 + 3 * (n0 : Int) + 3 * (n1 : Int)) n2) (Ru.mkG (1 + 3 * (n0 : Int) + 3 * (n1 : Int) + 3 * (n2 : Int)) n3) (Ru.mkG (1 + 3 * (n0 : Int) + 3 * (n1 : Int) + 3 * (n2 : Int) + 3 * (n3 : Int)) n4) ∧ WrB B T w w'
set_option maxRecDepth 100000 in
set_option maxHeartbeats 4000000 in
theorem markX {w : World} {B T : Nat} {v : Value} {xs0 : List Ru.R} {xs1 : List Ru.R} {xs2 : List Ru.R} {xs3 : List Ru.R} {xs4 : List Ru.R} (h : OwnX w B T v xs0 xs1 xs2 xs3 xs4) (hl : xs0.length + xs1.length + xs2.length + xs3.length + xs4.length ≤ 1048576) :
    Calls Try.prog 12 #[v, .int .i64 1] w (MkX B T v xs0.length xs1.length xs2.length xs3.length xs4.length w) := by
  obtain ⟨a0, c0, a1, c1, a2, c2, a3, c3, a4, c4, h1, h2, h3, h4, rfl, l0, l1, l2, l3, l4, lT, o0, k0, o1, k1, o2, k2, o3, k3, o4, k4⟩ := h
  obtain ⟨W0, hW0⟩ : ∃ W0, W0 = w.alloc (.cells #[.slice a0 xs0.length c0, .slice a1 xs1.length c1, .slice a2 xs2.length c2, .slice a3 xs3.length c3, .slice a4 xs4.length c4] 24) := ⟨_, rfl⟩
  have b0 : Below w.heap.size w W0 := by rw [hW0]; exact (Below.refl _ _).alloc (Nat.le_refl _) _
  have kb : Blk W0 w.heap.size [.slice a0 xs0.length c0, .slice a1 xs1.length c1, .slice a2 xs2.length c2, .slice a3 xs3.length c3, .slice a4 xs4.length c4] 24 := by rw [hW0]; exact Blk.newAt w _ _ _ rfl
  have hsz : w.heap.size < W0.heap.size := kb.lt
  have lT0 : T ≤ w.heap.size := lT
  have P0 := Lib.hid (Ru.OwnR.below o0 b0 (Nat.le_refl _))
  have P1 := Lib.hid (Ru.OwnR.below o1 b0 (Nat.le_refl _))
  have P2 := Lib.hid (Ru.OwnR.below o2 b0 (Nat.le_refl _))
  have P3 := Lib.hid (Ru.OwnR.below o3 b0 (Nat.le_refl _))
  have P4 := Lib.hid (Ru.OwnR.below o4 b0 (Nat.le_refl _))
  have H0 := Lib.hid (fun (w' : World) (o : Ru.OwnR w' B (.slice a0 xs0.length c0) xs0) => Ru.markG (1) (by omega) (by omega) o (by omega))
  have H1 := Lib.hid (fun (w' : World) (o : Ru.OwnR w' h1 (.slice a1 xs1.length c1) xs1) => Ru.markG (1 + 3 * (xs0.length : Int)) (by omega) (by omega) o (by omega))
  have H2 := Lib.hid (fun (w' : World) (o : Ru.OwnR w' h2 (.slice a2 xs2.length c2) xs2) => Ru.markG (1 + 3 * (xs0.length : Int) + 3 * (xs1.length : Int)) (by omega) (by omega) o (by omega))
  have H3 := Lib.hid (fun (w' : World) (o : Ru.OwnR w' h3 (.slice a3 xs3.length c3) xs3) => Ru.markG (1 + 3 * (xs0.length : Int) + 3 * (xs1.length : Int) + 3 * (xs2.length : Int)) (by omega) (by omega) o (by omega))
  have H4 := Lib.hid (fun (w' : World) (o : Ru.OwnR w' h4 (.slice a4 xs4.length c4) xs4) => Ru.markG (1 + 3 * (xs0.length : Int) + 3 * (xs1.length : Int) + 3 * (xs2.length : Int) + 3 * (xs3.length : Int)) (by omega) (by omega) o (by omega))
  have BK0 := Lib.hid (Ru.OwnR.block o0)
  have K0 := Lib.hid k0
  have BK1 := Lib.hid (Ru.OwnR.block o1)
  have K1 := Lib.hid k1
  have BK2 := Lib.hid (Ru.OwnR.block o2)
  have K2 := Lib.hid k2
  have BK3 := Lib.hid (Ru.OwnR.block o3)
  have K3 := Lib.hid k3
  have BK4 := Lib.hid (Ru.OwnR.block o4)
  have K4 := Lib.hid k4
  have B0 := Lib.hid b0
  clear b0 o0 k0 o1 k1 o2 k2 o3 k3 o4 k4
  generalize xs0.length = n0 at *
  generalize xs1.length = n1 at *
  generalize xs2.length = n2 at *
  generalize xs3.length = n3 at *
  generalize xs4.length = n4 at *
  go_enter Try.func12, Try.ntmps12
  go_wp2_with fail
  rw [← hW0]
  clear hW0
  have F0 := Lib.hid (WrB.of_below (B := B) (T := T) B0.out (Nat.le_refl _))
  refine (H0.out W0 P0.out).mono ?_; rintro e w1 ⟨rfl, q, g⟩
  have hg1 : W0.heap.size ≤ w1.heap.size := g.size
  have bd : ∀ b, (Value.slice a0 n0 c0).ownBlock = some b → B ≤ b ∧ b < h1 := fun b hb => ⟨(BK0.out b hb).1, K0.out b hb⟩
  have kb1 : Blk w1 w.heap.size [.slice a0 n0 c0, .slice a1 n1 c1, .slice a2 n2 c2, .slice a3 n3 c3, .slice a4 n4 c4] 24 := (g.block w.heap.size (by omega) (fun e => by have := bd _ e.symm; omega)).trans kb
  have R1_0 := Lib.hid (Ru.OwnR.same P1.out (w' := w1) fun b hb hlt => g.block b hlt (fun e => by have := bd b e.symm; have := (BK1.out b hb).1; have := K1.out b hb; omega))
  have R2_0 := Lib.hid (Ru.OwnR.same P2.out (w' := w1) fun b hb hlt => g.block b hlt (fun e => by have := bd b e.symm; have := (BK2.out b hb).1; have := K2.out b hb; omega))
  have R3_0 := Lib.hid (Ru.OwnR.same P3.out (w' := w1) fun b hb hlt => g.block b hlt (fun e => by have := bd b e.symm; have := (BK3.out b hb).1; have := K3.out b hb; omega))
  have R4_0 := Lib.hid (Ru.OwnR.same P4.out (w' := w1) fun b hb hlt => g.block b hlt (fun e => by have := bd b e.symm; have := (BK4.out b hb).1; have := K4.out b hb; omega))
  have Q0 := Lib.hid q
  have F1 := Lib.hid (F0.out.trans (WrB.grown g fun b hb => by have := bd b hb; omega))
  clear q g bd
  have c' : w1.cell? ⟨w.heap.size, 1, none⟩ = some (.slice a1 n1 c1) := kb1.cell 1
  go_wp2_with fail
  clear c'
  refine (H1.out w1 R1_0.out).mono ?_; rintro e w2 ⟨rfl, q, g⟩
  have hg2 : w1.heap.size ≤ w2.heap.size := g.size
  have bd : ∀ b, (Value.slice a1 n1 c1).ownBlock = some b → h1 ≤ b ∧ b < h2 := fun b hb => ⟨(BK1.out b hb).1, K1.out b hb⟩
  have kb2 : Blk w2 w.heap.size [.slice a0 n0 c0, .slice a1 n1 c1, .slice a2 n2 c2, .slice a3 n3 c3, .slice a4 n4 c4] 24 := (g.block w.heap.size (by omega) (fun e => by have := bd _ e.symm; omega)).trans kb1
  have R0_1 := Lib.hid (Ru.OwnR.same Q0.out (w' := w2) fun b hb hlt => g.block b hlt (fun e => by have := bd b e.symm; have := (BK0.out b hb).1; have := K0.out b hb; omega))
  have R2_1 := Lib.hid (Ru.OwnR.same R2_0.out (w' := w2) fun b hb hlt => g.block b hlt (fun e => by have := bd b e.symm; have := (BK2.out b hb).1; have := K2.out b hb; omega))
  have R3_1 := Lib.hid (Ru.OwnR.same R3_0.out (w' := w2) fun b hb hlt => g.block b hlt (fun e => by have := bd b e.symm; have := (BK3.out b hb).1; have := K3.out b hb; omega))
  have R4_1 := Lib.hid (Ru.OwnR.same R4_0.out (w' := w2) fun b hb hlt => g.block b hlt (fun e => by have := bd b e.symm; have := (BK4.out b hb).1; have := K4.out b hb; omega))
  have Q1 := Lib.hid q
  have F2 := Lib.hid (F1.out.trans (WrB.grown g fun b hb => by have := bd b hb; omega))
  clear q g bd
  have c' : w2.cell? ⟨w.heap.size, 2, none⟩ = some (.slice a2 n2 c2) := kb2.cell 2
  go_wp2_with fail
  clear c'
  refine (H2.out w2 R2_1.out).mono ?_; rintro e w3 ⟨rfl, q, g⟩
  have hg3 : w2.heap.size ≤ w3.heap.size := g.size
  have bd : ∀ b, (Value.slice a2 n2 c2).ownBlock = some b → h2 ≤ b ∧ b < h3 := fun b hb => ⟨(BK2.out b hb).1, K2.out b hb⟩
  have kb3 : Blk w3 w.heap.size [.slice a0 n0 c0, .slice a1 n1 c1, .slice a2 n2 c2, .slice a3 n3 c3, .slice a4 n4 c4] 24 := (g.block w.heap.size (by omega) (fun e => by have := bd _ e.symm; omega)).trans kb2
  have R0_2 := Lib.hid (Ru.OwnR.same R0_1.out (w' := w3) fun b hb hlt => g.block b hlt (fun e => by have := bd b e.symm; have := (BK0.out b hb).1; have := K0.out b hb; omega))
  have R1_2 := Lib.hid (Ru.OwnR.same Q1.out (w' := w3) fun b hb hlt => g.block b hlt (fun e => by have := bd b e.symm; have := (BK1.out b hb).1; have := K1.out b hb; omega))
  have R3_2 := Lib.hid (Ru.OwnR.same R3_1.out (w' := w3) fun b hb hlt => g.block b hlt (fun e => by have := bd b e.symm; have := (BK3.out b hb).1; have := K3.out b hb; omega))
  have R4_2 := Lib.hid (Ru.OwnR.same R4_1.out (w' := w3) fun b hb hlt => g.block b hlt (fun e => by have := bd b e.symm; have := (BK4.out b hb).1; have := K4.out b hb; omega))
  have Q2 := Lib.hid q
  have F3 := Lib.hid (F2.out.trans (WrB.grown g fun b hb => by have := bd b hb; omega))
  clear q g bd
  have c' : w3.cell? ⟨w.heap.size, 3, none⟩ = some (.slice a3 n3 c3) := kb3.cell 3
  go_wp2_with fail
  clear c'
  refine (H3.out w3 R3_2.out).mono ?_; rintro e w4 ⟨rfl, q, g⟩
  have hg4 : w3.heap.size ≤ w4.heap.size := g.size
  have bd : ∀ b, (Value.slice a3 n3 c3).ownBlock = some b → h3 ≤ b ∧ b < h4 := fun b hb => ⟨(BK3.out b hb).1, K3.out b hb⟩
  have kb4 : Blk w4 w.heap.size [.slice a0 n0 c0, .slice a1 n1 c1, .slice a2 n2 c2, .slice a3 n3 c3, .slice a4 n4 c4] 24 := (g.block w.heap.size (by omega) (fun e => by have := bd _ e.symm; omega)).trans kb3
  have R0_3 := Lib.hid (Ru.OwnR.same R0_2.out (w' := w4) fun b hb hlt => g.block b hlt (fun e => by have := bd b e.symm; have := (BK0.out b hb).1; have := K0.out b hb; omega))
  have R1_3 := Lib.hid (Ru.OwnR.same R1_2.out (w' := w4) fun b hb hlt => g.block b hlt (fun e => by have := bd b e.symm; have := (BK1.out b hb).1; have := K1.out b hb; omega))
  have R2_3 := Lib.hid (Ru.OwnR.same Q2.out (w' := w4) fun b hb hlt => g.block b hlt (fun e => by have := bd b e.symm; have := (BK2.out b hb).1; have := K2.out b hb; omega))
  have R4_3 := Lib.hid (Ru.OwnR.same R4_2.out (w' := w4) fun b hb hlt => g.block b hlt (fun e => by have := bd b e.symm; have := (BK4.out b hb).1; have := K4.out b hb; omega))
  have Q3 := Lib.hid q
  have F4 := Lib.hid (F3.out.trans (WrB.grown g fun b hb => by have := bd b hb; omega))
  clear q g bd
  have c' : w4.cell? ⟨w.heap.size, 4, none⟩ = some (.slice a4 n4 c4) := kb4.cell 4
  go_wp2_with fail
  clear c'
  refine (H4.out w4 R4_3.out).mono ?_; rintro e w5 ⟨rfl, q, g⟩
  have hg5 : w4.heap.size ≤ w5.heap.size := g.size
  have bd : ∀ b, (Value.slice a4 n4 c4).ownBlock = some b → h4 ≤ b ∧ b < T := fun b hb => ⟨(BK4.out b hb).1, K4.out b hb⟩
  have kb5 : Blk w5 w.heap.size [.slice a0 n0 c0, .slice a1 n1 c1, .slice a2 n2 c2, .slice a3 n3 c3, .slice a4 n4 c4] 24 := (g.block w.heap.size (by omega) (fun e => by have := bd _ e.symm; omega)).trans kb4
  have R0_4 := Lib.hid (Ru.OwnR.same R0_3.out (w' := w5) fun b hb hlt => g.block b hlt (fun e => by have := bd b e.symm; have := (BK0.out b hb).1; have := K0.out b hb; omega))
  have R1_4 := Lib.hid (Ru.OwnR.same R1_3.out (w' := w5) fun b hb hlt => g.block b hlt (fun e => by have := bd b e.symm; have := (BK1.out b hb).1; have := K1.out b hb; omega))
  have R2_4 := Lib.hid (Ru.OwnR.same R2_3.out (w' := w5) fun b hb hlt => g.block b hlt (fun e => by have := bd b e.symm; have := (BK2.out b hb).1; have := K2.out b hb; omega))
  have R3_4 := Lib.hid (Ru.OwnR.same Q3.out (w' := w5) fun b hb hlt => g.block b hlt (fun e => by have := bd b e.symm; have := (BK3.out b hb).1; have := K3.out b hb; omega))
  have Q4 := Lib.hid q
  have F5 := Lib.hid (F4.out.trans (WrB.grown g fun b hb => by have := bd b hb; omega))
  clear q g bd
  have HFIN := Lib.hid (show OwnX w5 B T (.agg #[.slice a0 n0 c0, .slice a1 n1 c1, .slice a2 n2 c2, .slice a3 n3 c3, .slice a4 n4 c4]) (Ru.mkG (1) n0) (Ru.mkG (1 + 3 * (n0 : Int)) n1) (Ru.mkG (1 + 3 * (n0 : Int) + 3 * (n1 : Int)) n2) (Ru.mkG (1 + 3 * (n0 : Int) + 3 * (n1 : Int) + 3 * (n2 : Int)) n3) (Ru.mkG (1 + 3 * (n0 : Int) + 3 * (n1 : Int) + 3 * (n2 : Int) + 3 * (n3 : Int)) n4) from ⟨a0, c0, a1, c1, a2, c2, a3, c3, a4, c4, h1, h2, h3, h4, by simp only [Ru.mkG_length], l0, l1, l2, l3, l4, by omega, by rw [Ru.mkG_length]; exact R0_4.out, by rw [Ru.mkG_length]; exact K0.out, by rw [Ru.mkG_length]; exact R1_4.out, by rw [Ru.mkG_length]; exact K1.out, by rw [Ru.mkG_length]; exact R2_4.out, by rw [Ru.mkG_length]; exact K2.out, by rw [Ru.mkG_length]; exact R3_4.out, by rw [Ru.mkG_length]; exact K3.out, by rw [Ru.mkG_length]; exact Q4.out, by rw [Ru.mkG_length]; exact K4.out⟩)
  clear Q4 R0_4 R1_4 R2_4 R3_4
  go_wp2
  go_ret
  exact ⟨rfl, HFIN.out, F5.out⟩
set_option maxHeartbeats 1000000 in
theorem heldX {w : World} {v : Value} {n0 n1 n2 n3 n4 : Nat} (h : RdX w v (Ru.mkG (1) n0) (Ru.mkG (1 + 3 * (n0 : Int)) n1) (Ru.mkG (1 + 3 * (n0 : Int) + 3 * (n1 : Int)) n2) (Ru.mkG (1 + 3 * (n0 : Int) + 3 * (n1 : Int) + 3 * (n2 : Int)) n3) (Ru.mkG (1 + 3 * (n0 : Int) + 3 * (n1 : Int) + 3 * (n2 : Int) + 3 * (n3 : Int)) n4)) (hl : n0 + n1 + n2 + n3 + n4 ≤ 1048576) :
    Calls Try.prog 13 #[v, .int .i64 1] w (NbI (1 + 3 * (n0 : Int) + 3 * (n1 : Int) + 3 * (n2 : Int) + 3 * (n3 : Int) + 3 * (n4 : Int)) w) := by
  obtain ⟨a0, c0, a1, c1, a2, c2, a3, c3, a4, c4, e, o0, o1, o2, o3, o4⟩ := h
  simp only [Ru.mkG_length] at e 
  subst e
  have b0 : Below w.heap.size w (w.alloc (.cells #[.slice a0 n0 c0, .slice a1 n1 c1, .slice a2 n2 c2, .slice a3 n3 c3, .slice a4 n4 c4] 24)) := (Below.refl _ _).alloc (Nat.le_refl _) _
  have H0 := Lib.hid (Ru.held_any a0 c0 n0 (1) (by omega) (by omega) _ (by omega) (Ru.RdR.below o0 b0))
  have H1 := Lib.hid (Ru.held_any a1 c1 n1 (1 + 3 * (n0 : Int)) (by omega) (by omega) _ (by omega) (Ru.RdR.below o1 b0))
  have H2 := Lib.hid (Ru.held_any a2 c2 n2 (1 + 3 * (n0 : Int) + 3 * (n1 : Int)) (by omega) (by omega) _ (by omega) (Ru.RdR.below o2 b0))
  have H3 := Lib.hid (Ru.held_any a3 c3 n3 (1 + 3 * (n0 : Int) + 3 * (n1 : Int) + 3 * (n2 : Int)) (by omega) (by omega) _ (by omega) (Ru.RdR.below o3 b0))
  have H4 := Lib.hid (Ru.held_any a4 c4 n4 (1 + 3 * (n0 : Int) + 3 * (n1 : Int) + 3 * (n2 : Int) + 3 * (n3 : Int)) (by omega) (by omega) _ (by omega) (Ru.RdR.below o4 b0))
  have q0 : ¬ (1 + 3 * (n0 : Int)) < 0 := by omega
  have q1 : ¬ (1 + 3 * (n0 : Int) + 3 * (n1 : Int)) < 0 := by omega
  have q2 : ¬ (1 + 3 * (n0 : Int) + 3 * (n1 : Int) + 3 * (n2 : Int)) < 0 := by omega
  have q3 : ¬ (1 + 3 * (n0 : Int) + 3 * (n1 : Int) + 3 * (n2 : Int) + 3 * (n3 : Int)) < 0 := by omega
  have q4 : ¬ (1 + 3 * (n0 : Int) + 3 * (n1 : Int) + 3 * (n2 : Int) + 3 * (n3 : Int) + 3 * (n4 : Int)) < 0 := by omega
  clear hl o0 o1 o2 o3 o4
  go_enter Try.func13, Try.ntmps13
  go_wp2_with fail
  refine H0.out.mono ?_; rintro e w' ⟨rfl, rfl⟩
  go_wp2_with fail
  refine H1.out.mono ?_; rintro e w' ⟨rfl, rfl⟩
  go_wp2_with fail
  refine H2.out.mono ?_; rintro e w' ⟨rfl, rfl⟩
  go_wp2_with fail
  refine H3.out.mono ?_; rintro e w' ⟨rfl, rfl⟩
  go_wp2_with fail
  refine H4.out.mono ?_; rintro e w' ⟨rfl, rfl⟩
  go_wp2
  go_ret
  exact ⟨rfl, b0⟩
end Go.Proofs.Ytmmjdmgnmlhjeaa.Pt
