/- System by value: what the call owns, what is read, and the law's helpers. -/
import Derived.Test.YtmmjdmgnmlhjeaaCbol
import Derived.Test.YtmmjdmgnmlhjeaaCblk
import Derived.Test.YtmmjdmgnmlhjeaaCbt
import Derived.Test.YtmmjdmgnmlhjeaaCto
import Derived.Test.YtmmjdmgnmlhjeaaCrd
import Derived.Test.YtmmjdmgnmlhjeaaCmark1
import Derived.Deep.RegionHeld3
import Derived.Handy
namespace Go.Proofs.Ytmmjdmgnmlhjeaa.Sy
open Go.RowKit
/-- Only blocks from B on and below T are written. -/
def WrB (B T : Nat) (w w' : World) : Prop := (w'.os = w.os ∧ w'.tape = w.tape ∧ w'.output = w.output) ∧ w.heap.size ≤ w'.heap.size ∧ ∀ b, b < w.heap.size → (b < B ∨ T ≤ b) → w'.heap[b]? = w.heap[b]?
theorem WrB.trans {B T : Nat} {a b c : World} (h : WrB B T a b) (k : WrB B T b c) : WrB B T a c :=
  ⟨⟨k.1.1.trans h.1.1, k.1.2.1.trans h.1.2.1, k.1.2.2.trans h.1.2.2⟩, Nat.le_trans h.2.1 k.2.1, fun i hi hr => (k.2.2 i (by have := h.2.1; omega) hr).trans (h.2.2 i hi hr)⟩
theorem WrB.size {B T : Nat} {w w' : World} (h : WrB B T w w') : w.heap.size ≤ w'.heap.size := h.2.1
theorem WrB.of_below {B T C : Nat} {w w' : World} (h : Below C w w') (hC : w.heap.size ≤ C) : WrB B T w w' := ⟨⟨h.os, h.tape, h.output⟩, h.size, fun b hb _ => h.block b (by omega)⟩
theorem WrB.below {B T C : Nat} {w w' : World} (h : WrB B T w w') (hC : C ≤ B) (hw : C ≤ w.heap.size) : Below C w w' := ⟨h.1.1, h.1.2.1, h.1.2.2, h.2.1, fun b hb => h.2.2 b (by omega) (.inl (by omega))⟩
theorem WrB.grown {B T : Nat} {w w' : World} {r : Option Nat} (h : w.grownBy w' r) (hr : ∀ k, r = some k → B ≤ k ∧ k < T) : WrB B T w w' :=
  ⟨⟨h.os, h.tape, h.output⟩, h.size, fun b hb hc => h.block b hb (fun e => by have := hr b e.symm; omega)⟩
def NbI (n : Int) (w : World) (e : Ending) (w' : World) : Prop := e = .returned (.int .i64 n) ∧ Below w.heap.size w w'
def BbX (b : Bool) (w : World) (e : Ending) (w' : World) : Prop := e = .returned (.bool b) ∧ Below w.heap.size w w'
theorem heap_set (w : World) (b o : Nat) (v : Value) (i : Nat) (h : i ≠ b) : (w.setCell ⟨b, o, none⟩ v).heap[i]? = w.heap[i]? := Go.heap_setCell_other w ⟨b, o, none⟩ i v (fun e => h (by simpa using e))
theorem ownSame {w w' : World} {B : Nat} {v : Value} {xs : List Int} (h : Own w B v xs) (hb : ∀ b, v.ownBlock = some b → b < w.heap.size → w'.heap[b]? = w.heap[b]?) : Own w' B v xs := by
  refine ⟨h.1, ?_⟩
  rcases h.2 with hn | ⟨g, cap, cur, rfl, hg, hh, r⟩
  · exact .inl hn
  · exact .inr ⟨g, cap, cur, rfl, hg, by rw [hb g rfl (Array.getElem?_eq_some_iff.1 hh).1]; exact hh, r⟩
theorem szI_yes (a : Option Addr) (len cap : Nat) (left : Int) (w : World) (h : (len : Int) ≤ left) (hl : left ≤ 1048576) :
    Calls Try.prog 50 #[.slice a len cap, .int .i64 left] w (Count (left - (len : Int)) w) := by
  have h1 : ¬ (left - (len : Int)) < 0 := by omega
  go_enter Try.func50, Try.ntmps50
  go_wp2
  go_ret
  exact ⟨rfl, rfl⟩
theorem szI_no (a : Option Addr) (len cap : Nat) (left : Int) (w : World) (h0 : 0 ≤ left) (h : left < (len : Int)) (hl : left ≤ 1048576) (hm : len ≤ 9223372036854775807) :
    Calls Try.prog 50 #[.slice a len cap, .int .i64 left] w (Count (-1) w) := by
  have h1 : (left - (len : Int)) < 0 := by omega
  go_enter Try.func50, Try.ntmps50
  go_wp2
  go_ret
  exact ⟨rfl, rfl⟩
/-- One of the call's own, its blocks from B on and below T, in order. -/
def OwnX (w : World) (B T : Nat) (v : Value) (xs0 : List Int) (xs1 : List Bo.R) (m2 : Bool) : Prop :=
  ∃ a0 c0 a1 c1 h1, v = .agg #[.slice a0 xs0.length c0, .slice a1 xs1.length c1, .bool m2] ∧ B ≤ h1 ∧ h1 ≤ T ∧ T ≤ w.heap.size ∧ Own w B (.slice a0 xs0.length c0) xs0 ∧ (∀ k, (Value.slice a0 xs0.length c0).ownBlock = some k → k < h1) ∧ Bo.OwnR w h1 (.slice a1 xs1.length c1) xs1 ∧ (∀ k, (Value.slice a1 xs1.length c1).ownBlock = some k → k < T)
theorem OwnX.below {w w' : World} {B T C : Nat} {v : Value} {xs0 : List Int} {xs1 : List Bo.R} {m2 : Bool} (h : OwnX w B T v xs0 xs1 m2) (hb : Below C w w') (hC : w.heap.size ≤ C) : OwnX w' B T v xs0 xs1 m2 := by
  obtain ⟨a0, c0, a1, c1, h1, e, l0, l1, lT, o0, k0, o1, k1⟩ := h
  exact ⟨a0, c0, a1, c1, h1, e, l0, l1, Nat.le_trans lT hb.size, Own.below o0 hb hC, k0, Bo.OwnR.below o1 hb hC, k1⟩
theorem OwnX.same {w w' : World} {B T : Nat} {v : Value} {xs0 : List Int} {xs1 : List Bo.R} {m2 : Bool} (h : OwnX w B T v xs0 xs1 m2) (hb : ∀ b, B ≤ b → b < T → w'.heap[b]? = w.heap[b]?) (hs : w.heap.size ≤ w'.heap.size) : OwnX w' B T v xs0 xs1 m2 := by
  obtain ⟨a0, c0, a1, c1, h1, e, l0, l1, lT, o0, k0, o1, k1⟩ := h
  exact ⟨a0, c0, a1, c1, h1, e, l0, l1, Nat.le_trans lT hs, ownSame o0 fun b hk _ => hb b (by have := (Own.block o0 b hk).1; omega) (by have := k0 b hk; omega), k0, Bo.OwnR.same o1 fun b hk _ => hb b (by have := (Bo.OwnR.block o1 b hk).1; omega) (by have := k1 b hk; omega), k1⟩
theorem OwnX.moreT {w : World} {B T T' : Nat} {v : Value} {xs0 : List Int} {xs1 : List Bo.R} {m2 : Bool} (h : OwnX w B T v xs0 xs1 m2) (t1 : T ≤ T') (t2 : T' ≤ w.heap.size) : OwnX w B T' v xs0 xs1 m2 := by
  obtain ⟨a0, c0, a1, c1, h1, e, l0, l1, lT, o0, k0, o1, k1⟩ := h
  exact ⟨a0, c0, a1, c1, h1, e, l0, Nat.le_trans l1 t1, t2, o0, k0, o1, fun b hb => Nat.lt_of_lt_of_le (k1 b hb) t1⟩
theorem OwnX.form {w : World} {B T : Nat} {v : Value} {xs0 : List Int} {xs1 : List Bo.R} {m2 : Bool} (h : OwnX w B T v xs0 xs1 m2) : ∃ a0 c0 a1 c1, v = .agg #[.slice a0 xs0.length c0, .slice a1 xs1.length c1, .bool m2] := by
  obtain ⟨a0, c0, a1, c1, h1, e, l0, l1, lT, o0, k0, o1, k1⟩ := h
  exact ⟨a0, c0, a1, c1, e⟩
/-- One that is read, wherever it lies. -/
def RdX (w : World) (v : Value) (xs0 : List Int) (xs1 : List Bo.R) (m2 : Bool) : Prop :=
  ∃ a0 c0 a1 c1, v = .agg #[.slice a0 xs0.length c0, .slice a1 xs1.length c1, .bool m2] ∧ Rd w (.slice a0 xs0.length c0) xs0 ∧ Bo.RdR w a1 xs1
theorem RdX.below {w w' : World} {v : Value} {xs0 : List Int} {xs1 : List Bo.R} {m2 : Bool} (h : RdX w v xs0 xs1 m2) (hb : Below w.heap.size w w') : RdX w' v xs0 xs1 m2 := by
  obtain ⟨a0, c0, a1, c1, e, o0, o1⟩ := h
  exact ⟨a0, c0, a1, c1, e, o0.below hb, Bo.RdR.below o1 hb⟩
theorem rdAtBo {w : World} {B n c : Nat} {a : Option Addr} {xs : List Bo.R} (h : Bo.OwnR w B (.slice a n c) xs) : Bo.RdR w a xs := by
  obtain ⟨a', c', e, hr⟩ := h.row
  injection e with e1 e2 e3
  subst e1
  exact hr
theorem OwnX.rd {w : World} {B T : Nat} {v : Value} {xs0 : List Int} {xs1 : List Bo.R} {m2 : Bool} (h : OwnX w B T v xs0 xs1 m2) : RdX w v xs0 xs1 m2 := by
  obtain ⟨a0, c0, a1, c1, h1, e, l0, l1, lT, o0, k0, o1, k1⟩ := h
  exact ⟨a0, c0, a1, c1, e, o0.rd, rdAtBo o1⟩
theorem szX_yes (a0 a1 : Option Addr) (c0 c1 : Nat) (n0 n1 : Nat) (m2 : Bool) (w : World) (h : n0 + n1 ≤ 1048576) :
    Calls Try.prog 23 #[.agg #[.slice a0 n0 c0, .slice a1 n1 c1, .bool m2], .int .i64 1048576] w (NbI (1048576 - ((n0 + n1 : Nat) : Int)) w) := by
  have b0 := (Below.refl w.heap.size w).alloc (Nat.le_refl _) (.cells #[.slice a0 n0 c0, .slice a1 n1 c1, .bool m2] 46)
  have H0 := Lib.hid (szI_yes a0 n0 c0 (1048576) (w.alloc (.cells #[.slice a0 n0 c0, .slice a1 n1 c1, .bool m2] 46)) (by omega) (by omega))
  have H1 := Lib.hid (Bo.sz_yes a1 n1 c1 (1048576 - (n0 : Int)) (w.alloc (.cells #[.slice a0 n0 c0, .slice a1 n1 c1, .bool m2] 46)) (by omega) (by omega))
  have q0 : ¬ ((1048576 - (n0 : Int))) < 0 := by omega
  have q1 : ¬ ((1048576 - (n0 : Int) - (n1 : Int))) < 0 := by omega
  have HT : Hid (1048576 - (n0 : Int) - (n1 : Int) = 1048576 - ((n0 + n1 : Nat) : Int)) := by show _ = _; omega
  clear h
  generalize 1048576 - ((n0 + n1 : Nat) : Int) = Z at *
  go_enter Try.func23, Try.ntmps23
  go_wp2_with fail
  refine H0.out.mono ?_; rintro e w' ⟨rfl, rfl⟩
  go_wp2_with fail
  refine H1.out.mono ?_; rintro e w' ⟨rfl, rfl⟩
  go_wp2
  go_ret
  exact ⟨ret_i64 HT.out, b0⟩
set_option maxHeartbeats 1000000 in
theorem szX_no (a0 a1 : Option Addr) (c0 c1 : Nat) (n0 n1 : Nat) (m2 : Bool) (w : World) (g0 : n0 ≤ 9223372036854775807) (g1 : n1 ≤ 9223372036854775807) (h : ¬ n0 + n1 ≤ 1048576) :
    Calls Try.prog 23 #[.agg #[.slice a0 n0 c0, .slice a1 n1 c1, .bool m2], .int .i64 1048576] w (NbI (-1) w) := by
  have b0 := (Below.refl w.heap.size w).alloc (Nat.le_refl _) (.cells #[.slice a0 n0 c0, .slice a1 n1 c1, .bool m2] 46)
  by_cases k0 : n0 ≤ 1048576
  · skip
    have H0 := Lib.hid (szI_yes a0 n0 c0 (1048576) (w.alloc (.cells #[.slice a0 n0 c0, .slice a1 n1 c1, .bool m2] 46)) (by omega) (by omega))
    have q0 : ¬ ((1048576 - (n0 : Int))) < 0 := by omega
    have H1 := Lib.hid (Bo.sz_no a1 n1 c1 (1048576 - (n0 : Int)) (w.alloc (.cells #[.slice a0 n0 c0, .slice a1 n1 c1, .bool m2] 46)) (by omega) (by omega) (by omega) g1)
    clear h k0
    go_enter Try.func23, Try.ntmps23
    go_wp2_with fail
    refine H0.out.mono ?_; rintro e w' ⟨rfl, rfl⟩
    go_wp2_with fail
    refine H1.out.mono ?_; rintro e w' ⟨rfl, rfl⟩
    go_wp2
    go_ret
    exact ⟨rfl, b0⟩
  · skip
    have H0 := Lib.hid (szI_no a0 n0 c0 (1048576) (w.alloc (.cells #[.slice a0 n0 c0, .slice a1 n1 c1, .bool m2] 46)) (by omega) (by omega) (by omega) g0)
    clear h k0
    go_enter Try.func23, Try.ntmps23
    go_wp2_with fail
    refine H0.out.mono ?_; rintro e w' ⟨rfl, rfl⟩
    go_wp2
    go_ret
    exact ⟨rfl, b0⟩
def CopX (xs0 : List Int) (xs1 : List Bo.R) (m2 : Bool) (w : World) (e : Ending) (w' : World) : Prop := ∃ v, e = .returned v ∧ OwnX w' w.heap.size w'.heap.size v xs0 xs1 m2 ∧ Below w.heap.size w w'
set_option maxHeartbeats 4000000 in
set_option maxRecDepth 100000 in
theorem toX_any (a0 a1 : Option Addr) (c0 c1 : Nat) (n0 : Nat) (zs0 : List Int) (xs1 : List Bo.R) (m2 : Bool) (w : World) (h0 : IsRow .i64 w a0 n0 c0 zs0) (h1 : Bo.RdR w a1 xs1) (h : n0 + xs1.length ≤ 1048576) :
    Calls Try.prog 25 #[.agg #[.slice a0 n0 c0, .slice a1 xs1.length c1, .bool m2]] w (CopX (zs0.take n0) xs1 m2 w) := by
  have HR0 := Lib.hid (fun (w' : World) (hb : Below w.heap.size w w') => to_any a0 n0 c0 zs0 w' (isRow_below h0 hb) (by omega))
  have HR1 := Lib.hid (fun (w' : World) (hb : Below w.heap.size w w') => Bo.to_any a1 c1 xs1 w' (Bo.RdR.below h1 hb) (by omega))
  clear h h0 h1
  generalize zs0.take n0 = xs0 at *
  generalize hN1 : xs1.length = N1 at *
  have HN1 := Lib.hid hN1
  clear hN1
  go_enter Try.func25, Try.ntmps25
  go_wp2_with fail
  obtain ⟨W0, hW0⟩ : ∃ W0, W0 = (((w.alloc (.cells #[.slice a0 n0 c0, .slice a1 N1 c1, .bool m2] 46)).alloc (.cells #[.slice none 0 0, .slice none 0 0, .bool false] 49)).alloc (.cells #[.slice none 0 0, .slice none 0 0, .bool false] 49)) := ⟨_, rfl⟩
  have b0 : Below w.heap.size w W0 := by rw [hW0]; exact (((Below.refl _ w).alloc (Nat.le_refl _) _).alloc (by simp) _).alloc (by simp; omega) _
  have BZ : Blk W0 (w.heap.size) [.slice a0 n0 c0, .slice a1 N1 c1, .bool m2] 46 := by rw [hW0]; exact Blk.alloc (Blk.alloc (Blk.newAt w _ _ _ rfl) _) _
  have BZ1 : Blk W0 (w.heap.size + 1) [.slice none 0 0, .slice none 0 0, .bool false] 49 := by rw [hW0]; exact Blk.alloc (Blk.newAt _ _ _ _ (by simp)) _
  have BZ2 : Blk W0 (w.heap.size + 1 + 1) [.slice none 0 0, .slice none 0 0, .bool false] 49 := by rw [hW0]; exact Blk.newAt _ _ _ _ (by simp)
  have hz0 : W0.heap.size = w.heap.size + 3 := by rw [hW0]; simp
  rw [← hW0]
  clear hW0
  have BB0 := Lib.hid b0
  clear b0
  have SZ0 := Lib.hid hz0
  refine (HR0.out W0 BB0.out).mono ?_; rintro e w1 ⟨v0, rfl, o0, b1⟩
  have Ob0 := Lib.hid (Own.block o0)
  obtain ⟨A0, C0, e0⟩ := o0.form
  subst e0
  have r0 := BZ.below b1 BZ.lt
  have r1 := BZ1.below b1 BZ1.lt
  have r2 := BZ2.below b1 BZ2.lt
  have s1 := b1.size
  have B1 := Lib.hid (bt BB0.out b1)
  clear b1 BZ BZ1 BZ2
  have P0_0 := Lib.hid o0
  clear o0
  have p1 : w1.cell? ⟨w.heap.size, 1, none⟩ = some (.slice a1 N1 c1) := r0.cell 1
  have q0 : w1.cell? ⟨w.heap.size + 1 + 1, 0, none⟩ = some (.slice none 0 0) := r2.cell 0
  have f0 := r2.froz 0
  go_wp2_with fail
  have kS : Keep (w.heap.size + 1 + 1) w1 (w1.setCell ⟨w.heap.size + 1 + 1, 0, none⟩ (.slice A0 xs0.length C0)) := keep_set (w.heap.size + 1 + 1) [.slice A0 xs0.length C0] 0 w1
  have bS : Blk (w1.setCell ⟨w.heap.size + 1 + 1, 0, none⟩ (.slice A0 xs0.length C0)) (w.heap.size + 1 + 1) [.slice A0 xs0.length C0, .slice none 0 0, .bool false] 49 := blk_set (w.heap.size + 1 + 1) _ [.slice A0 xs0.length C0] 0 _ w1 r2 (by simp)
  have bS1 := kS.blk r1 (by omega)
  have bS0 := kS.blk r0 (by omega)
  have O0_1 := Lib.hid (ownSame P0_0.out (w' := w1.setCell ⟨w.heap.size + 1 + 1, 0, none⟩ (.slice A0 xs0.length C0)) fun b hb _ => heap_set _ _ _ _ b (by have := (Ob0.out b hb).1; omega))
  have BB1 := Lib.hid (B1.out.trans (kS.below (by omega)))
  have zS := kS.size
  generalize w1.setCell ⟨w.heap.size + 1 + 1, 0, none⟩ (.slice A0 xs0.length C0) = S1 at *
  clear kS r0 r1 r2 p1 q0 f0
  have BZ := bS0
  have BZ1 := bS1
  have BZ2 := bS
  clear bS0 bS1 bS
  refine (HR1.out S1 BB1.out).mono ?_; rintro e w2 ⟨v1, rfl, o1, b2⟩
  have O0_2 := Lib.hid (Own.below O0_1.out b2 (Nat.le_refl _))
  have Ob1 := Lib.hid (Bo.OwnR.block o1)
  have O1 := o1
  obtain ⟨A1, C1, e1, _⟩ := o1.row
  rw [HN1.out] at e1
  subst e1
  have r0 := BZ.below b2 BZ.lt
  have r1 := BZ1.below b2 BZ1.lt
  have r2 := BZ2.below b2 BZ2.lt
  have s2 := b2.size
  have B2 := Lib.hid (bt BB1.out b2)
  clear b2 BZ BZ1 BZ2
  have P1_2 := Lib.hid o1
  clear o1 O1
  have x0 : w2.cell? ⟨w.heap.size + 1 + 1, 0, none⟩ = some (.slice A0 xs0.length C0) := r2.cell 0
  have y0 : w2.cell? ⟨w.heap.size + 1, 0, none⟩ = some (.slice none 0 0) := r1.cell 0
  have g0 := r1.froz 0
  have x1 : w2.cell? ⟨w.heap.size + 1 + 1, 1, none⟩ = some (.slice none 0 0) := r2.cell 1
  have y1 : w2.cell? ⟨w.heap.size + 1, 1, none⟩ = some (.slice none 0 0) := r1.cell 1
  have g1 := r1.froz 1
  have f1 := r2.froz 1
  have x2 : w2.cell? ⟨w.heap.size + 1 + 1, 2, none⟩ = some (.bool false) := r2.cell 2
  have y2 : w2.cell? ⟨w.heap.size + 1, 2, none⟩ = some (.bool false) := r1.cell 2
  have g2 := r1.froz 2
  have f2 := r2.froz 2
  have z2 : w2.cell? ⟨w.heap.size, 2, none⟩ = some (.bool m2) := r0.cell 2
  have HP := Lib.hid (fun (wz : World) (X1 X2 Y0 Y1 Y2 : Value) (e : wz = (((((w2.setCell ⟨w.heap.size + 1 + 1, 1, none⟩ X1).setCell ⟨w.heap.size + 1 + 1, 2, none⟩ X2).setCell ⟨w.heap.size + 1, 0, none⟩ Y0).setCell ⟨w.heap.size + 1, 1, none⟩ Y1).setCell ⟨w.heap.size + 1, 2, none⟩ Y2)) => (show OwnX wz w.heap.size wz.heap.size (.agg #[.slice A0 xs0.length C0, .slice A1 N1 C1, .bool m2]) xs0 xs1 m2 ∧ Below w.heap.size w wz from by
    have hh : ∀ i, w.heap.size + 3 ≤ i → wz.heap[i]? = w2.heap[i]? := fun i hi => by
      rw [e, heap_set _ _ _ _ i (by omega), heap_set _ _ _ _ i (by omega), heap_set _ _ _ _ i (by omega), heap_set _ _ _ _ i (by omega), heap_set _ _ _ _ i (by omega)]
    have hz : wz.heap.size = w2.heap.size := by rw [e]; simp
    have e1 := HN1.out
    subst e1
    refine ⟨⟨A0, C0, A1, C1, w1.heap.size, rfl, by omega, by omega, by omega, ?_, fun k hk => ?_, ?_, fun k hk => ?_⟩, ?_⟩
    · have h5 := ownSame O0_2.out (w' := wz) fun b hb _ => hh b (by have := (Ob0.out b hb).1; omega)
      exact h5.mono (by omega)
    · have := (Ob0.out k hk).2; omega
    · have h5 := Bo.OwnR.same P1_2.out (w' := wz) fun b hb _ => hh b (by have := (Ob1.out b hb).1; omega)
      exact h5.mono (by omega)
    · have := (Ob1.out k hk).2; omega
    · rw [e]
      exact (((((B2.out.setCell (p := ⟨_, 1, none⟩) (by simp; omega) _).setCell (p := ⟨_, 2, none⟩) (by simp; omega) _).setCell (p := ⟨_, 0, none⟩) (by simp) _).setCell (p := ⟨_, 1, none⟩) (by simp) _).setCell (p := ⟨_, 2, none⟩) (by simp) _)))
  clear O0_2 P1_2 B2 r0 r1 r2
  go_wp2
  refine bodyPost_ret (v := .agg #[.slice A0 xs0.length C0, .slice A1 N1 C1, .bool m2]) (by simp [results, Try.results25, go_sem, x0, x1, x2, y0, y1, y2, g0, g1, g2, f1, f2, z2]) rfl ?_
  obtain ⟨h1, h2⟩ := HP.out _ _ _ _ _ _ rfl
  exact ⟨_, rfl, h1, h2⟩
set_option maxHeartbeats 1000000 in
theorem eqX_rd {w : World} {v1 v2 : Value} {B1 T1 B2 T2 : Nat} {xs0 : List Int} {xs1 : List Bo.R} {m2 : Bool} (h : xs0.length + xs1.length ≤ 1048576) (o1 : OwnX w B1 T1 v1 xs0 xs1 m2) (o2 : OwnX w B2 T2 v2 xs0 xs1 m2) :
    Calls Try.prog 27 #[v1, v2] w (BbX true w) := by
  obtain ⟨a0, c0, a1, c1, ha1, rfl, _, _, _, x0, _, x1, _⟩ := o1
  obtain ⟨b0, d0, b1, d1, hb1, rfl, _, _, _, y0, _, y1, _⟩ := o2
  obtain ⟨W0, hW0⟩ : ∃ W0, W0 = (w.alloc (.cells #[.slice a0 xs0.length c0, .slice a1 xs1.length c1, .bool m2] 49)).alloc (.cells #[.slice b0 xs0.length d0, .slice b1 xs1.length d1, .bool m2] 49) := ⟨_, rfl⟩
  have bw : Below w.heap.size w W0 := by rw [hW0]; exact ((Below.refl _ _).alloc (Nat.le_refl _) _).alloc (by simp) _
  have e1 : Blk W0 w.heap.size [.slice a0 xs0.length c0, .slice a1 xs1.length c1, .bool m2] 49 := by rw [hW0]; exact Blk.alloc (Blk.newAt w _ _ _ rfl) _
  have e2 : Blk W0 (w.heap.size + 1) [.slice b0 xs0.length d0, .slice b1 xs1.length d1, .bool m2] 49 := by rw [hW0]; exact Blk.newAt _ _ _ _ (by simp)
  have H0 := Lib.hid (fun (w' : World) (hb : Below w.heap.size w w') => eq_below (x0.below hb (Nat.le_refl _)) (y0.below hb (Nat.le_refl _)))
  have H1 := Lib.hid (fun (w' : World) (hb : Below w.heap.size w w') => Bo.eq_any a1 b1 c1 d1 xs1 w' (by omega) (Bo.RdR.below (rdAtBo x1) hb) (Bo.RdR.below (rdAtBo y1) hb))
  clear h x0 y0 x1 y1
  generalize xs0.length = n0 at *
  generalize xs1.length = n1 at *
  go_enter Try.func27, Try.ntmps27
  go_wp2_with fail
  rw [← hW0]
  clear hW0
  have Bw := Lib.hid bw
  clear bw
  refine (H0.out W0 Bw.out).mono ?_; rintro e u1 ⟨rfl, bb⟩
  have f1 := e1.below bb e1.lt
  have f2 := e2.below bb e2.lt
  have Bw1 := Lib.hid (bt Bw.out bb)
  clear e1 e2 bb
  have e1 := f1
  have e2 := f2
  clear f1 f2
  have p1 : u1.cell? ⟨w.heap.size, 1, none⟩ = some (.slice a1 n1 c1) := e1.cell 1
  have p2 : u1.cell? ⟨w.heap.size + 1, 1, none⟩ = some (.slice b1 n1 d1) := e2.cell 1
  go_wp2_with fail
  clear p1 p2
  refine (H1.out u1 Bw1.out).mono ?_; rintro e u2 ⟨rfl, bb⟩
  have f1 := e1.below bb e1.lt
  have f2 := e2.below bb e2.lt
  have Bw2 := Lib.hid (bt Bw1.out bb)
  clear e1 e2 bb
  have e1 := f1
  have e2 := f2
  clear f1 f2
  have p2 : u2.cell? ⟨w.heap.size, 2, none⟩ = some (.bool m2) := e1.cell 2
  have q2 : u2.cell? ⟨w.heap.size + 1, 2, none⟩ = some (.bool m2) := e2.cell 2
  have hmm2 : (m2 != m2) = false := by simp
  go_wp2
  go_ret
  exact ⟨rfl, Bw2.out⟩
def MkX (B T : Nat) (v : Value) (n0 n1 : Nat) (m2 : Bool) (w : World) (e : Ending) (w' : World) : Prop :=
  e = .returned (.int .i64 (1 + (n0 : Int) + (n1 : Int))) ∧ OwnX w' B T v (marks (1) n0) (Bo.mkG (1 + (n0 : Int)) n1) m2 ∧ WrB B T w w'
end Go.Proofs.Ytmmjdmgnmlhjeaa.Sy
