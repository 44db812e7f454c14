/- The makers of protocols: the model's and the program's. -/
import Derived.Test.YtmmjdmgnmlhjeaaCmsi
namespace Go.Proofs.Ytmmjdmgnmlhjeaa.Pt
open Go.RowKit
theorem rowAt {w : World} {B n c : Nat} {a : Option Addr} {xs : List Int} (h : Own w B (.slice a n c) xs) : Row w a xs := by
  obtain ⟨a', c', e, _, _, hr⟩ := h.rd
  injection e with e1 e2 e3
  subst e1
  exact hr
theorem ownLit (w : World) (xs : List Int) (h : xs.length ≤ 1000) : Own (w.alloc (.cells (xs.map (Value.int .i64)).toArray 2)) w.heap.size (.slice (some ⟨w.heap.size, 0, none⟩) xs.length xs.length) xs :=
  World.ownsRow_lit w (xs.map (Value.int .i64)).toArray xs.length (Nat.le_refl _) (by unfold maxLen; omega) (by simp)
/-- A table's copies, with Back at some. -/
def tb (x0 x1 x2 x3 : Int) (b0 b1 b2 b3 : Bool) : List Ru.R := [(x0, 1, b0), (x1, 1, b1), (x2, 1, b2), (x3, 1, b3)]
def RowC (rs : List Ru.R) (w : World) (e : Ending) (w' : World) : Prop := ∃ g c, e = .returned (.slice (some ⟨g, 0, none⟩) 4 c) ∧ Ru.OwnR w' w.heap.size (.slice (some ⟨g, 0, none⟩) 4 c) rs ∧ (w.heap.size ≤ g ∧ g < w'.heap.size) ∧ Below w.heap.size w w'
theorem RowC.of {rs rs' : List Ru.R} {w w1 : World} {e : Ending} {w' : World} (b1 : Below w.heap.size w w1) (h : CopR w1.heap.size rs w1 e w') (he : rs = rs') (h4 : rs'.length = 4) : RowC rs' w e w' := by
  subst he
  obtain ⟨v, rfl, o, b⟩ := h
  have hs := b1.size
  rcases o.2 with ⟨_, hn⟩ | ⟨g, cap, cur, rfl, hg, hh, r⟩
  · omega
  · have hlt := (Array.getElem?_eq_some_iff.1 hh).1
    exact ⟨g, cap, by rw [h4], by have := Ru.OwnR.mono o hs; rwa [h4] at this, ⟨by omega, hlt⟩, b1.trans (b.mono hs)⟩
theorem call_i (w : World) (x0 x1 x2 x3 : Int) : Calls Try.prog 34 #[.slice (some ⟨w.heap.size, 0, none⟩) 4 4] (w.alloc (.cells #[.int .i64 x0, .int .i64 x1, .int .i64 x2, .int .i64 x3] 2)) (RowC (tb x0 x1 x2 x3 false false false false) w) :=
  (rulesTo_i _ 4 [x0, x1, x2, x3] _ (rowAt (ownLit w [x0, x1, x2, x3] (by simp))) (by simp)).mono fun e w' h => RowC.of ((Below.refl _ _).alloc (Nat.le_refl _) _) h (by rfl) rfl
theorem call_s (w : World) (x0 x1 x2 x3 : Int) (ys : List Int) (b0 b1 b2 b3 : Bool) (hn : ys.length ≤ 1000) (h0 : ys.contains 0 = b0) (h1 : ys.contains 1 = b1) (h2' : ys.contains 2 = b2) (h3 : ys.contains 3 = b3) : Calls Try.prog 33 #[.slice (some ⟨w.heap.size, 0, none⟩) 4 4, .slice (some ⟨w.heap.size + 1, 0, none⟩) ys.length ys.length]
    ((w.alloc (.cells #[.int .i64 x0, .int .i64 x1, .int .i64 x2, .int .i64 x3] 2)).alloc (.cells (ys.map (Value.int .i64)).toArray 2)) (RowC (tb x0 x1 x2 x3 b0 b1 b2 b3) w) := by
  subst h0 h1 h2' h3
  have e : (w.alloc (.cells #[.int .i64 x0, .int .i64 x1, .int .i64 x2, .int .i64 x3] 2)).heap.size = w.heap.size + 1 := Array.size_push _
  have h2 := rowAt (ownLit (w.alloc (.cells #[.int .i64 x0, .int .i64 x1, .int .i64 x2, .int .i64 x3] 2)) ys hn)
  rw [e] at h2
  exact (l10Rules_s _ _ 4 ys.length [x0, x1, x2, x3] ys _ ((rowAt (ownLit w [x0, x1, x2, x3] (by simp))).below ((Below.refl _ _).alloc (Nat.le_refl _) _)) rfl h2 hn).mono fun e w' h =>
    RowC.of (((Below.refl _ _).alloc (Nat.le_refl _) _).alloc (by simp) _) h (by rfl) rfl

set_option maxHeartbeats 2000000 in
set_option maxRecDepth 100000 in
theorem msi_sF (w : World) : Calls Try.prog 9 #[.bool false] w (CopX (tb 1 1 2 3 false false false false) (tb 3 3 3 3 false false false false) (tb 0 0 0 0 false false false true) (tb 0 1 1 1 false false false true) (tb 0 0 0 0 false false false true) w) := by
  have H0 := Lib.hid (fun (w : World) (n : Nat) (hn : w.heap.size = n) => (show Calls Try.prog 33 #[.slice (some ⟨n, 0, none⟩) 4 4, .slice (some ⟨n + 1, 0, none⟩) 0 0] ((w.alloc (.cells #[.int .i64 1, .int .i64 1, .int .i64 2, .int .i64 3] 2)).alloc (.cells #[] 2)) (RowC (tb 1 1 2 3 false false false false) w) from by subst hn; exact call_s w 1 1 2 3 [] _ _ _ _ (by decide) (by decide) (by decide) (by decide) (by decide)))
  have H1 := Lib.hid (fun (w : World) (n : Nat) (hn : w.heap.size = n) => (show Calls Try.prog 33 #[.slice (some ⟨n, 0, none⟩) 4 4, .slice (some ⟨n + 1, 0, none⟩) 0 0] ((w.alloc (.cells #[.int .i64 3, .int .i64 3, .int .i64 3, .int .i64 3] 2)).alloc (.cells #[] 2)) (RowC (tb 3 3 3 3 false false false false) w) from by subst hn; exact call_s w 3 3 3 3 [] _ _ _ _ (by decide) (by decide) (by decide) (by decide) (by decide)))
  have H2 := Lib.hid (fun (w : World) (n : Nat) (hn : w.heap.size = n) => (show Calls Try.prog 33 #[.slice (some ⟨n, 0, none⟩) 4 4, .slice (some ⟨n + 1, 0, none⟩) 1 1] ((w.alloc (.cells #[.int .i64 0, .int .i64 0, .int .i64 0, .int .i64 0] 2)).alloc (.cells #[.int .i64 3] 2)) (RowC (tb 0 0 0 0 false false false true) w) from by subst hn; exact call_s w 0 0 0 0 [3] _ _ _ _ (by decide) (by decide) (by decide) (by decide) (by decide)))
  have H3 := Lib.hid (fun (w : World) (n : Nat) (hn : w.heap.size = n) => (show Calls Try.prog 33 #[.slice (some ⟨n, 0, none⟩) 4 4, .slice (some ⟨n + 1, 0, none⟩) 1 1] ((w.alloc (.cells #[.int .i64 0, .int .i64 1, .int .i64 1, .int .i64 1] 2)).alloc (.cells #[.int .i64 3] 2)) (RowC (tb 0 1 1 1 false false false true) w) from by subst hn; exact call_s w 0 1 1 1 [3] _ _ _ _ (by decide) (by decide) (by decide) (by decide) (by decide)))
  have H4 := Lib.hid (fun (w : World) (n : Nat) (hn : w.heap.size = n) => (show Calls Try.prog 33 #[.slice (some ⟨n, 0, none⟩) 4 4, .slice (some ⟨n + 1, 0, none⟩) 1 1] ((w.alloc (.cells #[.int .i64 0, .int .i64 0, .int .i64 0, .int .i64 0] 2)).alloc (.cells #[.int .i64 3] 2)) (RowC (tb 0 0 0 0 false false false true) w) from by subst hn; exact call_s w 0 0 0 0 [3] _ _ _ _ (by decide) (by decide) (by decide) (by decide) (by decide)))
  go_enter Try.func9, Try.ntmps9
  go_wp2_with fail
  have bz : Blk (w.alloc (.cells #[.slice none 0 0, .slice none 0 0, .slice none 0 0, .slice none 0 0, .slice none 0 0] 24)) w.heap.size [.slice none 0 0, .slice none 0 0, .slice none 0 0, .slice none 0 0, .slice none 0 0] 24 := Blk.newAt w _ _ _ rfl
  have hz0 : (w.alloc (.cells #[.slice none 0 0, .slice none 0 0, .slice none 0 0, .slice none 0 0, .slice none 0 0] 24)).heap.size = w.heap.size + 1 := Array.size_push _
  have b0 : Below w.heap.size w (w.alloc (.cells #[.slice none 0 0, .slice none 0 0, .slice none 0 0, .slice none 0 0, .slice none 0 0] 24)) := (Below.refl _ _).alloc (Nat.le_refl _) _
  generalize hW : w.alloc (.cells #[.slice none 0 0, .slice none 0 0, .slice none 0 0, .slice none 0 0, .slice none 0 0] 24) = w0 at *
  clear hW
  have BB0 := Lib.hid b0
  have s0 := bz.lt
  clear b0
  refine (H0.out w0 _ hz0).mono ?_; rintro e w1 ⟨g0, c0, rfl, o, ⟨l0, r0⟩, b⟩
  have bz := bz.below b bz.lt
  have BB1 := Lib.hid (bt BB0.out b)
  have O0 := Lib.hid o
  have s1 := b.size
  clear o b
  go_wp2_with fail
  refine (H1.out w1 _ rfl).mono ?_; rintro e w2 ⟨g1, c1, rfl, o, ⟨l1, r1⟩, b⟩
  have bz := bz.below b bz.lt
  have BB2 := Lib.hid (bt BB1.out b)
  have O0 := Lib.hid (Ru.OwnR.below O0.out b (Nat.le_refl _))
  have O1 := Lib.hid o
  have s2 := b.size
  clear o b
  go_wp2_with fail
  refine (H2.out w2 _ rfl).mono ?_; rintro e w3 ⟨g2, c2, rfl, o, ⟨l2, r2⟩, b⟩
  have bz := bz.below b bz.lt
  have BB3 := Lib.hid (bt BB2.out b)
  have O0 := Lib.hid (Ru.OwnR.below O0.out b (Nat.le_refl _))
  have O1 := Lib.hid (Ru.OwnR.below O1.out b (Nat.le_refl _))
  have O2 := Lib.hid o
  have s3 := b.size
  clear o b
  go_wp2_with fail
  refine (H3.out w3 _ rfl).mono ?_; rintro e w4 ⟨g3, c3, rfl, o, ⟨l3, r3⟩, b⟩
  have bz := bz.below b bz.lt
  have BB4 := Lib.hid (bt BB3.out b)
  have O0 := Lib.hid (Ru.OwnR.below O0.out b (Nat.le_refl _))
  have O1 := Lib.hid (Ru.OwnR.below O1.out b (Nat.le_refl _))
  have O2 := Lib.hid (Ru.OwnR.below O2.out b (Nat.le_refl _))
  have O3 := Lib.hid o
  have s4 := b.size
  clear o b
  go_wp2_with fail
  refine (H4.out w4 _ rfl).mono ?_; rintro e w5 ⟨g4, c4, rfl, o, ⟨l4, r4⟩, b⟩
  have bz := bz.below b bz.lt
  have BB5 := Lib.hid (bt BB4.out b)
  have O0 := Lib.hid (Ru.OwnR.below O0.out b (Nat.le_refl _))
  have O1 := Lib.hid (Ru.OwnR.below O1.out b (Nat.le_refl _))
  have O2 := Lib.hid (Ru.OwnR.below O2.out b (Nat.le_refl _))
  have O3 := Lib.hid (Ru.OwnR.below O3.out b (Nat.le_refl _))
  have O4 := Lib.hid o
  have s5 := b.size
  clear o b
  have x0 : w5.cell? ⟨w.heap.size, 0, none⟩ = some (.slice none 0 0) := bz.cell 0
  have y0 := bz.froz 0
  have x1 : w5.cell? ⟨w.heap.size, 1, none⟩ = some (.slice none 0 0) := bz.cell 1
  have y1 := bz.froz 1
  have x2 : w5.cell? ⟨w.heap.size, 2, none⟩ = some (.slice none 0 0) := bz.cell 2
  have y2 := bz.froz 2
  have x3 : w5.cell? ⟨w.heap.size, 3, none⟩ = some (.slice none 0 0) := bz.cell 3
  have y3 := bz.froz 3
  have x4 : w5.cell? ⟨w.heap.size, 4, none⟩ = some (.slice none 0 0) := bz.cell 4
  have y4 := bz.froz 4
  have HP := Lib.hid (fun (wz : World) (X0 X1 X2 X3 X4 : Value) (e : wz = (((((w5.setCell ⟨w.heap.size, 0, none⟩ X0).setCell ⟨w.heap.size, 1, none⟩ X1).setCell ⟨w.heap.size, 2, none⟩ X2).setCell ⟨w.heap.size, 3, none⟩ X3).setCell ⟨w.heap.size, 4, none⟩ X4)) => (show OwnX wz w.heap.size wz.heap.size (.agg #[.slice (some ⟨g0, 0, none⟩) 4 c0, .slice (some ⟨g1, 0, none⟩) 4 c1, .slice (some ⟨g2, 0, none⟩) 4 c2, .slice (some ⟨g3, 0, none⟩) 4 c3, .slice (some ⟨g4, 0, none⟩) 4 c4]) (tb 1 1 2 3 false false false false) (tb 3 3 3 3 false false false false) (tb 0 0 0 0 false false false true) (tb 0 1 1 1 false false false true) (tb 0 0 0 0 false false false true) ∧ Below w.heap.size w wz from by
    have hh : ∀ i, w.heap.size < i → wz.heap[i]? = w5.heap[i]? := fun i hi => by
      rw [e, heap_set _ _ _ _ i (by omega), heap_set _ _ _ _ i (by omega), heap_set _ _ _ _ i (by omega), heap_set _ _ _ _ i (by omega), heap_set _ _ _ _ i (by omega)]
    have hz : wz.heap.size = w5.heap.size := by rw [e]; simp
    refine ⟨⟨some ⟨g0, 0, none⟩, c0, some ⟨g1, 0, none⟩, c1, some ⟨g2, 0, none⟩, c2, some ⟨g3, 0, none⟩, c3, some ⟨g4, 0, none⟩, c4, w1.heap.size, w2.heap.size, w3.heap.size, w4.heap.size, rfl, by omega, by omega, by omega, by omega, by omega, by omega, ?_, fun k hk => by have h9 : g0 = k := by { injection hk }; omega, ?_, fun k hk => by have h9 : g1 = k := by { injection hk }; omega, ?_, fun k hk => by have h9 : g2 = k := by { injection hk }; omega, ?_, fun k hk => by have h9 : g3 = k := by { injection hk }; omega, ?_, fun k hk => by have h9 : g4 = k := by { injection hk }; omega⟩, ?_⟩
    · exact Ru.OwnR.mono (Ru.OwnR.same O0.out (w' := wz) fun b hb _ => hh b (by have h9 : g0 = b := by { injection hb }; omega)) (by omega)
    · exact Ru.OwnR.mono (Ru.OwnR.same O1.out (w' := wz) fun b hb _ => hh b (by have h9 : g1 = b := by { injection hb }; omega)) (by omega)
    · exact Ru.OwnR.mono (Ru.OwnR.same O2.out (w' := wz) fun b hb _ => hh b (by have h9 : g2 = b := by { injection hb }; omega)) (by omega)
    · exact Ru.OwnR.mono (Ru.OwnR.same O3.out (w' := wz) fun b hb _ => hh b (by have h9 : g3 = b := by { injection hb }; omega)) (by omega)
    · exact Ru.OwnR.mono (Ru.OwnR.same O4.out (w' := wz) fun b hb _ => hh b (by have h9 : g4 = b := by { injection hb }; omega)) (by omega)
    · rw [e]
      exact (((((BB5.out.setCell (p := ⟨_, 0, none⟩) (by simp) _).setCell (p := ⟨_, 1, none⟩) (by simp) _).setCell (p := ⟨_, 2, none⟩) (by simp) _).setCell (p := ⟨_, 3, none⟩) (by simp) _).setCell (p := ⟨_, 4, none⟩) (by simp) _)))
  clear O0 O1 O2 O3 O4 BB0 BB1 BB2 BB3 BB4 BB5 H0 H1 H2 H3 H4
  go_wp2
  refine bodyPost_ret (v := .agg #[.slice (some ⟨g0, 0, none⟩) 4 c0, .slice (some ⟨g1, 0, none⟩) 4 c1, .slice (some ⟨g2, 0, none⟩) 4 c2, .slice (some ⟨g3, 0, none⟩) 4 c3, .slice (some ⟨g4, 0, none⟩) 4 c4]) (by simp [results, Try.results9, go_sem, x0, y0, x1, y1, x2, y2, x3, y3, x4, y4]) rfl ?_
  obtain ⟨h1, h2⟩ := HP.out _ _ _ _ _ _ rfl
  exact ⟨_, rfl, h1, h2⟩
set_option maxHeartbeats 2000000 in
set_option maxRecDepth 100000 in
theorem msi_sT (w : World) : Calls Try.prog 9 #[.bool true] w (CopX (tb 2 1 2 3 false false false false) (tb 3 3 3 3 false false false false) (tb 0 0 0 0 false false false true) (tb 0 1 1 1 false false false true) (tb 0 0 0 0 false false false true) w) := by
  have H0 := Lib.hid (fun (w : World) (n : Nat) (hn : w.heap.size = n) => (show Calls Try.prog 33 #[.slice (some ⟨n, 0, none⟩) 4 4, .slice (some ⟨n + 1, 0, none⟩) 0 0] ((w.alloc (.cells #[.int .i64 2, .int .i64 1, .int .i64 2, .int .i64 3] 2)).alloc (.cells #[] 2)) (RowC (tb 2 1 2 3 false false false false) w) from by subst hn; exact call_s w 2 1 2 3 [] _ _ _ _ (by decide) (by decide) (by decide) (by decide) (by decide)))
  have H1 := Lib.hid (fun (w : World) (n : Nat) (hn : w.heap.size = n) => (show Calls Try.prog 33 #[.slice (some ⟨n, 0, none⟩) 4 4, .slice (some ⟨n + 1, 0, none⟩) 0 0] ((w.alloc (.cells #[.int .i64 3, .int .i64 3, .int .i64 3, .int .i64 3] 2)).alloc (.cells #[] 2)) (RowC (tb 3 3 3 3 false false false false) w) from by subst hn; exact call_s w 3 3 3 3 [] _ _ _ _ (by decide) (by decide) (by decide) (by decide) (by decide)))
  have H2 := Lib.hid (fun (w : World) (n : Nat) (hn : w.heap.size = n) => (show Calls Try.prog 33 #[.slice (some ⟨n, 0, none⟩) 4 4, .slice (some ⟨n + 1, 0, none⟩) 1 1] ((w.alloc (.cells #[.int .i64 0, .int .i64 0, .int .i64 0, .int .i64 0] 2)).alloc (.cells #[.int .i64 3] 2)) (RowC (tb 0 0 0 0 false false false true) w) from by subst hn; exact call_s w 0 0 0 0 [3] _ _ _ _ (by decide) (by decide) (by decide) (by decide) (by decide)))
  have H3 := Lib.hid (fun (w : World) (n : Nat) (hn : w.heap.size = n) => (show Calls Try.prog 33 #[.slice (some ⟨n, 0, none⟩) 4 4, .slice (some ⟨n + 1, 0, none⟩) 1 1] ((w.alloc (.cells #[.int .i64 0, .int .i64 1, .int .i64 1, .int .i64 1] 2)).alloc (.cells #[.int .i64 3] 2)) (RowC (tb 0 1 1 1 false false false true) w) from by subst hn; exact call_s w 0 1 1 1 [3] _ _ _ _ (by decide) (by decide) (by decide) (by decide) (by decide)))
  have H4 := Lib.hid (fun (w : World) (n : Nat) (hn : w.heap.size = n) => (show Calls Try.prog 33 #[.slice (some ⟨n, 0, none⟩) 4 4, .slice (some ⟨n + 1, 0, none⟩) 1 1] ((w.alloc (.cells #[.int .i64 0, .int .i64 0, .int .i64 0, .int .i64 0] 2)).alloc (.cells #[.int .i64 3] 2)) (RowC (tb 0 0 0 0 false false false true) w) from by subst hn; exact call_s w 0 0 0 0 [3] _ _ _ _ (by decide) (by decide) (by decide) (by decide) (by decide)))
  go_enter Try.func9, Try.ntmps9
  go_wp2_with fail
  have bz : Blk (w.alloc (.cells #[.slice none 0 0, .slice none 0 0, .slice none 0 0, .slice none 0 0, .slice none 0 0] 24)) w.heap.size [.slice none 0 0, .slice none 0 0, .slice none 0 0, .slice none 0 0, .slice none 0 0] 24 := Blk.newAt w _ _ _ rfl
  have hz0 : (w.alloc (.cells #[.slice none 0 0, .slice none 0 0, .slice none 0 0, .slice none 0 0, .slice none 0 0] 24)).heap.size = w.heap.size + 1 := Array.size_push _
  have b0 : Below w.heap.size w (w.alloc (.cells #[.slice none 0 0, .slice none 0 0, .slice none 0 0, .slice none 0 0, .slice none 0 0] 24)) := (Below.refl _ _).alloc (Nat.le_refl _) _
  generalize hW : w.alloc (.cells #[.slice none 0 0, .slice none 0 0, .slice none 0 0, .slice none 0 0, .slice none 0 0] 24) = w0 at *
  clear hW
  have BB0 := Lib.hid b0
  have s0 := bz.lt
  clear b0
  refine (H0.out w0 _ hz0).mono ?_; rintro e w1 ⟨g0, c0, rfl, o, ⟨l0, r0⟩, b⟩
  have bz := bz.below b bz.lt
  have BB1 := Lib.hid (bt BB0.out b)
  have O0 := Lib.hid o
  have s1 := b.size
  clear o b
  go_wp2_with fail
  refine (H1.out w1 _ rfl).mono ?_; rintro e w2 ⟨g1, c1, rfl, o, ⟨l1, r1⟩, b⟩
  have bz := bz.below b bz.lt
  have BB2 := Lib.hid (bt BB1.out b)
  have O0 := Lib.hid (Ru.OwnR.below O0.out b (Nat.le_refl _))
  have O1 := Lib.hid o
  have s2 := b.size
  clear o b
  go_wp2_with fail
  refine (H2.out w2 _ rfl).mono ?_; rintro e w3 ⟨g2, c2, rfl, o, ⟨l2, r2⟩, b⟩
  have bz := bz.below b bz.lt
  have BB3 := Lib.hid (bt BB2.out b)
  have O0 := Lib.hid (Ru.OwnR.below O0.out b (Nat.le_refl _))
  have O1 := Lib.hid (Ru.OwnR.below O1.out b (Nat.le_refl _))
  have O2 := Lib.hid o
  have s3 := b.size
  clear o b
  go_wp2_with fail
  refine (H3.out w3 _ rfl).mono ?_; rintro e w4 ⟨g3, c3, rfl, o, ⟨l3, r3⟩, b⟩
  have bz := bz.below b bz.lt
  have BB4 := Lib.hid (bt BB3.out b)
  have O0 := Lib.hid (Ru.OwnR.below O0.out b (Nat.le_refl _))
  have O1 := Lib.hid (Ru.OwnR.below O1.out b (Nat.le_refl _))
  have O2 := Lib.hid (Ru.OwnR.below O2.out b (Nat.le_refl _))
  have O3 := Lib.hid o
  have s4 := b.size
  clear o b
  go_wp2_with fail
  refine (H4.out w4 _ rfl).mono ?_; rintro e w5 ⟨g4, c4, rfl, o, ⟨l4, r4⟩, b⟩
  have bz := bz.below b bz.lt
  have BB5 := Lib.hid (bt BB4.out b)
  have O0 := Lib.hid (Ru.OwnR.below O0.out b (Nat.le_refl _))
  have O1 := Lib.hid (Ru.OwnR.below O1.out b (Nat.le_refl _))
  have O2 := Lib.hid (Ru.OwnR.below O2.out b (Nat.le_refl _))
  have O3 := Lib.hid (Ru.OwnR.below O3.out b (Nat.le_refl _))
  have O4 := Lib.hid o
  have s5 := b.size
  clear o b
  have x0 : w5.cell? ⟨w.heap.size, 0, none⟩ = some (.slice none 0 0) := bz.cell 0
  have y0 := bz.froz 0
  have x1 : w5.cell? ⟨w.heap.size, 1, none⟩ = some (.slice none 0 0) := bz.cell 1
  have y1 := bz.froz 1
  have x2 : w5.cell? ⟨w.heap.size, 2, none⟩ = some (.slice none 0 0) := bz.cell 2
  have y2 := bz.froz 2
  have x3 : w5.cell? ⟨w.heap.size, 3, none⟩ = some (.slice none 0 0) := bz.cell 3
  have y3 := bz.froz 3
  have x4 : w5.cell? ⟨w.heap.size, 4, none⟩ = some (.slice none 0 0) := bz.cell 4
  have y4 := bz.froz 4
  have HP := Lib.hid (fun (wz : World) (X0 X1 X2 X3 X4 : Value) (e : wz = (((((w5.setCell ⟨w.heap.size, 0, none⟩ X0).setCell ⟨w.heap.size, 1, none⟩ X1).setCell ⟨w.heap.size, 2, none⟩ X2).setCell ⟨w.heap.size, 3, none⟩ X3).setCell ⟨w.heap.size, 4, none⟩ X4)) => (show OwnX wz w.heap.size wz.heap.size (.agg #[.slice (some ⟨g0, 0, none⟩) 4 c0, .slice (some ⟨g1, 0, none⟩) 4 c1, .slice (some ⟨g2, 0, none⟩) 4 c2, .slice (some ⟨g3, 0, none⟩) 4 c3, .slice (some ⟨g4, 0, none⟩) 4 c4]) (tb 2 1 2 3 false false false false) (tb 3 3 3 3 false false false false) (tb 0 0 0 0 false false false true) (tb 0 1 1 1 false false false true) (tb 0 0 0 0 false false false true) ∧ Below w.heap.size w wz from by
    have hh : ∀ i, w.heap.size < i → wz.heap[i]? = w5.heap[i]? := fun i hi => by
      rw [e, heap_set _ _ _ _ i (by omega), heap_set _ _ _ _ i (by omega), heap_set _ _ _ _ i (by omega), heap_set _ _ _ _ i (by omega), heap_set _ _ _ _ i (by omega)]
    have hz : wz.heap.size = w5.heap.size := by rw [e]; simp
    refine ⟨⟨some ⟨g0, 0, none⟩, c0, some ⟨g1, 0, none⟩, c1, some ⟨g2, 0, none⟩, c2, some ⟨g3, 0, none⟩, c3, some ⟨g4, 0, none⟩, c4, w1.heap.size, w2.heap.size, w3.heap.size, w4.heap.size, rfl, by omega, by omega, by omega, by omega, by omega, by omega, ?_, fun k hk => by have h9 : g0 = k := by { injection hk }; omega, ?_, fun k hk => by have h9 : g1 = k := by { injection hk }; omega, ?_, fun k hk => by have h9 : g2 = k := by { injection hk }; omega, ?_, fun k hk => by have h9 : g3 = k := by { injection hk }; omega, ?_, fun k hk => by have h9 : g4 = k := by { injection hk }; omega⟩, ?_⟩
    · exact Ru.OwnR.mono (Ru.OwnR.same O0.out (w' := wz) fun b hb _ => hh b (by have h9 : g0 = b := by { injection hb }; omega)) (by omega)
    · exact Ru.OwnR.mono (Ru.OwnR.same O1.out (w' := wz) fun b hb _ => hh b (by have h9 : g1 = b := by { injection hb }; omega)) (by omega)
    · exact Ru.OwnR.mono (Ru.OwnR.same O2.out (w' := wz) fun b hb _ => hh b (by have h9 : g2 = b := by { injection hb }; omega)) (by omega)
    · exact Ru.OwnR.mono (Ru.OwnR.same O3.out (w' := wz) fun b hb _ => hh b (by have h9 : g3 = b := by { injection hb }; omega)) (by omega)
    · exact Ru.OwnR.mono (Ru.OwnR.same O4.out (w' := wz) fun b hb _ => hh b (by have h9 : g4 = b := by { injection hb }; omega)) (by omega)
    · rw [e]
      exact (((((BB5.out.setCell (p := ⟨_, 0, none⟩) (by simp) _).setCell (p := ⟨_, 1, none⟩) (by simp) _).setCell (p := ⟨_, 2, none⟩) (by simp) _).setCell (p := ⟨_, 3, none⟩) (by simp) _).setCell (p := ⟨_, 4, none⟩) (by simp) _)))
  clear O0 O1 O2 O3 O4 BB0 BB1 BB2 BB3 BB4 BB5 H0 H1 H2 H3 H4
  go_wp2
  refine bodyPost_ret (v := .agg #[.slice (some ⟨g0, 0, none⟩) 4 c0, .slice (some ⟨g1, 0, none⟩) 4 c1, .slice (some ⟨g2, 0, none⟩) 4 c2, .slice (some ⟨g3, 0, none⟩) 4 c3, .slice (some ⟨g4, 0, none⟩) 4 c4]) (by simp [results, Try.results9, go_sem, x0, y0, x1, y1, x2, y2, x3, y3, x4, y4]) rfl ?_
  obtain ⟨h1, h2⟩ := HP.out _ _ _ _ _ _ rfl
  exact ⟨_, rfl, h1, h2⟩
set_option maxHeartbeats 2000000 in
set_option maxRecDepth 100000 in
theorem thr_sF (w : World) : Calls Try.prog 14 #[.bool false] w (CopX (tb 1 1 1 1 false false false false) (tb 0 1 1 1 true true true true) (tb 0 0 0 0 false false false false) (tb 0 1 1 1 false false false false) (tb 0 0 0 0 false false false false) w) := by
  have H0 := Lib.hid (fun (w : World) (n : Nat) (hn : w.heap.size = n) => (show Calls Try.prog 33 #[.slice (some ⟨n, 0, none⟩) 4 4, .slice (some ⟨n + 1, 0, none⟩) 0 0] ((w.alloc (.cells #[.int .i64 1, .int .i64 1, .int .i64 1, .int .i64 1] 2)).alloc (.cells #[] 2)) (RowC (tb 1 1 1 1 false false false false) w) from by subst hn; exact call_s w 1 1 1 1 [] _ _ _ _ (by decide) (by decide) (by decide) (by decide) (by decide)))
  have H1 := Lib.hid (fun (w : World) (n : Nat) (hn : w.heap.size = n) => (show Calls Try.prog 33 #[.slice (some ⟨n, 0, none⟩) 4 4, .slice (some ⟨n + 1, 0, none⟩) 4 4] ((w.alloc (.cells #[.int .i64 0, .int .i64 1, .int .i64 1, .int .i64 1] 2)).alloc (.cells #[.int .i64 0, .int .i64 1, .int .i64 2, .int .i64 3] 2)) (RowC (tb 0 1 1 1 true true true true) w) from by subst hn; exact call_s w 0 1 1 1 [0, 1, 2, 3] _ _ _ _ (by decide) (by decide) (by decide) (by decide) (by decide)))
  have H2 := Lib.hid (fun (w : World) (n : Nat) (hn : w.heap.size = n) => (show Calls Try.prog 33 #[.slice (some ⟨n, 0, none⟩) 4 4, .slice (some ⟨n + 1, 0, none⟩) 0 0] ((w.alloc (.cells #[.int .i64 0, .int .i64 0, .int .i64 0, .int .i64 0] 2)).alloc (.cells #[] 2)) (RowC (tb 0 0 0 0 false false false false) w) from by subst hn; exact call_s w 0 0 0 0 [] _ _ _ _ (by decide) (by decide) (by decide) (by decide) (by decide)))
  have H3 := Lib.hid (fun (w : World) (n : Nat) (hn : w.heap.size = n) => (show Calls Try.prog 33 #[.slice (some ⟨n, 0, none⟩) 4 4, .slice (some ⟨n + 1, 0, none⟩) 0 0] ((w.alloc (.cells #[.int .i64 0, .int .i64 1, .int .i64 1, .int .i64 1] 2)).alloc (.cells #[] 2)) (RowC (tb 0 1 1 1 false false false false) w) from by subst hn; exact call_s w 0 1 1 1 [] _ _ _ _ (by decide) (by decide) (by decide) (by decide) (by decide)))
  have H4 := Lib.hid (fun (w : World) (n : Nat) (hn : w.heap.size = n) => (show Calls Try.prog 33 #[.slice (some ⟨n, 0, none⟩) 4 4, .slice (some ⟨n + 1, 0, none⟩) 0 0] ((w.alloc (.cells #[.int .i64 0, .int .i64 0, .int .i64 0, .int .i64 0] 2)).alloc (.cells #[] 2)) (RowC (tb 0 0 0 0 false false false false) w) from by subst hn; exact call_s w 0 0 0 0 [] _ _ _ _ (by decide) (by decide) (by decide) (by decide) (by decide)))
  go_enter Try.func14, Try.ntmps14
  go_wp2_with fail
  have bz : Blk (w.alloc (.cells #[.slice none 0 0, .slice none 0 0, .slice none 0 0, .slice none 0 0, .slice none 0 0] 24)) w.heap.size [.slice none 0 0, .slice none 0 0, .slice none 0 0, .slice none 0 0, .slice none 0 0] 24 := Blk.newAt w _ _ _ rfl
  have hz0 : (w.alloc (.cells #[.slice none 0 0, .slice none 0 0, .slice none 0 0, .slice none 0 0, .slice none 0 0] 24)).heap.size = w.heap.size + 1 := Array.size_push _
  have b0 : Below w.heap.size w (w.alloc (.cells #[.slice none 0 0, .slice none 0 0, .slice none 0 0, .slice none 0 0, .slice none 0 0] 24)) := (Below.refl _ _).alloc (Nat.le_refl _) _
  generalize hW : w.alloc (.cells #[.slice none 0 0, .slice none 0 0, .slice none 0 0, .slice none 0 0, .slice none 0 0] 24) = w0 at *
  clear hW
  have BB0 := Lib.hid b0
  have s0 := bz.lt
  clear b0
  refine (H0.out w0 _ hz0).mono ?_; rintro e w1 ⟨g0, c0, rfl, o, ⟨l0, r0⟩, b⟩
  have bz := bz.below b bz.lt
  have BB1 := Lib.hid (bt BB0.out b)
  have O0 := Lib.hid o
  have s1 := b.size
  clear o b
  go_wp2_with fail
  refine (H1.out w1 _ rfl).mono ?_; rintro e w2 ⟨g1, c1, rfl, o, ⟨l1, r1⟩, b⟩
  have bz := bz.below b bz.lt
  have BB2 := Lib.hid (bt BB1.out b)
  have O0 := Lib.hid (Ru.OwnR.below O0.out b (Nat.le_refl _))
  have O1 := Lib.hid o
  have s2 := b.size
  clear o b
  go_wp2_with fail
  refine (H2.out w2 _ rfl).mono ?_; rintro e w3 ⟨g2, c2, rfl, o, ⟨l2, r2⟩, b⟩
  have bz := bz.below b bz.lt
  have BB3 := Lib.hid (bt BB2.out b)
  have O0 := Lib.hid (Ru.OwnR.below O0.out b (Nat.le_refl _))
  have O1 := Lib.hid (Ru.OwnR.below O1.out b (Nat.le_refl _))
  have O2 := Lib.hid o
  have s3 := b.size
  clear o b
  go_wp2_with fail
  refine (H3.out w3 _ rfl).mono ?_; rintro e w4 ⟨g3, c3, rfl, o, ⟨l3, r3⟩, b⟩
  have bz := bz.below b bz.lt
  have BB4 := Lib.hid (bt BB3.out b)
  have O0 := Lib.hid (Ru.OwnR.below O0.out b (Nat.le_refl _))
  have O1 := Lib.hid (Ru.OwnR.below O1.out b (Nat.le_refl _))
  have O2 := Lib.hid (Ru.OwnR.below O2.out b (Nat.le_refl _))
  have O3 := Lib.hid o
  have s4 := b.size
  clear o b
  go_wp2_with fail
  refine (H4.out w4 _ rfl).mono ?_; rintro e w5 ⟨g4, c4, rfl, o, ⟨l4, r4⟩, b⟩
  have bz := bz.below b bz.lt
  have BB5 := Lib.hid (bt BB4.out b)
  have O0 := Lib.hid (Ru.OwnR.below O0.out b (Nat.le_refl _))
  have O1 := Lib.hid (Ru.OwnR.below O1.out b (Nat.le_refl _))
  have O2 := Lib.hid (Ru.OwnR.below O2.out b (Nat.le_refl _))
  have O3 := Lib.hid (Ru.OwnR.below O3.out b (Nat.le_refl _))
  have O4 := Lib.hid o
  have s5 := b.size
  clear o b
  have x0 : w5.cell? ⟨w.heap.size, 0, none⟩ = some (.slice none 0 0) := bz.cell 0
  have y0 := bz.froz 0
  have x1 : w5.cell? ⟨w.heap.size, 1, none⟩ = some (.slice none 0 0) := bz.cell 1
  have y1 := bz.froz 1
  have x2 : w5.cell? ⟨w.heap.size, 2, none⟩ = some (.slice none 0 0) := bz.cell 2
  have y2 := bz.froz 2
  have x3 : w5.cell? ⟨w.heap.size, 3, none⟩ = some (.slice none 0 0) := bz.cell 3
  have y3 := bz.froz 3
  have x4 : w5.cell? ⟨w.heap.size, 4, none⟩ = some (.slice none 0 0) := bz.cell 4
  have y4 := bz.froz 4
  have HP := Lib.hid (fun (wz : World) (X0 X1 X2 X3 X4 : Value) (e : wz = (((((w5.setCell ⟨w.heap.size, 0, none⟩ X0).setCell ⟨w.heap.size, 1, none⟩ X1).setCell ⟨w.heap.size, 2, none⟩ X2).setCell ⟨w.heap.size, 3, none⟩ X3).setCell ⟨w.heap.size, 4, none⟩ X4)) => (show OwnX wz w.heap.size wz.heap.size (.agg #[.slice (some ⟨g0, 0, none⟩) 4 c0, .slice (some ⟨g1, 0, none⟩) 4 c1, .slice (some ⟨g2, 0, none⟩) 4 c2, .slice (some ⟨g3, 0, none⟩) 4 c3, .slice (some ⟨g4, 0, none⟩) 4 c4]) (tb 1 1 1 1 false false false false) (tb 0 1 1 1 true true true true) (tb 0 0 0 0 false false false false) (tb 0 1 1 1 false false false false) (tb 0 0 0 0 false false false false) ∧ Below w.heap.size w wz from by
    have hh : ∀ i, w.heap.size < i → wz.heap[i]? = w5.heap[i]? := fun i hi => by
      rw [e, heap_set _ _ _ _ i (by omega), heap_set _ _ _ _ i (by omega), heap_set _ _ _ _ i (by omega), heap_set _ _ _ _ i (by omega), heap_set _ _ _ _ i (by omega)]
    have hz : wz.heap.size = w5.heap.size := by rw [e]; simp
    refine ⟨⟨some ⟨g0, 0, none⟩, c0, some ⟨g1, 0, none⟩, c1, some ⟨g2, 0, none⟩, c2, some ⟨g3, 0, none⟩, c3, some ⟨g4, 0, none⟩, c4, w1.heap.size, w2.heap.size, w3.heap.size, w4.heap.size, rfl, by omega, by omega, by omega, by omega, by omega, by omega, ?_, fun k hk => by have h9 : g0 = k := by { injection hk }; omega, ?_, fun k hk => by have h9 : g1 = k := by { injection hk }; omega, ?_, fun k hk => by have h9 : g2 = k := by { injection hk }; omega, ?_, fun k hk => by have h9 : g3 = k := by { injection hk }; omega, ?_, fun k hk => by have h9 : g4 = k := by { injection hk }; omega⟩, ?_⟩
    · exact Ru.OwnR.mono (Ru.OwnR.same O0.out (w' := wz) fun b hb _ => hh b (by have h9 : g0 = b := by { injection hb }; omega)) (by omega)
    · exact Ru.OwnR.mono (Ru.OwnR.same O1.out (w' := wz) fun b hb _ => hh b (by have h9 : g1 = b := by { injection hb }; omega)) (by omega)
    · exact Ru.OwnR.mono (Ru.OwnR.same O2.out (w' := wz) fun b hb _ => hh b (by have h9 : g2 = b := by { injection hb }; omega)) (by omega)
    · exact Ru.OwnR.mono (Ru.OwnR.same O3.out (w' := wz) fun b hb _ => hh b (by have h9 : g3 = b := by { injection hb }; omega)) (by omega)
    · exact Ru.OwnR.mono (Ru.OwnR.same O4.out (w' := wz) fun b hb _ => hh b (by have h9 : g4 = b := by { injection hb }; omega)) (by omega)
    · rw [e]
      exact (((((BB5.out.setCell (p := ⟨_, 0, none⟩) (by simp) _).setCell (p := ⟨_, 1, none⟩) (by simp) _).setCell (p := ⟨_, 2, none⟩) (by simp) _).setCell (p := ⟨_, 3, none⟩) (by simp) _).setCell (p := ⟨_, 4, none⟩) (by simp) _)))
  clear O0 O1 O2 O3 O4 BB0 BB1 BB2 BB3 BB4 BB5 H0 H1 H2 H3 H4
  go_wp2
  refine bodyPost_ret (v := .agg #[.slice (some ⟨g0, 0, none⟩) 4 c0, .slice (some ⟨g1, 0, none⟩) 4 c1, .slice (some ⟨g2, 0, none⟩) 4 c2, .slice (some ⟨g3, 0, none⟩) 4 c3, .slice (some ⟨g4, 0, none⟩) 4 c4]) (by simp [results, Try.results14, go_sem, x0, y0, x1, y1, x2, y2, x3, y3, x4, y4]) rfl ?_
  obtain ⟨h1, h2⟩ := HP.out _ _ _ _ _ _ rfl
  exact ⟨_, rfl, h1, h2⟩
set_option maxHeartbeats 2000000 in
set_option maxRecDepth 100000 in
theorem thr_sT (w : World) : Calls Try.prog 14 #[.bool true] w (CopX (tb 1 1 1 1 false false false false) (tb 1 1 1 1 true true true true) (tb 0 0 0 0 false false false false) (tb 0 1 1 1 false false false false) (tb 0 0 0 0 false false false false) w) := by
  have H0 := Lib.hid (fun (w : World) (n : Nat) (hn : w.heap.size = n) => (show Calls Try.prog 33 #[.slice (some ⟨n, 0, none⟩) 4 4, .slice (some ⟨n + 1, 0, none⟩) 0 0] ((w.alloc (.cells #[.int .i64 1, .int .i64 1, .int .i64 1, .int .i64 1] 2)).alloc (.cells #[] 2)) (RowC (tb 1 1 1 1 false false false false) w) from by subst hn; exact call_s w 1 1 1 1 [] _ _ _ _ (by decide) (by decide) (by decide) (by decide) (by decide)))
  have H1 := Lib.hid (fun (w : World) (n : Nat) (hn : w.heap.size = n) => (show Calls Try.prog 33 #[.slice (some ⟨n, 0, none⟩) 4 4, .slice (some ⟨n + 1, 0, none⟩) 4 4] ((w.alloc (.cells #[.int .i64 1, .int .i64 1, .int .i64 1, .int .i64 1] 2)).alloc (.cells #[.int .i64 0, .int .i64 1, .int .i64 2, .int .i64 3] 2)) (RowC (tb 1 1 1 1 true true true true) w) from by subst hn; exact call_s w 1 1 1 1 [0, 1, 2, 3] _ _ _ _ (by decide) (by decide) (by decide) (by decide) (by decide)))
  have H2 := Lib.hid (fun (w : World) (n : Nat) (hn : w.heap.size = n) => (show Calls Try.prog 33 #[.slice (some ⟨n, 0, none⟩) 4 4, .slice (some ⟨n + 1, 0, none⟩) 0 0] ((w.alloc (.cells #[.int .i64 0, .int .i64 0, .int .i64 0, .int .i64 0] 2)).alloc (.cells #[] 2)) (RowC (tb 0 0 0 0 false false false false) w) from by subst hn; exact call_s w 0 0 0 0 [] _ _ _ _ (by decide) (by decide) (by decide) (by decide) (by decide)))
  have H3 := Lib.hid (fun (w : World) (n : Nat) (hn : w.heap.size = n) => (show Calls Try.prog 33 #[.slice (some ⟨n, 0, none⟩) 4 4, .slice (some ⟨n + 1, 0, none⟩) 0 0] ((w.alloc (.cells #[.int .i64 0, .int .i64 1, .int .i64 1, .int .i64 1] 2)).alloc (.cells #[] 2)) (RowC (tb 0 1 1 1 false false false false) w) from by subst hn; exact call_s w 0 1 1 1 [] _ _ _ _ (by decide) (by decide) (by decide) (by decide) (by decide)))
  have H4 := Lib.hid (fun (w : World) (n : Nat) (hn : w.heap.size = n) => (show Calls Try.prog 33 #[.slice (some ⟨n, 0, none⟩) 4 4, .slice (some ⟨n + 1, 0, none⟩) 0 0] ((w.alloc (.cells #[.int .i64 0, .int .i64 0, .int .i64 0, .int .i64 0] 2)).alloc (.cells #[] 2)) (RowC (tb 0 0 0 0 false false false false) w) from by subst hn; exact call_s w 0 0 0 0 [] _ _ _ _ (by decide) (by decide) (by decide) (by decide) (by decide)))
  go_enter Try.func14, Try.ntmps14
  go_wp2_with fail
  have bz : Blk (w.alloc (.cells #[.slice none 0 0, .slice none 0 0, .slice none 0 0, .slice none 0 0, .slice none 0 0] 24)) w.heap.size [.slice none 0 0, .slice none 0 0, .slice none 0 0, .slice none 0 0, .slice none 0 0] 24 := Blk.newAt w _ _ _ rfl
  have hz0 : (w.alloc (.cells #[.slice none 0 0, .slice none 0 0, .slice none 0 0, .slice none 0 0, .slice none 0 0] 24)).heap.size = w.heap.size + 1 := Array.size_push _
  have b0 : Below w.heap.size w (w.alloc (.cells #[.slice none 0 0, .slice none 0 0, .slice none 0 0, .slice none 0 0, .slice none 0 0] 24)) := (Below.refl _ _).alloc (Nat.le_refl _) _
  generalize hW : w.alloc (.cells #[.slice none 0 0, .slice none 0 0, .slice none 0 0, .slice none 0 0, .slice none 0 0] 24) = w0 at *
  clear hW
  have BB0 := Lib.hid b0
  have s0 := bz.lt
  clear b0
  refine (H0.out w0 _ hz0).mono ?_; rintro e w1 ⟨g0, c0, rfl, o, ⟨l0, r0⟩, b⟩
  have bz := bz.below b bz.lt
  have BB1 := Lib.hid (bt BB0.out b)
  have O0 := Lib.hid o
  have s1 := b.size
  clear o b
  go_wp2_with fail
  refine (H1.out w1 _ rfl).mono ?_; rintro e w2 ⟨g1, c1, rfl, o, ⟨l1, r1⟩, b⟩
  have bz := bz.below b bz.lt
  have BB2 := Lib.hid (bt BB1.out b)
  have O0 := Lib.hid (Ru.OwnR.below O0.out b (Nat.le_refl _))
  have O1 := Lib.hid o
  have s2 := b.size
  clear o b
  go_wp2_with fail
  refine (H2.out w2 _ rfl).mono ?_; rintro e w3 ⟨g2, c2, rfl, o, ⟨l2, r2⟩, b⟩
  have bz := bz.below b bz.lt
  have BB3 := Lib.hid (bt BB2.out b)
  have O0 := Lib.hid (Ru.OwnR.below O0.out b (Nat.le_refl _))
  have O1 := Lib.hid (Ru.OwnR.below O1.out b (Nat.le_refl _))
  have O2 := Lib.hid o
  have s3 := b.size
  clear o b
  go_wp2_with fail
  refine (H3.out w3 _ rfl).mono ?_; rintro e w4 ⟨g3, c3, rfl, o, ⟨l3, r3⟩, b⟩
  have bz := bz.below b bz.lt
  have BB4 := Lib.hid (bt BB3.out b)
  have O0 := Lib.hid (Ru.OwnR.below O0.out b (Nat.le_refl _))
  have O1 := Lib.hid (Ru.OwnR.below O1.out b (Nat.le_refl _))
  have O2 := Lib.hid (Ru.OwnR.below O2.out b (Nat.le_refl _))
  have O3 := Lib.hid o
  have s4 := b.size
  clear o b
  go_wp2_with fail
  refine (H4.out w4 _ rfl).mono ?_; rintro e w5 ⟨g4, c4, rfl, o, ⟨l4, r4⟩, b⟩
  have bz := bz.below b bz.lt
  have BB5 := Lib.hid (bt BB4.out b)
  have O0 := Lib.hid (Ru.OwnR.below O0.out b (Nat.le_refl _))
  have O1 := Lib.hid (Ru.OwnR.below O1.out b (Nat.le_refl _))
  have O2 := Lib.hid (Ru.OwnR.below O2.out b (Nat.le_refl _))
  have O3 := Lib.hid (Ru.OwnR.below O3.out b (Nat.le_refl _))
  have O4 := Lib.hid o
  have s5 := b.size
  clear o b
  have x0 : w5.cell? ⟨w.heap.size, 0, none⟩ = some (.slice none 0 0) := bz.cell 0
  have y0 := bz.froz 0
  have x1 : w5.cell? ⟨w.heap.size, 1, none⟩ = some (.slice none 0 0) := bz.cell 1
  have y1 := bz.froz 1
  have x2 : w5.cell? ⟨w.heap.size, 2, none⟩ = some (.slice none 0 0) := bz.cell 2
  have y2 := bz.froz 2
  have x3 : w5.cell? ⟨w.heap.size, 3, none⟩ = some (.slice none 0 0) := bz.cell 3
  have y3 := bz.froz 3
  have x4 : w5.cell? ⟨w.heap.size, 4, none⟩ = some (.slice none 0 0) := bz.cell 4
  have y4 := bz.froz 4
  have HP := Lib.hid (fun (wz : World) (X0 X1 X2 X3 X4 : Value) (e : wz = (((((w5.setCell ⟨w.heap.size, 0, none⟩ X0).setCell ⟨w.heap.size, 1, none⟩ X1).setCell ⟨w.heap.size, 2, none⟩ X2).setCell ⟨w.heap.size, 3, none⟩ X3).setCell ⟨w.heap.size, 4, none⟩ X4)) => (show OwnX wz w.heap.size wz.heap.size (.agg #[.slice (some ⟨g0, 0, none⟩) 4 c0, .slice (some ⟨g1, 0, none⟩) 4 c1, .slice (some ⟨g2, 0, none⟩) 4 c2, .slice (some ⟨g3, 0, none⟩) 4 c3, .slice (some ⟨g4, 0, none⟩) 4 c4]) (tb 1 1 1 1 false false false false) (tb 1 1 1 1 true true true true) (tb 0 0 0 0 false false false false) (tb 0 1 1 1 false false false false) (tb 0 0 0 0 false false false false) ∧ Below w.heap.size w wz from by
    have hh : ∀ i, w.heap.size < i → wz.heap[i]? = w5.heap[i]? := fun i hi => by
      rw [e, heap_set _ _ _ _ i (by omega), heap_set _ _ _ _ i (by omega), heap_set _ _ _ _ i (by omega), heap_set _ _ _ _ i (by omega), heap_set _ _ _ _ i (by omega)]
    have hz : wz.heap.size = w5.heap.size := by rw [e]; simp
    refine ⟨⟨some ⟨g0, 0, none⟩, c0, some ⟨g1, 0, none⟩, c1, some ⟨g2, 0, none⟩, c2, some ⟨g3, 0, none⟩, c3, some ⟨g4, 0, none⟩, c4, w1.heap.size, w2.heap.size, w3.heap.size, w4.heap.size, rfl, by omega, by omega, by omega, by omega, by omega, by omega, ?_, fun k hk => by have h9 : g0 = k := by { injection hk }; omega, ?_, fun k hk => by have h9 : g1 = k := by { injection hk }; omega, ?_, fun k hk => by have h9 : g2 = k := by { injection hk }; omega, ?_, fun k hk => by have h9 : g3 = k := by { injection hk }; omega, ?_, fun k hk => by have h9 : g4 = k := by { injection hk }; omega⟩, ?_⟩
    · exact Ru.OwnR.mono (Ru.OwnR.same O0.out (w' := wz) fun b hb _ => hh b (by have h9 : g0 = b := by { injection hb }; omega)) (by omega)
    · exact Ru.OwnR.mono (Ru.OwnR.same O1.out (w' := wz) fun b hb _ => hh b (by have h9 : g1 = b := by { injection hb }; omega)) (by omega)
    · exact Ru.OwnR.mono (Ru.OwnR.same O2.out (w' := wz) fun b hb _ => hh b (by have h9 : g2 = b := by { injection hb }; omega)) (by omega)
    · exact Ru.OwnR.mono (Ru.OwnR.same O3.out (w' := wz) fun b hb _ => hh b (by have h9 : g3 = b := by { injection hb }; omega)) (by omega)
    · exact Ru.OwnR.mono (Ru.OwnR.same O4.out (w' := wz) fun b hb _ => hh b (by have h9 : g4 = b := by { injection hb }; omega)) (by omega)
    · rw [e]
      exact (((((BB5.out.setCell (p := ⟨_, 0, none⟩) (by simp) _).setCell (p := ⟨_, 1, none⟩) (by simp) _).setCell (p := ⟨_, 2, none⟩) (by simp) _).setCell (p := ⟨_, 3, none⟩) (by simp) _).setCell (p := ⟨_, 4, none⟩) (by simp) _)))
  clear O0 O1 O2 O3 O4 BB0 BB1 BB2 BB3 BB4 BB5 H0 H1 H2 H3 H4
  go_wp2
  refine bodyPost_ret (v := .agg #[.slice (some ⟨g0, 0, none⟩) 4 c0, .slice (some ⟨g1, 0, none⟩) 4 c1, .slice (some ⟨g2, 0, none⟩) 4 c2, .slice (some ⟨g3, 0, none⟩) 4 c3, .slice (some ⟨g4, 0, none⟩) 4 c4]) (by simp [results, Try.results14, go_sem, x0, y0, x1, y1, x2, y2, x3, y3, x4, y4]) rfl ?_
  obtain ⟨h1, h2⟩ := HP.out _ _ _ _ _ _ rfl
  exact ⟨_, rfl, h1, h2⟩
end Go.Proofs.Ytmmjdmgnmlhjeaa.Pt
