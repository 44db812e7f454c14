/- Nests that come in: their size, their copy, comparison, marks. -/
import Derived.Test.YtefhjgcgkbpnkaaCnestS
import Derived.Test.YtefhjgcgkbpnkaaCto
import Derived.Test.YtefhjgcgkbpnkaaCmark1
import Derived.Test.YtefhjgcgkbpnkaaCmarkE
namespace Go.Proofs.Ytefhjgcgkbpnkaa.Nst
open Go.RowKit Tr Ac
/-- A nest of the call's own. -/
def OwnN (w : World) (B T : Nat) (v : Value) (kind base : Int) (cs ss : List Int) : Prop :=
  ∃ u u', v = .agg #[.int .i64 kind, .int .i64 base, u, u'] ∧ Own w B u cs ∧ Own w B u' ss ∧ (∀ k, u.ownBlock = some k → u'.ownBlock ≠ some k) ∧ (∀ k, u.ownBlock = some k → k < T) ∧ (∀ k, u'.ownBlock = some k → k < T)
theorem OwnN.below {w w' : World} {B T C : Nat} {v : Value} {kind base : Int} {cs ss : List Int} (h : OwnN w B T v kind base cs ss) (hb : Below C w w') (hC : w.heap.size ≤ C) : OwnN w' B T v kind base cs ss := by
  obtain ⟨u, u', e, h1, h2, h3⟩ := h
  exact ⟨u, u', e, h1.below hb hC, h2.below hb hC, h3⟩
theorem OwnN.rd {w : World} {B T : Nat} {v : Value} {kind base : Int} {cs ss : List Int} (h : OwnN w B T v kind base cs ss) (h1 : cs.length ≤ 1048576) (h2 : ss.length ≤ 1048576) : RdN w v kind base cs ss := by
  obtain ⟨u, u', rfl, o1, o2, _⟩ := h
  obtain ⟨a, c, e1, l1, _, r1⟩ := o1.rd
  obtain ⟨a', c', e2, l2, _, r2⟩ := o2.rd
  exact ⟨a, c, a', c', by rw [e1, e2], r1, r2, h1, h2, l1, l2⟩
/-- A block of known cells. -/
def Bk (w : World) (b : Nat) (cs : List Value) (t : TypeId) : Prop := w.heap[b]? = some (.cells cs.toArray t (0, 0))
theorem Bk.cell {w : World} {b : Nat} {cs : List Value} {t : TypeId} (h : Bk w b cs t) (j : Nat) : w.cell? ⟨b, j, none⟩ = cs[j]? := by
  rw [cell_of_row w b j _ _ (0, 0) h]; simp
theorem Bk.froz {w : World} {b : Nat} {cs : List Value} {t : TypeId} (h : Bk w b cs t) (j : Nat) : w.frozen? ⟨b, j, none⟩ = false := frozen_of_row w b j _ _ h
theorem Bk.lt {w : World} {b : Nat} {cs : List Value} {t : TypeId} (h : Bk w b cs t) : b < w.heap.size := (Array.getElem?_eq_some_iff.1 h).1
theorem Bk.below {w w' : World} {b B : Nat} {cs : List Value} {t : TypeId} (h : Bk w b cs t) (hb : Below B w w') (hB : b < B) : Bk w' b cs t := (hb.block b hB).trans h
theorem Bk.set {w : World} {b : Nat} {cs : List Value} {t : TypeId} (h : Bk w b cs t) (j : Nat) (u : Value) : Bk (w.setCell ⟨b, j, none⟩ u) b (cs.set j u) t := by
  unfold Bk
  rw [Go.heap_setCell_same w b j _ _ u h]; simp
theorem Bk.off {w : World} {b c : Nat} {cs : List Value} {t : TypeId} (h : Bk w b cs t) (j : Nat) (u : Value) (hne : b ≠ c) : Bk (w.setCell ⟨c, j, none⟩ u) b cs t := (Go.heap_setCell_other w ⟨c, j, none⟩ b u hne).trans h
theorem Bk.new (w : World) (b : Nat) (cs : List Value) (t : TypeId) (hb : b = w.heap.size) : Bk (w.alloc (.cells cs.toArray t)) b cs t := by subst hb; exact heap_alloc_new w _
theorem Bk.alloc {w : World} {b : Nat} {cs : List Value} {t : TypeId} (h : Bk w b cs t) (o : Obj) : Bk (w.alloc o) b cs t := (Below.heap_alloc w o b h.lt).trans h
theorem own_set {w : World} {B b j : Nat} {v u : Value} {xs : List Int} (h : Own w B v xs) (hne : ∀ k, v.ownBlock = some k → k ≠ b) : Own (w.setCell ⟨b, j, none⟩ u) B v xs :=
  h.kept (row := some b) ⟨rfl, rfl, rfl, by simp [World.setCell], fun k _ hk => Go.heap_setCell_other w ⟨b, j, none⟩ k u (fun e => hk (by simp [e]))⟩ (fun k hk e => hne k hk (by injection e))
theorem fin5 {w w' : World} {u u' : Value} {kind base : Int} {cs ss : List Int} (h1 : Own w' w.heap.size u cs) (h2 : Own w' w.heap.size u' ss) (h3 : ∀ k, u.ownBlock = some k → u'.ownBlock ≠ some k) (h4 : Below w.heap.size w w') :
    ∃ v, Ending.returned (.agg #[.int .i64 kind, .int .i64 base, u, u']) = .returned v ∧ OwnN w' w.heap.size w'.heap.size v kind base cs ss ∧ Below w.heap.size w w' :=
  ⟨_, rfl, ⟨u, u', rfl, h1, h2, h3, fun k hk => (h1.block k hk).2, fun k hk => (h2.block k hk).2⟩, h4⟩
set_option maxHeartbeats 2000000 in
theorem tonest_any (kind base : Int) (a a' : Option Addr) (n n' cap cap' : Nat) (zs zs' : List Int) (w : World) (h1 : IsRow .i64 w a n cap zs) (h2 : IsRow .i64 w a' n' cap' zs') (hn : n ≤ 1048576) (hn' : n' ≤ 1048576) :
    Calls Try.prog 7 #[.agg #[.int .i64 kind, .int .i64 base, .slice a n cap, .slice a' n' cap']] w (fun e w' => ∃ v, e = .returned v ∧ OwnN w' w.heap.size w'.heap.size v kind base (zs.take n) (zs'.take n') ∧ Below w.heap.size w w') := by
  have HT1 := Lib.hid (fun (w1 : World) (hb : Below w.heap.size w w1) => Go.Proofs.Ytefhjgcgkbpnkaa.to_any a n cap zs w1 (isRow_below h1 hb) hn)
  have HT2 := Lib.hid (fun (w1 : World) (hb : Below w.heap.size w w1) => Go.Proofs.Ytefhjgcgkbpnkaa.to_any a' n' cap' zs' w1 (isRow_below h2 hb) hn')
  have hz1 : (w.alloc (.cells #[.int .i64 kind, .int .i64 base, .slice a n cap, .slice a' n' cap'] 24)).heap.size = w.heap.size + 1 := Array.size_push _
  have hz2 : ((w.alloc (.cells #[.int .i64 kind, .int .i64 base, .slice a n cap, .slice a' n' cap'] 24)).alloc (.cells #[.int .i64 0, .int .i64 0, .slice none 0 0, .slice none 0 0] 29)).heap.size = w.heap.size + 1 + 1 := (Array.size_push _).trans (by rw [hz1])
  have hz3 : (((w.alloc (.cells #[.int .i64 kind, .int .i64 base, .slice a n cap, .slice a' n' cap'] 24)).alloc (.cells #[.int .i64 0, .int .i64 0, .slice none 0 0, .slice none 0 0] 29)).alloc (.cells #[.int .i64 kind, .int .i64 base, .slice none 0 0, .slice none 0 0] 29)).heap.size = w.heap.size + 1 + 1 + 1 := (Array.size_push _).trans (by rw [hz2])
  have b0 : Below w.heap.size w (((w.alloc (.cells #[.int .i64 kind, .int .i64 base, .slice a n cap, .slice a' n' cap'] 24)).alloc (.cells #[.int .i64 0, .int .i64 0, .slice none 0 0, .slice none 0 0] 29)).alloc (.cells #[.int .i64 kind, .int .i64 base, .slice none 0 0, .slice none 0 0] 29)) := ((((Below.refl _ w).alloc (Nat.le_refl _) _).alloc (by omega) _).alloc (by omega) _)
  have x0 := ((Bk.new w w.heap.size [.int .i64 kind, .int .i64 base, .slice a n cap, .slice a' n' cap'] 24 rfl).alloc (.cells #[.int .i64 0, .int .i64 0, .slice none 0 0, .slice none 0 0] 29)).alloc (.cells #[.int .i64 kind, .int .i64 base, .slice none 0 0, .slice none 0 0] 29)
  have x1 := (Bk.new (w.alloc (.cells #[.int .i64 kind, .int .i64 base, .slice a n cap, .slice a' n' cap'] 24)) (w.heap.size + 1) [.int .i64 0, .int .i64 0, .slice none 0 0, .slice none 0 0] 29 hz1.symm).alloc (.cells #[.int .i64 kind, .int .i64 base, .slice none 0 0, .slice none 0 0] 29)
  have x2 := Bk.new ((w.alloc (.cells #[.int .i64 kind, .int .i64 base, .slice a n cap, .slice a' n' cap'] 24)).alloc (.cells #[.int .i64 0, .int .i64 0, .slice none 0 0, .slice none 0 0] 29)) (w.heap.size + 1 + 1) [.int .i64 kind, .int .i64 base, .slice none 0 0, .slice none 0 0] 29 hz2.symm
  have HX := Lib.hid (And.intro x0 (And.intro x1 x2))
  have HB0 := Lib.hid (And.intro b0 hz3)
  clear x0 x1 x2 b0 hz1 hz2 hz3
  generalize hW : (((w.alloc (.cells #[.int .i64 kind, .int .i64 base, .slice a n cap, .slice a' n' cap'] 24)).alloc (.cells #[.int .i64 0, .int .i64 0, .slice none 0 0, .slice none 0 0] 29)).alloc (.cells #[.int .i64 kind, .int .i64 base, .slice none 0 0, .slice none 0 0] 29)) = W at *
  have HW := Lib.hid hW
  clear hW
  go_enter Try.func7, Try.ntmps7
  go_wp2_with fail
  rw [HW.out]
  obtain ⟨x0, x1, x2⟩ := HX.out
  obtain ⟨b0, hz⟩ := HB0.out
  refine (HT1.out W b0).mono ?_; rintro e w1 ⟨v1, rfl, o1, b1⟩
  obtain ⟨a1, c1, rfl⟩ := o1.form
  have y0 := x0.below b1 x0.lt
  have y1 := x1.below b1 x1.lt
  have y2 := x2.below b1 x2.lt
  have s1 := b1.size
  have B1 := b0.trans (b1.mono (by omega))
  have z0 := y0.off (c := w.heap.size + 1 + 1) 2 (.slice a1 (zs.take n).length c1) (by omega)
  have z1 := y1.off (c := w.heap.size + 1 + 1) 2 (.slice a1 (zs.take n).length c1) (by omega)
  have z2 := y2.set 2 (.slice a1 (zs.take n).length c1)
  have O1 := own_set (b := w.heap.size + 1 + 1) (j := 2) (u := .slice a1 (zs.take n).length c1) o1 (fun k hk => by have := (o1.block k hk).1; omega)
  have B2 := B1.setCell (p := ⟨w.heap.size + 1 + 1, 2, none⟩) (by show w.heap.size ≤ w.heap.size + 1 + 1; omega) (.slice a1 (zs.take n).length c1)
  have sz2 : (w1.setCell ⟨w.heap.size + 1 + 1, 2, none⟩ (.slice a1 (zs.take n).length c1)).heap.size = w1.heap.size := by simp [World.setCell]
  have k2 : w1.cell? ⟨w.heap.size + 1 + 1, 2, none⟩ = some (.slice none 0 0) := y2.cell 2
  have kf := y2.froz 2
  have q3 : (w1.setCell ⟨w.heap.size + 1 + 1, 2, none⟩ (.slice a1 (zs.take n).length c1)).cell? ⟨w.heap.size, 3, none⟩ = some (.slice a' n' cap') := z0.cell 3
  have HZ := Lib.hid (And.intro z0 (And.intro z1 (And.intro z2 (And.intro O1 (And.intro B2 sz2)))))
  clear x0 x1 x2 b0 y0 y1 y2 o1 b1 B1 z0 z1 z2 O1 B2 sz2 HX HB0
  generalize hL1 : (zs.take n).length = L1 at *
  have HL1 := Lib.hid hL1
  clear hL1
  go_wp2_with fail
  obtain ⟨z0, z1, z2, O1, B2, sz2⟩ := HZ.out
  clear HZ
  generalize (w1.setCell ⟨w.heap.size + 1 + 1, 2, none⟩ (.slice a1 L1 c1)) = W2 at *
  refine (HT2.out W2 B2).mono ?_; rintro e w2 ⟨v2, rfl, o2, b2⟩
  obtain ⟨a2, c2, rfl⟩ := o2.form
  have y1 := z1.below b2 z1.lt
  have y2 := z2.below b2 z2.lt
  have O2 := O1.below b2 (Nat.le_refl _)
  have B3 := B2.trans (b2.mono B2.size)
  have hblk : ∀ k, (Value.slice a1 L1 c1).ownBlock = some k → (Value.slice a2 (zs'.take n').length c2).ownBlock ≠ some k := fun k hk e => by
    have h1 := (O1.block k hk).2
    have h2 := (o2.block k e).1
    omega
  have r0 : w2.cell? ⟨w.heap.size + 1 + 1, 0, none⟩ = some (.int .i64 kind) := y2.cell 0
  have r1 : w2.cell? ⟨w.heap.size + 1 + 1, 1, none⟩ = some (.int .i64 base) := y2.cell 1
  have r2 : w2.cell? ⟨w.heap.size + 1 + 1, 2, none⟩ = some (.slice a1 L1 c1) := y2.cell 2
  have r3 : w2.cell? ⟨w.heap.size + 1 + 1, 3, none⟩ = some (.slice none 0 0) := y2.cell 3
  have rf := y2.froz 3
  have t0 : w2.cell? ⟨w.heap.size + 1, 0, none⟩ = some (.int .i64 0) := y1.cell 0
  have t1 : w2.cell? ⟨w.heap.size + 1, 1, none⟩ = some (.int .i64 0) := y1.cell 1
  have t2 : w2.cell? ⟨w.heap.size + 1, 2, none⟩ = some (.slice none 0 0) := y1.cell 2
  have t3 : w2.cell? ⟨w.heap.size + 1, 3, none⟩ = some (.slice none 0 0) := y1.cell 3
  have f0 := y1.froz 0
  have f1 := y1.froz 1
  have f2 := y1.froz 2
  have f3 := y1.froz 3
  have hsW : w.heap.size + 1 + 1 + 1 ≤ W.heap.size := Nat.le_of_eq hz.symm
  have hA1 : ∀ k, (Value.slice a1 L1 c1).ownBlock = some k → k ≠ w.heap.size + 1 := fun k hk => by have := (O1.block k hk).1; omega
  have hA2 : ∀ k, (Value.slice a1 L1 c1).ownBlock = some k → k ≠ w.heap.size + 1 + 1 := fun k hk => by have := (O1.block k hk).1; omega
  have hB1 : ∀ k, (Value.slice a2 (zs'.take n').length c2).ownBlock = some k → k ≠ w.heap.size + 1 := fun k hk => by have := (o2.block k hk).1; omega
  have hB2 : ∀ k, (Value.slice a2 (zs'.take n').length c2).ownBlock = some k → k ≠ w.heap.size + 1 + 1 := fun k hk => by have := (o2.block k hk).1; omega
  have HO := Lib.hid (And.intro (O2.mono (B' := w.heap.size) (by omega)) (And.intro (o2.mono (B' := w.heap.size) (by omega)) (And.intro hblk B3)))
  have HA := Lib.hid (And.intro (And.intro hA1 hA2) (And.intro hB1 hB2))
  clear z0 z1 z2 O1 O2 B2 B3 o2 b2 y1 y2 hblk hA1 hA2 hB1 hB2 q3 k2 kf hz hsW sz2 s1
  generalize hL2 : (zs'.take n').length = L2 at *
  clear hL2
  go_wp2
  obtain ⟨p1, p2, p3, p4⟩ := HO.out
  obtain ⟨⟨hA1, hA2⟩, hB1, hB2⟩ := HA.out
  refine bodyPost_ret (v := .agg #[.int .i64 kind, .int .i64 base, .slice a1 L1 c1, .slice a2 L2 c2]) (by simp [results, Try.results7, go_sem, r0, r1, r2, r3, t0, t1, t2, t3, f0, f1, f2, f3]) rfl (fin5 ?_ ?_ p3 ?_)
  · repeat (first | with_reducible exact p1 | with_reducible refine own_set ?_ hA1 | with_reducible refine own_set ?_ hA2)
  · repeat (first | with_reducible exact p2 | with_reducible refine own_set ?_ hB1 | with_reducible refine own_set ?_ hB2)
  · repeat (first | with_reducible exact p4 | with_reducible refine Below.setCell ?_ (Nat.le_succ_of_le (Nat.le_refl _)) _ | with_reducible refine Below.setCell ?_ (Nat.le_succ_of_le (Nat.le_succ_of_le (Nat.le_refl _))) _)
theorem szi (a : Option Addr) (len cap : Nat) (left : Int) (w : World) (h0 : 0 ≤ left) (h : (len : Int) ≤ left) (hl : left ≤ 1048576) :
    Calls Try.prog 16 #[.slice a len cap, .int .i64 left] w fun e w' => e = .returned (.int .i64 (left - (len : Int))) ∧ w = w' := by
  have h1 : ¬ (left - (len : Int)) < 0 := by omega
  go_enter Try.func16, Try.ntmps16
  go_wp2
  go_ret
  exact ⟨rfl, rfl⟩
theorem szi_no (a : Option Addr) (len cap : Nat) (left : Int) (w : World) (h0 : 0 ≤ left) (h : left < (len : Int)) (hl : left ≤ 1048576) (hm : len ≤ 9223372036854775807) :
    Calls Try.prog 16 #[.slice a len cap, .int .i64 left] w fun e w' => e = .returned (.int .i64 (-1)) ∧ w = w' := by
  have h1 : (left - (len : Int)) < 0 := by omega
  go_enter Try.func16, Try.ntmps16
  go_wp2
  go_ret
  exact ⟨rfl, rfl⟩
theorem szN (kind base : Int) (a a' : Option Addr) (n n' cap cap' : Nat) (w : World) (h : n + n' ≤ 1048576) :
    Calls Try.prog 5 #[.agg #[.int .i64 kind, .int .i64 base, .slice a n cap, .slice a' n' cap'], .int .i64 1048576] w fun e w' => e = .returned (.int .i64 (1048576 - (n : Int) - (n' : Int))) ∧ Below w.heap.size w w' := by
  have H1 := Lib.hid (fun w9 => szi a n cap 1048576 w9 (by omega) (by omega) (by omega))
  have H2 := Lib.hid (fun w9 => szi a' n' cap' (1048576 - (n : Int)) w9 (by omega) (by omega) (by omega))
  have hz1 : ¬ ((1048576 : Int) - (n : Int)) < 0 := by omega
  have hz2 : ¬ ((1048576 : Int) - (n : Int) - (n' : Int)) < 0 := by omega
  go_enter Try.func5, Try.ntmps5
  go_wp2_with fail
  refine (H1.out _).mono ?_; rintro e w1 ⟨rfl, rfl⟩
  go_wp2_with fail
  refine (H2.out _).mono ?_; rintro e w1 ⟨rfl, rfl⟩
  go_wp2
  go_ret
  exact ⟨rfl, (Below.refl _ _).alloc (Nat.le_refl _) _⟩
theorem szN_no (kind base : Int) (a a' : Option Addr) (n n' cap cap' : Nat) (w : World) (hm : n ≤ 9223372036854775807) (hm' : n' ≤ 9223372036854775807) (h : ¬ n + n' ≤ 1048576) :
    Calls Try.prog 5 #[.agg #[.int .i64 kind, .int .i64 base, .slice a n cap, .slice a' n' cap'], .int .i64 1048576] w fun e w' => e = .returned (.int .i64 (-1)) ∧ Below w.heap.size w w' := by
  by_cases h1 : n ≤ 1048576
  · have H1 := Lib.hid (fun w9 => szi a n cap 1048576 w9 (by omega) (by omega) (by omega))
    have H2 := Lib.hid (fun w9 => szi_no a' n' cap' (1048576 - (n : Int)) w9 (by omega) (by omega) (by omega) hm')
    have hz1 : ¬ ((1048576 : Int) - (n : Int)) < 0 := by omega
    go_enter Try.func5, Try.ntmps5
    go_wp2_with fail
    refine (H1.out _).mono ?_; rintro e w1 ⟨rfl, rfl⟩
    go_wp2_with fail
    refine (H2.out _).mono ?_; rintro e w1 ⟨rfl, rfl⟩
    go_wp2
    go_ret
    exact ⟨rfl, (Below.refl _ _).alloc (Nat.le_refl _) _⟩
  · have H1 := Lib.hid (fun w9 => szi_no a n cap 1048576 w9 (by omega) (by omega) (by omega) hm)
    go_enter Try.func5, Try.ntmps5
    go_wp2_with fail
    refine (H1.out _).mono ?_; rintro e w1 ⟨rfl, rfl⟩
    go_wp2
    go_ret
    exact ⟨rfl, (Below.refl _ _).alloc (Nat.le_refl _) _⟩
set_option maxHeartbeats 1000000 in
theorem eqN {w : World} {B B' T T' : Nat} {v v' : Value} {kind base : Int} {cs ss : List Int} (h : OwnN w B T v kind base cs ss) (h' : OwnN w B' T' v' kind base cs ss) :
    Calls Try.prog 10 #[v, v'] w (Bb true w) := by
  obtain ⟨u, u', rfl, o1, o2, _⟩ := h
  obtain ⟨t, t', rfl, p1, p2, _⟩ := h'
  obtain ⟨a, c, rfl⟩ := o1.form
  obtain ⟨a', c', rfl⟩ := o2.form
  obtain ⟨b, d, rfl⟩ := p1.form
  obtain ⟨b', d', rfl⟩ := p2.form
  have H1 := Lib.hid (fun (w1 : World) (hb : Below w.heap.size w w1) => eq_below (o1.below hb (Nat.le_refl _)) (p1.below hb (Nat.le_refl _)))
  have H2 := Lib.hid (fun (w1 : World) (hb : Below w.heap.size w w1) => eq_below (o2.below hb (Nat.le_refl _)) (p2.below hb (Nat.le_refl _)))
  have b0 : Below w.heap.size w ((w.alloc (.cells #[.int .i64 kind, .int .i64 base, .slice a cs.length c, .slice a' ss.length c'] 29)).alloc (.cells #[.int .i64 kind, .int .i64 base, .slice b cs.length d, .slice b' ss.length d'] 29)) := ((Below.refl _ w).alloc (Nat.le_refl _) _).alloc (by simp) _
  have hz1 : (w.alloc (.cells #[.int .i64 kind, .int .i64 base, .slice a cs.length c, .slice a' ss.length c'] 29)).heap.size = w.heap.size + 1 := Array.size_push _
  have x0 := (Bk.new w w.heap.size [.int .i64 kind, .int .i64 base, .slice a cs.length c, .slice a' ss.length c'] 29 rfl).alloc (.cells #[.int .i64 kind, .int .i64 base, .slice b cs.length d, .slice b' ss.length d'] 29)
  have x1 := Bk.new (w.alloc (.cells #[.int .i64 kind, .int .i64 base, .slice a cs.length c, .slice a' ss.length c'] 29)) (w.heap.size + 1) [.int .i64 kind, .int .i64 base, .slice b cs.length d, .slice b' ss.length d'] 29 hz1.symm
  have HX := Lib.hid (fun (w1 : World) (hb : Below ((w.alloc (.cells #[.int .i64 kind, .int .i64 base, .slice a cs.length c, .slice a' ss.length c'] 29)).alloc (.cells #[.int .i64 kind, .int .i64 base, .slice b cs.length d, .slice b' ss.length d'] 29)).heap.size _ w1) => (show w1.cell? ⟨w.heap.size, 3, none⟩ = some (.slice a' ss.length c') ∧ w1.cell? ⟨w.heap.size + 1, 3, none⟩ = some (.slice b' ss.length d') from ⟨(x0.below hb x0.lt).cell 3, (x1.below hb x1.lt).cell 3⟩))
  have hne1 : (kind != kind) = false := by simp
  have hne2 : (base != base) = false := by simp
  have B0 := Lib.hid b0
  clear o1 o2 p1 p2 hz1 x0 x1 b0
  generalize cs.length = L1 at *
  generalize ss.length = L2 at *
  generalize hW : ((w.alloc (.cells #[.int .i64 kind, .int .i64 base, .slice a L1 c, .slice a' L2 c'] 29)).alloc (.cells #[.int .i64 kind, .int .i64 base, .slice b L1 d, .slice b' L2 d'] 29)) = W at *
  have HW := Lib.hid hW
  clear hW
  go_enter Try.func10, Try.ntmps10
  go_wp2_with fail
  rw [HW.out]
  refine (H1.out W B0.out).mono ?_; rintro e w1 ⟨rfl, b1⟩
  obtain ⟨k1, k2⟩ := HX.out w1 b1
  have B1 := Lib.hid (B0.out.trans (b1.mono B0.out.size))
  clear b1
  go_wp2_with fail
  refine (H2.out w1 B1.out).mono ?_; rintro e w2 ⟨rfl, b2⟩
  have B2 := Lib.hid (B1.out.trans (b2.mono B1.out.size))
  clear b2
  go_wp2
  go_ret
  exact ⟨rfl, B2.out⟩
set_option maxHeartbeats 1000000 in
theorem markN {w : World} {B T : Nat} {v : Value} {kind base : Int} {cs ss : List Int} (h : OwnN w B T v kind base cs ss) (h1 : cs.length ≤ 1048576) (h2 : ss.length ≤ 1048576) (hB : B ≤ w.heap.size) (hT : T ≤ w.heap.size) :
    Calls Try.prog 11 #[v, .int .i64 1] w (fun e w' => ∃ k : Int, e = .returned (.int .i64 k) ∧ 0 ≤ k ∧ Below B w w' ∧ ∀ b, T ≤ b → b < w.heap.size → w'.heap[b]? = w.heap[b]?) := by
  obtain ⟨u, u', rfl, o1, o2, hd, ht1, ht2⟩ := h
  obtain ⟨a, c, rfl⟩ := o1.form
  obtain ⟨a', c', rfl⟩ := o2.form
  have b0 : Below w.heap.size w (w.alloc (.cells #[.int .i64 kind, .int .i64 base, .slice a cs.length c, .slice a' ss.length c'] 29)) := (Below.refl _ w).alloc (Nat.le_refl _) _
  have hz1 : (w.alloc (.cells #[.int .i64 kind, .int .i64 base, .slice a cs.length c, .slice a' ss.length c'] 29)).heap.size = w.heap.size + 1 := Array.size_push _
  have x0 := Bk.new w w.heap.size [.int .i64 kind, .int .i64 base, .slice a cs.length c, .slice a' ss.length c'] 29 rfl
  have H1 := Lib.hid (show Calls Try.prog 24 #[.slice a cs.length c, .int .i64 1] (w.alloc (.cells #[.int .i64 kind, .int .i64 base, .slice a cs.length c, .slice a' ss.length c'] 29)) (MarkI 2000000 (.slice a cs.length c) (w.alloc (.cells #[.int .i64 kind, .int .i64 base, .slice a cs.length c, .slice a' ss.length c'] 29))) from
    (mark_own 1 (o1.below b0 (Nat.le_refl _)) (by omega)).mono fun e w' ⟨he, _, hg⟩ => ⟨_, he, by omega, hg⟩)
  have H2 := Lib.hid (fun (w1 : World) (k : Int) (hk0 : 0 ≤ k) (hk1 : k ≤ 100000000) (ho : Own w1 B (.slice a' ss.length c') ss) => mark_int k hk0 hk1 ho h2)
  have hd1 := Lib.hid o1.block
  have hd2 := Lib.hid o2.block
  have O2 := Lib.hid (o2.below b0 (Nat.le_refl _))
  have HD := Lib.hid (And.intro hd (And.intro ht1 ht2))
  have HX := Lib.hid (And.intro b0 (And.intro hz1 x0))
  unfold MarkI at H1 H2
  clear o1 o2 b0 hz1 x0 hd ht1 ht2
  generalize cs.length = L1 at *
  generalize ss.length = L2 at *
  generalize hW : (w.alloc (.cells #[.int .i64 kind, .int .i64 base, .slice a L1 c, .slice a' L2 c'] 29)) = W at *
  have HW := Lib.hid hW
  clear hW
  go_enter Try.func11, Try.ntmps11
  go_wp2_with fail
  rw [HW.out]
  refine H1.out.mono ?_; rintro e w1 ⟨k1, rfl, ⟨hk0, hk1⟩, g1⟩
  obtain ⟨b0, hz, x0⟩ := HX.out
  have y3 : w1.cell? ⟨w.heap.size, 3, none⟩ = some (.slice a' L2 c') := by
    have h := g1.block w.heap.size (by omega) (fun e => by have := (hd1.out w.heap.size e.symm).2; omega)
    rw [World.cell?_of_block (w := W) h]
    exact x0.cell 3
  have O3 := Lib.hid (O2.out.kept g1 (fun k hk e => HD.out.1 k e.symm hk))
  have G1 := Lib.hid g1
  have B0 := Lib.hid (And.intro b0 hz)
  clear b0 hz x0 g1 O2 HX
  go_wp2_with fail
  refine (H2.out w1 k1 hk0 (by omega) O3.out).mono ?_; rintro e w2 ⟨k2, rfl, ⟨hk2, _⟩, g2⟩
  have G2 := Lib.hid g2
  clear g2 O3
  go_wp2
  go_ret
  obtain ⟨b0, hz⟩ := B0.out
  obtain ⟨hd, ht1, ht2⟩ := HD.out
  have s1 := G1.out.size
  refine ⟨k2, rfl, hk2, ?_, fun b hb1 hb2 => ?_⟩
  · exact ((b0.mono hB).grown G1.out (by omega) (fun k hk => (hd1.out k hk).1)).grown G2.out (by omega) (fun k hk => (hd2.out k hk).1)
  · rw [G2.out.block b (by omega) (fun e => by have := ht2 b e.symm; omega), G1.out.block b (by omega) (fun e => by have := ht1 b e.symm; omega)]
    exact b0.block b hb2
end Go.Proofs.Ytefhjgcgkbpnkaa.Nst
