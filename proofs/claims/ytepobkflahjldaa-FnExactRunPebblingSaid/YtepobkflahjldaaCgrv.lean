/- Graphs by value: read, of the call's own; their size, copy, comparison, marks. -/
import Derived.Test.YtepobkflahjldaaCpol
import Derived.Test.YtepobkflahjldaaCtoM
import Derived.Test.YtepobkflahjldaaCixv
import Derived.Test.YtepobkflahjldaaCpv
namespace Go.Proofs.Ytepobkflahjldaa.Pb
open Go.RowKit Pv
theorem RdR.below {w w' : World} {a : Option Addr} {hs : List (List Int)} (h : RdR w a hs) (hb : Below w.heap.size w w') : RdR w' a hs := fun i hi => by
  obtain ⟨b, off, A, C, h1, h2, h3, h4, r⟩ := h i hi
  exact ⟨b, off, A, C, h1, (hb.cell (p := ⟨b, off + i, none⟩) h4).trans h2, h3.below hb, Nat.lt_of_lt_of_le h4 hb.size, r⟩
theorem weak2 {w : World} {B : Nat} {v : Value} {vs : List Value} {R : List (List Int)} (h : Own2 w B v vs R) : Own2W w B v vs R := ⟨h.1, h.2.1, fun i hi => (h.2.2.1 i hi).weak, h.2.2.2⟩
/-- v is a graph of the call's own, in blocks from B to T. -/
def OwnG (w : World) (B T : Nat) (v : Value) (bs : List (List Int)) : Prop :=
  ∃ h vs, v = .agg #[h] ∧ Own2W w B h vs bs ∧ (∀ k, h.ownBlock = some k → k < T) ∧ ∀ i k, i < bs.length → (vs.getD i s0).ownBlock = some k → k < T
/-- v is a graph that is read. -/
def RdG (w : World) (v : Value) (bs : List (List Int)) : Prop := ∃ a c, v = .agg #[.slice a bs.length c] ∧ RdR w a bs ∧ bs.length ≤ 1048576
theorem RdG.below {w w' : World} {v : Value} {bs : List (List Int)} (h : RdG w v bs) (hb : Below w.heap.size w w') : RdG w' v bs := by
  obtain ⟨a, c, e, h1, h2⟩ := h
  exact ⟨a, c, e, RdR.below h1 hb, h2⟩
theorem OwnG.below {w w' : World} {B T C : Nat} {v : Value} {bs : List (List Int)} (h : OwnG w B T v bs) (hb : Below C w w') (hC : w.heap.size ≤ C) : OwnG w' B T v bs := by
  obtain ⟨hh, vs, e, h1, h2⟩ := h
  exact ⟨hh, vs, e, Own2W.below h1 hb hC, h2⟩
theorem OwnG.form {w : World} {B T : Nat} {v : Value} {bs : List (List Int)} (h : OwnG w B T v bs) : ∃ a c, v = .agg #[.slice a bs.length c] := by
  obtain ⟨hh, vs, e, h1, _⟩ := h
  rcases h1.cases with ⟨rfl, hx⟩ | ⟨g, cap, rfl, _⟩
  · exact ⟨none, 0, by rw [e, hx]; rfl⟩
  · exact ⟨_, _, e⟩
theorem OwnG.rd {w : World} {B T : Nat} {v : Value} {bs : List (List Int)} (h : OwnG w B T v bs) (hl : bs.length ≤ 1048576) (hx : ∀ i, i < bs.length → (bs.getD i []).length ≤ 1048576) : RdG w v bs := by
  obtain ⟨hh, vs, rfl, h1, _⟩ := h
  rcases h1.cases with ⟨rfl, rfl⟩ | ⟨g, cap, rfl, _, hg, _, hc, _⟩
  · exact ⟨none, 0, rfl, fun i hi => by simp at hi, hl⟩
  · refine ⟨_, cap, rfl, fun i hi => ?_, hl⟩
    obtain ⟨A, C, e, k1, ⟨k2, k3⟩, hri⟩ := (h1.2.2.1 i hi).rd
    exact ⟨g, 0, A, C, rfl, by rw [Nat.zero_add, hc i hi, e], hri, hg, hx i hi, k1, k2, k3⟩
def NbI (n : Int) (w : World) (e : Ending) (w' : World) : Prop := e = .returned (.int .i64 n) ∧ Below w.heap.size w w'
theorem szG_yes (a : Option Addr) (c : Nat) (bs : List (List Int)) (w : World) (hm : IsMatL w a bs) (h : bs.length + (lens bs).sum ≤ 1048576) :
    Calls Try.prog 5 #[.agg #[.slice a bs.length c], .int .i64 1048576] w (NbI (1048576 - bs.length - ((lens bs).sum : Nat)) w) := by
  have b0 := (Below.refl w.heap.size w).alloc (Nat.le_refl _) (.cells #[.slice a bs.length c] 24)
  have H1 := Lib.hid (szM_yes a c bs 1048576 _ (hm.below b0) (by omega) (by omega))
  have n1 : ¬ ((1048576 : Int) - (bs.length : Int) - ((lens bs).sum : Nat)) < 0 := by omega
  clear hm h
  generalize (lens bs).sum = T at *
  generalize bs.length = N at *
  go_enter Try.func5, Try.ntmps5
  go_wp2_with fail
  refine H1.out.mono ?_; rintro e w' ⟨rfl, rfl⟩
  go_wp2
  go_ret
  exact ⟨rfl, b0⟩
theorem szG_no (a : Option Addr) (c : Nat) (bs : List (List Int)) (w : World) (hm : IsMatL w a bs) (h : ¬ bs.length + (lens bs).sum ≤ 1048576) :
    Calls Try.prog 5 #[.agg #[.slice a bs.length c], .int .i64 1048576] w (NbI (-1) w) := by
  have b0 := (Below.refl w.heap.size w).alloc (Nat.le_refl _) (.cells #[.slice a bs.length c] 24)
  have H1 := Lib.hid (szM_no a c bs 1048576 _ (hm.below b0) (by omega) (by omega) (by omega))
  clear hm h
  generalize bs.length = N at *
  go_enter Try.func5, Try.ntmps5
  go_wp2_with fail
  refine H1.out.mono ?_; rintro e w' ⟨rfl, rfl⟩
  go_wp2
  go_ret
  exact ⟨rfl, b0⟩
theorem Wr.set (B T : Nat) (w : World) (b o : Nat) (v : Value) (h : B ≤ b ∧ b < T) : Wr B T w (w.setCell ⟨b, o, none⟩ v) :=
  ⟨rfl, rfl, rfl, by simp, fun i _ hi => Go.heap_setCell_other w ⟨b, o, none⟩ i v (fun e => by simp at e; omega)⟩
def CopG (bs : List (List Int)) (w : World) (e : Ending) (w' : World) : Prop := ∃ u, e = .returned u ∧ OwnG w' (w.heap.size + 3) w'.heap.size u bs ∧ Below w.heap.size w w' ∧ w.heap.size + 3 ≤ w'.heap.size
set_option maxHeartbeats 2000000 in
theorem toG_any (a : Option Addr) (cap : Nat) (bs : List (List Int)) (w : World) (hm : IsMatL w a bs) (hn : bs.length + (lens bs).sum ≤ 1048576) :
    Calls Try.prog 8 #[.agg #[.slice a bs.length cap]] w (CopG bs w) := by
  have HT1 := Lib.hid (fun (w1 : World) (hb : Below w.heap.size w w1) => toM_any a cap bs w1 (hm.below hb) hn)
  clear hm hn
  generalize hN : bs.length = n at *
  have hNN := Lib.hid hN
  clear hN
  have hz1 : (w.alloc (.cells #[.slice a n cap] 24)).heap.size = w.heap.size + 1 := Array.size_push _
  have hz2 : ((w.alloc (.cells #[.slice a n cap] 24)).alloc (.cells #[.slice none 0 0] 31)).heap.size = w.heap.size + 1 + 1 := (Array.size_push _).trans (by rw [hz1])
  have hz3 : (((w.alloc (.cells #[.slice a n cap] 24)).alloc (.cells #[.slice none 0 0] 31)).alloc (.cells #[.slice none 0 0] 31)).heap.size = w.heap.size + 3 := (Array.size_push _).trans (by rw [hz2])
  have b0 : Below w.heap.size w (((w.alloc (.cells #[.slice a n cap] 24)).alloc (.cells #[.slice none 0 0] 31)).alloc (.cells #[.slice none 0 0] 31)) := ((((Below.refl _ w).alloc (Nat.le_refl _) _).alloc (by omega) _).alloc (by omega) _)
  have x1 := (Ix.Kb.new (w.alloc (.cells #[.slice a n cap] 24)) (w.heap.size + 1) [.slice none 0 0] 31 hz1.symm).alloc (.cells #[.slice none 0 0] 31)
  have x2 := Ix.Kb.new ((w.alloc (.cells #[.slice a n cap] 24)).alloc (.cells #[.slice none 0 0] 31)) (w.heap.size + 1 + 1) [.slice none 0 0] 31 hz2.symm
  have HX := Lib.hid (And.intro x1 x2)
  have HB0 := Lib.hid (And.intro b0 hz3)
  clear x1 x2 b0 hz1 hz2 hz3
  generalize hW : (((w.alloc (.cells #[.slice a n cap] 24)).alloc (.cells #[.slice none 0 0] 31)).alloc (.cells #[.slice none 0 0] 31)) = W at *
  have HW := Lib.hid hW
  clear hW
  go_enter Try.func8, Try.ntmps8
  go_wp2_with fail
  rw [HW.out]
  obtain ⟨x1, x2⟩ := HX.out
  obtain ⟨b0, hz⟩ := HB0.out
  refine (HT1.out W b0).mono ?_; rintro e w1 ⟨v1, vs1, rfl, o1', b1⟩
  have o1 := weak2 o1'
  have hU1 : ∀ k, v1.ownBlock = some k → W.heap.size ≤ k ∧ k < w1.heap.size := fun k hk => by
    rcases o1.cases with ⟨rfl, _⟩ | ⟨g, cap, rfl, hB, hg, _⟩
    · simp [Value.ownBlock] at hk
    · simp [Value.ownBlock] at hk; omega
  have hV1 : ∀ i k, i < bs.length → (vs1.getD i s0).ownBlock = some k → k < w1.heap.size := fun i k hi hk => ((o1.2.2.1 i hi).block k hk).2
  obtain ⟨a1, n1, c1, e1⟩ : ∃ A n C, v1 = .slice A n C := by
    rcases o1.cases with ⟨rfl, _⟩ | ⟨g, cap, rfl, _⟩ <;> exact ⟨_, _, _, rfl⟩
  subst e1
  have y1 := x1.below b1 x1.lt
  have y2 := x2.below b1 x2.lt
  have s1 := b1.size
  have B1 := b0.trans (b1.mono (by omega))
  have r2 : w1.cell? ⟨w.heap.size + 1 + 1, 0, none⟩ = some (.slice none 0 0) := y2.cell 0
  have rf := y2.froz 0
  have t0 : w1.cell? ⟨w.heap.size + 1, 0, none⟩ = some (.slice none 0 0) := y1.cell 0
  have f0 := y1.froz 0
  have HWr := Lib.hid (fun (w3 : World) (v3 v4 : Value) (e : w3 = (w1.setCell ⟨w.heap.size + 1 + 1, 0, none⟩ v3).setCell ⟨w.heap.size + 1, 0, none⟩ v4) => (show Wr (w.heap.size + 1) (w.heap.size + 3) w1 w3 ∧ w3.heap.size = w1.heap.size from by
    subst e
    exact ⟨(Wr.set _ _ w1 _ 0 v3 (by omega)).trans (Wr.set _ _ _ _ 0 v4 (by omega)), by simp⟩))
  rw [hz] at o1 s1
  have HP : Hid (OwnG w1 (w.heap.size + 3) w1.heap.size (.agg #[.slice a1 n1 c1]) bs) := ⟨_, vs1, rfl, o1, fun k hk => (hU1 k hk).2, hV1⟩
  have HB := Lib.hid (And.intro B1 s1)
  clear x1 x2 b0 y1 y2 o1 o1' b1 B1 HX HB0 hz s1 hU1 hV1
  go_wp2
  refine bodyPost_ret (v := .agg #[.slice a1 n1 c1]) (by simp [results, Try.results8, go_sem, r2, t0, f0, rf]) rfl ?_
  obtain ⟨hw, hsz⟩ := HWr.out _ _ _ rfl
  obtain ⟨B1, s1⟩ := HB.out
  refine ⟨_, rfl, ?_, hw.belowT B1 (by omega) (by omega), by rw [hsz]; omega⟩
  rw [hsz]
  obtain ⟨h, vs, e, p1, p2, p3⟩ := HP.out
  exact ⟨h, vs, e, p1.wr hw p2 p3 (.inr (by omega)), p2, p3⟩
theorem eqG_own {w : World} {B1 T1 B2 T2 : Nat} {v1 v2 : Value} {bs : List (List Int)} (o1 : OwnG w B1 T1 v1 bs) (o2 : OwnG w B2 T2 v2 bs) :
    Calls Try.prog 12 #[v1, v2] w (BbP true w) := by
  obtain ⟨h1, vs1, rfl, p1, _⟩ := o1
  obtain ⟨h2, vs2, rfl, p2, _⟩ := o2
  have b0 : Below w.heap.size w ((w.alloc (.cells #[h1] 31)).alloc (.cells #[h2] 31)) := ((Below.refl _ _).alloc (Nat.le_refl _) _).alloc (by simp) _
  have HH := Lib.hid (eq2_ownW (Own2W.below p1 b0 (Nat.le_refl _)) (Own2W.below p2 b0 (Nat.le_refl _)))
  clear p1 p2
  go_enter Try.func12, Try.ntmps12
  go_wp2_with fail
  refine HH.out.mono ?_; rintro e w1 ⟨k1, rfl, rfl⟩
  have b1 := below_drewN k1 b0
  go_wp2
  go_ret
  exact ⟨rfl, by first | exact b1 | (rw [← World.drewN_drewN]; exact b1)⟩
theorem markG_own {w : World} {B T : Nat} {v : Value} {bs : List (List Int)} (o : OwnG w B T v bs) (hs1 : (bs.map List.length).sum ≤ 1048576) (hB : B ≤ w.heap.size) :
    Calls Try.prog 14 #[v, .int .i64 1] w (fun e w' => e = .returned (.int .i64 (1 + ((bs.map List.length).sum : Nat))) ∧ Wr B T w w') := by
  obtain ⟨h, vs, rfl, p, hh, hv⟩ := o
  have p0 := Own2W.below p ((Below.refl w.heap.size w).alloc (Nat.le_refl _) (.cells #[h] 31)) (Nat.le_refl _)
  have W0 := Wr.alloc B T w (.cells #[h] 31)
  have hsz : (w.alloc (.cells #[h] 31)).heap.size = w.heap.size + 1 := Array.size_push _
  have HH := Lib.hid (mark2_ownW 1 p0 (by omega) (by omega))
  have HR := Lib.hid (fun (w1 : World) (B1 : Below B (w.alloc (.cells #[h] 31)) w1) (hf : Frm vs (bs.map List.length).length (w.alloc (.cells #[h] 31)) w1) => (show Wr B T w w1 from by
    rw [List.length_map] at hf
    refine W0.trans ⟨B1.os, B1.tape, B1.output, B1.size, fun b hb hr => hf b hb fun i hi e => ?_⟩
    have h1 := (p.2.2.1 i hi).block _ e
    have h2 := hv i b hi e
    omega))
  clear p p0 hh hv W0 hs1
  go_enter Try.func14, Try.ntmps14
  go_wp2_with fail
  refine HH.out.mono ?_; rintro e w1 ⟨rfl, o1, b1, _, f1⟩
  have W1 := HR.out w1 b1 f1
  clear b1 f1 o1
  go_wp2
  go_ret
  exact ⟨by first | rfl | simp, W1⟩
end Go.Proofs.Ytepobkflahjldaa.Pb
