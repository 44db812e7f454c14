/- Policies that came in by value: their size, and a copy of the call's own. -/
import Derived.Test.YtakjkbjooongkaaCpol
import Derived.Test.YtakjkbjooongkaaCtoM
import Derived.Test.YtakjkbjooongkaaCblk
namespace Go.Proofs.Ytakjkbjooongkaa
open Go.RowKit
theorem weak2 {w : World} {B : Nat} {v : Value} {vs : List Value} {R : List (List Int)} (h : Own2 w B v vs R) : Own2W w B v vs R := ⟨h.1, h.2.1, fun i hi => (h.2.2.1 i hi).weak, h.2.2.2⟩
def NbI (n : Int) (w : World) (e : Ending) (w' : World) : Prop := e = .returned (.int .i64 n) ∧ Below w.heap.size w w'
theorem szP_yes (a a' : Option Addr) (c c' len' : Nat) (hs : List (List Int)) (w : World) (hm : IsMatL w a hs) (h : hs.length + (lens hs).sum + len' ≤ 1048576) :
    Calls Try.prog 10 #[.agg #[.slice a hs.length c, .slice a' len' c'], .int .i64 1048576] w (NbI (1048576 - hs.length - ((lens hs).sum : Nat) - len') w) := by
  have b0 := (Below.refl w.heap.size w).alloc (Nat.le_refl _) (.cells #[.slice a hs.length c, .slice a' len' c'] 26)
  have H1 := Lib.hid (szM_yes a c hs 1048576 _ (hm.below b0) (by omega) (by omega))
  have H2 := Lib.hid (szI_yes a' len' c' (1048576 - hs.length - ((lens hs).sum : Nat)) (w.alloc (.cells #[.slice a hs.length c, .slice a' len' c'] 26)) (by omega) (by omega))
  have n1 : ¬ ((1048576 : Int) - (hs.length : Int) - ((lens hs).sum : Nat)) < 0 := by omega
  have n2 : ¬ ((1048576 : Int) - (hs.length : Int) - ((lens hs).sum : Nat) - (len' : Int)) < 0 := by omega
  clear hm h
  generalize (lens hs).sum = T at *
  generalize hs.length = N at *
  go_enter Try.func10, Try.ntmps10
  go_wp2_with fail
  refine H1.out.mono ?_; rintro e w' ⟨rfl, rfl⟩
  go_wp2_with fail
  refine H2.out.mono ?_; rintro e w' ⟨rfl, rfl⟩
  go_wp2
  go_ret
  exact ⟨rfl, b0⟩
theorem szP_no (a a' : Option Addr) (c c' len' : Nat) (hs : List (List Int)) (w : World) (hm : IsMatL w a hs) (hl : len' ≤ 9223372036854775807) (h : ¬ hs.length + (lens hs).sum + len' ≤ 1048576) :
    Calls Try.prog 10 #[.agg #[.slice a hs.length c, .slice a' len' c'], .int .i64 1048576] w (NbI (-1) w) := by
  have b0 := (Below.refl w.heap.size w).alloc (Nat.le_refl _) (.cells #[.slice a hs.length c, .slice a' len' c'] 26)
  by_cases h1 : hs.length + (lens hs).sum ≤ 1048576
  · have H1 := Lib.hid (szM_yes a c hs 1048576 _ (hm.below b0) (by omega) (by omega))
    have H2 := Lib.hid (szI_no a' len' c' (1048576 - hs.length - ((lens hs).sum : Nat)) (w.alloc (.cells #[.slice a hs.length c, .slice a' len' c'] 26)) (by omega) (by omega) (by omega) hl)
    have n1 : ¬ ((1048576 : Int) - (hs.length : Int) - ((lens hs).sum : Nat)) < 0 := by omega
    clear hm h h1
    generalize (lens hs).sum = T at *
    generalize hs.length = N at *
    go_enter Try.func10, Try.ntmps10
    go_wp2_with fail
    refine H1.out.mono ?_; rintro e w' ⟨rfl, rfl⟩
    go_wp2_with fail
    refine H2.out.mono ?_; rintro e w' ⟨rfl, rfl⟩
    go_wp2
    go_ret
    exact ⟨rfl, b0⟩
  · have H1 := Lib.hid (szM_no a c hs 1048576 _ (hm.below b0) (by omega) (by omega) (by omega))
    clear hm h h1
    generalize hs.length = N at *
    go_enter Try.func10, Try.ntmps10
    go_wp2_with fail
    refine H1.out.mono ?_; rintro e w' ⟨rfl, rfl⟩
    go_wp2
    go_ret
    exact ⟨rfl, b0⟩
theorem Wr.set (B T : Nat) (w : World) (b o : Nat) (v : Value) (h : B ≤ b ∧ b < T) : Wr B T w (w.setCell ⟨b, o, none⟩ v) :=
  ⟨rfl, rfl, rfl, by simp, fun i _ hi => Go.heap_setCell_other w ⟨b, o, none⟩ i v (fun e => by simp at e; omega)⟩
def CopP (hs : List (List Int)) (ms : List Int) (w : World) (e : Ending) (w' : World) : Prop := ∃ u, e = .returned u ∧ OwnP w' (w.heap.size + 3) w'.heap.size u hs ms ∧ Below w.heap.size w w'
def CopS (hs : List (List Int)) (ms : List Int) (w : World) (e : Ending) (w' : World) : Prop := ∃ u, e = .returned u ∧ OwnP w' (w.heap.size + 3) w'.heap.size u hs ms ∧ Below w.heap.size w w' ∧ w.heap.size + 3 ≤ w'.heap.size
set_option maxHeartbeats 4000000 in
theorem toP_big (a a' : Option Addr) (c c' len' : Nat) (hs : List (List Int)) (zs : List Int) (w : World) (hm : IsMatL w a hs) (hr : IsRow .i64 w a' len' c' zs) (h : hs.length + (lens hs).sum + len' ≤ 1048576) :
    Calls Try.prog 13 #[.agg #[.slice a hs.length c, .slice a' len' c']] w (CopS hs (zs.take len') w) := by
  have HM := Lib.hid (fun (w' : World) (hb : Below w.heap.size w w') => toM_any a c hs w' (hm.below hb) (by omega))
  have HR := Lib.hid (fun (w' : World) (hb : Below w.heap.size w w') => to_any a' len' c' zs w' (isRow_below hr hb) (by omega))
  clear hm hr h
  generalize zs.take len' = ms at *
  generalize hN : hs.length = N at *
  have hNN := Lib.hid hN
  clear hN
  go_enter Try.func13, Try.ntmps13
  go_wp2_with fail
  have b0 : Below w.heap.size w (((w.alloc (.cells #[.slice a N c, .slice a' len' c'] 26)).alloc (.cells #[.slice none 0 0, .slice none 0 0] 32)).alloc (.cells #[.slice none 0 0, .slice none 0 0] 32)) :=
    (((Below.refl _ w).alloc (Nat.le_refl _) _).alloc (by simp) _).alloc (by simp; omega) _
  have BZ : Blk (((w.alloc (.cells #[.slice a N c, .slice a' len' c'] 26)).alloc (.cells #[.slice none 0 0, .slice none 0 0] 32)).alloc (.cells #[.slice none 0 0, .slice none 0 0] 32)) w.heap.size [.slice a N c, .slice a' len' c'] 26 := Blk.alloc (Blk.alloc (Blk.newAt w _ _ _ rfl) _) _
  have BZ1 : Blk (((w.alloc (.cells #[.slice a N c, .slice a' len' c'] 26)).alloc (.cells #[.slice none 0 0, .slice none 0 0] 32)).alloc (.cells #[.slice none 0 0, .slice none 0 0] 32)) (w.heap.size + 1) [.slice none 0 0, .slice none 0 0] 32 := Blk.alloc (Blk.newAt _ _ _ _ (by simp)) _
  have BZ2 : Blk (((w.alloc (.cells #[.slice a N c, .slice a' len' c'] 26)).alloc (.cells #[.slice none 0 0, .slice none 0 0] 32)).alloc (.cells #[.slice none 0 0, .slice none 0 0] 32)) (w.heap.size + 1 + 1) [.slice none 0 0, .slice none 0 0] 32 := Blk.newAt _ _ _ _ (by simp)
  have hz0 : (((w.alloc (.cells #[.slice a N c, .slice a' len' c'] 26)).alloc (.cells #[.slice none 0 0, .slice none 0 0] 32)).alloc (.cells #[.slice none 0 0, .slice none 0 0] 32)).heap.size = w.heap.size + 3 := by simp
  generalize (((w.alloc (.cells #[.slice a N c, .slice a' len' c'] 26)).alloc (.cells #[.slice none 0 0, .slice none 0 0] 32)).alloc (.cells #[.slice none 0 0, .slice none 0 0] 32)) = W0 at *
  refine (HM.out W0 b0).mono ?_; rintro e w1 ⟨v1, vs1, rfl, o1, b1⟩
  have ow1 := weak2 o1
  have hU1 : ∀ k, v1.ownBlock = some k → W0.heap.size ≤ k ∧ k < w1.heap.size := fun k hk => by
    rcases ow1.cases with ⟨rfl, _⟩ | ⟨g, cap, rfl, hB, hg, _⟩
    · simp [Value.ownBlock] at hk
    · simp [Value.ownBlock] at hk; omega
  have hV1 : ∀ i k, i < hs.length → (vs1.getD i s0).ownBlock = some k → k < w1.heap.size := fun i k hi hk => ((ow1.2.2.1 i hi).block k hk).2
  obtain ⟨A1, n1, C1, e1⟩ : ∃ A n C, v1 = .slice A n C := by
    rcases ow1.cases with ⟨rfl, _⟩ | ⟨g, cap, rfl, _⟩ <;> exact ⟨_, _, _, rfl⟩
  subst e1
  have kz := BZ.below b1 (by omega)
  have kz1 := BZ1.below b1 (by omega)
  have kz2 := BZ2.below b1 (by omega)
  have B1 := bt b0 b1
  have s1 := b1.size
  clear o1 b1 b0 BZ BZ1 BZ2
  have p1 : w1.cell? ⟨w.heap.size, 1, none⟩ = some (.slice a' len' c') := kz.cell 1
  have q0 : w1.cell? ⟨w.heap.size + 1 + 1, 0, none⟩ = some (.slice none 0 0) := kz2.cell 0
  have f0 := kz2.froz 0
  go_wp2_with fail
  have kS : Keep (w.heap.size + 1 + 1) w1 (w1.setCell ⟨w.heap.size + 1 + 1, 0, none⟩ (.slice A1 n1 C1)) := keep_set (w.heap.size + 1 + 1) [.slice A1 n1 C1] 0 w1
  have bS : Blk (w1.setCell ⟨w.heap.size + 1 + 1, 0, none⟩ (.slice A1 n1 C1)) (w.heap.size + 1 + 1) [.slice A1 n1 C1, .slice none 0 0] 32 := blk_set (w.heap.size + 1 + 1) _ [.slice A1 n1 C1] 0 _ w1 kz2 (by simp)
  have bS1 := kS.blk kz1 (by omega)
  have wS : Wr (w.heap.size + 1) (w.heap.size + 3) w1 (w1.setCell ⟨w.heap.size + 1 + 1, 0, none⟩ (.slice A1 n1 C1)) := Wr.set _ _ w1 _ 0 _ (by omega)
  generalize w1.setCell ⟨w.heap.size + 1 + 1, 0, none⟩ (.slice A1 n1 C1) = S1 at *
  have oS := ow1.wr wS (U := w1.heap.size) (fun k hk => (hU1 k hk).2) hV1 (.inr (by omega))
  have BS : Below w.heap.size w S1 := B1.trans (kS.below (by omega))
  have sS := kS.size
  clear ow1 kz kz1 kz2 p1 q0 f0 kS wS B1
  refine (HR.out S1 BS).mono ?_; rintro e w2 ⟨v2, rfl, o2, b2⟩
  have ob2 := o2.block
  have oh2 := Own2W.below oS b2 (Nat.le_refl _)
  have om2 := o2.weak
  obtain ⟨A2, C2, e2, _⟩ := o2.rd
  subst e2
  have r0' := bS.below b2 bS.lt
  have r1' := bS1.below b2 bS1.lt
  have B2 := bt BS b2
  have s2 := b2.size
  have c0 : w2.cell? ⟨w.heap.size + 1 + 1, 0, none⟩ = some (.slice A1 n1 C1) := r0'.cell 0
  have c1 : w2.cell? ⟨w.heap.size + 1 + 1, 1, none⟩ = some (.slice none 0 0) := r0'.cell 1
  have f1 := r0'.froz 1
  have z0 : w2.cell? ⟨w.heap.size + 1, 0, none⟩ = some (.slice none 0 0) := r1'.cell 0
  have z1 : w2.cell? ⟨w.heap.size + 1, 1, none⟩ = some (.slice none 0 0) := r1'.cell 1
  have g0 := r1'.froz 0
  have g1 := r1'.froz 1
  have HP : Hid (OwnP w2 (w.heap.size + 3) w2.heap.size (.agg #[.slice A1 n1 C1, .slice A2 ms.length C2]) hs ms) :=
    ⟨_, _, vs1, rfl, by rw [hz0] at oh2; exact oh2, om2.mono (by omega), fun b hb => ⟨fun h => by have h1 := (hU1 b h).2; have h2 := (ob2 b hb).1; omega, fun i hi h => by have h1 := hV1 i b hi h; have h2 := (ob2 b hb).1; omega⟩,
      fun k hk => (ob2 k hk).2, fun k hk => by have h1 := (hU1 k hk).2; omega, fun i k hi hk => by have h1 := hV1 i k hi hk; omega⟩
  have HWr := Lib.hid (fun (w3 : World) (v3 v4 v5 : Value) (e : w3 = ((w2.setCell ⟨w.heap.size + 1 + 1, 1, none⟩ v3).setCell ⟨w.heap.size + 1, 0, none⟩ v4).setCell ⟨w.heap.size + 1, 1, none⟩ v5) => (show Wr (w.heap.size + 1) (w.heap.size + 3) w2 w3 ∧ w3.heap.size = w2.heap.size from by
    subst e
    exact ⟨((Wr.set _ _ w2 _ 1 v3 (by omega)).trans (Wr.set _ _ _ _ 0 v4 (by omega))).trans (Wr.set _ _ _ _ 1 v5 (by omega)), by simp⟩))
  have HB := Lib.hid B2
  clear oS oh2 om2 o2 b2 r0' r1' bS bS1 hU1 hV1 ob2 B2 BS
  go_wp2
  refine bodyPost_ret (v := .agg #[.slice A1 n1 C1, .slice A2 ms.length C2]) (by simp [results, Try.results13, go_sem, c0, c1, z0, z1, f1, g0, g1]) rfl ?_
  obtain ⟨hw, hsz⟩ := HWr.out _ _ _ _ rfl
  refine ⟨_, rfl, ?_, hw.belowT HB.out (by omega) (by omega), by rw [hsz]; omega⟩
  rw [hsz]
  exact HP.out.wr hw (.inr (by omega))
theorem toP_any (a a' : Option Addr) (c c' len' : Nat) (hs : List (List Int)) (zs : List Int) (w : World) (hm : IsMatL w a hs) (hr : IsRow .i64 w a' len' c' zs) (h : hs.length + (lens hs).sum + len' ≤ 1048576) :
    Calls Try.prog 13 #[.agg #[.slice a hs.length c, .slice a' len' c']] w (CopP hs (zs.take len') w) :=
  (toP_big a a' c c' len' hs zs w hm hr h).mono fun _ _ ⟨u, h1, h2, h3, _⟩ => ⟨u, h1, h2, h3⟩
end Go.Proofs.Ytakjkbjooongkaa
