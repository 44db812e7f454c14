/- Caches by value: their size, copies, comparison; the contracts of both ValidCache. -/
import Derived.Test.YtcbchkblobpdiaaCvp
namespace Go.Proofs.Ytcbchkblobpdiaa.Pv
open Go.RowKit
theorem szC_yes (a a' : Option Addr) (c c' len' : Nat) (hs : List (List Int)) (bk al : Bool) (w : World) (hm : IsMatL w a hs) (h : hs.length + (lens hs).sum + len' ≤ 1048576) :
    Calls Try.prog 6 #[.agg #[.slice a hs.length c, .slice a' len' c', .bool bk, .bool al], .int .i64 1048576] w (NbI (1048576 - hs.length - ((lens hs).sum : Nat) - len') w) := by
  have b0 := (Below.refl w.heap.size w).alloc (Nat.le_refl _) (.cells #[.slice a hs.length c, .slice a' len' c', .bool bk, .bool al] 27)
  have H1 := Lib.hid (szP_yes a a' c c' len' hs _ (hm.below b0) h)
  have n2 : ¬ ((1048576 : Int) - (hs.length : Int) - ((lens hs).sum : Nat) - (len' : Int)) < 0 := by omega
  have B0 := Lib.hid b0
  clear hm h b0
  generalize (lens hs).sum = T at *
  generalize hs.length = N at *
  go_enter Try.func6, Try.ntmps6
  go_wp2_with fail
  refine H1.out.mono ?_; rintro e w' ⟨rfl, b1⟩
  have B1 := Lib.hid (bt B0.out b1)
  clear b1
  go_wp2
  go_ret
  exact ⟨rfl, B1.out⟩
theorem szC_no (a a' : Option Addr) (c c' len' : Nat) (hs : List (List Int)) (bk al : Bool) (w : World) (hm : IsMatL w a hs) (hl : len' ≤ 9223372036854775807) (h : ¬ hs.length + (lens hs).sum + len' ≤ 1048576) :
    Calls Try.prog 6 #[.agg #[.slice a hs.length c, .slice a' len' c', .bool bk, .bool al], .int .i64 1048576] w (NbI (-1) w) := by
  have b0 := (Below.refl w.heap.size w).alloc (Nat.le_refl _) (.cells #[.slice a hs.length c, .slice a' len' c', .bool bk, .bool al] 27)
  have H1 := Lib.hid (szP_no a a' c c' len' hs _ (hm.below b0) hl h)
  have B0 := Lib.hid b0
  clear hm h b0
  generalize hs.length = N at *
  go_enter Try.func6, Try.ntmps6
  go_wp2_with fail
  refine H1.out.mono ?_; rintro e w' ⟨rfl, b1⟩
  have B1 := Lib.hid (bt B0.out b1)
  clear b1
  go_wp2
  go_ret
  exact ⟨rfl, B1.out⟩
theorem RdP.belowC {w w' : World} {v : Value} {hs : List (List Int)} {ms : List Int} (h : RdP w v hs ms) (hb : Below w.heap.size w w') : RdP w' v hs ms := by
  obtain ⟨a, c, a', c', e, h1, h2, h3, h4, h5⟩ := h
  exact ⟨a, c, a', c', e, h1.below hb, h2, h3.below hb, h4, h5⟩
/-- A copy of a cache: its policy is the call's own. -/
def CopC (hs : List (List Int)) (ms : List Int) (bk al : Bool) (w : World) (e : Ending) (w' : World) : Prop :=
  ∃ a n c a' n' c', e = .returned (.agg #[.slice a n c, .slice a' n' c', .bool bk, .bool al]) ∧ OwnP w' (w.heap.size + 6) w'.heap.size (.agg #[.slice a n c, .slice a' n' c']) hs ms ∧ Below w.heap.size w w' ∧ w.heap.size + 6 ≤ w'.heap.size
theorem wr4 (B T : Nat) (w : World) (b o : Nat) (v0 v1 v2 v3 : Value) (h : B ≤ b ∧ b < T) : Wr B T w ((((w.setCell ⟨b, o, none⟩ v0).setCell ⟨b, o + 1, none⟩ v1).setCell ⟨b, o + 2, none⟩ v2).setCell ⟨b, o + 3, none⟩ v3) :=
  (((Wr.set B T w b o v0 h).trans (Wr.set B T _ b (o + 1) v1 h)).trans (Wr.set B T _ b (o + 2) v2 h)).trans (Wr.set B T _ b (o + 3) v3 h)
theorem Keep.wr {b B T : Nat} {w w' : World} (h : Keep b w w') (hB : B ≤ b ∧ b < T) : Wr B T w w' := ⟨h.os, h.tape, h.output, Nat.le_of_eq h.size.symm, fun i _ hi => h.block i (by omega)⟩
set_option maxRecDepth 100000 in
set_option maxHeartbeats 4000000 in
theorem toC_any (a a' : Option Addr) (c c' len' : Nat) (hs : List (List Int)) (zs : List Int) (bk al : Bool) (w : World) (hm : IsMatL w a hs) (hr : IsRow .i64 w a' len' c' zs) (h : hs.length + (lens hs).sum + len' ≤ 1048576) :
    Calls Try.prog 8 #[.agg #[.slice a hs.length c, .slice a' len' c', .bool bk, .bool al]] w (CopC hs (zs.take len') bk al w) := by
  have HP := Lib.hid (fun (w' : World) (hb : Below w.heap.size w w') => toP_big a a' c c' len' hs zs w' (hm.below hb) (isRow_below hr hb) h)
  clear hm hr h
  generalize zs.take len' = ms at *
  generalize hN : hs.length = N at *
  have hNN := Lib.hid hN
  clear hN
  go_enter Try.func8, Try.ntmps8
  go_wp2_with fail
  obtain ⟨W0, hW0⟩ : ∃ W0, W0 = (((w.alloc (.cells #[.slice a N c, .slice a' len' c', .bool bk, .bool al] 27)).alloc (.cells #[.slice none 0 0, .slice none 0 0, .bool false, .bool false] 32)).alloc (.cells #[.slice none 0 0, .slice none 0 0, .bool false, .bool false] 32)) := ⟨_, rfl⟩
  have b0 : Below w.heap.size w W0 := by rw [hW0]; exact (((Below.refl _ w).alloc (Nat.le_refl _) _).alloc (by simp) _).alloc (by simp; omega) _
  have BZ : Blk W0 w.heap.size [.slice a N c, .slice a' len' c', .bool bk, .bool al] 27 := by rw [hW0]; exact Blk.alloc (Blk.alloc (Blk.newAt w _ _ _ rfl) _) _
  have BZ1 : Blk W0 (w.heap.size + 1) [.slice none 0 0, .slice none 0 0, .bool false, .bool false] 32 := by rw [hW0]; exact Blk.alloc (Blk.newAt _ _ _ _ (by simp)) _
  have BZ2 : Blk W0 (w.heap.size + 1 + 1) [.slice none 0 0, .slice none 0 0, .bool false, .bool false] 32 := by rw [hW0]; exact Blk.newAt _ _ _ _ (by simp)
  have hz0 : W0.heap.size = w.heap.size + 3 := by rw [hW0]; simp
  rw [← hW0]
  clear hW0
  refine (HP.out W0 b0).mono ?_; rintro e w1 ⟨v1, rfl, o1, b1, hs1⟩
  obtain ⟨A1, n1, C1, A2, n2, C2, rfl⟩ := o1.form
  have kz := BZ.below b1 BZ.lt
  have kz1 := BZ1.below b1 BZ1.lt
  have kz2 := BZ2.below b1 BZ2.lt
  have B1 := Lib.hid (bt b0 b1)
  have O1 := Lib.hid o1
  clear b1 b0 BZ BZ1 BZ2 o1 HP
  go_wp2_with (with_reducible refine wpList_storeB rfl 30 (.tmp 7) (.tmp 6) rfl (w.heap.size + 1 + 1) 0 [.slice A1 n1 C1, .slice A2 n2 C2] ?_ ?_ [.slice none 0 0, .slice none 0 0, .bool false, .bool false] 32 kz2 ?_ ?_ ?_ ?_)
  all_goals (first | rfl | (simp; done) | kernel_rfl | (intro v hv; simp at hv; rcases hv with rfl | rfl <;> rfl) | skip)
  intro w2 hB2 hK2
  have r2 : Blk w2 (w.heap.size + 1 + 1) [.slice A1 n1 C1, .slice A2 n2 C2, .bool false, .bool false] 32 := hB2.out
  have r1 := hK2.out.blk kz1 (by omega)
  have r0 := hK2.out.blk kz (by omega)
  have W2 : Wr (w.heap.size + 1) (w.heap.size + 3) w1 w2 := Keep.wr hK2.out (by omega)
  have e2 : w2.heap.size = w1.heap.size := hK2.out.size
  clear hB2 hK2 kz kz1 kz2
  have p1 : w2.cell? ⟨w.heap.size, 1, none⟩ = some (.slice a' len' c') := r0.cell 1
  have p2 : w2.cell? ⟨w.heap.size, 2, none⟩ = some (.bool bk) := r0.cell 2
  have p3 : w2.cell? ⟨w.heap.size, 3, none⟩ = some (.bool al) := r0.cell 3
  have q0 : w2.cell? ⟨w.heap.size + 1 + 1, 0, none⟩ = some (.slice A1 n1 C1) := r2.cell 0
  have q1 : w2.cell? ⟨w.heap.size + 1 + 1, 1, none⟩ = some (.slice A2 n2 C2) := r2.cell 1
  have q2 : w2.cell? ⟨w.heap.size + 1 + 1, 2, none⟩ = some (.bool false) := r2.cell 2
  have q3 : w2.cell? ⟨w.heap.size + 1 + 1, 3, none⟩ = some (.bool false) := r2.cell 3
  have f2 := r2.froz 2
  have f3 := r2.froz 3
  have z0 : w2.cell? ⟨w.heap.size + 1, 0, none⟩ = some (.slice none 0 0) := r1.cell 0
  have z1 : w2.cell? ⟨w.heap.size + 1, 1, none⟩ = some (.slice none 0 0) := r1.cell 1
  have z2 : w2.cell? ⟨w.heap.size + 1, 2, none⟩ = some (.bool false) := r1.cell 2
  have z3 : w2.cell? ⟨w.heap.size + 1, 3, none⟩ = some (.bool false) := r1.cell 3
  have g0 := r1.froz 0
  have g1 := r1.froz 1
  have g2 := r1.froz 2
  have g3 := r1.froz 3
  have HWr := Lib.hid (fun (w3 : World) (e : w3 = (((((w2.setCell ⟨w.heap.size + 1 + 1, 2, none⟩ (.bool bk)).setCell ⟨w.heap.size + 1 + 1, 3, none⟩ (.bool al)).setCell ⟨w.heap.size + 1, 0, none⟩ (.slice A1 n1 C1)).setCell ⟨w.heap.size + 1, 1, none⟩ (.slice A2 n2 C2)).setCell ⟨w.heap.size + 1, 2, none⟩ (.bool bk)).setCell ⟨w.heap.size + 1, 3, none⟩ (.bool al)) => (show Wr (w.heap.size + 1) (w.heap.size + 3) w1 w3 ∧ w3.heap.size = w1.heap.size from by
    subst e
    exact ⟨W2.trans (((Wr.set _ _ w2 _ 2 _ (by omega)).trans (Wr.set _ _ _ _ 3 _ (by omega))).trans (wr4 _ _ _ _ 0 _ _ _ _ (by omega))), by simp [e2]⟩))
  clear r0 r1 r2 W2
  go_wp2
  refine bodyPost_ret (v := .agg #[.slice A1 n1 C1, .slice A2 n2 C2, .bool bk, .bool al]) (by simp [results, Try.results8, go_sem, p2, p3, q0, q1, q2, q3, z0, z1, z2, z3, f2, f3, g0, g1, g2, g3]) rfl ?_
  obtain ⟨hw, hsz⟩ := HWr.out _ rfl
  have hs1' := B1.out.size
  have O3 := O1.out
  rw [hz0] at O3 hs1
  refine ⟨_, _, _, _, _, _, rfl, ?_, hw.belowT B1.out (by omega) (by omega), by rw [hsz]; omega⟩
  rw [hsz]
  exact O3.wr hw (.inr (by omega))
def BbP2 (b : Bool) (w : World) (e : Ending) (w' : World) : Prop := e = .returned (.bool b) ∧ Below w.heap.size w w'
theorem eqC_own {w : World} {B1 T1 B2 T2 : Nat} {a a1 b b1 : Option Addr} {n c n1 c1 m d m1 d1 : Nat} {bk al : Bool} {hs : List (List Int)} {ms : List Int} (o1 : OwnP w B1 T1 (.agg #[.slice a n c, .slice a1 n1 c1]) hs ms) (o2 : OwnP w B2 T2 (.agg #[.slice b m d, .slice b1 m1 d1]) hs ms) :
    Calls Try.prog 10 #[.agg #[.slice a n c, .slice a1 n1 c1, .bool bk, .bool al], .agg #[.slice b m d, .slice b1 m1 d1, .bool bk, .bool al]] w (BbP true w) := by
  obtain ⟨W0, hW0⟩ : ∃ W0, W0 = (w.alloc (.cells #[.slice a n c, .slice a1 n1 c1, .bool bk, .bool al] 32)).alloc (.cells #[.slice b m d, .slice b1 m1 d1, .bool bk, .bool al] 32) := ⟨_, rfl⟩
  have b0 : Below w.heap.size w W0 := by rw [hW0]; exact ((Below.refl _ _).alloc (Nat.le_refl _) _).alloc (by simp) _
  have k1 : Blk W0 w.heap.size [.slice a n c, .slice a1 n1 c1, .bool bk, .bool al] 32 := by rw [hW0]; exact Blk.alloc (Blk.newAt w _ _ _ rfl) _
  have k2 : Blk W0 (w.heap.size + 1) [.slice b m d, .slice b1 m1 d1, .bool bk, .bool al] 32 := by rw [hW0]; exact Blk.newAt _ _ _ _ (by simp)
  have HQ := Lib.hid (eqP_own (OwnP.below o1 b0 (Nat.le_refl _)) (OwnP.below o2 b0 (Nat.le_refl _)))
  clear o1 o2
  go_enter Try.func10, Try.ntmps10
  go_wp2_with fail
  rw [← hW0]
  clear hW0
  refine HQ.out.mono ?_; rintro e w1 ⟨rfl, b1⟩
  have l1 := k1.below b1 k1.lt
  have l2 := k2.below b1 k2.lt
  have B1 := Lib.hid (bt b0 b1)
  have p2 : w1.cell? ⟨w.heap.size, 2, none⟩ = some (.bool bk) := l1.cell 2
  have p3 : w1.cell? ⟨w.heap.size, 3, none⟩ = some (.bool al) := l1.cell 3
  have q2 : w1.cell? ⟨w.heap.size + 1, 2, none⟩ = some (.bool bk) := l2.cell 2
  have q3 : w1.cell? ⟨w.heap.size + 1, 3, none⟩ = some (.bool al) := l2.cell 3
  clear l1 l2 k1 k2 b0 b1
  go_wp2
  go_ret
  exact ⟨rfl, B1.out⟩
theorem validC_s {a a1 : Option Addr} {n c n1 c1 : Nat} {bk al : Bool} {hs : List (List Int)} {ms : List Int} {w : World} (h : RdP w (.agg #[.slice a n c, .slice a1 n1 c1]) hs ms) :
    Calls Try.prog 7 #[.agg #[.slice a n c, .slice a1 n1 c1, .bool bk, .bool al]] w (Bb (isP hs ms) w) := by
  obtain ⟨a, c, a', c', e, h1, h2, h3, h4, h5⟩ := h
  simp at e
  obtain ⟨⟨rfl, rfl, rfl⟩, rfl, rfl, rfl⟩ := e
  have b0 := (Below.refl w.heap.size w).alloc (Nat.le_refl _) (.cells #[.slice a hs.length c, .slice a1 ms.length c1, .bool bk, .bool al] 32)
  have bk1 := Blk.newAt w w.heap.size [.slice a hs.length c, .slice a1 ms.length c1, .bool bk, .bool al] 32 rfl
  have HS := Lib.hid (is_s w.heap.size a a1 c c1 hs ms (w.alloc (.cells #[.slice a hs.length c, .slice a1 ms.length c1, .bool bk, .bool al] 32)) bk1.lt (bk1.cell 0) (bk1.cell 1) (h3.below b0) h5 h4 (h1.below b0) h2)
  clear h1 h3 bk1 h5
  generalize isP hs ms = r at *
  generalize hs.length = N at *
  generalize ms.length = M at *
  go_enter Try.func7, Try.ntmps7
  go_wp2_with fail
  refine HS.out.mono ?_; rintro e w1 ⟨rfl, q, rfl⟩
  go_wp2
  go_ret
  exact ⟨rfl, below_drewN q b0⟩
theorem validC_i {a a1 : Option Addr} {n c n1 c1 : Nat} {bk al : Bool} {hs : List (List Int)} {ms : List Int} {w : World} (h : RdP w (.agg #[.slice a n c, .slice a1 n1 c1]) hs ms) :
    Calls Try.prog 9 #[.agg #[.slice a n c, .slice a1 n1 c1, .bool bk, .bool al]] w (Bb (isP hs ms) w) := by
  have b0 := (Below.refl w.heap.size w).alloc (Nat.le_refl _) (.cells #[.slice a n c, .slice a1 n1 c1, .bool bk, .bool al] 32)
  have HV := Lib.hid (valid_i (w := w.alloc (.cells #[.slice a n c, .slice a1 n1 c1, .bool bk, .bool al] 32)) (RdP.belowC h b0))
  generalize isP hs ms = r at *
  clear h
  go_enter Try.func9, Try.ntmps9
  go_wp2_with fail
  refine HV.out.mono ?_; rintro e w1 ⟨rfl, b1⟩
  have B1 := Lib.hid (bt b0 b1)
  clear b0 b1
  go_wp2
  go_ret
  exact ⟨rfl, B1.out⟩
end Go.Proofs.Ytcbchkblobpdiaa.Pv
