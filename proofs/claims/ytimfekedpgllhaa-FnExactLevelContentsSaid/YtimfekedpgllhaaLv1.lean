/- Levels by value: their size, copies, comparison. The model's test, empty contents and step of a policy that lies at any place of a block. The contracts of both ValidLevels; the model's test of levels behind a pointer. The program's modeOf and emptyLevels; the cells of two levels after some uses. The program's ValidLevels. -/
import Derived.Test.YtimfekedpgllhaaCvp
import Derived.Test.YtimfekedpgllhaaCsz2
import Derived.Test.YtimfekedpgllhaaCemp
import Derived.Test.YtimfekedpgllhaaCstepS
import Derived.Test.YtimfekedpgllhaaFm1
import Derived.Test.YtimfekedpgllhaaCbtg
import Derived.Great.BuildSlice
import Derived.Deep.Cut
namespace Go.Proofs.Ytimfekedpgllhaa.Pv
open Go.RowKit
/-- Two policies and a mode, as they came in. -/
abbrev lvV (a a' b b' : Option Addr) (n c n' c' m d m' d' : Nat) (md : Int) : Value := .agg #[.slice a n c, .slice a' n' c', .slice b m d, .slice b' m' d', .int .i64 md]
theorem szL_yes (a a' b b' : Option Addr) (c c' len' d d' lenq : Nat) (hs hq : List (List Int)) (md : Int) (w : World) (hm : IsMatL w a hs) (hmq : IsMatL w b hq) (h : hs.length + (lens hs).sum + len' ≤ 1048576)
    (hlq : (hq.length : Int) + ((lens hq).sum : Nat) + (lenq : Int) ≤ 1048576 - hs.length - ((lens hs).sum : Nat) - len') :
    Calls Try.prog 7 #[lvV a a' b b' hs.length c len' c' hq.length d lenq d' md, .int .i64 1048576] w (NbI (1048576 - hs.length - ((lens hs).sum : Nat) - len' - hq.length - ((lens hq).sum : Nat) - lenq) w) := by
  obtain ⟨W0, hW0⟩ : ∃ W0, W0 = w.alloc (.cells #[.slice a hs.length c, .slice a' len' c', .slice b hq.length d, .slice b' lenq d', .int .i64 md] 27) := ⟨_, rfl⟩
  have b0 : Below w.heap.size w W0 := by rw [hW0]; exact (Below.refl w.heap.size w).alloc (Nat.le_refl _) _
  have k0 : Blk W0 w.heap.size [.slice a hs.length c, .slice a' len' c', .slice b hq.length d, .slice b' lenq d', .int .i64 md] 27 := by rw [hW0]; exact Blk.newAt w _ _ _ rfl
  have H1 := Lib.hid (szP_yes a a' c c' len' hs W0 (hm.below b0) h)
  have H2 := Lib.hid (fun (w' : World) (hb : Below w.heap.size w w') => szPG_yes b b' d d' lenq hq (1048576 - hs.length - ((lens hs).sum : Nat) - len') w' (by omega) (hmq.below hb) hlq)
  have n1 : ¬ ((1048576 : Int) - (hs.length : Int) - ((lens hs).sum : Nat) - (len' : Int)) < 0 := by omega
  have n2 : ¬ ((1048576 : Int) - (hs.length : Int) - ((lens hs).sum : Nat) - (len' : Int) - (hq.length : Int) - ((lens hq).sum : Nat) - (lenq : Int)) < 0 := by omega
  have B0 := Lib.hid b0
  have HZ := Lib.hid (fun (w' : World) (hb : Below W0.heap.size W0 w') => (show w'.cell? ⟨w.heap.size, 2, none⟩ = some (.slice b hq.length d) ∧ w'.cell? ⟨w.heap.size, 3, none⟩ = some (.slice b' lenq d') from ⟨(k0.below hb k0.lt).cell 2, (k0.below hb k0.lt).cell 3⟩))
  clear hm hmq h hlq b0 k0
  generalize (lens hs).sum = T at *
  generalize hs.length = N at *
  generalize (lens hq).sum = T2 at *
  generalize hq.length = M at *
  unfold lvV
  go_enter Try.func7, Try.ntmps7
  go_wp2_with fail
  rw [← hW0]
  clear hW0
  refine H1.out.mono ?_; rintro e w1 ⟨rfl, b1⟩
  obtain ⟨z2, z3⟩ := HZ.out w1 b1
  have B1 := Lib.hid (bt B0.out b1)
  clear b1
  go_wp2_with fail
  refine (H2.out w1 B1.out).mono ?_; rintro e w2 ⟨rfl, b2⟩
  have B2 := Lib.hid (bt B1.out b2)
  clear b2
  go_wp2
  go_ret
  exact ⟨rfl, B2.out⟩
theorem szL_no1 (a a' b b' : Option Addr) (c c' len' d d' lenq m : Nat) (hs : List (List Int)) (md : Int) (w : World) (hm : IsMatL w a hs) (hl : len' ≤ 9223372036854775807) (h : ¬ hs.length + (lens hs).sum + len' ≤ 1048576) :
    Calls Try.prog 7 #[lvV a a' b b' hs.length c len' c' m d lenq d' md, .int .i64 1048576] w (NbI (-1) w) := by
  have b0 := (Below.refl w.heap.size w).alloc (Nat.le_refl _) (.cells #[.slice a hs.length c, .slice a' len' c', .slice b m d, .slice b' lenq d', .int .i64 md] 27)
  have H1 := Lib.hid (szP_no a a' c c' len' hs _ (hm.below b0) hl h)
  have B0 := Lib.hid b0
  clear hm h b0
  generalize hs.length = N at *
  unfold lvV
  go_enter Try.func7, Try.ntmps7
  go_wp2_with fail
  refine H1.out.mono ?_; rintro e w1 ⟨rfl, b1⟩
  have B1 := Lib.hid (bt B0.out b1)
  clear b1
  go_wp2
  go_ret
  exact ⟨rfl, B1.out⟩
theorem szL_no2 (a a' b b' : Option Addr) (c c' len' d d' lenq : Nat) (hs hq : List (List Int)) (md : Int) (w : World) (hm : IsMatL w a hs) (hmq : IsMatL w b hq) (h : hs.length + (lens hs).sum + len' ≤ 1048576) (hl : lenq ≤ 9223372036854775807)
    (hlq : ¬ (hq.length : Int) + ((lens hq).sum : Nat) + (lenq : Int) ≤ 1048576 - hs.length - ((lens hs).sum : Nat) - len') :
    Calls Try.prog 7 #[lvV a a' b b' hs.length c len' c' hq.length d lenq d' md, .int .i64 1048576] w (NbI (-1) w) := by
  obtain ⟨W0, hW0⟩ : ∃ W0, W0 = w.alloc (.cells #[.slice a hs.length c, .slice a' len' c', .slice b hq.length d, .slice b' lenq d', .int .i64 md] 27) := ⟨_, rfl⟩
  have b0 : Below w.heap.size w W0 := by rw [hW0]; exact (Below.refl w.heap.size w).alloc (Nat.le_refl _) _
  have k0 : Blk W0 w.heap.size [.slice a hs.length c, .slice a' len' c', .slice b hq.length d, .slice b' lenq d', .int .i64 md] 27 := by rw [hW0]; exact Blk.newAt w _ _ _ rfl
  have H1 := Lib.hid (szP_yes a a' c c' len' hs W0 (hm.below b0) h)
  have H2 := Lib.hid (fun (w' : World) (hb : Below w.heap.size w w') => szPG_no b b' d d' lenq hq (1048576 - hs.length - ((lens hs).sum : Nat) - len') w' (by omega) (by omega) (hmq.below hb) hl hlq)
  have n1 : ¬ ((1048576 : Int) - (hs.length : Int) - ((lens hs).sum : Nat) - (len' : Int)) < 0 := by omega
  have B0 := Lib.hid b0
  have HZ := Lib.hid (fun (w' : World) (hb : Below W0.heap.size W0 w') => (show w'.cell? ⟨w.heap.size, 2, none⟩ = some (.slice b hq.length d) ∧ w'.cell? ⟨w.heap.size, 3, none⟩ = some (.slice b' lenq d') from ⟨(k0.below hb k0.lt).cell 2, (k0.below hb k0.lt).cell 3⟩))
  clear hm hmq h hlq b0 k0
  generalize (lens hs).sum = T at *
  generalize hs.length = N at *
  generalize (lens hq).sum = T2 at *
  generalize hq.length = M at *
  unfold lvV
  go_enter Try.func7, Try.ntmps7
  go_wp2_with fail
  rw [← hW0]
  clear hW0
  refine H1.out.mono ?_; rintro e w1 ⟨rfl, b1⟩
  obtain ⟨z2, z3⟩ := HZ.out w1 b1
  have B1 := Lib.hid (bt B0.out b1)
  clear b1
  go_wp2_with fail
  refine (H2.out w1 B1.out).mono ?_; rintro e w2 ⟨rfl, b2⟩
  have B2 := Lib.hid (bt B1.out b2)
  clear b2
  go_wp2
  go_ret
  exact ⟨rfl, B2.out⟩
theorem Keep.wr {b B T : Nat} {w w' : World} (h : Keep b w w') (hB : B ≤ b ∧ b < T) : Wr B T w w' := ⟨h.os, h.tape, h.output, Nat.le_of_eq h.size.symm, fun i _ hi => h.block i (by omega)⟩
theorem wr5 (B T : Nat) (w : World) (b : Nat) (v0 v1 v2 v3 v4 : Value) (h : B ≤ b ∧ b < T) : Wr B T w (((((w.setCell ⟨b, 0, none⟩ v0).setCell ⟨b, 1, none⟩ v1).setCell ⟨b, 2, none⟩ v2).setCell ⟨b, 3, none⟩ v3).setCell ⟨b, 4, none⟩ v4) :=
  ((((Wr.set B T w b 0 v0 h).trans (Wr.set B T _ b 1 v1 h)).trans (Wr.set B T _ b 2 v2 h)).trans (Wr.set B T _ b 3 v3 h)).trans (Wr.set B T _ b 4 v4 h)
/-- A copy of levels: their policies are the call's own, apart from each other. -/
def CopL (hs hq : List (List Int)) (ms mq : List Int) (md : Int) (w : World) (e : Ending) (w' : World) : Prop :=
  ∃ a n c a' n' c' b m d b' m' d' U, e = .returned (lvV a a' b b' n c n' c' m d m' d' md) ∧ OwnP w' (w.heap.size + 6) U (.agg #[.slice a n c, .slice a' n' c']) hs ms ∧ OwnP w' U w'.heap.size (.agg #[.slice b m d, .slice b' m' d']) hq mq ∧ Below w.heap.size w w' ∧ w.heap.size + 6 ≤ U ∧ U ≤ w'.heap.size
theorem OwnP.lift {w : World} {B T T' : Nat} {v : Value} {hs : List (List Int)} {ms : List Int} (h : OwnP w B T v hs ms) (hT : T ≤ T') : OwnP w B T' v hs ms := by
  obtain ⟨hh, m, vs, e, h1, h2, h3, h4, h5, h6⟩ := h
  exact ⟨hh, m, vs, e, h1, h2, h3, fun k hk => Nat.lt_of_lt_of_le (h4 k hk) hT, fun k hk => Nat.lt_of_lt_of_le (h5 k hk) hT, fun i k hi hk => Nat.lt_of_lt_of_le (h6 i k hi hk) hT⟩
theorem OwnP.base {w : World} {B B' T : Nat} {v : Value} {hs : List (List Int)} {ms : List Int} (h : OwnP w B T v hs ms) (hB : B' ≤ B) : OwnP w B' T v hs ms := by
  obtain ⟨hh, m, vs, e, h1, h2, h3, h4⟩ := h
  obtain ⟨k1, k2, k3, k4⟩ := h1
  refine ⟨hh, m, vs, e, ⟨k1, ?_, fun i hi => (k3 i hi).mono hB, k4⟩, h2.mono hB, h3, h4⟩
  refine ⟨k2.1, ?_⟩
  rcases k2.2 with hn | ⟨g, cap, cur, hv, hg, r⟩
  · exact .inl hn
  · exact .inr ⟨g, cap, cur, hv, Nat.le_trans hB hg, r⟩
set_option maxRecDepth 100000 in
set_option maxHeartbeats 8000000 in
theorem toL_any (a a' b b' : Option Addr) (c c' len' d d' lenq : Nat) (hs hq : List (List Int)) (zs zq : List Int) (md : Int) (w : World) (hm : IsMatL w a hs) (hr : IsRow .i64 w a' len' c' zs) (h : hs.length + (lens hs).sum + len' ≤ 1048576)
    (hmq : IsMatL w b hq) (hrq : IsRow .i64 w b' lenq d' zq) (h2 : hq.length + (lens hq).sum + lenq ≤ 1048576) :
    Calls Try.prog 9 #[lvV a a' b b' hs.length c len' c' hq.length d lenq d' md] w (CopL hs hq (zs.take len') (zq.take lenq) md w) := by
  have HP := Lib.hid (fun (w' : World) (hb : Below w.heap.size w w') => toP_big a a' c c' len' hs zs w' (hm.below hb) (isRow_below hr hb) h)
  have HQ := Lib.hid (fun (w' : World) (hb : Below w.heap.size w w') => toP_big b b' d d' lenq hq zq w' (hmq.below hb) (isRow_below hrq hb) h2)
  clear hm hr h hmq hrq h2
  generalize zs.take len' = ms at *
  generalize zq.take lenq = mq at *
  generalize hs.length = N at *
  generalize hq.length = M at *
  unfold CopL lvV
  obtain ⟨W0, hW0⟩ : ∃ W0, W0 = (((w.alloc (.cells #[.slice a N c, .slice a' len' c', .slice b M d, .slice b' lenq d', .int .i64 md] 27)).alloc (.cells #[.slice none 0 0, .slice none 0 0, .slice none 0 0, .slice none 0 0, .int .i64 0] 32)).alloc (.cells #[.slice none 0 0, .slice none 0 0, .slice none 0 0, .slice none 0 0, .int .i64 0] 32)) := ⟨_, rfl⟩
  have b0 : Below w.heap.size w W0 := by rw [hW0]; exact (((Below.refl _ w).alloc (Nat.le_refl _) _).alloc (by simp) _).alloc (by simp; omega) _
  have BZ : Blk W0 w.heap.size [.slice a N c, .slice a' len' c', .slice b M d, .slice b' lenq d', .int .i64 md] 27 := by rw [hW0]; exact Blk.alloc (Blk.alloc (Blk.newAt w _ _ _ rfl) _) _
  have BZ1 : Blk W0 (w.heap.size + 1) [.slice none 0 0, .slice none 0 0, .slice none 0 0, .slice none 0 0, .int .i64 0] 32 := by rw [hW0]; exact Blk.alloc (Blk.newAt _ _ _ _ (by simp)) _
  have BZ2 : Blk W0 (w.heap.size + 1 + 1) [.slice none 0 0, .slice none 0 0, .slice none 0 0, .slice none 0 0, .int .i64 0] 32 := by rw [hW0]; exact Blk.newAt _ _ _ _ (by simp)
  have hz0 : W0.heap.size = w.heap.size + 3 := by rw [hW0]; simp
  have HZ0 := Lib.hid hz0
  clear hz0
  go_enter Try.func9, Try.ntmps9
  go_wp2_with fail
  rw [← hW0]
  clear hW0
  refine (HP.out W0 b0).mono ?_; rintro e w1 ⟨v1, rfl, o1, b1, hs1⟩
  obtain ⟨A1, n1, C1, A2, n2, C2, rfl⟩ := o1.form
  have kz := BZ.below b1 BZ.lt
  have kz1 := BZ1.below b1 BZ1.lt
  have kz2 := BZ2.below b1 BZ2.lt
  have B1 := Lib.hid (bt b0 b1)
  have O1 := Lib.hid o1
  have HS1 := Lib.hid hs1
  clear b1 b0 BZ BZ1 BZ2 o1 HP hs1
  go_wp2_with (with_reducible refine wpList_storeB rfl 30 (.tmp 7) (.tmp 6) rfl (w.heap.size + 1 + 1) 0 [.slice A1 n1 C1, .slice A2 n2 C2] ?_ ?_ [.slice none 0 0, .slice none 0 0, .slice none 0 0, .slice none 0 0, .int .i64 0] 32 kz2 ?_ ?_ ?_ ?_)
  all_goals (first | rfl | (simp; done) | kernel_rfl | (intro v hv; simp at hv; rcases hv with rfl | rfl <;> rfl) | skip)
  intro w2 hB2 hK2
  have r2 : Blk w2 (w.heap.size + 1 + 1) [.slice A1 n1 C1, .slice A2 n2 C2, .slice none 0 0, .slice none 0 0, .int .i64 0] 32 := hB2.out
  have r1 := hK2.out.blk kz1 (by omega)
  have r0 := hK2.out.blk kz (by omega)
  have W2 : Wr (w.heap.size + 1) (w.heap.size + 3) w1 w2 := Keep.wr hK2.out (by omega)
  have e2 : w2.heap.size = w1.heap.size := hK2.out.size
  have O2 := Lib.hid (O1.out.wr W2 (.inr (by have := HZ0.out; omega)))
  have B2 := Lib.hid (show Below w.heap.size w w2 from B1.out.trans (hK2.out.below (by omega)))
  have p2 : w2.cell? ⟨w.heap.size, 2, none⟩ = some (.slice b M d) := r0.cell 2
  have p3 : w2.cell? ⟨w.heap.size, 3, none⟩ = some (.slice b' lenq d') := r0.cell 3
  have E2 := Lib.hid e2
  clear hB2 hK2 kz kz1 kz2 W2 O1 B1 e2
  go_wp2_with fail
  refine (HQ.out w2 B2.out).mono ?_; rintro e w3 ⟨v3, rfl, o3, b3, hs3⟩
  obtain ⟨A3, n3, C3, A4, n4, C4, rfl⟩ := o3.form
  have s2 := r2.below b3 r2.lt
  have s1 := r1.below b3 r1.lt
  have s0 := r0.below b3 r0.lt
  have O3 := Lib.hid o3
  have O23 := Lib.hid (OwnP.below O2.out b3 (Nat.le_refl _))
  have B3 := Lib.hid (bt B2.out b3)
  have HS3 := Lib.hid hs3
  clear r0 r1 r2 p2 p3 o3 b3 O2 B2 HQ hs3
  go_wp2_with (with_reducible refine wpList_storeB rfl 30 (.tmp 11) (.tmp 10) rfl (w.heap.size + 1 + 1) 2 [.slice A3 n3 C3, .slice A4 n4 C4] ?_ ?_ [.slice A1 n1 C1, .slice A2 n2 C2, .slice none 0 0, .slice none 0 0, .int .i64 0] 32 s2 ?_ ?_ ?_ ?_)
  all_goals (first | rfl | (simp; done) | kernel_rfl | (intro v hv; simp at hv; rcases hv with rfl | rfl <;> rfl) | skip)
  intro w4 hB4 hK4
  have r2 : Blk w4 (w.heap.size + 1 + 1) [.slice A1 n1 C1, .slice A2 n2 C2, .slice A3 n3 C3, .slice A4 n4 C4, .int .i64 0] 32 := hB4.out
  have r1 := hK4.out.blk s1 (by omega)
  have r0 := hK4.out.blk s0 (by omega)
  have W4 : Wr (w.heap.size + 1) (w.heap.size + 3) w3 w4 := Keep.wr hK4.out (by omega)
  have E4 := Lib.hid (show w4.heap.size = w3.heap.size from hK4.out.size)
  have p4 : w4.cell? ⟨w.heap.size, 4, none⟩ = some (.int .i64 md) := r0.cell 4
  have q0 : w4.cell? ⟨w.heap.size + 1 + 1, 0, none⟩ = some (.slice A1 n1 C1) := r2.cell 0
  have q1 : w4.cell? ⟨w.heap.size + 1 + 1, 1, none⟩ = some (.slice A2 n2 C2) := r2.cell 1
  have q2 : w4.cell? ⟨w.heap.size + 1 + 1, 2, none⟩ = some (.slice A3 n3 C3) := r2.cell 2
  have q3 : w4.cell? ⟨w.heap.size + 1 + 1, 3, none⟩ = some (.slice A4 n4 C4) := r2.cell 3
  have q4 : w4.cell? ⟨w.heap.size + 1 + 1, 4, none⟩ = some (.int .i64 0) := r2.cell 4
  have f4 := r2.froz 4
  have z0 : w4.cell? ⟨w.heap.size + 1, 0, none⟩ = some (.slice none 0 0) := r1.cell 0
  have z1 : w4.cell? ⟨w.heap.size + 1, 1, none⟩ = some (.slice none 0 0) := r1.cell 1
  have z2 : w4.cell? ⟨w.heap.size + 1, 2, none⟩ = some (.slice none 0 0) := r1.cell 2
  have z3 : w4.cell? ⟨w.heap.size + 1, 3, none⟩ = some (.slice none 0 0) := r1.cell 3
  have z4 : w4.cell? ⟨w.heap.size + 1, 4, none⟩ = some (.int .i64 0) := r1.cell 4
  have g0 := r1.froz 0
  have g1 := r1.froz 1
  have g2 := r1.froz 2
  have g3 := r1.froz 3
  have g4 := r1.froz 4
  have HWr := Lib.hid (fun (w5 : World) (e : w5 = (((((w4.setCell ⟨w.heap.size + 1 + 1, 4, none⟩ (.int .i64 md)).setCell ⟨w.heap.size + 1, 0, none⟩ (.slice A1 n1 C1)).setCell ⟨w.heap.size + 1, 1, none⟩ (.slice A2 n2 C2)).setCell ⟨w.heap.size + 1, 2, none⟩ (.slice A3 n3 C3)).setCell ⟨w.heap.size + 1, 3, none⟩ (.slice A4 n4 C4)).setCell ⟨w.heap.size + 1, 4, none⟩ (.int .i64 md)) => (show Wr (w.heap.size + 1) (w.heap.size + 3) w3 w5 ∧ w5.heap.size = w3.heap.size from by
    subst e
    exact ⟨W4.trans ((Wr.set _ _ w4 _ 4 _ (by omega)).trans (wr5 _ _ _ _ _ _ _ _ _ (by omega))), by simpa using E4.out⟩))
  clear r0 r1 r2 s0 s1 s2 W4 hB4 hK4 E4
  go_wp2
  refine bodyPost_ret (v := .agg #[.slice A1 n1 C1, .slice A2 n2 C2, .slice A3 n3 C3, .slice A4 n4 C4, .int .i64 md]) (by simp [results, Try.results9, go_sem, p4, q0, q1, q2, q3, q4, z0, z1, z2, z3, z4, f4, g0, g1, g2, g3, g4]) rfl ?_
  obtain ⟨hw, hsz⟩ := HWr.out _ rfl
  have hB3 := B3.out.size
  have h1 := HS1.out
  have h3 := HS3.out
  have h0 := HZ0.out
  have hE := E2.out
  have O3' := O3.out
  have O1' := O23.out
  rw [h0] at O1' h1
  have k1 := O1'.wr hw (.inr (by omega))
  have k3 := O3'.wr hw (.inr (by omega))
  refine ⟨_, _, _, _, _, _, _, _, _, _, _, _, w2.heap.size, rfl, ?_, ?_, hw.belowT B3.out (by omega) (by omega), by omega, by rw [hsz]; omega⟩
  · rw [hE]; exact k1
  · rw [hsz]; exact OwnP.base k3 (by omega)
theorem eqL_own {w : World} {B1 T1 B2 T2 B3 T3 B4 T4 : Nat} {a a' b b' p p' q q' : Option Addr} {n c n' c' m d m' d' pn pc pn' pc' qn qc qn' qc' : Nat} {md : Int} {hs hq : List (List Int)} {ms mq : List Int}
    (o1 : OwnP w B1 T1 (.agg #[.slice a n c, .slice a' n' c']) hs ms) (o2 : OwnP w B2 T2 (.agg #[.slice b m d, .slice b' m' d']) hq mq) (o3 : OwnP w B3 T3 (.agg #[.slice p pn pc, .slice p' pn' pc']) hs ms) (o4 : OwnP w B4 T4 (.agg #[.slice q qn qc, .slice q' qn' qc']) hq mq) :
    Calls Try.prog 11 #[lvV a a' b b' n c n' c' m d m' d' md, lvV p p' q q' pn pc pn' pc' qn qc qn' qc' md] w (BbP true w) := by
  unfold lvV
  obtain ⟨W0, hW0⟩ : ∃ W0, W0 = (w.alloc (.cells #[.slice a n c, .slice a' n' c', .slice b m d, .slice b' m' d', .int .i64 md] 32)).alloc (.cells #[.slice p pn pc, .slice p' pn' pc', .slice q qn qc, .slice q' qn' qc', .int .i64 md] 32) := ⟨_, rfl⟩
  have b0 : Below w.heap.size w W0 := by rw [hW0]; exact ((Below.refl _ _).alloc (Nat.le_refl _) _).alloc (by simp) _
  have k1 : Blk W0 w.heap.size [.slice a n c, .slice a' n' c', .slice b m d, .slice b' m' d', .int .i64 md] 32 := by rw [hW0]; exact Blk.alloc (Blk.newAt w _ _ _ rfl) _
  have k2 : Blk W0 (w.heap.size + 1) [.slice p pn pc, .slice p' pn' pc', .slice q qn qc, .slice q' qn' qc', .int .i64 md] 32 := by rw [hW0]; exact Blk.newAt _ _ _ _ (by simp)
  have HQ := Lib.hid (fun (w' : World) (hb : Below w.heap.size w w') => eqP_own (OwnP.below o1 hb (Nat.le_refl _)) (OwnP.below o3 hb (Nat.le_refl _)))
  have HR := Lib.hid (fun (w' : World) (hb : Below w.heap.size w w') => eqP_own (OwnP.below o2 hb (Nat.le_refl _)) (OwnP.below o4 hb (Nat.le_refl _)))
  clear o1 o2 o3 o4
  go_enter Try.func11, Try.ntmps11
  go_wp2_with fail
  rw [← hW0]
  clear hW0
  refine (HQ.out W0 b0).mono ?_; rintro e w1 ⟨rfl, b1⟩
  have l1 := k1.below b1 k1.lt
  have l2 := k2.below b1 k2.lt
  have B1 := Lib.hid (bt b0 b1)
  have p2 : w1.cell? ⟨w.heap.size, 2, none⟩ = some (.slice b m d) := l1.cell 2
  have p3 : w1.cell? ⟨w.heap.size, 3, none⟩ = some (.slice b' m' d') := l1.cell 3
  have q2 : w1.cell? ⟨w.heap.size + 1, 2, none⟩ = some (.slice q qn qc) := l2.cell 2
  have q3 : w1.cell? ⟨w.heap.size + 1, 3, none⟩ = some (.slice q' qn' qc') := l2.cell 3
  clear k1 k2 b0 b1
  go_wp2_with fail
  refine (HR.out w1 B1.out).mono ?_; rintro e w2 ⟨rfl, b2⟩
  have m1 := l1.below b2 l1.lt
  have m2 := l2.below b2 l2.lt
  have B2 := Lib.hid (bt B1.out b2)
  have p4 : w2.cell? ⟨w.heap.size, 4, none⟩ = some (.int .i64 md) := m1.cell 4
  have q4 : w2.cell? ⟨w.heap.size + 1, 4, none⟩ = some (.int .i64 md) := m2.cell 4
  clear l1 l2 m1 m2 b2 p2 p3 q2 q3
  go_wp2
  go_ret
  exact ⟨rfl, B2.out⟩
end Go.Proofs.Ytimfekedpgllhaa.Pv
namespace Go.Proofs.Ytimfekedpgllhaa.Pv
open Go.RowKit
set_option maxRecDepth 100000 in
set_option maxHeartbeats 4000000 in
theorem isAt_s (g oo : Nat) (a a' : Option Addr) (c c' : Nat) (hs : List (List Int)) (ms : List Int) (w : World) (hg : g < w.heap.size) (h0 : w.cell? ⟨g, oo, none⟩ = some (.slice a hs.length c)) (h1 : w.cell? ⟨g, oo + 1, none⟩ = some (.slice a' ms.length c'))
    (hr : Row w a' ms) (hcap : ms.length ≤ c' ∧ c' ≤ 9223372036854775807) (hm : ms.length ≤ 1048576) (hh : RdR w a hs) (hl : hs.length ≤ 1048576) :
    Calls Try.prog 35 #[.pointer (some ⟨g, oo, none⟩)] w (Dq (isP hs ms) w) := by
  have HLO := Lib.hid (fun h => isP_low (hs := hs) (ms := ms) h)
  have HHI := Lib.hid (fun h => isP_high (hs := hs) (ms := ms) h)
  have HLE := Lib.hid (fun h => isP_len (hs := hs) (ms := ms) h)
  have HMI := Lib.hid (fun h => isP_miss (hs := hs) (ms := ms) h)
  have HHT := Lib.hid (fun j hj h => isP_hit (hs := hs) (ms := ms) j hj h)
  have HYE := Lib.hid (fun h1 h2 h3 h4 h5 => isP_yes (hs := hs) (ms := ms) h1 h2 h3 h4 h5)
  have HO := Lib.hid (fun (h6 : ms.length ≤ 6) => ord_s a' c' ms ms.length w hm hcap (by omega) hr)
  have HJ := Lib.hid (fun (h6 : ms.length ≤ 6) j (hj : j < hs.length) => (show ∃ b off A C, a = some ⟨b, off, none⟩ ∧ w.cell? ⟨b, off + j, none⟩ = some (.slice A (hs.getD j []).length C) ∧ b < w.heap.size ∧
      ∀ (w' : World), (∃ q, w' = w.drewN q) → Calls Try.prog 52 #[.slice A (hs.getD j []).length C, .int .i64 (ms.length : Nat)] w' (fun e w2 => e = .returned (.bool (ordB ms.length (hs.getD j []))) ∧ ∃ q, w2 = w.drewN q) from by
    obtain ⟨b, off, A, C, e1, e2, e3, e4, e5, e6, e7, _⟩ := hh j hj
    exact ⟨b, off, A, C, e1, e2, e4, fun w' hq => (ord_s A C _ ms.length w' e5 ⟨e6, e7⟩ (by omega) (by obtain ⟨q, rfl⟩ := hq; exact e3)).mono fun e w2 ⟨he, q, hw⟩ => ⟨he, by obtain ⟨q0, rfl⟩ := hq; exact ⟨q0 + q, by rw [hw, World.drewN_drewN]⟩⟩⟩))
  have HAT := Lib.hid (fun j hj => all_take hs ms.length j hj)
  clear hh hr
  generalize isP hs ms = r at *
  generalize hom : ordB ms.length ms = om at *
  clear hom
  generalize hMM : ms.length = M at *
  clear hMM
  generalize hNN : hs.length = N at *
  clear hNN
  go_enter Try.func35, Try.ntmps35
  by_cases m1 : 1 ≤ M
  · have d1 : decide ((M : Int) < 1) = false := by simp; omega
    by_cases m6 : M ≤ 6
    · have d6 : decide ((6 : Int) < (M : Int)) = false := by simp; omega
      by_cases hne : N = M
      · subst hne
        cases om
        · have e := HMI.out rfl
          have ho := Lib.hid (HO.out m6)
          clear HLO HHI HLE HMI HHT HYE HO HJ HAT
          subst e
          go_wp2_with (go_at_call 52; refine ho.out.mono ?_; rintro e w1 ⟨rfl, hq⟩)
          go_ret
          exact ⟨rfl, hq⟩
        · have ho := Lib.hid (HO.out m6)
          have hJ := Lib.hid (HJ.out m6)
          have hY := Lib.hid (fun h5 => HYE.out m1 m6 rfl rfl h5)
          clear HLO HHI HLE HMI HYE HO HJ
          go_wp2_with (go_at_call 52; refine ho.out.mono ?_; rintro e w1 ⟨rfl, hq⟩)
          have HQ := Lib.hid hq
          clear hq
          go_loopw [4] (fun i wr => ∃ j : Nat, j ≤ N ∧ i = .int .i64 (j : Nat) ∧ Hid (∃ q, wr = w.drewN q) ∧ Hid ((hs.take j).all (ordB N) = true)) (fun i _ => N - (intOf i).toNat)
          case atStart => exact ⟨0, Nat.zero_le _, rfl, HQ, Lib.hid rfl⟩
          case round =>
            obtain ⟨j, hj, rfl, hq, hx⟩ := hrel
            have e0 : wr.cell? ⟨g, oo, none⟩ = some (.slice a N c) := by obtain ⟨q, rfl⟩ := hq.out; exact h0
            by_cases hlt : j < N
            · obtain ⟨b, off, A, C, rfl, c1, hb, HC⟩ := hJ.out j hlt
              have c2 : wr.cell? ⟨b, off + j, none⟩ = some (.slice A (hs.getD j []).length C) := by obtain ⟨q, rfl⟩ := hq.out; exact c1
              have HCH := Lib.hid (HC wr hq.out)
              have HT := HHT.out j hlt
              have HA := HAT.out j hlt
              rw [hx.out] at HA
              clear c1 HC hJ hY HHT HAT
              generalize (hs.getD j []).length = L at *
              cases ho2 : ordB N (hs.getD j [])
              · have e := HT ho2
                rw [ho2] at HCH
                clear HT HA ho2 hx
                subst e
                go_wp2_with (go_at_call 52; refine HCH.out.mono ?_; rintro e w1 ⟨rfl, hq1⟩)
                go_ret
                exact ⟨rfl, hq1⟩
              · rw [ho2] at HCH HA
                have HA2 := Lib.hid HA
                clear HT HA ho2 hx
                go_wp2_with (go_at_call 52; refine HCH.out.mono ?_; rintro e w1 ⟨rfl, hq1⟩)
                go_roundw
                case rel => exact ⟨j + 1, by omega, by go_num, Lib.hid hq1, HA2⟩
                case measure => simp [intOf]; omega
            · have e : j = N := by omega
              subst e
              have e := hY.out hx.out
              clear hJ hY HHT HAT hx
              subst e
              go_wp2
              go_ret
              exact ⟨rfl, hq.out⟩
      · have d3 : ((N : Int) == (M : Int)) = false := by simp; omega
        have e := HLE.out hne
        clear HLO HHI HLE HMI HHT HYE HO HJ HAT
        subst e
        go_wp2
        go_ret
        exact ⟨rfl, 0, rfl⟩
    · have d6 : (6 : Int) < (M : Int) := by omega
      have e := HHI.out m6
      clear HLO HHI HLE HMI HHT HYE HO HJ HAT
      subst e
      go_wp2
      go_ret
      exact ⟨rfl, 0, rfl⟩
  · have d1 : (M : Int) < 1 := by omega
    have e := HLO.out m1
    clear HLO HHI HLE HMI HHT HYE HO HJ HAT
    subst e
    go_wp2
    go_ret
    exact ⟨rfl, 0, rfl⟩
set_option maxRecDepth 100000 in
set_option maxHeartbeats 4000000 in
theorem emptyAt_s (g oo M c' : Nat) (a' : Option Addr) (w : World) (hg : g < w.heap.size) (h1 : w.cell? ⟨g, oo + 1, none⟩ = some (.slice a' M c')) (hM : M ≤ 1000) :
    Calls Try.prog 42 #[.pointer (some ⟨g, oo, none⟩)] w (Lb (emptyL M) w) := by
  have H0 := Lib.hid (Own.lit0 w)
  go_enter Try.func42, Try.ntmps42
  go_wp2
  go_loopw [3, 4] (fun v i wr => ∃ j : Nat, j ≤ M ∧ i = .int .i64 (j : Nat) ∧ Hid (Own wr w.heap.size v (emptyL j)) ∧ Hid (Below w.heap.size w wr)) (fun _ i _ => M - (intOf i).toNat)
  case atStart => exact ⟨0, Nat.zero_le _, rfl, H0, (Below.refl _ _).alloc (Nat.le_refl _) _⟩
  case round =>
    obtain ⟨j, hj, rfl, hO, hb⟩ := hrel
    have c1 : wr.cell? ⟨g, oo + 1, none⟩ = some (.slice a' M c') := (hb.out.cell (p := ⟨g, oo + 1, none⟩) hg).trans h1
    by_cases hlt : j < M
    · have ho := hO.out
      have hsz := hb.out.size
      have hq1 : (emptyL j).length + 1 ≤ 1000000000 := by rw [emptyL_len]; omega
      have HE := Lib.hid (emptyL_succ j)
      generalize emptyL j = L at *
      go_wp2_with (at_builtin; refine wpList_app _ rfl _ _ rfl w.heap.size _ L _ ?_ ?_ ho hq1 hsz ?_; rfl; rfl)
      intro v1 w1 ho1 hb1
      go_wp2
      go_roundw
      case rel => exact ⟨j + 1, by omega, by go_num, (by rw [HE.out]; exact ho1), hb.out.trans hb1⟩
      case measure => simp [intOf]; omega
    · have e : j = M := by omega
      subst e
      go_wp2
      go_ret
      exact ⟨_, rfl, hO.out, hb.out⟩
set_option maxRecDepth 100000 in
set_option maxHeartbeats 4000000 in
theorem stepAt_s (g oo : Nat) (a a' : Option Addr) (c c' : Nat) (hs : List (List Int)) (ms : List Int) (k : Nat → Int) (x : Int) (v : Value) (w : World) (hok : isP hs ms = true) (hg : g < w.heap.size) (h0 : w.cell? ⟨g, oo, none⟩ = some (.slice a hs.length c)) (h1 : w.cell? ⟨g, oo + 1, none⟩ = some (.slice a' ms.length c'))
    (hr : RdR w a hs) (hm : Row w a' ms) (hv : Rd w v (rowL ms.length k)) :
    Calls Try.prog 44 #[.pointer (some ⟨g, oo, none⟩), v, .int .i64 x] w (Sh (rowL ms.length (stN hs ms k x)) (hitB ms.length k x) w) := by
  obtain ⟨ho, h6, hlen⟩ := isP_miss_ord hok
  have h1M : 1 ≤ ms.length := by unfold isP at hok; simp only [Bool.and_eq_true, decide_eq_true_eq] at hok; omega
  obtain ⟨va, vc, rfl, hvc, hvm, hvr⟩ := hv
  rw [rowL_len] at hvc ⊢
  obtain ⟨vb, voff, rfl, _, _⟩ := hvr 0 (by rw [rowL_len]; omega)
  have HOW := Lib.hid (by have := own_any vb voff vc (rowL ms.length k) w (by rw [rowL_len]; omega) hvr; rwa [rowL_len] at this)
  have HAG := Lib.hid (fun (w1 : World) (B : Nat) (v1 : Value) (o1 : Own w1 B v1 (rowL ms.length k)) => show ∃ a1 c1, v1 = .slice a1 ms.length c1 ∧ Calls Try.prog 56 #[.slice a1 ms.length c1, .int .i64 x] w1 (fun e w' => e = .returned (.int .i64 (ageI (rowL ms.length k) x)) ∧ w1 = w') from by
    obtain ⟨a1, c1, e1, _, _, hr1⟩ := o1.rd
    rw [rowL_len] at e1
    have := age_s a1 c1 (rowL ms.length k) x w1 (by rw [rowL_len]; omega) hr1
    rw [rowL_len] at this
    exact ⟨a1, c1, e1, this⟩)
  have hAI : ageI (rowL ms.length k) x = if (rowL ms.length k).idxOf x < ms.length then (((rowL ms.length k).idxOf x : Nat) : Int) else -1 := by unfold ageI; rw [rowL_len]
  have hHB : hitB ms.length k x = decide ((rowL ms.length k).idxOf x < ms.length) := rfl
  have hST := fun i => (show stN hs ms k x i = if (rowL ms.length k).idxOf x < ms.length then k (ordN (hs.getD ((rowL ms.length k).idxOf x) []) i) else putA k (ms.length - 1) x (ordN ms i) from rfl)
  rw [hAI] at HAG
  generalize hJ : (rowL ms.length k).idxOf x = J at *
  clear hJ hAI
  -- the two ways part ahead
  by_cases hit : J < ms.length
  · rw [if_pos hit] at HAG
    have hb : hitB ms.length k x = true := by rw [hHB, decide_eq_true hit]
    rw [hb]
    have hJh : J < hs.length := by omega
    obtain ⟨b0, off0, A, C, rfl, q1, q2, q4, _⟩ := hr J hJh
    have hoj := isP_hit_ord hok J hJh
    have hol := ordB_len hoj
    have HOR := Lib.hid (fun i (hi : i < ms.length) => ordN_ltM hoj i hi)
    have HF := Lib.hid (show rowL ms.length (stN hs ms k x) = rowL ms.length (fun i => k (ordN (hs.getD J []) i)) from rowL_eq _ _ _ fun i _ => by rw [hST, if_pos hit])
    rw [hol] at q1
    have HQ := Lib.hid q2
    unfold Row at HQ
    rw [hol] at HQ
    clear hST hHB hb ho hm hr hoj hol hvr q2
    generalize hM : ms.length = M at *
    clear hM
    generalize hs.getD J [] = o at *
    have hJM : (J : Int) < hs.length := by omega
    obtain ⟨F, hF⟩ : ∃ F : Nat → Int, F = fun i => k (ordN o i) := ⟨_, rfl⟩
    rw [← hF] at HF
    have HFJ := Lib.hid (fun i => show F i = k (ordN o i) by rw [hF])
    clear hF
    go_enter Try.func44, Try.ntmps44
    go_wp2_with fail
    refine HOW.out.mono ?_; rintro e w1 ⟨v1, rfl, o1, b1⟩
    obtain ⟨a1, c1, rfl, hA1⟩ := HAG.out w1 _ v1 o1
    have HA1 := Lib.hid hA1
    have BW := Lib.hid b1
    have HOLD := Lib.hid (fun (w9 : World) (hb9 : Below w1.heap.size w1 w9) (q : Nat) (hq : q < M) => show ∃ og, a1 = some ⟨og, 0, none⟩ ∧ w9.cell? ⟨og, q, none⟩ = some (.int .i64 (k q)) from by
      rcases o1.cases with ⟨_, h⟩ | ⟨og, cp, e, _, hgl, _, h, _⟩
      · have := congrArg List.length h; rw [rowL_len] at this; simp at this; omega
      · rw [rowL_len] at e h
        injection e with e
        exact ⟨og, e, (hb9.cell (p := ⟨og, q, none⟩) hgl).trans (by rw [h q hq, rowL_get M k q hq])⟩)
    have d0 := (b1.cell (p := ⟨g, oo, none⟩) hg).trans h0
    have d1 := (b1.cell (p := ⟨g, oo + 1, none⟩) hg).trans h1
    have d2 := (b1.cell (p := ⟨b0, off0 + J, none⟩) q4).trans q1
    clear hA1 b1 HAG HOW o1
    go_wp2_with (go_at_call 56; (with_reducible refine HA1.out.mono ?_); rintro e w2 ⟨rfl, rfl⟩)
    go_loopw [11, 12] (fun y i wr => ∃ j : Nat, j ≤ M ∧ i = .int .i64 j ∧ Own wr w1.heap.size y (rowL j F) ∧ Below w1.heap.size w1 wr) (fun _ i _ => M - (intOf i).toNat)
    case atStart => exact ⟨0, Nat.zero_le _, rfl, Own.lit0 w1, (Below.refl _ _).alloc (Nat.le_refl _) _⟩
    case round =>
      obtain ⟨j, hj, rfl, hoy, hb⟩ := hrel
      have hsz := hb.size
      have hq : (rowL j F).length + 1 ≤ 1000000000 := by rw [rowL_len]; omega
      by_cases hlt : j < M
      · obtain ⟨ob, ooff, rfl, p1, hob⟩ := HQ.out j hlt
        have p2 : wr.cell? ⟨ob, ooff + j, none⟩ = some (.int .i64 (o.getD j 0)) := (hb.cell (p := ⟨ob, ooff + j, none⟩) (Nat.lt_of_lt_of_le hob BW.out.size)).trans ((BW.out.cell (p := ⟨ob, ooff + j, none⟩) hob).trans p1)
        obtain ⟨hn1, hn2⟩ := HOR.out j hlt
        rw [hn2] at p2
        obtain ⟨og, rfl, ocell⟩ := HOLD.out wr hb (ordN o j) hn1
        have hfj := Lib.hid (HFJ.out j)
        have hsu := Lib.hid (rowL_succ j F)
        clear hn2 p1
        rw [hfj.out] at hsu
        generalize ordN o j = q at *
        have hqi : (q : Int) < M := by omega
        generalize rowL j F = L at *
        generalize k q = u at *
        go_wp2_with (at_builtin; refine wpList_app _ rfl _ _ rfl w1.heap.size _ L _ ?_ ?_ hoy hq hsz ?_; rfl; rfl)
        intro v' w3 ho3 hb3
        go_wp2
        go_roundw
        case rel => exact ⟨j + 1, by omega, by go_num, by rw [hsu.out]; exact ho3, hb.trans hb3⟩
        case measure => simp [intOf]; omega
      · have e : j = M := by omega
        subst e
        go_wp2
        go_ret2
        rw [HF.out]
        exact ⟨_, rfl, hoy.mono BW.out.size, BW.out.trans (hb.mono BW.out.size)⟩
  · rw [if_neg hit] at HAG
    have hb : hitB ms.length k x = false := by rw [hHB, decide_eq_false hit]
    rw [hb]
    have HOR := Lib.hid (fun i (hi : i < ms.length) => ordN_ltM ho i hi)
    have HF := Lib.hid (show rowL ms.length (stN hs ms k x) = rowL ms.length (fun i => putA k (ms.length - 1) x (ordN ms i)) from rowL_eq _ _ _ fun i _ => by rw [hST, if_neg hit])
    have HQ := Lib.hid hm
    unfold Row at HQ
    clear hST hHB hb ho hm hr hvr hok
    generalize hM : ms.length = M at *
    clear hM
    obtain ⟨F, hF⟩ : ∃ F : Nat → Int, F = fun i => putA k (M - 1) x (ordN ms i) := ⟨_, rfl⟩
    rw [← hF] at HF
    have HFJ := Lib.hid (fun i => show F i = putA k (M - 1) x (ordN ms i) by rw [hF])
    clear hF
    have hm1 : ((M : Int) - 1).toNat = M - 1 := by omega
    have hm2 : (0 : Int) ≤ (M : Int) - 1 := by omega
    go_enter Try.func44, Try.ntmps44
    go_wp2_with fail
    refine HOW.out.mono ?_; rintro e w1 ⟨v1, rfl, o1, b1⟩
    obtain ⟨a1, c1, rfl, hA1⟩ := HAG.out w1 _ v1 o1
    have HA1 := Lib.hid hA1
    obtain ⟨og, e1, hBg, hgw, hcell, hfz, hset⟩ := Own.cellAt o1 (rowL_len M k) (M - 1) (by omega)
    subst e1
    obtain ⟨hO2, hG2⟩ := hset x
    rw [rowL_set M k (M - 1) x (by omega)] at hO2
    have hbw : Below w.heap.size w (w1.setCell ⟨og, M - 1, none⟩ (.int .i64 x)) := b1.setCell (p := ⟨og, M - 1, none⟩) hBg _
    have d0 := (b1.cell (p := ⟨g, oo, none⟩) hg).trans h0
    have d1 := (b1.cell (p := ⟨g, oo + 1, none⟩) hg).trans h1
    have BW := Lib.hid hbw
    have HO2 := Lib.hid hO2
    clear hA1 b1 HAG HOW o1 hset hbw hO2 hG2
    have hm3 : (M : Int) - 1 = ((M - 1 : Nat) : Int) := by omega
    have hm4 : ((M - 1 : Nat) : Int) < M := by omega
    go_wp2_with (go_at_call 56; (with_reducible refine HA1.out.mono ?_); rintro e w2 ⟨rfl, rfl⟩)
    have hs12 : w1.heap.size = (w1.setCell ⟨og, M - 1, none⟩ (.int .i64 x)).heap.size := by simp
    generalize w1.setCell ⟨og, M - 1, none⟩ (.int .i64 x) = w2 at *
    clear hm1 hm2 hm3 hm4 hfz hcell
    have HOLD := Lib.hid (fun (w9 : World) (hb9 : Below w2.heap.size w2 w9) (q : Nat) (hq : q < M) => show ∃ og', some (⟨og, 0, none⟩ : Addr) = some ⟨og', 0, none⟩ ∧ w9.cell? ⟨og', q, none⟩ = some (.int .i64 (putA k (M - 1) x q)) from by
      rcases HO2.out.cases with ⟨h, _⟩ | ⟨og', cp, e, _, hgl, _, h, _⟩
      · cases h
      · rw [rowL_len] at e h
        injection e with e
        exact ⟨og', e, (hb9.cell (p := ⟨og', q, none⟩) hgl).trans (by rw [h q hq, rowL_get M _ q hq])⟩)
    go_loopw [11, 12] (fun y i wr => ∃ j : Nat, j ≤ M ∧ i = .int .i64 j ∧ Own wr w2.heap.size y (rowL j F) ∧ Below w2.heap.size w2 wr) (fun _ i _ => M - (intOf i).toNat)
    case atStart => exact ⟨0, Nat.zero_le _, rfl, (by rw [hs12]; exact Own.lit0 w2), (Below.refl _ _).alloc (Nat.le_refl _) _⟩
    case round =>
      clear hs12
      obtain ⟨j, hj, rfl, hoy, hb⟩ := hrel
      have hsz := hb.size
      have hq : (rowL j F).length + 1 ≤ 1000000000 := by rw [rowL_len]; omega
      by_cases hlt : j < M
      · obtain ⟨ob, ooff, rfl, p1, hob⟩ := HQ.out j hlt
        have p2 : wr.cell? ⟨ob, ooff + j, none⟩ = some (.int .i64 (ms.getD j 0)) := (hb.cell (p := ⟨ob, ooff + j, none⟩) (Nat.lt_of_lt_of_le hob BW.out.size)).trans ((BW.out.cell (p := ⟨ob, ooff + j, none⟩) hob).trans p1)
        obtain ⟨hn1, hn2⟩ := HOR.out j hlt
        rw [hn2] at p2
        obtain ⟨og', eog, ocell⟩ := HOLD.out wr hb (ordN ms j) hn1
        injection eog with eog
        injection eog with eog
        subst eog
        have hfj := Lib.hid (HFJ.out j)
        have hsu := Lib.hid (rowL_succ j F)
        clear hn2 p1
        rw [hfj.out] at hsu
        generalize ordN ms j = q at *
        have hqi : (q : Int) < M := by omega
        generalize rowL j F = L at *
        generalize putA k (M - 1) x q = u at *
        go_wp2_with (at_builtin; refine wpList_app _ rfl _ _ rfl w2.heap.size _ L _ ?_ ?_ hoy hq hsz ?_; rfl; rfl)
        intro v' w3 ho3 hb3
        go_wp2
        go_roundw
        case rel => exact ⟨j + 1, by omega, by go_num, by rw [hsu.out]; exact ho3, hb.trans hb3⟩
        case measure => simp [intOf]; omega
      · have e : j = M := by omega
        subst e
        go_wp2
        go_ret2
        rw [HF.out]
        exact ⟨_, rfl, hoy.mono BW.out.size, BW.out.trans (hb.mono BW.out.size)⟩
end Go.Proofs.Ytimfekedpgllhaa.Pv
namespace Go.Proofs.Ytimfekedpgllhaa.Pv
open Go.RowKit
/-- Whether levels are valid. -/
def okL (hs hq : List (List Int)) (ms mq : List Int) (md : Int) : Bool := isP hs ms && isP hq mq && (decide (0 ≤ md) && decide (md ≤ 2))
theorem RdP.belowL {w w' : World} {v : Value} {hs : List (List Int)} {ms : List Int} (h : RdP w v hs ms) (hb : Below w.heap.size w w') : RdP w' v hs ms := by
  obtain ⟨a, c, a', c', e, h1, h2, h3, h4, h5⟩ := h
  exact ⟨a, c, a', c', e, h1.below hb, h2, h3.below hb, h4, h5⟩
theorem levels_s (g : Nat) (a a' b b' : Option Addr) (c c' d d' : Nat) (hs hq : List (List Int)) (ms mq : List Int) (md : Int) (w : World) (hg : g < w.heap.size)
    (h0 : w.cell? ⟨g, 0, none⟩ = some (.slice a hs.length c)) (h1 : w.cell? ⟨g, 1, none⟩ = some (.slice a' ms.length c')) (h2 : w.cell? ⟨g, 2, none⟩ = some (.slice b hq.length d)) (h3 : w.cell? ⟨g, 3, none⟩ = some (.slice b' mq.length d')) (h4 : w.cell? ⟨g, 4, none⟩ = some (.int .i64 md))
    (hr : Row w a' ms) (hcap : ms.length ≤ c' ∧ c' ≤ 9223372036854775807) (hm : ms.length ≤ 1048576) (hh : RdR w a hs) (hl : hs.length ≤ 1048576)
    (hr2 : Row w b' mq) (hcap2 : mq.length ≤ d' ∧ d' ≤ 9223372036854775807) (hm2 : mq.length ≤ 1048576) (hh2 : RdR w b hq) (hl2 : hq.length ≤ 1048576) :
    Calls Try.prog 24 #[.pointer (some ⟨g, 0, none⟩)] w (Dq (okL hs hq ms mq md) w) := by
  have HA := Lib.hid (isAt_s g 0 a a' c c' hs ms w hg h0 h1 hr hcap hm hh hl)
  have HB := Lib.hid (fun q => (show Calls Try.prog 35 #[.pointer (some ⟨g, 2, none⟩)] (w.drewN q) (Dq (isP hq mq) (w.drewN q)) from isAt_s g 2 b b' d d' hq mq (w.drewN q) hg h2 h3 hr2 hcap2 hm2 hh2 hl2))
  have HI := Lib.hid (fun w9 => Tr.in_g md 0 2 w9)
  have H4 := Lib.hid (fun q => (show (w.drewN q).cell? ⟨g, 4, none⟩ = some (.int .i64 md) from h4))
  unfold okL
  clear hr hcap hh hr2 hcap2 hh2 h4
  generalize isP hs ms = r1 at *
  generalize isP hq mq = r2 at *
  generalize (decide (0 ≤ md) && decide (md ≤ 2)) = r3 at *
  cases r1
  · go_enter Try.func24, Try.ntmps24
    go_wp2_with (go_at_call 35; refine HA.out.mono ?_; rintro e w1 ⟨rfl, q, rfl⟩)
    go_ret
    exact ⟨rfl, q, rfl⟩
  · cases r2
    · go_enter Try.func24, Try.ntmps24
      go_wp2_with fail
      refine HA.out.mono ?_; rintro e w1 ⟨rfl, q, rfl⟩
      go_wp2_with fail
      refine (HB.out q).mono ?_; rintro e w2 ⟨rfl, q2, rfl⟩
      go_wp2
      go_ret
      exact ⟨rfl, _, rfl⟩
    · go_enter Try.func24, Try.ntmps24
      go_wp2_with fail
      refine HA.out.mono ?_; rintro e w1 ⟨rfl, q, rfl⟩
      go_wp2_with fail
      refine (HB.out q).mono ?_; rintro e w2 ⟨rfl, q2, rfl⟩
      have h4 := H4.out (q + q2)
      rw [World.drewN_drewN]
      go_wp2_with fail
      refine (HI.out _).mono ?_; rintro e w3 ⟨rfl, rfl⟩
      go_wp2
      go_ret
      exact ⟨rfl, _, rfl⟩
theorem agg2_inj {x y x' y' : Value} (h : (Value.agg #[x, y]) = .agg #[x', y']) : x = x' ∧ y = y' := by
  injection h with h
  have := congrArg Array.toList h
  simpa using this
theorem validL_s {a a' b b' : Option Addr} {n c n' c' m d m' d' : Nat} {md : Int} {hs hq : List (List Int)} {ms mq : List Int} {w : World} (h : RdP w (.agg #[.slice a n c, .slice a' n' c']) hs ms) (k : RdP w (.agg #[.slice b m d, .slice b' m' d']) hq mq) :
    Calls Try.prog 8 #[lvV a a' b b' n c n' c' m d m' d' md] w (Bb (okL hs hq ms mq md) w) := by
  obtain ⟨x1, x2, x3, x4, e, h1, h2, h3, h4, h5⟩ := h
  obtain ⟨y1, y2, y3, y4, e', k1, k2, k3, k4, k5⟩ := k
  obtain ⟨e1, e2⟩ := agg2_inj e
  obtain ⟨e3, e4⟩ := agg2_inj e'
  injection e1 with i1 i2 i3
  injection e2 with j1 j2 j3
  injection e3 with l1 l2 l3
  injection e4 with m1 m2 m3
  subst i1 i2 i3 j1 j2 j3 l1 l2 l3 m1 m2 m3
  have b0 := (Below.refl w.heap.size w).alloc (Nat.le_refl _) (.cells #[.slice a hs.length c, .slice a' ms.length c', .slice b hq.length d, .slice b' mq.length d', .int .i64 md] 32)
  have bk1 := Blk.newAt w w.heap.size [.slice a hs.length c, .slice a' ms.length c', .slice b hq.length d, .slice b' mq.length d', .int .i64 md] 32 rfl
  have HS := Lib.hid (levels_s w.heap.size a a' b b' c c' d d' hs hq ms mq md (w.alloc (.cells #[.slice a hs.length c, .slice a' ms.length c', .slice b hq.length d, .slice b' mq.length d', .int .i64 md] 32)) bk1.lt (bk1.cell 0) (bk1.cell 1) (bk1.cell 2) (bk1.cell 3) (bk1.cell 4) (h3.below b0) h5 h4 (h1.below b0) h2 (k3.below b0) k5 k4 (k1.below b0) k2)
  clear h1 h3 bk1 h5 k1 k3 k5
  generalize okL hs hq ms mq md = r at *
  generalize hs.length = N at *
  generalize ms.length = M at *
  generalize hq.length = N2 at *
  generalize mq.length = M2 at *
  unfold lvV
  go_enter Try.func8, Try.ntmps8
  go_wp2_with fail
  refine HS.out.mono ?_; rintro e w1 ⟨rfl, q, rfl⟩
  go_wp2
  go_ret
  exact ⟨rfl, below_drewN q b0⟩
end Go.Proofs.Ytimfekedpgllhaa.Pv
namespace Go.Proofs.Ytimfekedpgllhaa.Pv
open Go.RowKit
theorem splice_in (A B C a : List Value) (p : Nat) (hA : A.length = p) (h : a.length = B.length) : Go.splice (A ++ (B ++ C)) p a = A ++ (a ++ C) := by
  subst hA
  unfold Go.splice
  rw [List.take_left, h, ← List.drop_drop, List.drop_left, List.drop_left]
/-- The cells of two levels: the mode, the first one, the second one, where addresses were found, and the back invalidations. -/
def lvC (mv : Value) (rc1 : List Value) (k1 : Nat → Int) (rc2 : List Value) (k2 : Nat → Int) (f : Value) (bk : Int) : List Value := [mv] ++ (rc1 ++ (six6 k1 ++ (rc2 ++ (six6 k2 ++ [f, .int .i64 bk]))))
theorem lvC_len (mv : Value) (rc1 : List Value) (k1 : Nat → Int) (rc2 : List Value) (k2 : Nat → Int) (f : Value) (bk : Int) (h1 : rc1.length = 43) (h2 : rc2.length = 43) : (lvC mv rc1 k1 rc2 k2 f bk).length = 101 := by
  unfold lvC
  have e1 : (six6 k1).length = 6 := rfl
  have e2 : (six6 k2).length = 6 := rfl
  simp [h1, h2, e1, e2]
theorem drop_in (A B : List Value) (p : Nat) (hA : A.length = p) : (A ++ B).drop p = B := by subst hA; exact List.drop_left
theorem take_in (A B : List Value) (p : Nat) (hA : A.length = p) : (A ++ B).take p = A := by subst hA; exact List.take_left
theorem lvC_fm1 (mv : Value) (rc1 : List Value) (k1 : Nat → Int) (rc2 : List Value) (k2 : Nat → Int) (f : Value) (bk : Int) (h1 : rc1.length = 43) (h2 : rc2.length = 43) : FmA (lvC mv rc1 k1 rc2 k2 f bk) 1 rc1 k1 := by
  refine ⟨?_, ?_, by rw [lvC_len _ _ _ _ _ _ _ h1 h2]; decide⟩
  · unfold lvC
    rw [drop_in _ _ 1 rfl, take_in _ _ 43 h1]
  · unfold lvC
    rw [← List.drop_drop, drop_in _ _ 1 rfl, drop_in _ _ 43 h1, take_in _ _ 6 rfl]
theorem lvC_fm2 (mv : Value) (rc1 : List Value) (k1 : Nat → Int) (rc2 : List Value) (k2 : Nat → Int) (f : Value) (bk : Int) (h1 : rc1.length = 43) (h2 : rc2.length = 43) : FmA (lvC mv rc1 k1 rc2 k2 f bk) 50 rc2 k2 := by
  have e : (lvC mv rc1 k1 rc2 k2 f bk).drop 50 = rc2 ++ (six6 k2 ++ [f, .int .i64 bk]) := by
    unfold lvC
    rw [show 50 = 1 + (43 + 6) from rfl, ← List.drop_drop, drop_in _ _ 1 rfl, ← List.drop_drop, drop_in _ _ 43 h1, drop_in _ _ 6 rfl]
  refine ⟨?_, ?_, by rw [lvC_len _ _ _ _ _ _ _ h1 h2]; decide⟩
  · rw [e, take_in _ _ 43 h2]
  · rw [← List.drop_drop, e, drop_in _ _ 43 h2, take_in _ _ 6 rfl]
theorem lvC_put1 (mv : Value) (rc1 : List Value) (k1 k : Nat → Int) (rc2 : List Value) (k2 : Nat → Int) (f : Value) (bk : Int) (h1 : rc1.length = 43) : Go.splice (lvC mv rc1 k1 rc2 k2 f bk) (1 + 43) (six6 k) = lvC mv rc1 k rc2 k2 f bk := by
  unfold lvC
  have h := splice_in ([mv] ++ rc1) (six6 k1) (rc2 ++ (six6 k2 ++ [f, .int .i64 bk])) (six6 k) (1 + 43) (by simp [h1]) rfl
  rw [List.append_assoc, List.append_assoc] at h
  exact h
theorem lvC_put2 (mv : Value) (rc1 : List Value) (k1 k : Nat → Int) (rc2 : List Value) (k2 : Nat → Int) (f : Value) (bk : Int) (h1 : rc1.length = 43) (h2 : rc2.length = 43) : Go.splice (lvC mv rc1 k1 rc2 k2 f bk) (50 + 43) (six6 k) = lvC mv rc1 k1 rc2 k f bk := by
  unfold lvC
  have h := splice_in ([mv] ++ (rc1 ++ (six6 k1 ++ rc2))) (six6 k2) [f, .int .i64 bk] (six6 k) (50 + 43) (by have e1 : (six6 k1).length = 6 := rfl; simp [h1, h2, e1]) rfl
  simp only [List.append_assoc] at h
  exact h
theorem lvC_at (mv : Value) (rc1 : List Value) (k1 : Nat → Int) (rc2 : List Value) (k2 : Nat → Int) (f : Value) (bk : Int) (h1 : rc1.length = 43) (h2 : rc2.length = 43) :
    (lvC mv rc1 k1 rc2 k2 f bk)[0]? = some mv ∧ (lvC mv rc1 k1 rc2 k2 f bk)[99]? = some f ∧ (lvC mv rc1 k1 rc2 k2 f bk)[100]? = some (.int .i64 bk) ∧
      (∀ u, (lvC mv rc1 k1 rc2 k2 f bk).set 99 u = lvC mv rc1 k1 rc2 k2 u bk) ∧ ∀ n, (lvC mv rc1 k1 rc2 k2 f bk).set 100 (.int .i64 n) = lvC mv rc1 k1 rc2 k2 f n := by
  have e1 : (six6 k1).length = 6 := rfl
  have e2 : (six6 k2).length = 6 := rfl
  have e : ∀ (g : Value) (n : Int), lvC mv rc1 k1 rc2 k2 g n = ([mv] ++ (rc1 ++ (six6 k1 ++ (rc2 ++ six6 k2)))) ++ [g, .int .i64 n] := fun g n => by unfold lvC; simp only [List.append_assoc]
  have hl : ([mv] ++ (rc1 ++ (six6 k1 ++ (rc2 ++ six6 k2)))).length = 99 := by simp [h1, h2, e1, e2]
  refine ⟨rfl, ?_, ?_, fun u => ?_, fun n => ?_⟩
  · rw [e, List.getElem?_append_right (by omega), hl]; rfl
  · rw [e, List.getElem?_append_right (by omega), hl]; rfl
  · rw [e, e, List.set_append_right _ _ (by omega), hl]; rfl
  · rw [e, e, List.set_append_right _ _ (by omega), hl]; rfl
def z101 : List Value := [Value.nilIface] ++ (z49 ++ (z49 ++ [.slice none 0 0, .int .i64 0]))
theorem places101 : (Try.prog.underlying 62).bind (placesOf Try.prog) = some [(0, 1), (1, 49), (50, 49), (99, 1), (100, 1)] := by kernel_rfl
theorem zero101 : (Try.prog.info? 62).map (fun it => it.zero.map (·.cells)) = some (some z101.toArray) := by kernel_rfl
theorem isz101 : (Try.prog.info? 62).map (·.size) = some 101 := by kernel_rfl
theorem und101 : ∃ d, Try.prog.underlying 62 = some d ∧ d.isRow = true := by
  cases h : Try.prog.underlying 62 with
  | none => exact absurd h (by decide +kernel)
  | some d =>
    refine ⟨d, rfl, ?_⟩
    have e : (Try.prog.underlying 62).map (fun d => d.isRow) = some true := by kernel_rfl
    rw [h] at e
    simpa using e
theorem built101 (mv : Value) (hv : mv.cells = #[mv]) (rc1 rc2 : List Value) (h1 : rc1.length = 43) (h2 : rc2.length = 43) (k1 k2 : Nat → Int) :
    Try.prog.built 62 [(0, mv), (1, .agg (rc1 ++ six6 k1).toArray), (2, .agg (rc2 ++ six6 k2).toArray)] = some (lvC mv rc1 k1 rc2 k2 (.slice none 0 0) 0).toArray := by
  have l1 : (rc1 ++ six6 k1).length = 49 := by rw [List.length_append, h1]; rfl
  have l2 : (rc2 ++ six6 k2).length = 49 := by rw [List.length_append, h2]; rfl
  have s0 : Go.splice z101 0 [mv] = [mv] ++ (z49 ++ (z49 ++ [.slice none 0 0, .int .i64 0])) := rfl
  have s1 : Go.splice ([mv] ++ (z49 ++ (z49 ++ [.slice none 0 0, .int .i64 0]))) 1 (rc1 ++ six6 k1) = [mv] ++ ((rc1 ++ six6 k1) ++ (z49 ++ [.slice none 0 0, .int .i64 0])) := splice_in _ _ _ _ 1 rfl (by rw [l1]; rfl)
  have s2 : Go.splice ([mv] ++ ((rc1 ++ six6 k1) ++ (z49 ++ [.slice none 0 0, .int .i64 0]))) 50 (rc2 ++ six6 k2) = lvC mv rc1 k1 rc2 k2 (.slice none 0 0) 0 := by
    have h := splice_in ([mv] ++ (rc1 ++ six6 k1)) z49 [.slice none 0 0, .int .i64 0] (rc2 ++ six6 k2) 50 (by rw [List.length_append, l1]; rfl) (by rw [l2]; rfl)
    unfold lvC
    simp only [List.append_assoc] at h ⊢
    exact h
  have L1 : ([mv] ++ (z49 ++ (z49 ++ [Value.slice none 0 0, Value.int .i64 0]))).length = 101 := rfl
  refine builtS places101 zero101 ?_
  rw [fill_cons _ z101 0 _ _ 0 1 [mv] rfl hv rfl (by decide), s0, fill_cons _ ([mv] ++ (z49 ++ (z49 ++ [Value.slice none 0 0, Value.int .i64 0]))) 1 _ _ 1 49 (rc1 ++ six6 k1) rfl rfl l1 (Nat.le_of_lt (Nat.lt_of_lt_of_eq (show 1 + 49 < 101 by decide) L1.symm)), s1, fill_cons _ ([mv] ++ ((rc1 ++ six6 k1) ++ (z49 ++ [Value.slice none 0 0, Value.int .i64 0]))) 2 _ _ 50 49 (rc2 ++ six6 k2) rfl rfl l2 (by rw [List.length_append, List.length_append, l1]; show 50 + 49 ≤ 1 + (49 + 51); decide), s2]
  rfl
theorem built101z : Try.prog.built 62 [] = some z101.toArray := by kernel_rfl
/-- The mode as an interface value. -/
def mdV (md : Int) : Value := if md = 0 then .iface 95 (.agg #[]) else if md = 1 then .iface 96 (.agg #[]) else if md = 2 then .iface 97 (.agg #[]) else Value.nilIface
def mdB (md : Int) : Bool := decide (0 ≤ md) && decide (md ≤ 2)
theorem mode_i (md : Int) (w : World) : Calls Try.prog 38 #[.int .i64 md] w fun e w' => e = .returned (.tuple #[mdV md, .bool (mdB md)]) ∧ w' = w := by
  by_cases h0 : md = 0
  · subst h0
    go_enter Try.func38, Try.ntmps38
    go_wp2
    go_ret2
    exact ⟨rfl, rfl⟩
  · by_cases h1 : md = 1
    · subst h1
      go_enter Try.func38, Try.ntmps38
      go_wp2
      go_ret2
      exact ⟨rfl, rfl⟩
    · by_cases h2 : md = 2
      · subst h2
        go_enter Try.func38, Try.ntmps38
        go_wp2
        go_ret2
        exact ⟨rfl, rfl⟩
      · have e0 : (md == 0) = false := by simp [h0]
        have e1 : (md == 1) = false := by simp [h1]
        have e2 : (md == 2) = false := by simp [h2]
        have em : mdV md = Value.nilIface := by unfold mdV; rw [if_neg h0, if_neg h1, if_neg h2]
        have eb : mdB md = false := by unfold mdB; rw [← Bool.decide_and]; simp; omega
        rw [em, eb]
        go_enter Try.func38, Try.ntmps38
        go_wp2
        go_ret2
        exact ⟨rfl, rfl⟩
theorem mdV_form (md : Int) : (mdV md).cells = #[mdV md] ∧ (mdV md).oneCell' = true := by
  unfold mdV
  split
  · exact ⟨rfl, rfl⟩
  · split
    · exact ⟨rfl, rfl⟩
    · split
      · exact ⟨rfl, rfl⟩
      · exact ⟨rfl, rfl⟩
theorem mdV_iface (md : Int) (h : mdB md = true) : ∃ T, mdV md = .iface T (.agg #[]) := by
  have h2 : 0 ≤ md ∧ md ≤ 2 := by unfold mdB at h; rwa [Bool.and_eq_true, decide_eq_true_eq, decide_eq_true_eq] at h
  unfold mdV
  by_cases h0 : md = 0
  · rw [if_pos h0]; exact ⟨_, rfl⟩
  · by_cases h1 : md = 1
    · rw [if_neg h0, if_pos h1]; exact ⟨_, rfl⟩
    · rw [if_neg h0, if_neg h1, if_pos (by omega)]; exact ⟨_, rfl⟩
/-- What emptyLevels returns. -/
def elC (hs hq : List (List Int)) (ms mq : List Int) (md : Int) : List Value :=
  if okL hs hq ms mq md then lvC (mdV md) (rulC true ms.length hs ms) (fun _ => -1) (rulC true mq.length hq mq) (fun _ => -1) (.slice none 0 0) 0 else z101
theorem one_z101 : ∀ v ∈ z101, v.oneCell' = true := by
  have h : z101.all (fun v => v.oneCell') = true := by kernel_rfl
  exact fun v hv => (List.all_eq_true.1 h) v hv
theorem one_lvC (mv : Value) (rc1 : List Value) (k1 : Nat → Int) (rc2 : List Value) (k2 : Nat → Int) (f : Value) (bk : Int) (h0 : mv.oneCell' = true) (h1 : ∀ v ∈ rc1, v.oneCell' = true) (h2 : ∀ v ∈ rc2, v.oneCell' = true) (hf : f.oneCell' = true) : ∀ v ∈ lvC mv rc1 k1 rc2 k2 f bk, v.oneCell' = true := fun v hv => by
  unfold lvC at hv
  simp only [List.mem_append, List.mem_singleton, List.mem_cons, List.not_mem_nil, or_false] at hv
  rcases hv with rfl | h | h | h | h | rfl | rfl
  · exact h0
  · exact h1 v h
  · exact one_six _ v h
  · exact h2 v h
  · exact one_six _ v h
  · exact hf
  · rfl
set_option maxRecDepth 100000 in
set_option maxHeartbeats 8000000 in
theorem elev_i {a a' b b' : Option Addr} {n c n' c' m d m' d' : Nat} {md : Int} {hs hq : List (List Int)} {ms mq : List Int} {w : World} (h : RdP w (.agg #[.slice a n c, .slice a' n' c']) hs ms) (k : RdP w (.agg #[.slice b m d, .slice b' m' d']) hq mq) :
    Calls Try.prog 26 #[lvV a a' b b' n c n' c' m d m' d' md] w (RetB (.tuple #[.agg (elC hs hq ms mq md).toArray, .bool (okL hs hq ms mq md)]) w) := by
  obtain ⟨d101, hu101, hd101⟩ := und101
  have HL101 := Lib.hid (fun (w' : World) (b : Nat) (cs : List Value) (h : Blk w' b cs 62) (hc : cs.length = 101) => Blk.loadVar h 62 d101 hu101 hd101 (by rw [hc]; exact isz101))
  obtain ⟨d49, hu49, hd49⟩ := und49
  have HU49 := Lib.hid (And.intro hu49 hd49)
  clear hu101 hd101 hu49 hd49
  have HM := Lib.hid (fun w9 => mode_i md w9)
  have HE1 := Lib.hid (fun (w' : World) (hb : Below w.heap.size w w') => emem_i (RdP.belowL h hb))
  have HE2 := Lib.hid (fun (w' : World) (hb : Below w.heap.size w w') => emem_i (RdP.belowL k hb))
  obtain ⟨hmc, hmo⟩ := mdV_form md
  have HMO := Lib.hid (And.intro hmc hmo)
  have HMI := Lib.hid (mdV_iface md)
  have HL1 := Lib.hid (rulC_len (isP hs ms) ms.length hs ms)
  have HO1 := Lib.hid (one_rulC (isP hs ms) ms.length hs ms)
  have HL2 := Lib.hid (rulC_len (isP hq mq) mq.length hq mq)
  have HO2 := Lib.hid (one_rulC (isP hq mq) mq.length hq mq)
  have HOK := Lib.hid (show okL hs hq ms mq md = (isP hs ms && isP hq mq && mdB md) from rfl)
  have HYE := Lib.hid (fun (h1 : isP hs ms = true) (h2 : isP hq mq = true) (h3 : okL hs hq ms mq md = true) => (show elC hs hq ms mq md = lvC (mdV md) (rulC (isP hs ms) ms.length hs ms) (fun _ => -1) (rulC (isP hq mq) mq.length hq mq) (fun _ => -1) (.slice none 0 0) 0 by unfold elC; rw [if_pos h3, h1, h2]))
  have HNO := Lib.hid (fun (h3 : okL hs hq ms mq md = false) => (show elC hs hq ms mq md = z101 by unfold elC; rw [h3]; rfl))
  clear h k hmc hmo
  generalize rulC (isP hs ms) ms.length hs ms = rc1 at *
  generalize rulC (isP hq mq) mq.length hq mq = rc2 at *
  generalize elC hs hq ms mq md = EL at *
  generalize okL hs hq ms mq md = ok at *
  generalize isP hs ms = r1 at *
  generalize isP hq mq = r2 at *
  generalize mdB md = r3 at *
  generalize mdV md = mv at *
  unfold lvV
  obtain ⟨W0, hW0⟩ : ∃ W0, W0 = (w.alloc (.cells #[.slice a n c, .slice a' n' c', .slice b m d, .slice b' m' d', .int .i64 md] 32)).alloc (.cells Try.zeroCells62 62) := ⟨_, rfl⟩
  have b0 : Below w.heap.size w W0 := by rw [hW0]; exact ((Below.refl _ w).alloc (Nat.le_refl _) _).alloc (by simp) _
  have kA : Blk W0 w.heap.size [.slice a n c, .slice a' n' c', .slice b m d, .slice b' m' d', .int .i64 md] 32 := by rw [hW0]; exact Blk.alloc (Blk.newAt w _ _ _ rfl) _
  have kR : Blk W0 (w.heap.size + 1) z101 62 := by rw [hW0]; exact Blk.newAt _ _ z101 _ (by simp)
  go_enter Try.func26, Try.ntmps26
  go_wp2_with fail
  rw [← hW0]
  clear hW0
  have p0 : W0.cell? ⟨w.heap.size, 0, none⟩ = some (.slice a n c) := kA.cell 0
  have p1 : W0.cell? ⟨w.heap.size, 1, none⟩ = some (.slice a' n' c') := kA.cell 1
  refine (HM.out _).mono ?_; rintro e w1 ⟨rfl, rfl⟩
  go_wp2_with fail
  refine (HE1.out w1 b0).mono ?_; rintro e w2 ⟨rfl, b2⟩
  have kA2 := kA.below b2 kA.lt
  have kR2 := kR.below b2 kR.lt
  have B2 := Lib.hid (bt b0 b2)
  clear kA kR b0 b2 p0 p1 HE1 HM
  have hx2 : w.heap.size + 1 < w2.heap.size := kR2.lt
  have l1 : (rc1 ++ six6 (fun _ => -1)).length = 49 := by rw [List.length_append, HL1.out]; rfl
  have o1 : ∀ v ∈ rc1 ++ six6 (fun _ => -1), v.oneCell' = true := fun x hx => by
    rcases List.mem_append.1 hx with h | h
    · exact HO1.out x h
    · exact one_six _ x h
  have l2 : (rc2 ++ six6 (fun _ => -1)).length = 49 := by rw [List.length_append, HL2.out]; rfl
  have o2 : ∀ v ∈ rc2 ++ six6 (fun _ => -1), v.oneCell' = true := fun x hx => by
    rcases List.mem_append.1 hx with h | h
    · exact HO2.out x h
    · exact one_six _ x h
  have HF1 := Lib.hid (And.intro l1 o1)
  have HF2 := Lib.hid (And.intro l2 o2)
  have HBD := Lib.hid (built101 mv HMO.out.1 rc1 rc2 HL1.out HL2.out (fun _ => -1) (fun _ => -1))
  have HLV := Lib.hid (lvC_len mv rc1 (fun _ => -1) rc2 (fun _ => -1) (.slice none 0 0) 0 HL1.out HL2.out)
  have HLO := Lib.hid (one_lvC mv rc1 (fun _ => -1) rc2 (fun _ => -1) (.slice none 0 0) 0 HMO.out.2 HO1.out HO2.out rfl)
  clear l1 o1 l2 o2 HL1 HO1 HL2 HO2 HMO
  generalize lvC mv rc1 (fun _ => -1) rc2 (fun _ => -1) (.slice none 0 0) 0 = LV at *
  generalize rc1 ++ six6 (fun _ => -1) = F1 at *
  generalize rc2 ++ six6 (fun _ => -1) = F2 at *
  go_wp2_with (with_reducible refine wpList_storeB rfl 60 (.tmp 6) (.tmp 20) rfl w2.heap.size 0 F1 ?_ ?_ z49 60 ?_ ?_ ?_ ?_ ?_)
  all_goals (first | exact Blk.newAt w2 _ z49 _ rfl | (rw [HF1.out.1]; decide) | (rw [HF1.out.1]; exact isz49) | exact HF1.out.2 | rfl | skip)
  intro w3 hB3 hK3
  rw [splice_all _ _ (by rw [HF1.out.1]; rfl)] at hB3
  have bb3 : Below w2.heap.size w2 w3 := ((Below.refl _ w2).alloc (Nat.le_refl _) _).trans (hK3.out.below (Nat.le_refl _))
  have kA3 := kA2.below bb3 kA2.lt
  have kR3 := kR2.below bb3 hx2
  have k6 := hB3.out
  have hx3 : w2.heap.size < w3.heap.size := k6.lt
  have B3 := Lib.hid (bt B2.out bb3)
  have p2 : w3.cell? ⟨w.heap.size, 2, none⟩ = some (.slice b m d) := kA3.cell 2
  have p3 : w3.cell? ⟨w.heap.size, 3, none⟩ = some (.slice b' m' d') := kA3.cell 3
  clear hB3 hK3 bb3 kA2 kR2 B2
  generalize w2.heap.size = X6 at *
  go_wp2_with fail
  refine (HE2.out w3 B3.out).mono ?_; rintro e w4 ⟨rfl, b4⟩
  have kR4 := kR3.below b4 kR3.lt
  have k64 := k6.below b4 k6.lt
  have B4 := Lib.hid (bt B3.out b4)
  have hx4 : X6 < w4.heap.size := k64.lt
  clear kA3 kR3 k6 b4 B3 p2 p3 HE2
  go_wp2_with (with_reducible refine wpList_storeB rfl 60 (.tmp 8) (.tmp 26) rfl w4.heap.size 0 F2 ?_ ?_ z49 60 ?_ ?_ ?_ ?_ ?_)
  all_goals (first | exact Blk.newAt w4 _ z49 _ rfl | (rw [HF2.out.1]; decide) | (rw [HF2.out.1]; exact isz49) | exact HF2.out.2 | rfl | skip)
  intro w5 hB5 hK5
  rw [splice_all _ _ (by rw [HF2.out.1]; rfl)] at hB5
  have bb5 : Below w4.heap.size w4 w5 := ((Below.refl _ w4).alloc (Nat.le_refl _) _).trans (hK5.out.below (Nat.le_refl _))
  have kR5 := Lib.hid (kR4.below bb5 (by omega))
  have k65 := Lib.hid (k64.below bb5 hx4)
  have k85 := Lib.hid hB5.out
  have B5 := Lib.hid (bt B4.out bb5)
  clear hB5 hK5 bb5 kR4 k64 B4
  generalize w4.heap.size = X8 at *
  rcases (show ok = false ∨ ok = true by cases ok <;> simp) with hok | hok
  · have e1 := HNO.out hok
    have hbd := fun w9 => run_build (P := Try.prog) w9 62 #[] z101.toArray built101z
    have hcs : (r1 = false ∨ r2 = false ∨ r3 = false) := by
      have := HOK.out
      rw [hok] at this
      revert this
      cases r1 <;> cases r2 <;> cases r3 <;> simp
    clear HYE HNO HOK HBD HMI
    subst e1 hok
    cases r1 <;> cases r2 <;> cases r3 <;> first | (exfalso; simp at hcs; done) | skip
    all_goals
      clear hcs
      go_wp2_with (with_reducible refine wpList_storeB rfl 62 (.tmp 2) (.tmp 38) rfl (w.heap.size + 1) 0 z101 ?_ ?_ z101 62 kR5.out ?_ ?_ ?_ ?_)
      all_goals (first | exact (show 0 + z101.length ≤ z101.length by rw [Nat.zero_add]; exact Nat.le_refl _) | exact isz101 | exact one_z101 | rfl | skip)
      intro w6 hB6 hK6
      rw [splice_all _ _ rfl] at hB6
      have B6 := Lib.hid (B5.out.trans (hK6.out.below (by omega)))
      go_wp2
      refine bodyPost_ret (results2 (a := 2) (k := 3) (t := 62) (p := ⟨w.heap.size + 1, 0, none⟩) (by kernel_rfl) rfl (HL101.out _ _ _ hB6.out rfl) rfl) rfl ⟨rfl, B6.out⟩
  · have hcs : r1 = true ∧ r2 = true ∧ r3 = true := by
      have := HOK.out
      rw [hok] at this
      revert this
      cases r1 <;> cases r2 <;> cases r3 <;> simp
    obtain ⟨rfl, rfl, rfl⟩ := hcs
    obtain ⟨T, eT⟩ := HMI.out rfl
    clear HMI
    subst eT
    have e1 := HYE.out rfl rfl hok
    clear HYE HNO HOK
    subst e1 hok
    go_upto_region 6 with fail
    refine wp_region_lit ?_
    go_step
    go_step
    rename_i K hK
    apply hK
    clear hK K
    refine wpList_loadB rfl 60 (.tmp 6) rfl X6 rfl F1 60 k65.out d49 HU49.out.1 HU49.out.2 (by rw [HF1.out.1]; exact isz49) ?_
    refine wpList_loadB rfl 60 (.tmp 8) rfl X8 rfl F2 60 k85.out d49 HU49.out.1 HU49.out.2 (by rw [HF2.out.1]; exact isz49) ?_
    refine wpList_buildTo rfl 62 #[(0, .tmp 39), (1, .tmp 40), (2, .tmp 41)] rfl (some 42) rfl EL.toArray (by simpa [Act.eval, Act.put] using HBD.out) ?_
    refine wpList_storeB rfl 62 (.tmp 2) (.tmp 42) rfl (w.heap.size + 1) 0 EL rfl rfl z101 62 kR5.out (by rw [HLV.out]; exact (show 0 + 101 ≤ 101 by decide)) (by rw [HLV.out]; exact isz101) HLO.out ?_
    intro w6 hB6 hK6
    rw [splice_all _ _ (by rw [HLV.out]; rfl)] at hB6
    have B6 := Lib.hid (B5.out.trans (hK6.out.below (by omega)))
    simp only [Act.put, List.setIfInBounds_toArray, List.set_cons_zero, List.set_cons_succ]
    go_wp2
    refine bodyPost_ret (results2 (a := 2) (k := 3) (t := 62) (p := ⟨w.heap.size + 1, 0, none⟩) (by kernel_rfl) rfl (HL101.out _ _ _ hB6.out HLV.out) rfl) rfl ⟨rfl, B6.out⟩
end Go.Proofs.Ytimfekedpgllhaa.Pv
namespace Go.Proofs.Ytimfekedpgllhaa.Pv
open Go.RowKit
theorem elC_form (hs hq : List (List Int)) (ms mq : List Int) (md : Int) : (elC hs hq ms mq md).length = 101 ∧ ∀ v ∈ elC hs hq ms mq md, v.oneCell' = true := by
  unfold elC
  split
  · exact ⟨lvC_len _ _ _ _ _ _ _ (rulC_len _ _ _ _) (rulC_len _ _ _ _), one_lvC _ _ _ _ _ _ _ (mdV_form md).2 (one_rulC _ _ _ _) (one_rulC _ _ _ _) rfl⟩
  · exact ⟨rfl, one_z101⟩
set_option maxRecDepth 100000 in
set_option maxHeartbeats 4000000 in
theorem validL_i {a a' b b' : Option Addr} {n c n' c' m d m' d' : Nat} {md : Int} {hs hq : List (List Int)} {ms mq : List Int} {w : World} (h : RdP w (.agg #[.slice a n c, .slice a' n' c']) hs ms) (k : RdP w (.agg #[.slice b m d, .slice b' m' d']) hq mq) :
    Calls Try.prog 10 #[lvV a a' b b' n c n' c' m d m' d' md] w (Bb (okL hs hq ms mq md) w) := by
  have b0 := (Below.refl w.heap.size w).alloc (Nat.le_refl _) (.cells #[.slice a n c, .slice a' n' c', .slice b m d, .slice b' m' d', .int .i64 md] 32)
  have HE := Lib.hid (elev_i (md := md) (w := w.alloc (.cells #[.slice a n c, .slice a' n' c', .slice b m d, .slice b' m' d', .int .i64 md] 32)) (RdP.belowL h b0) (RdP.belowL k b0))
  have HF := Lib.hid (elC_form hs hq ms mq md)
  unfold RetB lvV at HE
  have B0 := Lib.hid b0
  clear h k b0
  generalize elC hs hq ms mq md = EL at *
  generalize okL hs hq ms mq md = ok at *
  unfold lvV
  go_enter Try.func10, Try.ntmps10
  go_wp2_with fail
  refine HE.out.mono ?_; rintro e w1 ⟨rfl, b1⟩
  have B1 := Lib.hid (bt B0.out b1)
  clear b1
  go_wp2_with (with_reducible refine wpList_storeB rfl 62 (.tmp 3) (.tmp 8) rfl w1.heap.size 0 EL ?_ ?_ z101 62 ?_ ?_ ?_ ?_ ?_)
  all_goals (first | exact Blk.newAt w1 _ z101 _ rfl | (rw [HF.out.1]; exact (show 0 + 101 ≤ 101 by decide)) | (rw [HF.out.1]; exact isz101) | exact HF.out.2 | rfl | skip)
  intro w2 hB2 hK2
  have B2 := Lib.hid ((B1.out.alloc B1.out.size _).trans (hK2.out.below B1.out.size))
  clear hB2 hK2
  go_wp2
  go_ret
  exact ⟨rfl, B2.out⟩
end Go.Proofs.Ytimfekedpgllhaa.Pv
