/- Drawn traces. -/
import Derived.Test.YtdjkmffekfbbcaaCsrc
import Derived.Test.YtdjkmffekfbbcaaCr8
import Derived.Test.YtdjkmffekfbbcaaCmA
namespace Go.Proofs.Ytdjkmffekfbbcaa.Sr
open Go.RowKit
def FewS (N M B g : Nat) (a : Option Addr) (n c K : Nat) (w : World) (e : Ending) (w' : World) : Prop :=
  ∃ v l, e = .returned v ∧ l.length = N ∧ (∀ y ∈ l, 0 ≤ y ∧ y ≤ 63) ∧ Own w' w.heap.size v l ∧ Src w' B g a n c (K + M + N) ∧ Below B w w'
set_option maxHeartbeats 1500000 in
theorem few2_s (B g n c K N M : Nat) (a : Option Addr) (w : World) (hn : n ≤ 2000000) (hK : K ≤ 1000) (hN : N ≤ 60) (hM1 : 1 ≤ M) (hM : M ≤ 60) (h : Src w B g a n c K) :
    Calls Try.prog 42 #[.pointer (some ⟨g, 0, none⟩), .int .i64 (N : Int), .int .i64 (M : Int)] w (FewS N M B g a n c K w) := by
  have hlt := h.lt
  have hBg := h.1
  have H := Lib.hid h
  clear h
  go_enter Try.func42, Try.ntmps42
  go_wp2
  go_loopw [7, 8] (fun v i wr => ∃ j : Nat, j ≤ M ∧ i = .int .i64 j ∧ Hid (F1 w B g a n c K j v wr)) (fun _ i _ => M - (intOf i).toNat)
  case atStart => exact ⟨0, Nat.zero_le _, rfl, (show F1 _ _ _ _ _ _ _ _ _ _ from ⟨[], rfl, nil63, Own.lit0 w, H.out.below (Below.alloc (Below.refl _ _) (Nat.le_refl _) _), (Below.refl _ _).alloc (by omega) _⟩)⟩
  case round =>
    obtain ⟨j, hj, rfl, hf⟩ := hrel
    obtain ⟨l, hl, hmem, ho, hs, hb⟩ := hf.out
    have hsz : w.heap.size ≤ wr.heap.size := hb.size
    by_cases hlt2 : j < M
    · have hP := Lib.hid (pick_s B g n c (K + j) 64 a wr hn (by omega) (by omega) (by omega) hs)
      have hq : l.length + 1 ≤ 1000000000 := by omega
      have hvb := ho.block
      clear hf hs
      go_wp2_with fail
      refine hP.out.mono ?_
      rintro e w1 ⟨r, hr0, hr1, rfl, hs1, hg1⟩
      have ho1 := ho.kept hg1 (fun k hk e => by have := (hvb k hk).1; injection e with e; omega)
      have hsz1 : w.heap.size ≤ w1.heap.size := Nat.le_trans hsz hg1.size
      have hb1 : Below B w w1 := hb.grown hg1 (by omega) (fun k hk => by injection hk with hk; omega)
      go_wp2_with (at_builtin; refine wpList_app _ rfl _ _ rfl w.heap.size _ l _ ?_ ?_ ho1 hq hsz1 ?_; rfl; rfl)
      intro v' w2 ho2 hb2
      have hs2 := hs1.keep hb2 hlt
      go_wp2
      go_roundw
      case rel => exact ⟨j + 1, by omega, by go_num, ⟨l ++ [r], by simp [hl], app63 hmem hr0 (by omega), ho2, hs2.mono (by omega), hb1.trans (hb2.mono (by omega))⟩⟩
      case measure => simp [intOf]; omega
    · have e : j = M := by omega
      subst e
      obtain ⟨av, cv, hvv⟩ := ho.form
      rw [hl] at hvv
      subst hvv
      go_wp2
      go_loopw [1, 9] (fun i v2 wr2 => ∃ p : Nat, p ≤ N ∧ i = .int .i64 ((N : Int) - p) ∧ Hid (F2 w B g a n c K j p (.slice av j cv) v2 wr2)) (fun i _ _ => (intOf i).toNat)
      case atStart => exact ⟨0, Nat.zero_le _, by simp, (show F2 _ _ _ _ _ _ _ _ _ _ _ _ from ⟨l, [], hl, hmem, rfl, nil63, ho.below (Below.alloc (Below.refl _ _) (Nat.le_refl _) _) (Nat.le_refl _), (Own.lit0 wr).mono hsz, Apart.symm (Apart.new ho (fun q hq => ((Own.lit0 wr).block q hq).1) (Nat.le_refl _)), (hs.below (Below.alloc (Below.refl _ _) (Nat.le_refl _) _)), hb.trans ((Below.refl _ _).alloc (by omega) _)⟩)⟩
      case round =>
        obtain ⟨p, hp, rfl, hf2⟩ := hrel
        obtain ⟨l1, l2, g1, g2, g3, g4, g5, g6, g7, g8, g9⟩ := hf2.out
        have hsz2 : w.heap.size ≤ wr.heap.size := g9.size
        by_cases hlt3 : p < N
        · have hA := Lib.hid (among_s B w.heap.size g n c (K + j + p) a (.slice av j cv) l1 wr hn (by omega) (by omega) (by omega) g5 (fun k hk e => by have := (g5.block k hk).1; omega) g8)
          have hq : l2.length + 1 ≤ 1000000000 := by omega
          have hpos : (0 : Int) < (N : Int) - p := by omega
          clear hf2
          go_wp2_with fail
          refine hA.out.mono ?_
          rintro e w1 ⟨r, hr, rfl, hs1, hg1⟩
          have o5 := g5.kept hg1 (fun k hk e => by have := (g5.block k hk).1; injection e with e; omega)
          have o6 := g6.kept hg1 (fun k hk e => by have := (g6.block k hk).1; injection e with e; omega)
          have hsz3 : w.heap.size ≤ w1.heap.size := Nat.le_trans hsz2 hg1.size
          have hb1 : Below B w w1 := g9.grown hg1 (by omega) (fun k hk => by injection hk with hk; omega)
          go_wp2_with (at_builtin; refine wpList_appG _ rfl _ _ rfl w.heap.size _ l2 _ ?_ ?_ o6 hq hsz3 ?_; rfl; rfl)
          intro v' w2 ho2 hb2 hother
          obtain ⟨o7, ap⟩ := hother _ _ _ o5 g7
          have hs2 := hs1.keep hb2 hlt
          go_wp2
          go_roundw
          case rel => exact ⟨p + 1, by omega, by go_num, ⟨l1, l2 ++ [r], g1, g2, by simp [g3], app63 g4 (g2 _ hr).1 (g2 _ hr).2, o7, ho2, ap, hs2.mono (by omega), hb1.trans (hb2.mono (by omega))⟩⟩
          case measure => simp [intOf]; omega
        · have hneg : ¬ (0 : Int) < (N : Int) - p := by omega
          go_wp2
          go_ret
          exact ⟨_, l2, rfl, by omega, g4, g6, g8.mono (by omega), g9⟩

def One (B g : Nat) (a : Option Addr) (n c K : Nat) (w : World) (e : Ending) (w' : World) : Prop :=
  ∃ b : Bool, e = .returned (.bool b) ∧ Src w' B g a n c K ∧ w.grownBy w' (some g)
theorem one_s (B g n c K m : Nat) (a : Option Addr) (w : World) (hn : n ≤ 2000000) (hK : K ≤ 1000000) (hm1 : 1 ≤ m) (hm : m ≤ 200) (h : Src w B g a n c K) :
    Calls Try.prog 65 #[.pointer (some ⟨g, 0, none⟩), .int .i64 (m : Int)] w (One B g a n c (K + 1) w) := by
  have HP := Lib.hid (pick_s B g n c K m a w hn hK hm1 hm h)
  clear h
  go_enter Try.func65, Try.ntmps65
  go_wp2_with fail
  refine HP.out.mono ?_; rintro e w1 ⟨r, hr0, hr1, rfl, hs, hg⟩
  go_wp2
  go_ret
  exact ⟨_, rfl, hs, hg⟩
def DrU (B g : Nat) (a : Option Addr) (n c K : Nat) (w : World) (e : Ending) (w' : World) : Prop :=
  ∃ v l, e = .returned v ∧ l.length ≤ 60 ∧ (∀ y ∈ l, 0 ≤ y ∧ y ≤ 63) ∧ Own w' w.heap.size v l ∧ Src w' B g a n c (K + 200) ∧ Below B w w'
set_option maxHeartbeats 4000000 in
theorem du_s (B g n c K : Nat) (a : Option Addr) (w : World) (hn : n ≤ 2000000) (hK : K ≤ 100) (h : Src w B g a n c K) :
    Calls Try.prog 64 #[.pointer (some ⟨g, 0, none⟩)] w (DrU B g a n c K w) := by
  have HP := Lib.hid (pick_s B g n c K 16 a w hn (by omega) (by omega) (by omega) h)
  have hBg := h.1
  have hlt := h.lt
  have b0 : Below B w w := Below.refl _ _
  clear h
  go_enter Try.func64, Try.ntmps64
  go_wp2_with fail
  refine HP.out.mono ?_; rintro e w1 ⟨r, hr0, hr1, rfl, s1, g1⟩
  have b1 := b0.grown g1 (by omega) (fun k hk => by injection hk with hk; omega)
  have HO := Lib.hid (one_s B g n c (K + 1) 14 a w1 hn (by omega) (by omega) (by omega) s1)
  clear s1 HP
  go_wp2_with fail
  refine HO.out.mono ?_; rintro e w2 ⟨bo, rfl, s2, g2⟩
  have b2 := b1.grown g2 (by have := g1.size; omega) (fun k hk => by injection hk with hk; omega)
  have z2 : w.heap.size ≤ w2.heap.size := Nat.le_trans g1.size g2.size
  have HQ := Lib.hid (pick_s B g n c (K + 2) 6 a w2 hn (by omega) (by omega) (by omega) s2)
  clear s2 HO
  obtain ⟨N, rfl⟩ := Int.eq_ofNat_of_zero_le hr0
  cases bo
  · go_wp2_with fail
    refine HQ.out.mono ?_; rintro e w3 ⟨q, hq0, hq1, rfl, s3, g3⟩
    have b3 := b2.grown g3 (by omega) (fun k hk => by injection hk with hk; omega)
    have z3 : w.heap.size ≤ w3.heap.size := Nat.le_trans z2 g3.size
    obtain ⟨M, rfl⟩ := Int.eq_ofNat_of_zero_le hq0
    have hf := few2_s B g n c (K + 3) N (1 + M) a w3 (by omega) (by omega) (by omega) (by omega) (by omega) s3
    have e1 : (((1 + M : Nat)) : Int) = 1 + (M : Int) := by omega
    rw [e1] at hf
    have HF := Lib.hid hf
    clear hf e1 s3
    go_wp2_with fail
    refine HF.out.mono ?_
    rintro e w4 ⟨v, l, rfl, h1, h2, h3, h4, h5⟩
    go_wp2
    go_ret
    exact ⟨v, l, rfl, by omega, h2, h3.mono z3, h4.mono (by omega), b3.trans h5⟩
  · go_wp2_with fail
    refine HQ.out.mono ?_; rintro e w3 ⟨q, hq0, hq1, rfl, s3, g3⟩
    have b3 := b2.grown g3 (by omega) (fun k hk => by injection hk with hk; omega)
    have z3 : w.heap.size ≤ w3.heap.size := Nat.le_trans z2 g3.size
    obtain ⟨M, rfl⟩ := Int.eq_ofNat_of_zero_le hq0
    have hf := few2_s B g n c (K + 3) 60 (1 + M) a w3 (by omega) (by omega) (by omega) (by omega) (by omega) s3
    have e1 : (((1 + M : Nat)) : Int) = 1 + (M : Int) := by omega
    rw [e1] at hf
    have HF := Lib.hid hf
    clear hf e1 s3
    go_wp2_with fail
    refine HF.out.mono ?_
    rintro e w4 ⟨v, l, rfl, h1, h2, h3, h4, h5⟩
    go_wp2
    go_ret
    exact ⟨v, l, rfl, by omega, h2, h3.mono z3, h4.mono (by omega), b3.trans h5⟩
end Go.Proofs.Ytdjkmffekfbbcaa.Sr
