/- The model's source of choices: what the next choice and a pick are, and that only the source's own block changes. -/
import Derived.Test.YtdjkmffekfbbcaaCrd
import Derived.Test.YtdjkmffekfbbcaaCappg
import Derived.Laws.ShiftsVarLaws
import Derived.Laws.BitsAllLaws
import Derived.IntWalk
namespace Go.Proofs.Ytdjkmffekfbbcaa.Sr
open Go.RowKit
/-- Behind a lie n bytes, below B. -/
def Byt (w : World) (B : Nat) (a : Option Addr) (n : Nat) : Prop :=
  ∀ i, i < n → ∃ b off, a = some ⟨b, off, none⟩ ∧ b < B ∧ ∃ x : Int, w.cell? ⟨b, off + i, none⟩ = some (.int .u8 x) ∧ 0 ≤ x ∧ x ≤ 255
theorem Byt.below {w w' : World} {B : Nat} {a : Option Addr} {n : Nat} (h : Byt w B a n) (hb : Below B w w') : Byt w' B a n := fun i hi => by
  obtain ⟨b, off, ha, hlt, x, hc, hx⟩ := h i hi
  exact ⟨b, off, ha, hlt, x, (hb.cell (p := ⟨b, off + i, none⟩) hlt).trans hc, hx⟩
/-- The source lies in block g, at most K choices having been read. -/
def Src (w : World) (B g : Nat) (a : Option Addr) (n c K : Nat) : Prop :=
  B ≤ g ∧ Byt w B a n ∧ ∃ (k : Nat) (seed : Int), k ≤ K ∧ 0 ≤ seed ∧ seed ≤ 18446744073709551615 ∧ w.heap[g]? = some (.cells #[.slice a n c, .int .i64 (k : Int), .int .u64 seed] 86 (0, 0))
/-- What a step of the source leaves: a number of a range, and the source. -/
def Pk (lo hi : Int) (B g : Nat) (a : Option Addr) (n c K : Nat) (w : World) (e : Ending) (w' : World) : Prop :=
  ∃ r : Int, lo ≤ r ∧ r ≤ hi ∧ e = .returned (.int .i64 r) ∧ Src w' B g a n c K ∧ w.grownBy w' (some g)
theorem grown_set (w : World) (g i : Nat) (v : Value) : w.grownBy (w.setCell ⟨g, i, none⟩ v) (some g) :=
  ⟨rfl, rfl, rfl, ((Below.refl 0 w).setCell (p := ⟨g, i, none⟩) (Nat.zero_le _) v).size, fun k _ hk => Below.heap_setCell _ _ _ k (fun e => hk (by rw [e]))⟩
theorem grown_drewN (w w' : World) (r : Option Nat) (n : Nat) (h : w.grownBy w' r) : w.grownBy (w'.drewN n) r := ⟨h.os, h.tape, h.output, h.size, h.block⟩
theorem trans_g {a b c : World} {r : Option Nat} (h : a.grownBy b r) (k : b.grownBy c r) : a.grownBy c r := grownBy_trans h k
theorem Src.below {w w' : World} {B g n c K : Nat} {a : Option Addr} (h : Src w B g a n c K) (hb : Below w.heap.size w w') : Src w' B g a n c K := by
  obtain ⟨h1, h2, k, seed, h3, h4, h5, h6⟩ := h
  have hlt := (Array.getElem?_eq_some_iff.1 h6).1
  exact ⟨h1, h2.below (hb.mono (by omega)), k, seed, h3, h4, h5, by rw [hb.block g hlt]; exact h6⟩
theorem Src.mono {w : World} {B g n c K K' : Nat} {a : Option Addr} (h : Src w B g a n c K) (hK : K ≤ K') : Src w B g a n c K' := by
  obtain ⟨h1, h2, k, seed, h3, h⟩ := h
  exact ⟨h1, h2, k, seed, Nat.le_trans h3 hK, h⟩
theorem Src.lt {w : World} {B g n c K : Nat} {a : Option Addr} (h : Src w B g a n c K) : g < w.heap.size := by
  obtain ⟨_, _, k, seed, _, _, _, h6⟩ := h
  exact (Array.getElem?_eq_some_iff.1 h6).1
theorem and255 (v : Int) (h0 : 0 ≤ v) (h1 : v ≤ 18446744073709551615) : 0 ≤ wrap64 (bits .and .u64 (v / 1099511627776) 255) ∧ wrap64 (bits .and .u64 (v / 1099511627776) 255) ≤ 255 := by
  rw [u64_and _ _ (by omega) (by omega) (by omega) (by omega)]
  have h := Nat.and_le_right (n := (v / 1099511627776).toNat) (m := (255 : Int).toNat)
  have e : (255 : Int).toNat = 255 := rfl
  rw [e] at h ⊢
  generalize ((v / 1099511627776).toNat &&& 255) = y at *
  unfold wrap64
  omega
theorem nil63 : ∀ y ∈ ([] : List Int), 0 ≤ y ∧ y ≤ 63 := fun _ hy => absurd hy List.not_mem_nil
theorem app63 {l : List Int} {r : Int} (h : ∀ y ∈ l, 0 ≤ y ∧ y ≤ 63) (h0 : 0 ≤ r) (h1 : r ≤ 63) : ∀ y ∈ l ++ [r], 0 ≤ y ∧ y ≤ 63 := fun y hy => by
  rcases List.mem_append.1 hy with hy | hy
  · exact h y hy
  · rw [List.mem_singleton] at hy
    subst hy
    exact ⟨h0, h1⟩
set_option maxHeartbeats 2000000 in
set_option maxRecDepth 100000 in
theorem next_s (B g n c K : Nat) (a : Option Addr) (w : World) (hn : n ≤ 2000000) (hK : K ≤ 1000000) (h : Src w B g a n c K) :
    Calls Try.prog 60 #[.pointer (some ⟨g, 0, none⟩)] w (Pk 0 255 B g a n c (K + 1) w) := by
  obtain ⟨hB, hby, k, seed, hk, hs0, hs1, hh⟩ := h
  have c0 : w.cell? ⟨g, 0, none⟩ = some (.slice a n c) := by simp [World.cell?, hh]
  have c1 : w.cell? ⟨g, 1, none⟩ = some (.int .i64 (k : Int)) := by simp [World.cell?, hh]
  have c2 : w.cell? ⟨g, 2, none⟩ = some (.int .u64 seed) := by simp [World.cell?, hh]
  have f1 : w.frozen? ⟨g, 1, none⟩ = false := by simp [World.frozen?, hh]
  have f2 : w.frozen? ⟨g, 2, none⟩ = false := by simp [World.frozen?, hh]
  have key : ∀ (m : Nat) (v : Int), (((w.drewN m).setCell ⟨g, 1, none⟩ (.int .i64 ((k : Int) + 1))).setCell ⟨g, 2, none⟩ (.int .u64 v)).heap[g]? = some (.cells #[.slice a n c, .int .i64 (((k + 1 : Nat)) : Int), .int .u64 v] 86 (0, 0)) ∧
      w.grownBy (((w.drewN m).setCell ⟨g, 1, none⟩ (.int .i64 ((k : Int) + 1))).setCell ⟨g, 2, none⟩ (.int .u64 v)) (some g) ∧ Byt (((w.drewN m).setCell ⟨g, 1, none⟩ (.int .i64 ((k : Int) + 1))).setCell ⟨g, 2, none⟩ (.int .u64 v)) B a n := fun m v => by
    have g1 := trans_g (grown_set (w.drewN m) g 1 (.int .i64 ((k : Int) + 1))) (grown_set _ g 2 (.int .u64 v))
    have g2 : w.grownBy (((w.drewN m).setCell ⟨g, 1, none⟩ (.int .i64 ((k : Int) + 1))).setCell ⟨g, 2, none⟩ (.int .u64 v)) (some g) := ⟨g1.os, g1.tape, g1.output, g1.size, g1.block⟩
    refine ⟨?_, g2, hby.below ((Below.refl B w).grown g2 (by have := (Array.getElem?_eq_some_iff.1 hh).1; omega) (fun q hq => by injection hq with hq; omega))⟩
    rw [heap_setCell_same _ g 2 _ _ _ (heap_setCell_same (w.drewN m) g 1 _ _ _ hh)]
    rfl
  have KEY := Lib.hid key
  have HBY := Lib.hid hby
  clear key hh hby
  by_cases hat : k < n
  · obtain ⟨b, off, rfl, hlt, x, hc, hx0, hx1⟩ := HBY.out k hat
    have h2 : (k : Int) < (n : Int) := by omega
    go_enter Try.func60, Try.ntmps60
    go_wp2
    go_quiet (fail)
    go_wp2
    go_quiet (fail)
    go_wp2
    rename_i nq
    generalize hv : IntKind.u64.wrap (IntKind.u64.wrap (IntKind.u64.wrap (seed * 6364136223846793005) + x) + 1442695040888963407) = v at *
    have hv2 : 0 ≤ v ∧ v ≤ 18446744073709551615 := by rw [IntKind.wrap_u64] at hv; omega
    clear hv
    obtain ⟨hh2, gr2, by2⟩ := KEY.out _ v
    generalize World.setCell (World.setCell (World.drewN w _) ⟨g, 1, none⟩ _) ⟨g, 2, none⟩ _ = w2 at *
    have d0 : w2.cell? ⟨g, 0, none⟩ = some (.slice (some ⟨b, off, none⟩) n c) := by simp [World.cell?, hh2]
    have d1 : w2.cell? ⟨g, 1, none⟩ = some (.int .i64 (((k + 1 : Nat)) : Int)) := by simp [World.cell?, hh2]
    have h3 : (((k + 1 : Nat)) : Int) ≤ (n : Int) := by omega
    have HH := Lib.hid hh2
    clear hh2
    go_quiet (fail)
    go_wp2
    go_ret
    exact ⟨x, hx0, hx1, rfl, ⟨hB, by2, k + 1, v, by omega, hv2.1, hv2.2, HH.out⟩, grown_drewN _ _ _ _ gr2⟩
  · have h2 : ¬ (k : Int) < (n : Int) := by omega
    go_enter Try.func60, Try.ntmps60
    go_wp2
    go_quiet (fail)
    go_wp2
    generalize hv : IntKind.u64.wrap (IntKind.u64.wrap (IntKind.u64.wrap (seed * 6364136223846793005)) + 1442695040888963407) = v at *
    have hv2 : 0 ≤ v ∧ v ≤ 18446744073709551615 := by rw [IntKind.wrap_u64] at hv; omega
    clear hv
    obtain ⟨hh2, gr2, by2⟩ := KEY.out _ v
    generalize World.setCell (World.setCell (World.drewN w _) ⟨g, 1, none⟩ _) ⟨g, 2, none⟩ _ = w2 at *
    have d0 : w2.cell? ⟨g, 0, none⟩ = some (.slice a n c) := by simp [World.cell?, hh2]
    have d1 : w2.cell? ⟨g, 1, none⟩ = some (.int .i64 (((k + 1 : Nat)) : Int)) := by simp [World.cell?, hh2]
    have d2 : w2.cell? ⟨g, 2, none⟩ = some (.int .u64 v) := by simp [World.cell?, hh2]
    have h3 : ¬ (((k + 1 : Nat)) : Int) ≤ (n : Int) := by omega
    have HH := Lib.hid hh2
    clear hh2
    go_quiet (fail)
    go_wp2
    go_ret
    obtain ⟨e0, e1⟩ := and255 v hv2.1 hv2.2
    exact ⟨_, e0, e1, rfl, ⟨hB, by2, k + 1, v, by omega, hv2.1, hv2.2, HH.out⟩, grown_drewN _ _ _ _ gr2⟩
/-- pick of at most 200. -/
theorem pick_s (B g n c K m : Nat) (a : Option Addr) (w : World) (hn : n ≤ 2000000) (hK : K ≤ 1000000) (hm1 : 1 ≤ m) (hm : m ≤ 200) (h : Src w B g a n c K) :
    Calls Try.prog 41 #[.pointer (some ⟨g, 0, none⟩), .int .i64 (m : Int)] w (Pk 0 ((m : Int) - 1) B g a n c (K + 1) w) := by
  by_cases hm2 : m = 1
  · subst hm2
    have H := Lib.hid h
    go_enter Try.func41, Try.ntmps41
    go_wp2
    go_ret
    exact ⟨0, by omega, by omega, rfl, H.out.mono (by omega), ⟨rfl, rfl, rfl, Nat.le_refl _, fun _ _ _ => rfl⟩⟩
  · have hN := Lib.hid (next_s B g n c K a w hn hK h)
    clear h
    have h1 : ¬ (m : Int) ≤ 1 := by omega
    have h2 : ¬ (200 : Int) < (m : Int) := by omega
    go_enter Try.func41, Try.ntmps41
    go_wp2_with (go_at_call 60; refine hN.out.mono ?_; rintro e w1 ⟨r, hr0, hr1, rfl, hs, hg⟩)
    go_ret
    refine ⟨_, ?_, ?_, rfl, hs, hg⟩
    · exact Int.emod_nonneg _ (by omega)
    · have := Int.emod_lt_of_pos r (show (0 : Int) < (m : Int) by omega); omega
def Am (ys : List Int) (B g : Nat) (a : Option Addr) (n c K : Nat) (w : World) (e : Ending) (w' : World) : Prop :=
  ∃ r : Int, r ∈ ys ∧ e = .returned (.int .i64 r) ∧ Src w' B g a n c K ∧ w.grownBy w' (some g)
theorem among_s (B C g n c K : Nat) (a : Option Addr) (v : Value) (ys : List Int) (w : World) (hn : n ≤ 2000000) (hK : K ≤ 1000000) (h1 : 0 < ys.length) (h2 : ys.length ≤ 200) (hy : Own w C v ys) (hne : ∀ k, v.ownBlock = some k → k ≠ g) (h : Src w B g a n c K) :
    Calls Try.prog 61 #[.pointer (some ⟨g, 0, none⟩), v] w (Am ys B g a n c (K + 1) w) := by
  have hP := Lib.hid (pick_s B g n c K ys.length a w hn hK h1 h2 h)
  have HK := Lib.hid (fun (w' : World) (hg : w.grownBy w' (some g)) => (Own.kept hy hg fun k hk e => hne k hk (by injection e)))
  have hv : ∃ b cap, v = .slice (some ⟨b, 0, none⟩) ys.length cap := by
    rcases hy.cases with ⟨_, e⟩ | ⟨b, cap, e, _⟩
    · rw [e] at h1; simp at h1
    · exact ⟨b, cap, e⟩
  obtain ⟨b, cap, rfl⟩ := hv
  clear hy hne h
  have HM := Lib.hid (fun i (hi : i < ys.length) => (show ys.getD i 0 ∈ ys by rw [List.getD_eq_getElem?_getD, List.getElem?_eq_getElem hi]; exact List.getElem_mem hi))
  generalize hL : ys.length = L at *
  go_enter Try.func61, Try.ntmps61
  go_wp2_with fail
  refine hP.out.mono ?_
  rintro e w1 ⟨r, hr0, hr1, rfl, hs, hg⟩
  obtain ⟨i, rfl⟩ := Int.eq_ofNat_of_zero_le hr0
  have hi : i < L := by omega
  have ho := HK.out w1 hg
  have hc : w1.cell? ⟨b, i, none⟩ = some (.int .i64 (ys.getD i 0)) := by
    rcases ho.cases with ⟨e, _⟩ | ⟨b', cap', e, _, _, _, hc, _⟩
    · cases e
    · injection e with e1 e2 e3
      injection e1 with e1
      injection e1 with e1
      subst e1
      exact hc i (by omega)
  have hm := HM.out i hi
  clear ho
  generalize ys.getD i 0 = u at *
  have hi2 : (i : Int) < (L : Int) := by omega
  go_wp2
  go_ret
  exact ⟨u, hm, rfl, hs, hg⟩
theorem Src.keep {w w' : World} {B C g n c K : Nat} {a : Option Addr} (h : Src w B g a n c K) (hb : Below C w w') (hg : g < C) : Src w' B g a n c K := by
  obtain ⟨h1, h2, k, seed, h3, h4, h5, h6⟩ := h
  exact ⟨h1, h2.below (hb.mono (by omega)), k, seed, h3, h4, h5, by rw [hb.block g hg]; exact h6⟩
def Few (N : Nat) (B : Nat) (w : World) (e : Ending) (w' : World) : Prop :=
  ∃ v l, e = .returned v ∧ l.length = N ∧ (∀ y ∈ l, 0 ≤ y ∧ y ≤ 63) ∧ Own w' w.heap.size v l ∧ Below B w w'
def F1 (w : World) (B g : Nat) (a : Option Addr) (n c K j : Nat) (v : Value) (wr : World) : Prop :=
  ∃ l : List Int, l.length = j ∧ (∀ y ∈ l, 0 ≤ y ∧ y ≤ 63) ∧ Own wr w.heap.size v l ∧ Src wr B g a n c (K + j) ∧ Below B w wr
def F2 (w : World) (B g : Nat) (a : Option Addr) (n c K M j : Nat) (v v2 : Value) (wr : World) : Prop :=
  ∃ l l2 : List Int, l.length = M ∧ (∀ y ∈ l, 0 ≤ y ∧ y ≤ 63) ∧ l2.length = j ∧ (∀ y ∈ l2, 0 ≤ y ∧ y ≤ 63) ∧ Own wr w.heap.size v l ∧ Own wr w.heap.size v2 l2 ∧ Apart v2 v ∧ Src wr B g a n c (K + M + j) ∧ Below B w wr
set_option maxHeartbeats 1500000 in
theorem few_s (B g n c K N M : Nat) (a : Option Addr) (w : World) (hn : n ≤ 2000000) (hK : K ≤ 1000) (hN : N ≤ 60) (hM1 : 1 ≤ M) (hM : M ≤ 60) (h : Src w B g a n c K) :
    Calls Try.prog 42 #[.pointer (some ⟨g, 0, none⟩), .int .i64 (N : Int), .int .i64 (M : Int)] w (Few N B w) := by
  have hlt := h.lt
  have hBg := h.1
  have H := Lib.hid h
  clear h
  go_enter Try.func42, Try.ntmps42
  go_wp2
  go_loopw [7, 8] (fun v i wr => ∃ j : Nat, j ≤ M ∧ i = .int .i64 j ∧ Hid (F1 w B g a n c K j v wr)) (fun _ i _ => M - (intOf i).toNat)
  case atStart => exact ⟨0, Nat.zero_le _, rfl, (show F1 _ _ _ _ _ _ _ _ _ _ from ⟨[], rfl, nil63, Own.lit0 w, H.out.below (Below.alloc (Below.refl _ _) (Nat.le_refl _) _), (Below.refl _ _).alloc (by omega) _⟩)⟩
  case round =>
    obtain ⟨j, hj, rfl, hf⟩ := hrel
    obtain ⟨l, hl, hmem, ho, hs, hb⟩ := hf.out
    have hsz : w.heap.size ≤ wr.heap.size := hb.size
    by_cases hlt2 : j < M
    · have hP := Lib.hid (pick_s B g n c (K + j) 64 a wr hn (by omega) (by omega) (by omega) hs)
      have hq : l.length + 1 ≤ 1000000000 := by omega
      have hvb := ho.block
      clear hf hs
      go_wp2_with fail
      refine hP.out.mono ?_
      rintro e w1 ⟨r, hr0, hr1, rfl, hs1, hg1⟩
      have ho1 := ho.kept hg1 (fun k hk e => by have := (hvb k hk).1; injection e with e; omega)
      have hsz1 : w.heap.size ≤ w1.heap.size := Nat.le_trans hsz hg1.size
      have hb1 : Below B w w1 := hb.grown hg1 (by omega) (fun k hk => by injection hk with hk; omega)
      go_wp2_with (at_builtin; refine wpList_app _ rfl _ _ rfl w.heap.size _ l _ ?_ ?_ ho1 hq hsz1 ?_; rfl; rfl)
      intro v' w2 ho2 hb2
      have hs2 := hs1.keep hb2 hlt
      go_wp2
      go_roundw
      case rel => exact ⟨j + 1, by omega, by go_num, ⟨l ++ [r], by simp [hl], app63 hmem hr0 (by omega), ho2, hs2.mono (by omega), hb1.trans (hb2.mono (by omega))⟩⟩
      case measure => simp [intOf]; omega
    · have e : j = M := by omega
      subst e
      obtain ⟨av, cv, hvv⟩ := ho.form
      rw [hl] at hvv
      subst hvv
      go_wp2
      go_loopw [1, 9] (fun i v2 wr2 => ∃ p : Nat, p ≤ N ∧ i = .int .i64 ((N : Int) - p) ∧ Hid (F2 w B g a n c K j p (.slice av j cv) v2 wr2)) (fun i _ _ => (intOf i).toNat)
      case atStart => exact ⟨0, Nat.zero_le _, by simp, (show F2 _ _ _ _ _ _ _ _ _ _ _ _ from ⟨l, [], hl, hmem, rfl, nil63, ho.below (Below.alloc (Below.refl _ _) (Nat.le_refl _) _) (Nat.le_refl _), (Own.lit0 wr).mono hsz, Apart.symm (Apart.new ho (fun q hq => ((Own.lit0 wr).block q hq).1) (Nat.le_refl _)), (hs.below (Below.alloc (Below.refl _ _) (Nat.le_refl _) _)), hb.trans ((Below.refl _ _).alloc (by omega) _)⟩)⟩
      case round =>
        obtain ⟨p, hp, rfl, hf2⟩ := hrel
        obtain ⟨l1, l2, g1, g2, g3, g4, g5, g6, g7, g8, g9⟩ := hf2.out
        have hsz2 : w.heap.size ≤ wr.heap.size := g9.size
        by_cases hlt3 : p < N
        · have hA := Lib.hid (among_s B w.heap.size g n c (K + j + p) a (.slice av j cv) l1 wr hn (by omega) (by omega) (by omega) g5 (fun k hk e => by have := (g5.block k hk).1; omega) g8)
          have hq : l2.length + 1 ≤ 1000000000 := by omega
          have hpos : (0 : Int) < (N : Int) - p := by omega
          clear hf2
          go_wp2_with fail
          refine hA.out.mono ?_
          rintro e w1 ⟨r, hr, rfl, hs1, hg1⟩
          have o5 := g5.kept hg1 (fun k hk e => by have := (g5.block k hk).1; injection e with e; omega)
          have o6 := g6.kept hg1 (fun k hk e => by have := (g6.block k hk).1; injection e with e; omega)
          have hsz3 : w.heap.size ≤ w1.heap.size := Nat.le_trans hsz2 hg1.size
          have hb1 : Below B w w1 := g9.grown hg1 (by omega) (fun k hk => by injection hk with hk; omega)
          go_wp2_with (at_builtin; refine wpList_appG _ rfl _ _ rfl w.heap.size _ l2 _ ?_ ?_ o6 hq hsz3 ?_; rfl; rfl)
          intro v' w2 ho2 hb2 hother
          obtain ⟨o7, ap⟩ := hother _ _ _ o5 g7
          have hs2 := hs1.keep hb2 hlt
          go_wp2
          go_roundw
          case rel => exact ⟨p + 1, by omega, by go_num, ⟨l1, l2 ++ [r], g1, g2, by simp [g3], app63 g4 (g2 _ hr).1 (g2 _ hr).2, o7, ho2, ap, hs2.mono (by omega), hb1.trans (hb2.mono (by omega))⟩⟩
          case measure => simp [intOf]; omega
        · have hneg : ¬ (0 : Int) < (N : Int) - p := by omega
          go_wp2
          go_ret
          exact ⟨_, l2, rfl, by omega, g4, g6, g9⟩
end Go.Proofs.Ytdjkmffekfbbcaa.Sr
