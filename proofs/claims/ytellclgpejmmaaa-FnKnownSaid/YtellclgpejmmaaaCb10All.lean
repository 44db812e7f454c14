/- Contracts of laws.b10Long and laws.b10At: a number from 0 up to n, whatever the bytes. The model's source of choices: what the next choice and a pick are, and that only the source's own block changes. Contracts of the laws' own helpers: drawn uses, membership, equality of lists. -/
import Derived.Test.YtellclgpejmmaaaCRow
import Derived.Test.YtellclgpejmmaaaCrd
import Derived.Test.YtellclgpejmmaaaCappg
import Derived.Laws.ShiftsVarLaws
import Derived.Laws.BitsAllLaws
import Derived.IntWalk
import Derived.Test.YtellclgpejmmaaaCuses
import Derived.Test.YtellclgpejmmaaaPlainUses
import Derived.WalkMore
namespace Go.Proofs.Ytellclgpejmmaaa.B10
open Go.RowKit
def Under (n : Int) (w : World) (e : Ending) (w' : World) : Prop := ∃ r : Int, 0 ≤ r ∧ r < n ∧ e = .returned (.int .i64 r) ∧ w = w'
theorem under_mk {n r : Int} {w : World} {v : Value} (h0 : 0 ≤ r) (h1 : r < n) (hv : v = .int .i64 r) : Under n w (.returned v) w := ⟨r, h0, h1, by rw [hv], rfl⟩
theorem tmodb (x n : Int) (hx : 0 ≤ x) (hn : 1 ≤ n) : 0 ≤ x.tmod n ∧ x.tmod n < n := by
  rw [Int.tmod_eq_emod_of_nonneg hx]
  exact ⟨Int.emod_nonneg _ (by omega), Int.emod_lt_of_pos _ (by omega)⟩
theorem at_any (a : Option Addr) (len cap : Nat) (zs : List Int) (w : World) (h : IsRow .u8 w a len cap zs) (i n : Int) (hi0 : 0 ≤ i) (hi1 : i ≤ 1000) (hn0 : 1 ≤ n) (hn1 : n ≤ 1000000000) :
    Calls Try.prog 7 #[.slice a len cap, .int .i64 i, .int .i64 n] w (Under n w) := by
  by_cases hn : n ≤ 1
  · go_enter Try.func7, Try.ntmps7
    go_wp2
    go_ret
    exact under_mk (by omega) (by omega) rfl
  · have hm := tmodb (i * 37 + 11) n (by omega) hn0
    have hm2 : (i * 37 + 11) % n < n := Int.emod_lt_of_pos _ (by omega)
    have hm3 : 0 ≤ (i * 37 + 11) % n := Int.emod_nonneg _ (by omega)
    by_cases hl : i < len
    · obtain ⟨b, off, rfl, hlc, hcm, hz, hc, hwz⟩ := h.at (by omega)
      obtain ⟨k, rfl⟩ := Int.eq_ofNat_of_zero_le hi0
      have hc0 := hc k (by omega)
      have hu := bounds_u8 (hwz k (by omega))
      have hk : k < zs.length := by omega
      clear hc hwz h
      generalize zs.getD k 0 = u at *
      have hu2 : u % n < n := Int.emod_lt_of_pos _ (by omega)
      have hu3 : 0 ≤ u % n := Int.emod_nonneg _ (by omega)
      go_enter Try.func7, Try.ntmps7
      go_wp2
      go_ret
      exact under_mk hu3 hu2 rfl
    · go_enter Try.func7, Try.ntmps7
      go_wp2
      go_ret
      exact under_mk hm3 hm2 rfl
theorem long_no (a0 : Option Addr) (len0 cap0 : Nat) (a1 : Option Addr) (len1 cap1 : Nat) (w : World) (h0 : len0 ≤ 1048576) (h1 : len1 ≤ 1048576) :
    Calls Try.prog 5 #[.slice a0 len0 cap0, .slice a1 len1 cap1] w fun e w' => e = .returned (.bool false) ∧ w = w' := by
  have g0 : ¬ (1048576 : Int) < len0 := by omega
  have g1 : ¬ (1048576 : Int) < len1 := by omega
  go_enter Try.func5, Try.ntmps5
  go_wp2
  go_ret
  exact ⟨rfl, rfl⟩
theorem long_yes (a0 : Option Addr) (len0 cap0 : Nat) (a1 : Option Addr) (len1 cap1 : Nat) (w : World) (h : 1048576 < len0 ∨ 1048576 < len1) :
    Calls Try.prog 5 #[.slice a0 len0 cap0, .slice a1 len1 cap1] w fun e w' => e = .returned (.bool true) ∧ w = w' := by
  by_cases g0 : (1048576 : Int) < len0
  · go_enter Try.func5, Try.ntmps5
    go_wp2
    go_ret
    exact ⟨rfl, rfl⟩
  · have g1 : (1048576 : Int) < len1 := by omega
    go_enter Try.func5, Try.ntmps5
    go_wp2
    go_ret
    exact ⟨rfl, rfl⟩
end Go.Proofs.Ytellclgpejmmaaa.B10
namespace Go.Proofs.Ytellclgpejmmaaa.Sr
open Go.RowKit
/-- Behind a lie n bytes, below B. -/
def Byt (w : World) (B : Nat) (a : Option Addr) (n : Nat) : Prop :=
  ∀ i, i < n → ∃ b off, a = some ⟨b, off, none⟩ ∧ b < B ∧ ∃ x : Int, w.cell? ⟨b, off + i, none⟩ = some (.int .u8 x) ∧ 0 ≤ x ∧ x ≤ 255
theorem Byt.below {w w' : World} {B : Nat} {a : Option Addr} {n : Nat} (h : Byt w B a n) (hb : Below B w w') : Byt w' B a n := fun i hi => by
  obtain ⟨b, off, ha, hlt, x, hc, hx⟩ := h i hi
  exact ⟨b, off, ha, hlt, x, (hb.cell (p := ⟨b, off + i, none⟩) hlt).trans hc, hx⟩
/-- The source lies in block g, at most K choices having been read. -/
def Src (w : World) (B g : Nat) (a : Option Addr) (n c K : Nat) : Prop :=
  B ≤ g ∧ Byt w B a n ∧ ∃ (k : Nat) (seed : Int), k ≤ K ∧ 0 ≤ seed ∧ seed ≤ 18446744073709551615 ∧ w.heap[g]? = some (.cells #[.slice a n c, .int .i64 (k : Int), .int .u64 seed] 71 (0, 0))
/-- What a step of the source leaves: a number of a range, and the source. -/
def Pk (lo hi : Int) (B g : Nat) (a : Option Addr) (n c K : Nat) (w : World) (e : Ending) (w' : World) : Prop :=
  ∃ r : Int, lo ≤ r ∧ r ≤ hi ∧ e = .returned (.int .i64 r) ∧ Src w' B g a n c K ∧ w.grownBy w' (some g)
theorem grown_set (w : World) (g i : Nat) (v : Value) : w.grownBy (w.setCell ⟨g, i, none⟩ v) (some g) :=
  ⟨rfl, rfl, rfl, ((Below.refl 0 w).setCell (p := ⟨g, i, none⟩) (Nat.zero_le _) v).size, fun k _ hk => Below.heap_setCell _ _ _ k (fun e => hk (by rw [e]))⟩
theorem grown_drewN (w w' : World) (r : Option Nat) (n : Nat) (h : w.grownBy w' r) : w.grownBy (w'.drewN n) r := ⟨h.os, h.tape, h.output, h.size, h.block⟩
theorem trans_g {a b c : World} {r : Option Nat} (h : a.grownBy b r) (k : b.grownBy c r) : a.grownBy c r := grownBy_trans h k
theorem Src.below {w w' : World} {B g n c K : Nat} {a : Option Addr} (h : Src w B g a n c K) (hb : Below w.heap.size w w') : Src w' B g a n c K := by
  obtain ⟨h1, h2, k, seed, h3, h4, h5, h6⟩ := h
  have hlt := (Array.getElem?_eq_some_iff.1 h6).1
  exact ⟨h1, h2.below (hb.mono (by omega)), k, seed, h3, h4, h5, by rw [hb.block g hlt]; exact h6⟩
theorem Src.mono {w : World} {B g n c K K' : Nat} {a : Option Addr} (h : Src w B g a n c K) (hK : K ≤ K') : Src w B g a n c K' := by
  obtain ⟨h1, h2, k, seed, h3, h⟩ := h
  exact ⟨h1, h2, k, seed, Nat.le_trans h3 hK, h⟩
theorem Src.lt {w : World} {B g n c K : Nat} {a : Option Addr} (h : Src w B g a n c K) : g < w.heap.size := by
  obtain ⟨_, _, k, seed, _, _, _, h6⟩ := h
  exact (Array.getElem?_eq_some_iff.1 h6).1
theorem and255 (v : Int) (h0 : 0 ≤ v) (h1 : v ≤ 18446744073709551615) : 0 ≤ wrap64 (bits .and .u64 (v / 1099511627776) 255) ∧ wrap64 (bits .and .u64 (v / 1099511627776) 255) ≤ 255 := by
  rw [u64_and _ _ (by omega) (by omega) (by omega) (by omega)]
  have h := Nat.and_le_right (n := (v / 1099511627776).toNat) (m := (255 : Int).toNat)
  have e : (255 : Int).toNat = 255 := rfl
  rw [e] at h ⊢
  generalize ((v / 1099511627776).toNat &&& 255) = y at *
  unfold wrap64
  omega
theorem nil63 : ∀ y ∈ ([] : List Int), 0 ≤ y ∧ y ≤ 63 := fun _ hy => absurd hy List.not_mem_nil
theorem app63 {l : List Int} {r : Int} (h : ∀ y ∈ l, 0 ≤ y ∧ y ≤ 63) (h0 : 0 ≤ r) (h1 : r ≤ 63) : ∀ y ∈ l ++ [r], 0 ≤ y ∧ y ≤ 63 := fun y hy => by
  rcases List.mem_append.1 hy with hy | hy
  · exact h y hy
  · rw [List.mem_singleton] at hy
    subst hy
    exact ⟨h0, h1⟩
set_option maxHeartbeats 2000000 in
set_option maxRecDepth 100000 in
theorem next_s (B g n c K : Nat) (a : Option Addr) (w : World) (hn : n ≤ 2000000) (hK : K ≤ 1000000) (h : Src w B g a n c K) :
    Calls Try.prog 38 #[.pointer (some ⟨g, 0, none⟩)] w (Pk 0 255 B g a n c (K + 1) w) := by
  obtain ⟨hB, hby, k, seed, hk, hs0, hs1, hh⟩ := h
  have c0 : w.cell? ⟨g, 0, none⟩ = some (.slice a n c) := by simp [World.cell?, hh]
  have c1 : w.cell? ⟨g, 1, none⟩ = some (.int .i64 (k : Int)) := by simp [World.cell?, hh]
  have c2 : w.cell? ⟨g, 2, none⟩ = some (.int .u64 seed) := by simp [World.cell?, hh]
  have f1 : w.frozen? ⟨g, 1, none⟩ = false := by simp [World.frozen?, hh]
  have f2 : w.frozen? ⟨g, 2, none⟩ = false := by simp [World.frozen?, hh]
  have key : ∀ (m : Nat) (v : Int), (((w.drewN m).setCell ⟨g, 1, none⟩ (.int .i64 ((k : Int) + 1))).setCell ⟨g, 2, none⟩ (.int .u64 v)).heap[g]? = some (.cells #[.slice a n c, .int .i64 (((k + 1 : Nat)) : Int), .int .u64 v] 71 (0, 0)) ∧
      w.grownBy (((w.drewN m).setCell ⟨g, 1, none⟩ (.int .i64 ((k : Int) + 1))).setCell ⟨g, 2, none⟩ (.int .u64 v)) (some g) ∧ Byt (((w.drewN m).setCell ⟨g, 1, none⟩ (.int .i64 ((k : Int) + 1))).setCell ⟨g, 2, none⟩ (.int .u64 v)) B a n := fun m v => by
    have g1 := trans_g (grown_set (w.drewN m) g 1 (.int .i64 ((k : Int) + 1))) (grown_set _ g 2 (.int .u64 v))
    have g2 : w.grownBy (((w.drewN m).setCell ⟨g, 1, none⟩ (.int .i64 ((k : Int) + 1))).setCell ⟨g, 2, none⟩ (.int .u64 v)) (some g) := ⟨g1.os, g1.tape, g1.output, g1.size, g1.block⟩
    refine ⟨?_, g2, hby.below ((Below.refl B w).grown g2 (by have := (Array.getElem?_eq_some_iff.1 hh).1; omega) (fun q hq => by injection hq with hq; omega))⟩
    rw [heap_setCell_same _ g 2 _ _ _ (heap_setCell_same (w.drewN m) g 1 _ _ _ hh)]
    rfl
  have KEY := Lib.hid key
  have HBY := Lib.hid hby
  clear key hh hby
  by_cases hat : k < n
  · obtain ⟨b, off, rfl, hlt, x, hc, hx0, hx1⟩ := HBY.out k hat
    have h2 : (k : Int) < (n : Int) := by omega
    go_enter Try.func38, Try.ntmps38
    go_wp2
    go_quiet (fail)
    go_wp2
    go_quiet (fail)
    go_wp2
    rename_i nq
    generalize hv : IntKind.u64.wrap (IntKind.u64.wrap (IntKind.u64.wrap (seed * 6364136223846793005) + x) + 1442695040888963407) = v at *
    have hv2 : 0 ≤ v ∧ v ≤ 18446744073709551615 := by rw [IntKind.wrap_u64] at hv; omega
    clear hv
    obtain ⟨hh2, gr2, by2⟩ := KEY.out _ v
    generalize World.setCell (World.setCell (World.drewN w _) ⟨g, 1, none⟩ _) ⟨g, 2, none⟩ _ = w2 at *
    have d0 : w2.cell? ⟨g, 0, none⟩ = some (.slice (some ⟨b, off, none⟩) n c) := by simp [World.cell?, hh2]
    have d1 : w2.cell? ⟨g, 1, none⟩ = some (.int .i64 (((k + 1 : Nat)) : Int)) := by simp [World.cell?, hh2]
    have h3 : (((k + 1 : Nat)) : Int) ≤ (n : Int) := by omega
    have HH := Lib.hid hh2
    clear hh2
    go_quiet (fail)
    go_wp2
    go_ret
    exact ⟨x, hx0, hx1, rfl, ⟨hB, by2, k + 1, v, by omega, hv2.1, hv2.2, HH.out⟩, grown_drewN _ _ _ _ gr2⟩
  · have h2 : ¬ (k : Int) < (n : Int) := by omega
    go_enter Try.func38, Try.ntmps38
    go_wp2
    go_quiet (fail)
    go_wp2
    generalize hv : IntKind.u64.wrap (IntKind.u64.wrap (IntKind.u64.wrap (seed * 6364136223846793005)) + 1442695040888963407) = v at *
    have hv2 : 0 ≤ v ∧ v ≤ 18446744073709551615 := by rw [IntKind.wrap_u64] at hv; omega
    clear hv
    obtain ⟨hh2, gr2, by2⟩ := KEY.out _ v
    generalize World.setCell (World.setCell (World.drewN w _) ⟨g, 1, none⟩ _) ⟨g, 2, none⟩ _ = w2 at *
    have d0 : w2.cell? ⟨g, 0, none⟩ = some (.slice a n c) := by simp [World.cell?, hh2]
    have d1 : w2.cell? ⟨g, 1, none⟩ = some (.int .i64 (((k + 1 : Nat)) : Int)) := by simp [World.cell?, hh2]
    have d2 : w2.cell? ⟨g, 2, none⟩ = some (.int .u64 v) := by simp [World.cell?, hh2]
    have h3 : ¬ (((k + 1 : Nat)) : Int) ≤ (n : Int) := by omega
    have HH := Lib.hid hh2
    clear hh2
    go_quiet (fail)
    go_wp2
    go_ret
    obtain ⟨e0, e1⟩ := and255 v hv2.1 hv2.2
    exact ⟨_, e0, e1, rfl, ⟨hB, by2, k + 1, v, by omega, hv2.1, hv2.2, HH.out⟩, grown_drewN _ _ _ _ gr2⟩
/-- pick of at most 200. -/
theorem pick_s (B g n c K m : Nat) (a : Option Addr) (w : World) (hn : n ≤ 2000000) (hK : K ≤ 1000000) (hm1 : 1 ≤ m) (hm : m ≤ 200) (h : Src w B g a n c K) :
    Calls Try.prog 21 #[.pointer (some ⟨g, 0, none⟩), .int .i64 (m : Int)] w (Pk 0 ((m : Int) - 1) B g a n c (K + 1) w) := by
  by_cases hm2 : m = 1
  · subst hm2
    have H := Lib.hid h
    go_enter Try.func21, Try.ntmps21
    go_wp2
    go_ret
    exact ⟨0, by omega, by omega, rfl, H.out.mono (by omega), ⟨rfl, rfl, rfl, Nat.le_refl _, fun _ _ _ => rfl⟩⟩
  · have hN := Lib.hid (next_s B g n c K a w hn hK h)
    clear h
    have h1 : ¬ (m : Int) ≤ 1 := by omega
    have h2 : ¬ (200 : Int) < (m : Int) := by omega
    go_enter Try.func21, Try.ntmps21
    go_wp2_with (go_at_call 38; refine hN.out.mono ?_; rintro e w1 ⟨r, hr0, hr1, rfl, hs, hg⟩)
    go_ret
    refine ⟨_, ?_, ?_, rfl, hs, hg⟩
    · exact Int.emod_nonneg _ (by omega)
    · have := Int.emod_lt_of_pos r (show (0 : Int) < (m : Int) by omega); omega
def Am (ys : List Int) (B g : Nat) (a : Option Addr) (n c K : Nat) (w : World) (e : Ending) (w' : World) : Prop :=
  ∃ r : Int, r ∈ ys ∧ e = .returned (.int .i64 r) ∧ Src w' B g a n c K ∧ w.grownBy w' (some g)
theorem Src.keep {w w' : World} {B C g n c K : Nat} {a : Option Addr} (h : Src w B g a n c K) (hb : Below C w w') (hg : g < C) : Src w' B g a n c K := by
  obtain ⟨h1, h2, k, seed, h3, h4, h5, h6⟩ := h
  exact ⟨h1, h2.below (hb.mono (by omega)), k, seed, h3, h4, h5, by rw [hb.block g hg]; exact h6⟩
def Few (N : Nat) (B : Nat) (w : World) (e : Ending) (w' : World) : Prop :=
  ∃ v l, e = .returned v ∧ l.length = N ∧ (∀ y ∈ l, 0 ≤ y ∧ y ≤ 63) ∧ Own w' w.heap.size v l ∧ Below B w w'
def F1 (w : World) (B g : Nat) (a : Option Addr) (n c K j : Nat) (v : Value) (wr : World) : Prop :=
  ∃ l : List Int, l.length = j ∧ (∀ y ∈ l, 0 ≤ y ∧ y ≤ 63) ∧ Own wr w.heap.size v l ∧ Src wr B g a n c (K + j) ∧ Below B w wr
def F2 (w : World) (B g : Nat) (a : Option Addr) (n c K M j : Nat) (v v2 : Value) (wr : World) : Prop :=
  ∃ l l2 : List Int, l.length = M ∧ (∀ y ∈ l, 0 ≤ y ∧ y ≤ 63) ∧ l2.length = j ∧ (∀ y ∈ l2, 0 ≤ y ∧ y ≤ 63) ∧ Own wr w.heap.size v l ∧ Own wr w.heap.size v2 l2 ∧ Apart v2 v ∧ Src wr B g a n c (K + M + j) ∧ Below B w wr
end Go.Proofs.Ytellclgpejmmaaa.Sr
namespace Go.Proofs.Ytellclgpejmmaaa.Tr
open Go.RowKit
theorem has10_step (xs : List Int) (n : Int) (j : Nat) (h : j < xs.length) : (xs.take (j + 1)).contains n = ((xs.take j).contains n || decide (xs.getD j 0 = n)) := by
  rw [List.take_succ_eq_append_getElem h, getD_get' xs j h, List.contains_eq_mem, List.contains_eq_mem, ← Bool.decide_or]
  congr 1
  simp only [List.mem_append, List.mem_singleton, eq_comm]
set_option maxHeartbeats 1000000 in
theorem has10_s (a : Option Addr) (c : Nat) (xs : List Int) (n : Int) (w : World) (hn : xs.length ≤ 1048576) (hr : Row w a xs) :
    Calls Try.prog 11 #[.slice a xs.length c, .int .i64 n] w (Bl (xs.contains n) w) := by
  have HC := Lib.hid hr
  have HS := Lib.hid (has10_step xs n)
  have HE := Lib.hid (show (xs.take xs.length).contains n = xs.contains n by rw [List.take_length])
  have HY := Lib.hid (fun (j : Nat) (h : j < xs.length) (e : xs.getD j 0 = n) => (show xs.contains n = true by rw [List.contains_eq_mem]; exact decide_eq_true (by rw [← e, getD_get' xs j h]; exact List.getElem_mem h)))
  clear hr
  unfold Row at HC
  generalize xs.contains n = r at *
  generalize hN : xs.length = N at *
  go_enter Try.func11, Try.ntmps11
  go_wp2
  go_loop [5] (fun i => ∃ j : Nat, j ≤ N ∧ i = .int .i64 j ∧ Hid ((xs.take j).contains n = false)) (fun i => N - (intOf i).toNat)
  case atStart => exact ⟨0, Nat.zero_le _, rfl, Lib.hid rfl⟩
  case round =>
    obtain ⟨j, hj, rfl, hx⟩ := hrel
    by_cases hlt : j < N
    · obtain ⟨b, off, rfl, c1, hb⟩ := HC.out j hlt
      have hs := Lib.hid (HS.out j hlt)
      have hy := Lib.hid (HY.out j hlt)
      generalize xs.getD j 0 = u at *
      by_cases hu : u = n
      · have e : r = true := hy.out hu
        clear hs hy HE HY HS hx
        subst e
        subst hu
        go_wp2
        go_ret
        exact ⟨rfl, rfl⟩
      · have hnew : Hid ((xs.take (j + 1)).contains n = false) := by show _ = _; rw [hs.out, hx.out, decide_eq_false hu]; rfl
        go_wp2
        go_round
        case rel => exact ⟨j + 1, by omega, by go_num, hnew⟩
        case measure => simp [intOf]; omega
    · have e : j = N := by omega
      subst e
      have e : r = false := HE.out.symm.trans hx.out
      clear HE HY HS hx
      subst e
      go_wp2
      go_ret
      exact ⟨rfl, rfl⟩
set_option maxHeartbeats 1000000 in
theorem same10 (a1 a2 : Option Addr) (c1 c2 : Nat) (xs : List Int) (w : World) (hn : xs.length ≤ 1000) (h1 : Row w a1 xs) (h2 : Row w a2 xs) :
    Calls Try.prog 12 #[.slice a1 xs.length c1, .slice a2 xs.length c2] w (Bb true w) := by
  have H1 := Lib.hid h1
  have H2 := Lib.hid h2
  clear h1 h2
  unfold Row at H1 H2
  generalize hN : xs.length = N at *
  have HN := Lib.hid hN
  clear hN
  go_enter Try.func12, Try.ntmps12
  go_wp2
  go_loopw [5] (fun i wr => ∃ k q : Nat, k ≤ N ∧ i = .int .i64 k ∧ wr = w.drewN q) (fun i _ => N - (intOf i).toNat)
  case atStart => exact ⟨0, 0, Nat.zero_le _, rfl, rfl⟩
  case round =>
    obtain ⟨k, q, hk, rfl, rfl⟩ := hrel
    by_cases hlt : k < N
    · obtain ⟨b1, off1, rfl, g1, _⟩ := H1.out k hlt
      obtain ⟨b2, off2, rfl, g2, _⟩ := H2.out k hlt
      generalize xs.getD k 0 = u at *
      go_wp2
      go_quiet (fail)
      go_wp2
      go_roundw
      case rel => exact ⟨k + 1, _, by omega, by go_num, rfl⟩
      case measure => simp [intOf]; omega
    · go_wp2
      go_ret
      exact ⟨rfl, below_drewN _ (Below.refl _ _)⟩
theorem same10_R {v1 v2 : Value} {xs : List Int} {w : World} (h1 : Rd w v1 xs) (h2 : Rd w v2 xs) (hn : xs.length ≤ 1000) : Calls Try.prog 12 #[v1, v2] w (Bb true w) := by
  obtain ⟨a1, c1, rfl, _, _, r1⟩ := h1
  obtain ⟨a2, c2, rfl, _, _, r2⟩ := h2
  exact same10 a1 a2 c1 c2 xs w hn r1 r2
/-- The bytes of a list that came in. -/
theorem byt10 {a : Option Addr} {len cap : Nat} {zs : List Int} {w : World} (h : IsRow .u8 w a len cap zs) : Sr.Byt w w.heap.size a len := fun i hi => by
  obtain ⟨b, off, ha, _, _, _, hc, hw⟩ := h.at (by omega)
  have := bounds_u8 (hw i hi)
  exact ⟨b, off, ha, World.block_lt_of_cell? w _ (hc i hi), _, hc i hi, by omega, by omega⟩
/-- What drawn uses are. -/
def Us10 (w : World) (e : Ending) (w' : World) : Prop := ∃ v l, e = .returned v ∧ Tr.okU l = true ∧ l.length ≤ 29 ∧ (∀ y ∈ l, 0 ≤ y ∧ y ≤ 63) ∧ Own w' w.heap.size v l ∧ Below w.heap.size w w'
theorem okU_of10 (l : List Int) (h : l.length ≤ 60) (hm : ∀ y ∈ l, 0 ≤ y ∧ y ≤ 63) : Tr.okU l = true := by
  unfold Tr.okU
  rw [decide_eq_true h, Bool.true_and, List.all_eq_true]
  intro y hy
  obtain ⟨h0, h1⟩ := hm y hy
  exact Tr.isA_yes h0 h1
def U1 (w : World) (B C g : Nat) (a : Option Addr) (n c K j : Nat) (v : Value) (wr : World) : Prop :=
  ∃ l : List Int, l.length = j ∧ (∀ y ∈ l, 0 ≤ y ∧ y ≤ 63) ∧ Own wr C v l ∧ Sr.Src wr B g a n c (K + j) ∧ Below B w wr ∧ C ≤ wr.heap.size
set_option maxHeartbeats 2000000 in
set_option maxRecDepth 100000 in
theorem uses10 (a : Option Addr) (len cap : Nat) (zs : List Int) (w : World) (hl : len ≤ 1048576) (h : IsRow .u8 w a len cap zs) :
    Calls Try.prog 6 #[.slice a len cap] w (Us10 w) := by
  have hby := byt10 h
  have h0 : Sr.Src (w.alloc (.cells #[.slice a len cap, .int .i64 0, .int .u64 0] 71)) w.heap.size w.heap.size a len cap 0 :=
    ⟨Nat.le_refl _, hby.below ((Below.refl _ _).alloc (Nat.le_refl _) _), 0, 0, Nat.le_refl _, by omega, by omega, by unfold World.alloc; exact Array.getElem?_push_size⟩
  have hb0 : Below w.heap.size w (w.alloc (.cells #[.slice a len cap, .int .i64 0, .int .u64 0] 71)) := (Below.refl _ _).alloc (Nat.le_refl _) _
  have hF : Hid (Calls Try.prog 20 #[.slice a len cap] w fun e w' => e = .returned (.pointer (some ⟨w.heap.size, 0, none⟩)) ∧ Sr.Src w' w.heap.size w.heap.size a len cap 0 ∧ Below w.heap.size w w') := by
    have H0 := Lib.hid h0
    have HB := Lib.hid hb0
    clear h0 hb0 hby h
    show Calls _ _ _ _ _
    go_enter Try.func20, Try.ntmps20
    go_wp2
    go_ret
    exact ⟨rfl, H0.out, HB.out⟩
  clear h0 hb0 hby h
  go_enter Try.func6, Try.ntmps6
  go_wp2_with fail
  refine hF.out.mono ?_
  rintro e w1 ⟨rfl, s1, b1⟩
  have hlt1 := s1.lt
  have b1a : Below w.heap.size w (w1.alloc (.cells #[] 2)) := b1.alloc b1.size _
  have s1a : Sr.Src (w1.alloc (.cells #[] 2)) w.heap.size w.heap.size a len cap 0 := s1.keep ((Below.refl w1.heap.size w1).alloc (Nat.le_refl _) _) hlt1
  have o1a := Own.lit0 w1
  have c1a := ((Below.refl w1.heap.size w1).alloc (Nat.le_refl _) (.cells #[] 2)).size
  go_wp2_with fail
  refine (Sr.pick_s w.heap.size w.heap.size len cap 0 7 a _ (by omega) (by omega) (by omega) (by omega) s1a).mono ?_
  rintro e w2 ⟨r, hr0, hr1, rfl, s2, g2⟩
  have b2 : Below w.heap.size w w2 := b1a.grown g2 b1a.size (fun k hk => by injection hk with hk; omega)
  have o2 := o1a.kept g2 (fun k hk e => by have := (o1a.block k hk).1; injection e with e; omega)
  have c2 := g2.size
  clear s1a b1a
  go_wp2_with fail
  refine (Sr.pick_s w.heap.size w.heap.size len cap 1 30 a w2 (by omega) (by omega) (by omega) (by omega) s2).mono ?_
  rintro e w3 ⟨q, hq0, hq1, rfl, s3, g3⟩
  have b3 : Below w.heap.size w w3 := b2.grown g3 b2.size (fun k hk => by injection hk with hk; omega)
  have o3 := o2.kept g3 (fun k hk e => by have := (o2.block k hk).1; injection e with e; omega)
  have c3 := g3.size
  have c4 := Nat.le_trans c1a (Nat.le_trans c2 c3)
  have cb := b1.size
  clear o2 s2 b2 g2 g3 s1 b1 o1a
  obtain ⟨N, rfl⟩ := Int.eq_ofNat_of_zero_le hq0
  obtain ⟨M, rfl⟩ := Int.eq_ofNat_of_zero_le hr0
  have hN : N ≤ 29 := by omega
  have hM : M ≤ 6 := by omega
  have HU : Hid (U1 w w.heap.size w1.heap.size w.heap.size a len cap 2 0 (.slice (some ⟨w1.heap.size, 0, none⟩) 0 0) w3) := ⟨[], rfl, Sr.nil63, o3, s3, b3, c4⟩
  clear o3 s3 b3 c1a c2 c3 c4
  generalize w1.heap.size = C at *
  have eM := Lib.hid (show (2 : Int) + (M : Int) = ((2 + M : Nat) : Int) by omega)
  go_wp2
  go_loopw [4, 6] (fun v i wr => ∃ j : Nat, j ≤ N ∧ i = .int .i64 ((N : Int) - j) ∧ Hid (U1 w w.heap.size C w.heap.size a len cap 2 j v wr)) (fun _ i _ => (intOf i).toNat)
  case atStart => exact ⟨0, Nat.zero_le _, by simp, HU⟩
  case round =>
    obtain ⟨j, hj, rfl, hf⟩ := hrel
    obtain ⟨l, hl, hmem, ho, hs, hb, hC⟩ := hf.out
    by_cases hlt2 : j < N
    · have hP0 := (Sr.pick_s w.heap.size w.heap.size len cap (2 + j) (2 + M) a wr (by omega) (by omega) (by omega) (by omega) hs)
      rw [← eM.out] at hP0
      have hP := Lib.hid hP0
      clear hP0
      have hq : l.length + 1 ≤ 1000000000 := by omega
      have hvb := ho.block
      have hpos : (0 : Int) < (N : Int) - j := by omega
      clear hf hs
      go_wp2_with fail
      refine hP.out.mono ?_
      rintro e w4 ⟨r, hr0, hr1, rfl, hs1, hg1⟩
      have ho1 := ho.kept hg1 (fun k hk e => by have := (hvb k hk).1; injection e with e; omega)
      have hb1 : Below w.heap.size w w4 := hb.grown hg1 hb.size (fun k hk => by injection hk with hk; omega)
      have hC1 : C ≤ w4.heap.size := Nat.le_trans hC hg1.size
      go_wp2_with (at_builtin; refine wpList_app _ rfl _ _ rfl C _ l _ ?_ ?_ ho1 hq hC1 ?_; rfl; rfl)
      intro v' w5 ho2 hb2
      have hs2 := hs1.keep hb2 hlt1
      go_wp2
      go_roundw
      case rel => exact ⟨j + 1, by omega, by go_num, ⟨l ++ [r], by simp [hl], Sr.app63 hmem hr0 (by omega), ho2, hs2.mono (by omega), hb1.trans (hb2.mono (by omega)), Nat.le_trans hC1 hb2.size⟩⟩
      case measure => simp [intOf]; omega
    · have e : j = N := by omega
      subst e
      have hneg : ¬ (0 : Int) < (j : Int) - j := by omega
      go_wp2
      go_ret
      exact ⟨_, l, rfl, okU_of10 l (by omega) hmem, by omega, hmem, ho.mono cb, hb⟩
end Go.Proofs.Ytellclgpejmmaaa.Tr
