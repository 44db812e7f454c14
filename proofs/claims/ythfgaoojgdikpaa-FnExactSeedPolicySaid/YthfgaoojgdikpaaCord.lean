/- Contracts of the model's and the program's SeedOrder: the order that follows from the seed, or a failure. -/
import Derived.Test.YthfgaoojgdikpaaCseed
import Derived.Test.YthfgaoojgdikpaaPlainOrd
import Derived.RegionTactic
import Derived.BigRegion
import Derived.ChangeAlike
namespace Go.Proofs.Ythfgaoojgdikpaa.Sd
open Go.RowKit
theorem order_no_i (a0 a1 : Int) (w : World) (h : ¬ (1 ≤ a0 ∧ a0 ≤ 2147483646 ∧ 0 ≤ a1 ∧ a1 ≤ 80)) :
    Calls Try.prog 49 #[.int .i64 a0, .int .i64 a1] w (Res [] false w) := by
  have H := Lib.hid h
  clear h
  by_cases g0 : 1 ≤ a0
  · by_cases g1 : a0 ≤ 2147483646
    · by_cases g2 : 0 ≤ a1
      · by_cases g3 : a1 ≤ 80
        · exact absurd ⟨g0, g1, g2, g3⟩ H.out
        · go_enter Try.func49, Try.ntmps49
          go_wp2
          go_ret2
          exact ⟨_, rfl, Own.nil _ _, Below.refl _ _⟩
      · go_enter Try.func49, Try.ntmps49
        go_wp2
        go_ret2
        exact ⟨_, rfl, Own.nil _ _, Below.refl _ _⟩
    · go_enter Try.func49, Try.ntmps49
      go_wp2
      go_ret2
      exact ⟨_, rfl, Own.nil _ _, Below.refl _ _⟩
  · go_enter Try.func49, Try.ntmps49
    go_wp2
    go_ret2
    exact ⟨_, rfl, Own.nil _ _, Below.refl _ _⟩
def OwnAt (w : World) (B g cap n : Nat) (L : List Int) : Prop := w.ownsRow B 2 1 (.slice (some ⟨g, 0, none⟩) n cap) n (L.map (Value.int .i64))
theorem OwnAt.cell {w : World} {B g cap n : Nat} {L : List Int} (h : OwnAt w B g cap n L) (hl : L.length = n) (i : Nat) (hi : i < n) : w.cell? ⟨g, i, none⟩ = some (.int .i64 (L.getD i 0)) := by
  have h0 : w.ownsRow B 2 1 (.slice (some ⟨g, 0, none⟩) n cap) n (L.map (Value.int .i64)) := h
  rw [h0.cellAt i (by omega), List.getElem?_map, List.getElem?_eq_getElem (by omega), List.getD_eq_getElem?_getD, List.getElem?_eq_getElem (by omega)]
  rfl
theorem OwnAt.frozen {w : World} {B g cap n : Nat} {L : List Int} (h : OwnAt w B g cap n L) (i : Nat) : w.frozen? ⟨g, i, none⟩ = false := World.ownsRow.frozenAt h i
theorem OwnAt.drewN {w : World} {B g cap n : Nat} {L : List Int} (h : OwnAt w B g cap n L) (k : Nat) : OwnAt (w.drewN k) B g cap n L := h
theorem cell_some {w : World} {p q : Addr} {x v : Value} (h : w.cell? q = some v) : ∃ v', (w.setCell p x).cell? q = some v' := by
  by_cases e : p = q
  · subst e; exact ⟨x, World.cell?_setCell_same w p x h⟩
  · exact ⟨v, (World.cell?_setCell_other w p q x e).trans h⟩
theorem OwnAt.swap {w : World} {B g cap n : Nat} {L : List Int} (h : OwnAt w B g cap n L) (hB : B ≤ g) (i k : Nat) (x y : Int) (hx : x = L.getD i 0) (hy : y = L.getD k 0) :
    OwnAt ((w.setCell ⟨g, i, none⟩ (.int .i64 y)).setCell ⟨g, k, none⟩ (.int .i64 x)) B g cap n (Sd.swap L i k) ∧ Below B w ((w.setCell ⟨g, i, none⟩ (.int .i64 y)).setCell ⟨g, k, none⟩ (.int .i64 x)) := by
  have h1 := World.ownsRow.stored h i (.int .i64 y)
  have h2 := World.ownsRow.stored h1.1 k (.int .i64 x)
  refine ⟨?_, ((Below.refl B w).setCell hB _).setCell hB _⟩
  rw [← List.map_set, ← List.map_set] at h2
  subst hx hy
  exact h2.1
theorem own_at {w : World} {B : Nat} {v : Value} {xs : List Int} (h : Own w B v xs) (hn : 0 < xs.length) : ∃ g cap, v = .slice (some ⟨g, 0, none⟩) xs.length cap ∧ B ≤ g ∧ OwnAt w B g cap xs.length xs := by
  rcases h.cases with ⟨_, rfl⟩ | ⟨g, cap, rfl, hB, _⟩
  · simp at hn
  · exact ⟨g, cap, rfl, hB, h⟩
theorem own_atN {w : World} {B : Nat} {v : Value} {xs : List Int} {n : Nat} (h : Own w B v xs) (hl : xs.length = n) (hn : 0 < n) : ∃ g cap, v = .slice (some ⟨g, 0, none⟩) n cap ∧ B ≤ g ∧ OwnAt w B g cap n xs := by
  subst hl; exact own_at h hn
theorem at_own {w : World} {B g cap n : Nat} {L : List Int} (h : OwnAt w B g cap n L) (hl : L.length = n) : Own w B (.slice (some ⟨g, 0, none⟩) n cap) L := by subst hl; exact h
/-- What the second loop holds: behind the exchanges down to place i. -/
def Down (s n B g cap : Nat) (w0 : World) (i : Nat) (wr : World) : Prop := OwnAt wr B g cap n (ordF s n (n - 1 - i)) ∧ Below B w0 wr
theorem Down.drew {s n B g cap : Nat} {w0 wr : World} {i : Nat} (h : Down s n B g cap w0 i wr) : Down s n B g cap w0 i wr.drew := ⟨h.1, h.2.drew⟩
theorem Down.facts {s n B g cap : Nat} {w0 wr : World} {i : Nat} (h : Down s n B g cap w0 i wr) (hB : B ≤ g) (hi : 0 < i) (hn : i < n) :
    ∃ (k : Nat) (x y : Int), k < n ∧ Hid (k = at_ s (n - i) % (i + 1)) ∧ wr.cell? ⟨g, i, none⟩ = some (.int .i64 x) ∧ wr.cell? ⟨g, k, none⟩ = some (.int .i64 y) ∧ wr.frozen? ⟨g, i, none⟩ = false ∧ wr.frozen? ⟨g, k, none⟩ = false ∧
      (∃ v', (wr.setCell ⟨g, i, none⟩ (.int .i64 y)).cell? ⟨g, k, none⟩ = some v') ∧ Down s n B g cap w0 (i - 1) ((wr.setCell ⟨g, i, none⟩ (.int .i64 y)).setCell ⟨g, k, none⟩ (.int .i64 x)) := by
  obtain ⟨ho, hb⟩ := h
  have hl := ordF_length s n (n - 1 - i)
  have hk : at_ s (n - i) % (i + 1) < n := Nat.lt_of_lt_of_le (Nat.mod_lt _ (by omega)) (by omega)
  have c1 := ho.cell hl i hn
  have c2 := ho.cell hl _ hk
  have hsw := ho.swap hB i (at_ s (n - i) % (i + 1)) _ _ rfl rfl
  refine ⟨_, _, _, hk, rfl, c1, c2, ho.frozen _, ho.frozen _, cell_some c2, ?_, hb.trans hsw.2⟩
  have e : n - 1 - (i - 1) = n - 1 - i + 1 := by omega
  rw [e, ordF, show n - 1 - (n - 1 - i) = i by omega, show n - 1 - i + 1 = n - i by omega]
  exact hsw.1
def Ord2 (xs : List Int) (w : World) (e : Ending) (w' : World) : Prop := ∃ v sd, e = .returned (.tuple #[v, .int .i64 sd]) ∧ Own w' w.heap.size v xs ∧ Below w.heap.size w w'
set_option maxHeartbeats 1600000 in
theorem l01Order_any (s n : Nat) (w : World) (h2 : s ≤ 2147483646) (h3 : n ≤ 80) :
    Calls Try.prog 63 #[.int .i64 s, .int .i64 n] w (Ord2 (ord s n) w) := by
  go_enter Try.func63, Try.ntmps63
  go_wp2
  go_loopw [6, 7] (fun v ct wr => ∃ j : Nat, j ≤ n ∧ ct = .int .i64 j ∧ Own wr w.heap.size v (iota j) ∧ Below w.heap.size w wr) (fun _ ct _ => n - (intOf ct).toNat)
  case atStart => exact ⟨0, Nat.zero_le _, rfl, World.ownsRow_lit w #[] 0 (Nat.le_refl _) (by unfold maxLen; omega) rfl, (Below.refl _ _).alloc (Nat.le_refl _) _⟩
  case round =>
    obtain ⟨j, hj, rfl, ho, hb⟩ := hrel
    have hsz := hb.size
    have HL := Lib.hid (iota_length j)
    by_cases hlt : j < n
    · go_wp2_with (at_builtin; refine wpList_app _ rfl _ _ rfl w.heap.size _ (iota j) _ ?_ ?_ ho ?_ ?_ ?_; rfl; rfl)
      · rw [HL.out]; omega
      · exact hsz
      intro v' w1 ho1 hb1
      go_wp2
      go_roundw
      case rel => exact ⟨j + 1, by omega, by go_num, ho1, hb.trans hb1⟩
      case measure => simp [intOf]; omega
    · have e : j = n := by omega
      subst e
      by_cases h0 : 0 < j
      · obtain ⟨g, cap, hv, hg, hat⟩ := own_atN ho HL.out h0
        clear ho
        subst hv
        have hd : Down s j w.heap.size g cap w (j - 1) wr := ⟨by rw [show j - 1 - (j - 1) = 0 by omega]; exact hat, hb⟩
        clear hat hb
        go_wp2
        go_loopw [0, 8] (fun sd ct wr => ∃ i : Nat, i < j ∧ sd = .int .i64 (at_ s (j - 1 - i) : Nat) ∧ ct = .int .i64 i ∧ Down s j w.heap.size g cap w i wr) (fun _ ct _ => (intOf ct).toNat)
        case atStart => exact ⟨j - 1, by omega, by rw [show j - 1 - (j - 1) = 0 by omega]; rfl, by go_num, hd⟩
        case round =>
          obtain ⟨i, hi, rfl, rfl, hd⟩ := hrel
          have hsl := at_lt s (j - 1 - i) (by omega)
          by_cases hpos : 0 < i
          · obtain ⟨k, x, y, hk, hkk, c1, c2, f1, f2, ⟨v3, c3⟩, hnx⟩ := hd.facts hg hpos hi
            have hmod : ((nx (at_ s (j - 1 - i)) : Nat) : Int) % ((i : Int) + 1) = (k : Int) := by
              rw [hkk.out, show j - i = j - 1 - i + 1 by omega]
              rfl
            clear hd
            go_wp2_with (go_at_call 64; refine (next_s _ _ hsl).mono ?_; rintro e w' ⟨rfl, rfl⟩)
            go_roundw
            case rel => exact ⟨i - 1, by omega, by rw [show j - 1 - (i - 1) = j - 1 - i + 1 by omega]; rfl, by go_num, hnx⟩
            case measure => simp [intOf]; omega
          · have hi0 : i = 0 := by omega
            subst hi0
            have hd1 := hd.1
            have hd2 := hd.2
            go_wp2
            go_ret2
            exact ⟨_, _, rfl, at_own hd1 (ordF_length s j _), hd2⟩
      · have hj0 : j = 0 := by omega
        subst hj0
        go_wp2
        refine wp_loop_rounds 1 ?_
        rw [rounds_succ]
        go_wp2
        go_ret2
        exact ⟨_, _, rfl, ho, hb⟩
set_option maxHeartbeats 1600000 in
theorem order_yes_i (s n : Nat) (w : World) (h1 : 1 ≤ s) (h2 : s ≤ 2147483646) (h3 : n ≤ 80) :
    Calls Try.prog 49 #[.int .i64 s, .int .i64 n] w (Res (ord s n) true w) := by
  go_enter Try.func49, Try.ntmps49
  go_wp2_with (first | (go_at_call 47; refine (isSeed_i _ _ (by omega) (by omega)).mono ?_; rintro e w' ⟨rfl, rfl⟩) | (go_at_call 56; refine (in_i _ _ _ _ (by omega) (by omega)).mono ?_; rintro e w' ⟨rfl, rfl⟩) | (at_make; refine wpList_make0 _ rfl _ _ rfl n .i64 .i64 (n : Int) ?_ ?_ rfl ?_ ?_; rfl; rfl; omega))
  intro v0 w0 ho0 hb0 hsz0
  go_wp2
  go_loopw [6, 7, 21] (fun v _ ct wr => ∃ j : Nat, j ≤ n ∧ ct = .int .i64 j ∧ Own wr w.heap.size v (iota j) ∧ Below w.heap.size w wr) (fun _ _ ct _ => n - (intOf ct).toNat)
  case atStart => exact ⟨0, Nat.zero_le _, rfl, ho0, hb0⟩
  case round =>
    obtain ⟨j, hj, rfl, ho, hb⟩ := hrel
    have hsz := hb.size
    have HL := Lib.hid (iota_length j)
    by_cases hlt : j < n
    · go_wp2_with (at_builtin; refine wpList_app _ rfl _ _ rfl w.heap.size _ (iota j) _ ?_ ?_ ho ?_ ?_ ?_; rfl; rfl)
      · rw [HL.out]; omega
      · exact hsz
      intro v' w1 ho1 hb1
      go_wp2
      go_roundw
      case rel => exact ⟨j + 1, by omega, by go_num, ho1, hb.trans hb1⟩
      case measure => simp [intOf]; omega
    · have e : j = n := by omega
      subst e
      by_cases h0 : 0 < j
      · obtain ⟨g, cap, hv, hg, hat⟩ := own_atN ho HL.out h0
        clear ho ho0
        subst hv
        have hd : Down s j w.heap.size g cap w (j - 1) wr := ⟨by rw [show j - 1 - (j - 1) = 0 by omega]; exact hat, hb⟩
        clear hat hb
        go_wp2
        go_loopw [0, 8] (fun sd ct wr => ∃ i : Nat, i < j ∧ sd = .int .i64 (at_ s (j - 1 - i) : Nat) ∧ ct = .int .i64 i ∧ Down s j w.heap.size g cap w i wr) (fun _ ct _ => (intOf ct).toNat)
        case atStart => exact ⟨j - 1, by omega, by rw [show j - 1 - (j - 1) = 0 by omega]; rfl, by go_num, hd⟩
        case round =>
          obtain ⟨i, hi, rfl, rfl, hd⟩ := hrel
          have hsl := at_lt s (j - 1 - i) (by omega)
          by_cases hpos : 0 < i
          · obtain ⟨k, x, y, hk, hkk, c1, c2, f1, f2, ⟨v3, c3⟩, hnx⟩ := hd.facts hg hpos hi
            have hmod : ((nx (at_ s (j - 1 - i)) : Nat) : Int) % ((i : Int) + 1) = (k : Int) := by
              rw [hkk.out, show j - i = j - 1 - i + 1 by omega]
              rfl
            clear hd
            go_wp2_with (go_at_call 50; refine (next_i _ _ hsl).mono ?_; rintro e w' ⟨rfl, rfl⟩)
            rw [hmod]
            clear hmod
            go_region
            go_wp2
            go_roundw
            case rel => exact ⟨i - 1, by omega, by rw [show j - 1 - (i - 1) = j - 1 - i + 1 by omega]; rfl, by go_num, hnx.drew⟩
            case measure => simp [intOf]; omega
          · have hi0 : i = 0 := by omega
            subst hi0
            have hd1 := hd.1
            have hd2 := hd.2
            go_wp2
            go_ret2
            exact ⟨_, rfl, at_own hd1 (ordF_length s j _), hd2⟩
      · have hj0 : j = 0 := by omega
        subst hj0
        go_wp2
        refine wp_loop_rounds 1 ?_
        rw [rounds_succ]
        go_wp2
        go_ret2
        exact ⟨_, rfl, ho, hb⟩
end Go.Proofs.Ythfgaoojgdikpaa.Sd
