/- Lists of strings that came in: the law's size and copy of them. -/
import Derived.Test.YtlcogbphodakfaaCji
import Derived.Test.YtlcogbphodakfaaCrd
namespace Go.Proofs.Ytlcogbphodakfaa.Jn
open Go.RowKit Sj
/-- The cells of a list of strings, wherever it lies; read only. -/
def RdC (w : World) (a : Option Addr) (xs : List ByteArray) : Prop := ∀ i, i < xs.length → ∃ b off, a = some ⟨b, off, none⟩ ∧ w.cell? ⟨b, off + i, none⟩ = some (.string (xs.getD i ByteArray.empty)) ∧ b < w.heap.size
theorem RdC.below {w w' : World} {a : Option Addr} {xs : List ByteArray} (h : RdC w a xs) {C : Nat} (hb : Below C w w') (hC : w.heap.size ≤ C) : RdC w' a xs := fun i hi => by
  obtain ⟨b, off, e, c, hl⟩ := h i hi
  exact ⟨b, off, e, (hb.cell (p := ⟨b, off + i, none⟩) (Nat.lt_of_lt_of_le hl hC)).trans c, Nat.lt_of_lt_of_le hl hb.size⟩
theorem RdS.c {w : World} {a : Option Addr} {xs : List ByteArray} (h : RdS w a xs) : RdC w a xs := fun i hi => by
  obtain ⟨b, off, e, c, _, hl⟩ := h i hi
  exact ⟨b, off, e, c, hl⟩
def Sz (xs : List ByteArray) (w : World) (e : Ending) (w' : World) : Prop := ∃ r : Int, e = .returned (.int .i64 r) ∧ w' = w ∧ (0 ≤ r → xs.length ≤ 1048576 ∧ ∀ i, i < xs.length → (xs.getD i ByteArray.empty).size ≤ 1048576)
set_option maxHeartbeats 1000000 in
theorem sz_s (a : Option Addr) (c : Nat) (xs : List ByteArray) (w : World) (h : RdC w a xs) (hz : ∀ i, i < xs.length → (xs.getD i ByteArray.empty).size ≤ 9223372036854775807) (hn : xs.length ≤ 9223372036854775807) :
    Calls Try.prog 5 #[.slice a xs.length c, .int .i64 1048576] w (Sz xs w) := by
  have HC := Lib.hid h
  have HZ := Lib.hid hz
  clear h hz
  generalize hN : xs.length = N at *
  have HN := Lib.hid hN
  clear hN
  unfold Sz
  by_cases hlong : (1048576 : Int) < (N : Int)
  · have HP := Lib.hid (show ∀ r : Int, r < 0 → (0 ≤ r → xs.length ≤ 1048576 ∧ ∀ i, i < xs.length → (xs.getD i ByteArray.empty).size ≤ 1048576) from fun r h1 h2 => by omega)
    go_enter Try.func5, Try.ntmps5
    go_wp2
    go_ret
    exact ⟨_, rfl, rfl, HP.out _ (by omega)⟩
  · have HQ := Lib.hid (show (∀ i, i < N → (xs.getD i ByteArray.empty).size ≤ 1048576) → ∀ r : Int, (0 ≤ r → xs.length ≤ 1048576 ∧ ∀ i, i < xs.length → (xs.getD i ByteArray.empty).size ≤ 1048576) from fun h1 r _ => ⟨by rw [HN.out]; omega, fun i hi => h1 i (by rw [← HN.out]; exact hi)⟩)
    have HP := Lib.hid (show ∀ r : Int, r < 0 → (0 ≤ r → xs.length ≤ 1048576 ∧ ∀ i, i < xs.length → (xs.getD i ByteArray.empty).size ≤ 1048576) from fun r h1 h2 => by omega)
    go_enter Try.func5, Try.ntmps5
    go_wp2
    go_loop [1, 5] (fun l i => ∃ (k : Nat) (L : Int), k ≤ N ∧ 0 ≤ L ∧ L ≤ 1048576 ∧ l = .int .i64 L ∧ i = .int .i64 (k : Nat) ∧ Hid (∀ i, i < k → (xs.getD i ByteArray.empty).size ≤ 1048576)) (fun _ i => N - (intOf i).toNat)
    case atStart => exact ⟨0, _, Nat.zero_le _, by omega, by omega, rfl, rfl, Lib.hid (fun i hi => absurd hi (Nat.not_lt_zero _))⟩
    case round =>
      obtain ⟨k, L, hk, hL0, hL1, rfl, rfl, hq⟩ := hrel
      by_cases hlt : k < N
      · obtain ⟨b, off, rfl, g, _⟩ := HC.out k (by rw [HN.out]; exact hlt)
        have hzk := HZ.out k hlt
        have HS := Lib.hid (show (xs.getD k ByteArray.empty).size ≤ 1048576 → ∀ i, i < k + 1 → (xs.getD i ByteArray.empty).size ≤ 1048576 from fun h1 i hi => by
          rcases Nat.lt_or_ge i k with h2 | h2
          · exact hq.out i h2
          · have : i = k := by omega
            subst this; exact h1)
        generalize xs.getD k ByteArray.empty = X at *
        by_cases hneg : L - (X.size : Int) < 0
        · go_wp2
          go_ret
          exact ⟨_, rfl, rfl, HP.out _ (by omega)⟩
        · go_wp2
          go_round
          case rel => exact ⟨k + 1, L - X.size, by omega, by omega, by omega, by go_num, by go_num, Lib.hid (HS.out (by omega))⟩
          case measure => simp [intOf]; omega
      · have e : k = N := by omega
        subst e
        go_wp2
        go_ret
        exact ⟨_, rfl, rfl, HQ.out hq.out _⟩
def CopS (xs : List ByteArray) (w : World) (e : Ending) (w' : World) : Prop := ∃ v, e = .returned v ∧ OwnS w' w.heap.size v xs ∧ Below w.heap.size w w'
/-- After j rounds: the first j strings, and empty ones. -/
def tkS (zs : List ByteArray) (j : Nat) : List ByteArray := zs.take j ++ List.replicate (zs.length - j) ByteArray.empty
theorem tkS_length (zs : List ByteArray) (j : Nat) (hj : j ≤ zs.length) : (tkS zs j).length = zs.length := by simp [tkS]; omega
theorem tkS_step (zs : List ByteArray) (j : Nat) (hj : j < zs.length) : (tkS zs j).set j (zs.getD j ByteArray.empty) = tkS zs (j + 1) := by
  have hl : (zs.take j).length = j := by simp; omega
  unfold tkS
  rw [List.set_append_right _ _ (by omega), hl, Nat.sub_self, show zs.length - j = (zs.length - (j + 1)) + 1 by omega, List.replicate_succ, List.set_cons_zero,
    List.take_succ_eq_append_getElem (by omega), List.append_assoc, List.getD_eq_getElem?_getD, List.getElem?_eq_getElem (by omega)]
  rfl
theorem tkS_end (zs : List ByteArray) : tkS zs zs.length = zs := by simp [tkS]
def CopRel (g : Nat) (zs : List ByteArray) (n : Nat) (w0 : World) (j : Nat) (wr : World) : Prop :=
  wr.ownsRow g 9 1 (.slice (some ⟨g, 0, none⟩) n n) n ((tkS zs j).map Value.string) ∧ Below g w0 wr
theorem CopRel.step {g n : Nat} {zs : List ByteArray} {w0 : World} {j : Nat} {wr : World} (h : CopRel g zs n w0 j wr) (hn : zs.length = n) (hj : j < n) :
    (∃ old, wr.cell? ⟨g, j, none⟩ = some old) ∧ wr.frozen? ⟨g, j, none⟩ = false ∧ CopRel g zs n w0 (j + 1) (wr.setCell ⟨g, j, none⟩ (.string (zs.getD j ByteArray.empty))) := by
  subst hn
  have hst := World.ownsRow.stored h.1 j (.string (zs.getD j ByteArray.empty))
  rw [← List.map_set, tkS_step zs j hj] at hst
  refine ⟨?_, h.1.frozenAt j, hst.1, h.2.setCell (Nat.le_refl _) _⟩
  rw [h.1.cellAt j (by omega), List.getElem?_eq_getElem (by simp [tkS_length zs j (by omega)]; exact hj)]
  exact ⟨_, rfl⟩
theorem made_emptyS (n : Nat) : (madeCells #[Value.string ByteArray.empty] n).toList = (List.replicate n ByteArray.empty).map Value.string := by
  rw [List.map_replicate]
  exact toList_madeCells_one _ _
set_option maxHeartbeats 1000000 in
theorem to_s (a : Option Addr) (c : Nat) (xs : List ByteArray) (w : World) (h : RdC w a xs) (hn : xs.length ≤ 1048576) :
    Calls Try.prog 7 #[.slice a xs.length c] w (CopS xs w) := by
  have HC := Lib.hid h
  have HE := Lib.hid (tkS_end xs)
  have H0 := Lib.hid (show (List.replicate xs.length ByteArray.empty).map Value.string = (tkS xs 0).map Value.string by simp [tkS])
  clear h
  obtain ⟨i0, hi, hz0, hz1, hz2⟩ := info_parts infoS
  generalize hN : xs.length = n at *
  have HN := Lib.hid hN
  clear hN
  go_enter Try.func7, Try.ntmps7
  go_wp2_with (at_make; refine wpList_make_full _ rfl _ _ 22 rfl w.heap.size 9 i0 (.string ByteArray.empty) 1 Try.underlying22 hi hz0 hz1 .i64 .i64 (n : Int) (n : Int) n ?_ ?_ rfl rfl ?_ ?_ ?_ ?_; rfl; rfl)
  · rw [hz2]; omega
  · unfold maxLen; omega
  · exact Nat.le_refl _
  intro w1 hown hgr
  have hr : CopRel w.heap.size xs n w 0 w1 := ⟨by rw [made_emptyS, H0.out] at hown; exact hown, (Below.refl _ _).grown hgr (Nat.le_refl _) (by simp)⟩
  clear hown hgr
  go_wp2
  go_loopw [4] (fun i wr => ∃ j : Nat, j ≤ n ∧ i = .int .i64 j ∧ CopRel w.heap.size xs n w j wr) (fun i _ => n - (intOf i).toNat)
  case atStart => exact ⟨0, Nat.zero_le _, rfl, hr⟩
  case round =>
    obtain ⟨j, hj, rfl, hr⟩ := hrel
    by_cases hlt : j < n
    · obtain ⟨b, off, rfl, hc, hb⟩ := HC.out j (by rw [HN.out]; exact hlt)
      obtain ⟨⟨old, h1⟩, h2, h3⟩ := hr.step HN.out hlt
      have hc2 : wr.cell? ⟨b, off + j, none⟩ = some (.string (xs.getD j ByteArray.empty)) := (hr.2.cell (p := ⟨b, off + j, none⟩) hb).trans hc
      clear hc hr
      generalize xs.getD j ByteArray.empty = u at *
      go_wp2
      go_roundw
      case rel => exact ⟨j + 1, by omega, by go_num, h3⟩
      case measure => simp [intOf]; omega
    · have e : j = n := by omega
      subst e
      go_wp2
      go_ret
      refine ⟨_, rfl, ?_, hr.2⟩
      have h5 := hr.1
      have he := HE.out
      rw [he] at h5
      show World.ownsRow _ _ _ _ _ xs.length _
      rw [HN.out]
      exact h5
end Go.Proofs.Ytlcogbphodakfaa.Jn
