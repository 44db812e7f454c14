/- A copy of a list of integers that came in (laws.toInt64S), as a list of the call's own. -/
import Derived.Test.YtakjkbjooongkaaCRow
import Derived.Test.YtakjkbjooongkaaCapp
namespace Go.Proofs.Ytakjkbjooongkaa
open Go.RowKit
def Copied (xs : List Int) (w : World) (e : Ending) (w' : World) : Prop := ∃ v, e = .returned v ∧ Own w' w.heap.size v xs ∧ Below w.heap.size w w'
/-- After j rounds: the first j numbers, and noughts. -/
def tk (zs : List Int) (n j : Nat) : List Int := zs.take j ++ List.replicate (n - j) 0
theorem tk_length (zs : List Int) (n j : Nat) (hj : j ≤ n) (hn : n ≤ zs.length) : (tk zs n j).length = n := by simp [tk]; omega
theorem tk_step (zs : List Int) (n j : Nat) (hj : j < n) (hn : n ≤ zs.length) : (tk zs n j).set j (zs.getD j 0) = tk zs n (j + 1) := by
  have hl : (zs.take j).length = j := by simp; omega
  unfold tk
  rw [List.set_append_right _ _ (by omega), hl, Nat.sub_self, show n - j = (n - (j + 1)) + 1 by omega, List.replicate_succ, List.set_cons_zero,
    List.take_succ_eq_append_getElem (by omega), List.append_assoc, List.getD_eq_getElem?_getD, List.getElem?_eq_getElem (by omega)]
  rfl
theorem tk_end (zs : List Int) (n : Nat) : tk zs n n = zs.take n := by simp [tk]
def CopyRel (g n : Nat) (zs : List Int) (w0 : World) (j : Nat) (wr : World) : Prop :=
  wr.ownsRow g 2 1 (.slice (some ⟨g, 0, none⟩) n n) n ((tk zs n j).map (Value.int .i64)) ∧ Below g w0 wr
theorem CopyRel.step {g n : Nat} {zs : List Int} {w0 : World} {j : Nat} {wr : World} (h : CopyRel g n zs w0 j wr) (hn : n ≤ zs.length) (hj : j < n) :
    (∃ old, wr.cell? ⟨g, j, none⟩ = some old) ∧ wr.frozen? ⟨g, j, none⟩ = false ∧ CopyRel g n zs w0 (j + 1) (wr.setCell ⟨g, j, none⟩ (.int .i64 (zs.getD j 0))) := by
  have hst := World.ownsRow.stored h.1 j (.int .i64 (zs.getD j 0))
  rw [← List.map_set, tk_step zs n j hj hn] at hst
  refine ⟨?_, h.1.frozenAt j, hst.1, h.2.setCell (Nat.le_refl _) _⟩
  rw [h.1.cellAt j (by omega), List.getElem?_eq_getElem (by simp [tk_length zs n j (by omega) hn]; exact hj)]
  exact ⟨_, rfl⟩
theorem made_zero (n : Nat) : (madeCells #[Value.int .i64 0] n).toList = (List.replicate n 0).map (Value.int .i64) := by
  rw [List.map_replicate]
  exact toList_madeCells_one _ _
set_option maxHeartbeats 1000000 in
theorem to_any (a : Option Addr) (n cap : Nat) (zs : List Int) (w : World) (h : IsRow .i64 w a n cap zs) (hn : n ≤ 1048576) :
    Calls Try.prog 24 #[.slice a n cap] w (Copied (zs.take n) w) := by
  have hle := (h.le).2
  have hcell : ∀ i, i < n → ∃ b off, a = some ⟨b, off, none⟩ ∧ w.cell? ⟨b, off + i, none⟩ = some (.int .i64 (zs.getD i 0)) ∧ b < w.heap.size := fun i hi => by
    obtain ⟨b, off, ha, _, _, _, hc, _⟩ := h.at (by omega)
    exact ⟨b, off, ha, hc i hi, World.block_lt_of_cell? w _ (hc i hi)⟩
  have HC := Lib.hid hcell
  clear hcell h
  obtain ⟨i0, hi, hz0, hz1, hz2⟩ := info_parts infoI
  go_enter Try.func24, Try.ntmps24
  go_wp2_with (at_make; refine wpList_make_full _ rfl _ _ 24 rfl w.heap.size 2 i0 (.int .i64 0) 1 Try.underlying24 hi hz0 hz1 .i64 .i64 (n : Int) (n : Int) n ?_ ?_ rfl rfl ?_ ?_ ?_ ?_; rfl; rfl)
  · rw [hz2]; omega
  · unfold maxLen; omega
  · exact Nat.le_refl _
  intro w1 hown hgr
  have hr : CopyRel w.heap.size n zs w 0 w1 := ⟨by rw [made_zero] at hown; simpa [tk] using hown, (Below.refl _ _).grown hgr (Nat.le_refl _) (by simp)⟩
  clear hown hgr
  go_wp2
  go_loopw [4] (fun i wr => ∃ j : Nat, j ≤ n ∧ i = .int .i64 j ∧ CopyRel w.heap.size n zs w j wr) (fun i _ => n - (intOf i).toNat)
  case atStart => exact ⟨0, Nat.zero_le _, rfl, hr⟩
  case round =>
    obtain ⟨j, hj, rfl, hr⟩ := hrel
    by_cases hlt : j < n
    · obtain ⟨b, off, rfl, hc, hb⟩ := HC.out j hlt
      obtain ⟨⟨old, h1⟩, h2, h3⟩ := hr.step hle hlt
      have hc2 : wr.cell? ⟨b, off + j, none⟩ = some (.int .i64 (zs.getD j 0)) := (hr.2.cell (p := ⟨b, off + j, none⟩) hb).trans hc
      clear hc hr
      generalize zs.getD j 0 = u at *
      go_wp2
      go_roundw
      case rel => exact ⟨j + 1, by omega, by go_num, h3⟩
      case measure => simp [intOf]; omega
    · have e : j = n := by omega
      subst e
      obtain ⟨h1, h2⟩ := hr
      rw [tk_end] at h1
      have hl : (zs.take j).length = j := by simp; omega
      go_wp2
      go_ret
      refine ⟨_, rfl, ?_, h2⟩
      show World.ownsRow _ _ _ _ _ (zs.take j).length _
      rw [hl]
      exact h1
end Go.Proofs.Ytakjkbjooongkaa
