/- The model's canonical uses. -/
import Derived.Test.YtlpooiihoiddbaaCuses
import Derived.Test.YtlpooiihoiddbaaCappg
import Derived.Test.YtlpooiihoiddbaaPlainUses
namespace Go.Proofs.Ytlpooiihoiddbaa.Tr
open Go.RowKit
theorem ne_before (s : List Int) (x : Int) : ∀ k, k < s.idxOf x → s.getD k 0 ≠ x := by
  induction s with
  | nil => intro k h; simp at h
  | cons y s ih =>
    intro k h
    rw [List.idxOf_cons] at h
    by_cases e : y = x
    · have : (y == x) = true := by simpa using e
      rw [this] at h; simp at h
    · have : (y == x) = false := by simpa using e
      rw [this] at h
      cases k with
      | zero => simpa using e
      | succ k => have := ih k (by simpa using h); simpa using this
theorem at_idx (s : List Int) (x : Int) (h : s.idxOf x < s.length) : s.getD (s.idxOf x) 0 = x := by
  rw [getD_get' s _ h]; exact List.getElem_idxOf h
theorem seen_step (xs : List Int) (j : Nat) : seenK xs (j + 1) = if (seenK xs j).idxOf (xs.getD j 0) < (seenK xs j).length then seenK xs j else seenK xs j ++ [xs.getD j 0] := by
  rw [seenK]
  by_cases h : xs.getD j 0 ∈ seenK xs j
  · rw [if_pos h, if_pos (List.idxOf_lt_length_iff.2 h)]
  · rw [if_neg h, if_neg (fun h2 => h (List.idxOf_lt_length_iff.1 h2))]
def Cn (xs : List Int) (B j : Nat) (v y : Value) (wr : World) : Prop := Own wr B v (told (canonAt xs) j) ∧ Own wr B y (seenK xs j) ∧ Apart v y
set_option maxHeartbeats 2000000 in
theorem canon_s (a : Option Addr) (c : Nat) (xs : List Int) (w : World) (hn : xs.length ≤ 60) (hr : Row w a xs) :
    Calls Try.prog 56 #[.slice a xs.length c] w (Lb (told (canonAt xs) xs.length) w) := by
  have HC := Lib.hid hr
  have HS := Lib.hid (seen_step xs)
  have HT := Lib.hid (told_succ (canonAt xs))
  have HF := Lib.hid (fun j => (show canonAt xs j = ((seenK xs j).idxOf (xs.getD j 0) : Nat) from rfl))
  have HL := Lib.hid (seenK_length xs)
  have HTL := Lib.hid (told_length (canonAt xs))
  clear hr
  unfold Row at HC
  generalize hN : xs.length = N at *
  go_enter Try.func56, Try.ntmps56
  go_wp2
  go_loopw [3, 4, 5] (fun v y i wr => ∃ j : Nat, j ≤ N ∧ i = .int .i64 j ∧ Hid (Cn xs w.heap.size j v y wr) ∧ Below w.heap.size w wr) (fun _ _ i _ => N - (intOf i).toNat)
  case atStart => exact ⟨0, Nat.zero_le _, rfl, (show Cn xs w.heap.size 0 _ _ _ from ⟨(Own.lit0 w).below (Below.alloc (Below.refl _ _) (Nat.le_refl _) _) (Nat.le_refl _), by have := (Own.lit0 (w.alloc (.cells #[] 2))).mono (B' := w.heap.size) (by simp); exact (by simpa using this : Own _ _ _ []), fun q hq hv => by simp [Value.ownBlock] at hq hv; omega⟩), ((Below.refl _ _).alloc (Nat.le_refl _) _).alloc (by simp) _⟩
  case round =>
    obtain ⟨j, hj, rfl, hcn, hb⟩ := hrel
    obtain ⟨hov, hoy, hap⟩ := hcn.out
    have hsz := hb.size
    by_cases hlt : j < N
    · obtain ⟨b0, off, rfl, c1, hb0⟩ := HC.out j hlt
      have c2 : wr.cell? ⟨b0, off + j, none⟩ = some (.int .i64 (xs.getD j 0)) := (hb.cell (p := ⟨b0, off + j, none⟩) hb0).trans c1
      have hs := Lib.hid (HS.out j)
      have ht := Lib.hid (HT.out j)
      have hq1 : (told (canonAt xs) j).length + 1 ≤ 1000000000 := by rw [HTL.out]; omega
      have hq2 : (seenK xs j).length ≤ 60 := by have := HL.out j; omega
      rw [HF.out j] at ht
      clear c1 hcn
      obtain ⟨ay, cy, rfl, hcy, hcy2, hry⟩ := hoy.rd
      have HY := Lib.hid hry
      unfold Row at HY
      clear hry
      have hNE := Lib.hid (ne_before (seenK xs j) (xs.getD j 0))
      have hAT := Lib.hid (at_idx (seenK xs j) (xs.getD j 0))
      have hle : (seenK xs j).idxOf (xs.getD j 0) ≤ (seenK xs j).length := List.idxOf_le_length
      generalize xs.getD j 0 = u at *
      generalize (seenK xs j).idxOf u = f at *
      generalize told (canonAt xs) j = st at *
      generalize hse : seenK xs j = se at *
      clear hse
      generalize hM : se.length = M at *
      go_wp2
      go_loopw [6] (fun p wr2 => ∃ k : Nat, k ≤ f ∧ p = .int .i64 k ∧ ∃ q, wr2 = wr.drewN q) (fun p _ => f - (intOf p).toNat)
      case atStart => exact ⟨0, Nat.zero_le _, rfl, 0, rfl⟩
      case round =>
        obtain ⟨k, hk, rfl, q, rfl⟩ := hrel
        by_cases hkf : k < f
        · obtain ⟨by0, offy, rfl, cy1, hby⟩ := HY.out k (by omega)
          have hne := hNE.out k hkf
          have hkM : (k : Int) < (M : Int) := by omega
          generalize se.getD k 0 = t at *
          go_wp2
          go_quiet (fail)
          go_wp2
          go_roundw
          case rel => exact ⟨k + 1, by omega, by go_num, _, rfl⟩
          case measure => simp [intOf] <;> omega
        · have e : k = f := by omega
          subst e
          by_cases hkM : k < M
          · obtain ⟨by0, offy, rfl, cy1, hby⟩ := HY.out k hkM
            have hat := hAT.out hkM
            rw [hat] at cy1
            have hkM2 : (k : Int) < (M : Int) := by omega
            have hs2 := Lib.hid (show seenK xs (j + 1) = se by rw [hs.out, if_pos hkM])
            go_wp2
            go_quiet (fail)
            rename_i nq
            have hbn : Below w.heap.size w (wr.drewN (q + nq)) := below_drewN _ hb
            have ov3 : Own (wr.drewN (q + nq)) w.heap.size _ st := hov.drewN (q + nq)
            have oy3 : Own (wr.drewN (q + nq)) w.heap.size _ se := hoy.drewN (q + nq)
            have hsz3 : w.heap.size ≤ (wr.drewN (q + nq)).heap.size := hsz
            rw [World.drewN_drewN]
            generalize wr.drewN (q + nq) = w3 at *
            have hkM3 : ((k : Int) == (M : Int)) = false := by simp; omega
            go_wp2_with (at_builtin; refine wpList_appG _ rfl _ _ rfl w.heap.size _ st _ ?_ ?_ ov3 hq1 hsz3 ?_; rfl; rfl)
            intro v' w4 ov4 hb4 hother
            obtain ⟨oy4, ap4⟩ := hother _ _ _ oy3 hap
            go_wp2
            go_roundw
            case rel => exact ⟨j + 1, by omega, by go_num, ⟨by rw [ht.out]; exact ov4, by rw [hs2.out]; exact oy4, ap4⟩, hbn.trans hb4⟩
            case measure => simp [intOf] <;> omega
          · have e : k = M := by omega
            subst e
            have hs2 := Lib.hid (show seenK xs (j + 1) = se ++ [u] by rw [hs.out, if_neg hkM])
            have hkM2 : ¬ (k : Int) < (k : Int) := by omega
            go_wp2
            go_quiet (fail)
            rename_i nq
            have hbn : Below w.heap.size w (wr.drewN (q + nq)) := below_drewN _ hb
            have ov3 : Own (wr.drewN (q + nq)) w.heap.size _ st := hov.drewN (q + nq)
            have oy3 : Own (wr.drewN (q + nq)) w.heap.size _ se := hoy.drewN (q + nq)
            have hsz3 : w.heap.size ≤ (wr.drewN (q + nq)).heap.size := hsz
            have c3 : (wr.drewN (q + nq)).cell? ⟨b0, off + j, none⟩ = some (.int .i64 u) := c2
            rw [World.drewN_drewN]
            generalize wr.drewN (q + nq) = w3 at *
            have hq3 : se.length + 1 ≤ 1000000000 := by omega
            go_wp2_with (at_builtin; refine wpList_appG _ rfl _ _ rfl w.heap.size _ se _ ?_ ?_ oy3 hq3 hsz3 ?_; rfl; rfl)
            intro y' w4 oy4 hb4 hother
            obtain ⟨ov4, ap4⟩ := hother _ _ _ ov3 hap.symm
            have hsz4 : w.heap.size ≤ w4.heap.size := Nat.le_trans hsz3 hb4.size
            go_wp2_with (at_builtin; refine wpList_appG _ rfl _ _ rfl w.heap.size _ st _ ?_ ?_ ov4 hq1 hsz4 ?_; rfl; rfl)
            intro v' w5 ov5 hb5 hother5
            obtain ⟨oy5, ap5⟩ := hother5 _ _ _ oy4 ap4.symm
            go_wp2
            go_roundw
            case rel => exact ⟨j + 1, by omega, by go_num, ⟨by rw [ht.out]; exact ov5, by rw [hs2.out]; exact oy5, ap5⟩, (hbn.trans hb4).trans hb5⟩
            case measure => simp [intOf] <;> omega
    · have e : j = N := by omega
      subst e
      go_wp2
      go_ret
      exact ⟨_, rfl, hov, hb⟩
end Go.Proofs.Ytlpooiihoiddbaa.Tr
