/- Tables of rules: the program's rulesTo and the model's l10Rules. -/
import Derived.Test.YtmmjdmgnmlhjeaaCrula
import Derived.Test.YtmmjdmgnmlhjeaaCptc
import Derived.Test.YtmmjdmgnmlhjeaaConlyS
namespace Go.Proofs.Ytmmjdmgnmlhjeaa.Pt
open Go.RowKit
/-- The table with some copies as Next. -/
def tabOf (ns : List Int) (bs : List Int) : List Ru.R := (List.range ns.length).map fun i => (ns.getD i 0, 1, bs.contains (i : Int))
def CopR (B : Nat) (rs : List Ru.R) (w : World) (e : Ending) (w' : World) : Prop := ∃ v, e = .returned v ∧ Ru.OwnR w' B v rs ∧ Below B w w'
theorem tk_succ {α : Type} (f : Nat → α) (j : Nat) : (List.range (j + 1)).map f = (List.range j).map f ++ [f j] := by simp [List.range_succ]
set_option maxHeartbeats 2000000 in
theorem rulesTo_i (a : Option Addr) (c : Nat) (xs : List Int) (w : World) (hr : Row w a xs) (hn : xs.length ≤ 1000) :
    Calls Try.prog 34 #[.slice a xs.length c] w (CopR w.heap.size (tabOf xs []) w) := by
  have HR := Lib.hid hr
  have HE : Hid (tabOf xs [] = (List.range xs.length).map fun i => (xs.getD i 0, (1 : Int), false)) := by show _ = _; simp [tabOf]
  clear hr
  rw [HE.out]
  generalize hN : xs.length = N at *
  have HN := Lib.hid hN
  clear hN HE
  go_enter Try.func34, Try.ntmps34
  go_wp2
  go_loopw [3, 8] (fun s i wr => ∃ j : Nat, j ≤ N ∧ i = .int .i64 j ∧ Hid (Ru.OwnR wr w.heap.size s ((List.range j).map fun i => (xs.getD i 0, (1 : Int), false))) ∧ Hid (Below w.heap.size w wr)) (fun _ i _ => N - (intOf i).toNat)
  case atStart => exact ⟨0, Nat.zero_le _, rfl, Ru.OwnR.nil _ _, Below.refl _ _⟩
  case round =>
    obtain ⟨j, hj, rfl, ho, hb⟩ := hrel
    by_cases hlt : j < N
    · obtain ⟨b, off, rfl, hc, hbl⟩ := HR.out j (by rw [HN.out]; exact hlt)
      have hc' := (hb.out.cell (p := ⟨b, off + j, none⟩) hbl).trans hc
      have hsz := hb.out.size
      have hL : ((List.range j).map fun i => (xs.getD i 0, (1 : Int), false)).length = j := by simp
      have HL := Lib.hid hL
      clear hc hL
      go_wp2_with (at_builtin; refine Ru.wpList_appR wr rfl _ _ rfl w.heap.size _ _ (xs.getD j 0, 1, false) ?_ ?_ ho.out (by rw [HL.out]; omega) hsz ?_; rfl; rfl)
      intro v' w' o' b' _ _
      have O2 := Lib.hid (show Ru.OwnR w' w.heap.size v' ((List.range (j + 1)).map fun i => (xs.getD i 0, (1 : Int), false)) by rw [tk_succ]; exact o')
      have B2 := Lib.hid (hb.out.trans b')
      clear o' b' ho hb
      go_wp2
      go_roundw
      case rel => exact ⟨j + 1, by omega, by go_num, O2, B2⟩
      case measure => simp [intOf]; omega
    · have e : j = N := by omega
      subst e
      go_wp2
      go_ret
      exact ⟨_, rfl, ho.out, hb.out⟩
set_option maxHeartbeats 4000000 in
theorem l10Rules_s (a b : Option Addr) (c d : Nat) (xs ys : List Int) (w : World) (hr : Row w a xs) (h4 : xs.length = 4) (hy : Row w b ys) (hn : ys.length ≤ 1000) :
    Calls Try.prog 33 #[.slice a 4 c, .slice b ys.length d] w (CopR w.heap.size (tabOf xs ys) w) := by
  have HR := Lib.hid hr
  have HH := Lib.hid (fun (w' : World) (j : Nat) (hb : Below w.heap.size w w') => Tr.has_s b d ys (j : Int) w' (by omega) (Row.below hy hb))
  have HE : Hid (tabOf xs ys = (List.range 4).map fun i : Nat => (xs.getD i 0, (1 : Int), ys.contains (i : Int))) := by show _ = _; simp [tabOf, h4]
  have HN := Lib.hid h4
  clear hr hy h4
  rw [HE.out]
  clear HE
  generalize ys.length = M at *
  go_enter Try.func33, Try.ntmps33
  go_wp2
  have oA : Ru.OwnR (w.alloc (.cells #[] 40)) w.heap.size (.slice (some ⟨w.heap.size, 0, none⟩) 0 0) [] := World.ownsRow_lit w #[] 0 (Nat.le_refl _) (by unfold maxLen; omega) rfl
  have bA : Below w.heap.size w (w.alloc (.cells #[] 40)) := (Below.refl _ _).alloc (Nat.le_refl _) _
  go_loopw [5, 6] (fun s i wr => ∃ j : Nat, j ≤ 4 ∧ i = .int .i64 j ∧ Hid (Ru.OwnR wr w.heap.size s ((List.range j).map fun i : Nat => (xs.getD i 0, (1 : Int), ys.contains (i : Int)))) ∧ Hid (Below w.heap.size w wr)) (fun _ i _ => 4 - (intOf i).toNat)
  case atStart => exact ⟨0, Nat.zero_le _, rfl, oA, bA⟩
  case round =>
    obtain ⟨j, hj, rfl, ho, hb⟩ := hrel
    by_cases hlt : j < 4
    · obtain ⟨p, off, rfl, hc, hbl⟩ := HR.out j (by rw [HN.out]; exact hlt)
      have hc' := (hb.out.cell (p := ⟨p, off + j, none⟩) hbl).trans hc
      have hsz := hb.out.size
      have HL := Lib.hid (show ((List.range j).map fun i : Nat => (xs.getD i 0, (1 : Int), ys.contains (i : Int))).length = j by simp)
      have HB := Lib.hid (HH.out wr.drew j hb.out.drew)
      have od := Lib.hid (Ru.OwnR.drewN ho.out 1)
      have hs1 : w.heap.size ≤ wr.drew.heap.size := hsz
      clear hc
      obtain ⟨x, hx⟩ : ∃ x, x = xs.getD j 0 := ⟨_, rfl⟩
      obtain ⟨u, hu⟩ : ∃ u, u = ys.contains (j : Int) := ⟨_, rfl⟩
      rw [← hx] at hc'
      rw [← hu] at HB
      have HX := Lib.hid hx
      have HU := Lib.hid hu
      clear hx hu
      go_wp2
      go_region_law (first | (go_simp; go_at_call 63; (with_reducible refine HB.out.mono ?_); rintro e w2 ⟨rfl, rfl⟩) | (refine Ru.step_appR wr.drew rfl (.tmp 12) (.tmp 21) rfl w.heap.size _ _ (x, 1, u) (by first | rfl | simp [Act.eval, Act.put]) (by first | rfl | simp [Act.eval, Act.put]) od.out (by rw [HL.out]; omega) hs1 ?_; intro g9 cap9 w9 o9 b9 f9 k9))
      all_goals
        have O2 := Lib.hid (show Ru.OwnR w9 w.heap.size (.slice (some ⟨g9, 0, none⟩) (j + 1) cap9) ((List.range (j + 1)).map fun i : Nat => (xs.getD i 0, (1 : Int), ys.contains (i : Int))) by rw [tk_succ, ← HX.out, ← HU.out]; have h := o9; rw [HL.out] at h; exact h)
        have B2 := Lib.hid (hb.out.drew.trans b9)
        clear o9 b9 f9 k9 ho hb HB od
        go_wp2
        go_roundw
        case rel => exact ⟨j + 1, by omega, by go_num, O2, B2⟩
        case measure => simp [intOf]; omega
    · have e : j = 4 := by omega
      subst e
      go_wp2
      go_ret
      exact ⟨_, rfl, ho.out, hb.out⟩
end Go.Proofs.Ytmmjdmgnmlhjeaa.Pt
