/- The program's chain of pairs: newPairChain, learn, after. -/
import Derived.Test.YtmcnmjkickamkaaPlainFol
import Derived.Test.YtmcnmjkickamkaaCblk
import Derived.Test.YtmcnmjkickamkaaCrd
import Derived.Maps.OwnSet
import Derived.Maps.OwnOps
import Derived.IntWalk
namespace Go.Proofs.Ytmcnmjkickamkaa.St
open Go.RowKit Go.Maps
theorem lawI : Keyed Try.prog 2 := int_keyed Try.underlying2
theorem zeroI (w : World) : (zeroValue 2).run Try.prog w = .ok (.int .i64 0) w := by kernel_rfl
theorem mapBelow {w w' : World} {b n B : Nat} {D : DataW Unit} (h : w.ownsMap Try.prog 2 (plainElem Try.prog 2) b n D) (hb : Below B w w') (hB : b < B) : w'.ownsMap Try.prog 2 (plainElem Try.prog 2) b n D := by
  obtain ⟨es, clock, h1, h2⟩ := h
  exact ⟨es, clock, (hb.block b hB).trans h1, h2⟩
theorem mapSame {w w' : World} {b n : Nat} {D : DataW Unit} (h : w.ownsMap Try.prog 2 (plainElem Try.prog 2) b n D) (hb : w'.heap[b]? = w.heap[b]?) : w'.ownsMap Try.prog 2 (plainElem Try.prog 2) b n D := by
  obtain ⟨es, clock, h1, h2⟩ := h
  exact ⟨es, clock, hb.trans h1, h2⟩
/-- The map tells what has followed each line. -/
def MapF (L : List Int) (D : DataW Unit) : Prop := IsMap D ∧ ∀ x : Int, has D (.int .i64 x) = decide (0 ≤ fol L x) ∧ (0 ≤ fol L x → ∀ z, D.atKey (.int .i64 x) z = .lit (.int .i64 (fol L x)))
theorem MapF.zero : MapF [] (.map []) := ⟨isMap_empty, fun x => ⟨by rw [fol_one [] x (by simp)]; simp [has], fun h => by rw [fol_one [] x (by simp)] at h; omega⟩⟩
theorem MapF.one {L : List Int} {D : DataW Unit} (h : MapF L D) (y : Int) (h0 : L.length = 0) : MapF (L ++ [y]) D := by
  refine ⟨h.1, fun x => ?_⟩
  have e := h.2 x
  rw [fol_one L x (by omega)] at e
  rw [fol_one (L ++ [y]) x (by simp [h0])]
  exact e
theorem MapF.step {L : List Int} {D : DataW Unit} (h : MapF L D) (y : Int) (h0 : 1 ≤ L.length) (hy : 0 ≤ y) : MapF (L ++ [y]) (D.put (.int .i64 (L.getD (L.length - 1) 0)) (.lit (.int .i64 y))) := by
  refine ⟨h.1.put _ _, fun x => ?_⟩
  rw [fol_app L y x h0]
  by_cases e : L.getD (L.length - 1) 0 = x
  · subst e
    rw [if_pos rfl]
    exact ⟨by rw [has_put_same h.1 (by simp [WideAt.IsKeyLit])]; simp [hy], fun _ z => atKey_put_same h.1 (by simp [WideAt.IsKeyLit]) _ z⟩
  · rw [if_neg e]
    have hne : (Lit.int .i64 x) ≠ (Lit.int .i64 (L.getD (L.length - 1) 0)) := fun h => e (by injection h with _ h; exact h.symm)
    exact ⟨by rw [has_put_other hne]; exact (h.2 x).1, fun h0 z => by rw [atKey_put_other hne]; exact (h.2 x).2 h0 z⟩
abbrev pcc (M : Nat) (u : Int) (b : Bool) : List Value := [.map (some M), .int .i64 u, .bool b]
/-- The chain's block and its map. -/
def PcS (L : List Int) (M : Nat) (w : World) : Prop := Blk w (M + 1) (pcc M (L.getD (L.length - 1) 0) (decide (1 ≤ L.length))) 90 ∧ ∃ (n : Nat) (D : DataW Unit), w.ownsMap Try.prog 2 (plainElem Try.prog 2) M n D ∧ n ≤ L.length ∧ MapF L D
theorem PcS.below {L : List Int} {M B : Nat} {w w' : World} (h : PcS L M w) (hb : Below B w w') (hB : M + 1 < B) : PcS L M w' := by
  obtain ⟨h1, n, D, h2, h3, h4⟩ := h
  exact ⟨h1.below hb hB, n, D, mapBelow h2 hb (by omega), h3, h4⟩
theorem last_app (L : List Int) (y : Int) : (L ++ [y]).getD ((L ++ [y]).length - 1) 0 = y ∧ (decide (1 ≤ (L ++ [y]).length)) = true := by
  refine ⟨?_, by simp⟩
  rw [List.getD_eq_getElem?_getD, show (L ++ [y]).length - 1 = L.length by simp, List.getElem?_append_right (Nat.le_refl _)]
  simp
theorem new_p (w : World) : Calls Try.prog 42 #[] w fun e w' => e = .returned (.pointer (some ⟨w.heap.size + 1, 0, none⟩)) ∧ PcS [] w.heap.size w' ∧ Below w.heap.size w w' := by
  have hmm := @run_makeMap Try.prog
  go_enter Try.func42, Try.ntmps42
  go_wp2
  go_ret
  have hz : (w.alloc (.map #[] 0)).heap.size = w.heap.size + 1 := Array.size_push _
  refine ⟨rfl, ⟨Blk.newAt _ _ _ _ hz.symm, 0, .map [], ?_, Nat.le_refl _, MapF.zero⟩, ((Below.refl _ w).alloc (Nat.le_refl _) _).alloc (by omega) _⟩
  exact mapBelow (World.ownsMap_made _ _ _ _) ((Below.refl _ (w.alloc (.map #[] 0))).alloc (Nat.le_refl _) _) (by omega)
set_option maxRecDepth 100000 in
set_option maxHeartbeats 2000000 in
theorem after_p (L : List Int) (M : Nat) (x : Int) (w : World) (h : PcS L M w) (hx : (Lit.int .i64 x).wf = true) :
    Calls Try.prog 44 #[.pointer (some ⟨M + 1, 0, none⟩), .int .i64 x] w fun e w' => (∃ z, e = .returned (.tuple #[.int .i64 z, .bool (decide (0 ≤ fol L x))]) ∧ (0 ≤ fol L x → z = fol L x)) ∧ w = w' := by
  obtain ⟨h1, n, D, h2, h3, h4⟩ := h
  have c0 : w.cell? ⟨M + 1, 0, none⟩ = some (.map (some M)) := h1.cell 0
  have H2 := Lib.hid h2
  have H4 := Lib.hid (h4.2 x)
  clear h1 h2 h4 h3
  generalize fol L x = F at *
  go_enter Try.func44, Try.ntmps44
  go_wp2_with (at_lookup; refine wpList_lookup_own_ok_int _ rfl _ _ 88 rfl 2 2 .i64 lawI Try.underlying88 Try.underlying2 (zeroI _) M n D rfl H2.out _ _ rfl (keyOf_int_mk Try.underlying2 hx) ?_; intro cL hat hwc; rw [H4.out.1])
  go_ret2
  refine ⟨⟨_, rfl, fun h0 => ?_⟩, rfl⟩
  have h := (H4.out.2 h0 _).symm.trans hat
  injection h with h; injection h with _ h; exact h.symm
theorem wrt (M : Nat) (u y : Int) (b : Bool) (w : World) (h : Blk w (M + 1) (pcc M u b) 90) :
    Blk ((w.setCell ⟨M + 1, 1, none⟩ (.int .i64 y)).setCell ⟨M + 1, 2, none⟩ (.bool true)) (M + 1) (pcc M y true) 90 ∧ Keep (M + 1) w ((w.setCell ⟨M + 1, 1, none⟩ (.int .i64 y)).setCell ⟨M + 1, 2, none⟩ (.bool true)) :=
  ⟨blk_set (M + 1) 90 [.int .i64 y, .bool true] 1 (pcc M u b) w h (by simp), keep_set (M + 1) [.int .i64 y, .bool true] 1 w⟩
set_option maxRecDepth 100000 in
set_option maxHeartbeats 2000000 in
theorem learn_p (L : List Int) (M : Nat) (y : Int) (w : World) (h : PcS L M w) (hL : ∀ v ∈ L, 0 ≤ v ∧ v ≤ 63) (hy : 0 ≤ y ∧ y ≤ 63) (hl : L.length ≤ 60) :
    Calls Try.prog 43 #[.pointer (some ⟨M + 1, 0, none⟩), .int .i64 y] w fun e w' => e = .returned (.tuple #[]) ∧ PcS (L ++ [y]) M w' ∧ Below M w w' := by
  obtain ⟨h1, n, D, h2, h3, h4⟩ := h
  have HEND := Lib.hid (fun (w4 w5 : World) (D' : DataW Unit) (n' : Nat) (k1 : Blk w5 (M + 1) (pcc M y true) 90) (k2 : Keep (M + 1) w4 w5) (k3 : w4.ownsMap Try.prog 2 (plainElem Try.prog 2) M n' D') (k4 : n' ≤ L.length + 1) (k5 : MapF (L ++ [y]) D') => (show PcS (L ++ [y]) M w5 from by
    unfold PcS
    rw [(last_app L y).1, (last_app L y).2]
    exact ⟨k1, n', D', mapSame k3 (k2.block M (by omega)), by simpa using k4, k5⟩))
  by_cases h0 : L.length = 0
  · have HM := Lib.hid (h4.one y h0)
    rw [show decide (1 ≤ L.length) = false from decide_eq_false (by omega)] at h1
    generalize L.getD (L.length - 1) 0 = u at *
    obtain ⟨b1, k1⟩ := wrt M u y false w h1
    have c1 : w.cell? ⟨M + 1, 1, none⟩ = some (.int .i64 u) := h1.cell 1
    have c2 : w.cell? ⟨M + 1, 2, none⟩ = some (.bool false) := h1.cell 2
    have f1 := h1.froz 1
    have f2 := h1.froz 2
    have HE := Lib.hid (HEND.out w _ D n b1 k1 h2 (by omega) HM.out)
    have HB := Lib.hid (k1.below (B := M) (by omega))
    clear h1 h2 h4 b1 k1 HEND hL h3 h0 hl
    go_enter Try.func43, Try.ntmps43
    go_wp2
    go_end0
    exact ⟨rfl, HE.out, HB.out⟩
  · have HM := Lib.hid (h4.step y (by omega) hy.1)
    have hu := hL (L.getD (L.length - 1) 0) (by rw [List.getD_eq_getElem?_getD, List.getElem?_eq_getElem (by omega)]; exact List.getElem_mem (by omega))
    rw [show decide (1 ≤ L.length) = true from decide_eq_true (by omega)] at h1
    generalize L.getD (L.length - 1) 0 = u at *
    have hwu : (Lit.int .i64 u).wf = true := WalkArith.wf_i64 (by omega)
    have hwy : (Lit.int .i64 y).wf = true := WalkArith.wf_i64 (by omega)
    have h2' : w.drew.ownsMap Try.prog 2 (plainElem Try.prog 2) M n D := h2
    obtain ⟨w2, hsto, hown2, hg2⟩ := h2'.update lawI Try.underlying88 (by unfold maxLen; omega) (keyOf_int_mk Try.underlying2 hwu) (plainElem_int Try.underlying2 hwy)
    have hsto2 : (Instr.mapUpdate 88 (.map (some M)) (.int .i64 u) (.int .i64 y)).run Try.prog w.drew = .ok () w2 := hsto
    have h12 : Blk w2 (M + 1) (pcc M u true) 90 := (hg2.block (M + 1) h1.lt (by simp)).trans h1
    obtain ⟨b1, k1⟩ := wrt M u y true w2 h12
    have c0 : w.cell? ⟨M + 1, 0, none⟩ = some (.map (some M)) := h1.cell 0
    have c1 : w.cell? ⟨M + 1, 1, none⟩ = some (.int .i64 u) := h1.cell 1
    have c2 : w.cell? ⟨M + 1, 2, none⟩ = some (.bool true) := h1.cell 2
    have d1 : w2.cell? ⟨M + 1, 1, none⟩ = some (.int .i64 u) := h12.cell 1
    have d2 : w2.cell? ⟨M + 1, 2, none⟩ = some (.bool true) := h12.cell 2
    have f1 := h12.froz 1
    have f2 := h12.froz 2
    have HE := Lib.hid (HEND.out w2 _ _ (n + 1) b1 k1 hown2 (by omega) HM.out)
    have HB := Lib.hid (show Below M w w2 from (Below.refl M w).drew.grown hg2 (by have := h1.lt; simp; omega) (fun k hk => by injection hk with hk; omega))
    have HB2 := Lib.hid (HB.out.trans (k1.below (B := M) (by omega)))
    clear h1 h2 h2' h4 b1 k1 HEND hL h3 h0 hl hsto hown2 hg2 h12 HB
    go_enter Try.func43, Try.ntmps43
    go_wp2
    go_region
    all_goals
      go_wp2
      go_end0
      exact ⟨rfl, HE.out, HB2.out⟩
end Go.Proofs.Ytmcnmjkickamkaa.St
