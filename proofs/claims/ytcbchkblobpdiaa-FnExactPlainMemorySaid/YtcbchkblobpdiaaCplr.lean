/- The program's steps without a cache: read and write of plainRun. -/
import Derived.Test.YtcbchkblobpdiaaPlainPl
import Derived.Test.YtcbchkblobpdiaaCvt
import Derived.Test.YtcbchkblobpdiaaCsap
import Derived.Test.YtcbchkblobpdiaaCblk
import Derived.Deep.RegionHeld3
namespace Go.Proofs.Ytcbchkblobpdiaa.Pl
open Go.RowKit Ac Tr
/-- the cells of a plain run -/
def plC (ws : List Int) (v : Value) : List Value := ws.map (Value.int .i64) ++ [v]
theorem plC_at (ws : List Int) (v : Value) (h : ws.length = 64) (j : Nat) (hj : j < 64) : (plC ws v)[j]? = some (.int .i64 (ws.getD j 0)) := by
  unfold plC
  rw [List.getElem?_append_left (by simp; omega), List.getElem?_map, List.getElem?_eq_getElem (by omega), List.getD_eq_getElem?_getD, List.getElem?_eq_getElem (by omega)]
  rfl
theorem plC_v (ws : List Int) (v : Value) (h : ws.length = 64) : (plC ws v)[64]? = some v := by
  unfold plC
  rw [List.getElem?_append_right (by simp; omega)]
  simp [h]
theorem plC_setv (ws : List Int) (v u : Value) (h : ws.length = 64) : (plC ws v).set 64 u = plC ws u := by
  unfold plC
  rw [List.set_append_right _ _ (by simp; omega)]
  simp [h]
theorem plC_setw (ws : List Int) (v : Value) (h : ws.length = 64) (j : Nat) (hj : j < 64) (x : Int) : (plC ws v).set j (.int .i64 x) = plC (ws.set j x) v := by
  unfold plC
  rw [List.set_append_left _ _ (by simp; omega), ← List.map_set]
theorem blk_set1 {w : World} {b j : Nat} {cs : List Value} {t : TypeId} (h : Blk w b cs t) (v : Value) : Blk (w.setCell ⟨b, j, none⟩ v) b (cs.set j v) t := by
  have := Go.heap_setCell_same w b j cs.toArray t v h
  unfold Blk
  rw [this]; simp
/-- The variable of a plain run, in the block Z. -/
def PlI (Z : Nat) (ws rs : List Int) (w w' : World) : Prop :=
  ∃ v, Blk w' Z (plC ws v) 63 ∧ Own w' (Z + 1) v rs ∧ Below Z w w' ∧ ws.length = 64
theorem PlI.alloc {Z : Nat} {ws rs : List Int} {w w' : World} (h : PlI Z ws rs w w') (hz : Z ≤ w'.heap.size) (o : Obj) : PlI Z ws rs w (w'.alloc o) := by
  obtain ⟨v, h1, h2, h3, h4⟩ := h
  exact ⟨v, h1.alloc o, h2.below ((Below.refl _ w').alloc (Nat.le_refl _) o) (Nat.le_refl _), h3.alloc hz o, h4⟩
theorem PlI.lt {Z : Nat} {ws rs : List Int} {w w' : World} (h : PlI Z ws rs w w') : Z < w'.heap.size := by
  obtain ⟨v, h1, _⟩ := h
  exact h1.lt
set_option maxRecDepth 100000 in
set_option maxHeartbeats 4000000 in
theorem write_i (Z : Nat) (ws rs : List Int) (w w' : World) (ad : Nat) (x : Int) (h : PlI Z ws rs w w') (had : ad < 64) :
    Calls Try.prog 45 #[.pointer (some ⟨Z, 0, none⟩), .int .i64 ad, .int .i64 x] w' fun e w2 => e = .returned (.tuple #[]) ∧ PlI Z (ws.set ad x) rs w w2 := by
  obtain ⟨v, h1, h2, h3, h4⟩ := h
  have c0 : w'.cell? ⟨Z, ad, none⟩ = some (.int .i64 (ws.getD ad 0)) := by rw [h1.cell, plC_at ws v h4 ad had]
  have f0 := h1.froz ad
  have HE : Hid (PlI Z (ws.set ad x) rs w (w'.setCell ⟨Z, ad, none⟩ (.int .i64 x))) := by
    refine ⟨v, ?_, ?_, ?_, by simp [h4]⟩
    · rw [← plC_setw ws v h4 ad had]; exact blk_set1 h1 _
    · exact h2.kept (row := some Z) ⟨rfl, rfl, rfl, by simp, fun k _ hk => Go.heap_setCell_other w' ⟨Z, ad, none⟩ k _ (fun e => hk (by simp [e]))⟩ (fun k hk e => by have := (Own.block h2 k hk).1; injection e; omega)
    · exact h3.trans ((keep_set Z [.int .i64 x] ad w').below (Nat.le_refl _))
  clear h1 h2 h3
  generalize ws.getD ad 0 = old at *
  go_enter Try.func45, Try.ntmps45
  go_wp2
  go_end0
  exact ⟨rfl, HE.out⟩
set_option maxRecDepth 100000 in
set_option maxHeartbeats 4000000 in
theorem read_i (Z : Nat) (ws rs : List Int) (w w' : World) (ad : Nat) (h : PlI Z ws rs w w') (had : ad < 64) (hq : rs.length + 1 ≤ 1000000000) :
    Calls Try.prog 44 #[.pointer (some ⟨Z, 0, none⟩), .int .i64 ad] w' fun e w2 => e = .returned (.tuple #[]) ∧ PlI Z ws (rs ++ [ws.getD ad 0]) w w2 := by
  obtain ⟨v, h1, h2, h3, h4⟩ := h
  have hzs : Z + 1 ≤ w'.heap.size := h1.lt
  obtain ⟨a, c, rfl⟩ := Own.form h2
  have c0 : w'.cell? ⟨Z, ad, none⟩ = some (.int .i64 (ws.getD ad 0)) := by rw [h1.cell, plC_at ws _ h4 ad had]
  have c1 : w'.cell? ⟨Z, 64, none⟩ = some (.slice a rs.length c) := by rw [h1.cell, plC_v ws _ h4]
  have f1 := h1.froz 64
  have HE := Lib.hid (fun (w2 : World) (g cap : Nat) (ho : Own w2 (Z + 1) (.slice (some ⟨g, 0, none⟩) (rs.length + 1) cap) (rs ++ [ws.getD ad 0])) (hb : Below (Z + 1) w'.drew w2) => (show (∃ o, w2.cell? ⟨Z, 64, none⟩ = some o) ∧ w2.frozen? ⟨Z, 64, none⟩ = false ∧ PlI Z ws (rs ++ [ws.getD ad 0]) w (w2.setCell ⟨Z, 64, none⟩ (.slice (some ⟨g, 0, none⟩) (rs.length + 1) cap)) from by
    have hb0 : Below (Z + 1) w' w2 := (Below.refl _ w').drew.trans hb
    have k1 := h1.below hb0 (by omega)
    refine ⟨⟨_, by rw [k1.cell, plC_v ws _ h4]⟩, k1.froz 64, .slice (some ⟨g, 0, none⟩) (rs.length + 1) cap, ?_, ?_, ?_, h4⟩
    · rw [← plC_setv ws (.slice a rs.length c) _ h4]; exact blk_set1 k1 _
    · exact ho.kept (row := some Z) ⟨rfl, rfl, rfl, by simp, fun k _ hk => Go.heap_setCell_other w2 ⟨Z, 64, none⟩ k _ (fun e => hk (by simp [e]))⟩ (fun k hk e => by have := (Own.block ho k hk).1; injection e; omega)
    · exact (h3.trans (hb0.mono (by omega))).trans ((keep_set Z [.slice (some ⟨g, 0, none⟩) (rs.length + 1) cap] 64 w2).below (Nat.le_refl _))))
  clear h1 h3
  generalize ws.getD ad 0 = u at *
  have h2d : Own w'.drew (Z + 1) (.slice a rs.length c) rs := h2.below (Below.refl _ w').drew (Nat.le_refl _)
  have hzd : Z + 1 ≤ w'.drew.heap.size := hzs
  clear h2
  have c1a : (w'.alloc (.cells #[.int .i64 u] 2)).cell? ⟨Z, 64, none⟩ = some (.slice a rs.length c) := (World.cell?_of_block (w := w') (a := ⟨Z, 64, none⟩) (Below.heap_alloc w' _ Z hzs)).trans c1
  have hadi : (ad : Int) < 64 := by omega
  generalize hM : rs.length = M at *
  go_enter Try.func44, Try.ntmps44
  go_wp2
  go_region_law (refine step_appI w'.drew rfl (.tmp 8) (.tmp 15) rfl (Z + 1) (.slice a M c) rs u (by first | rfl | simp [Act.eval, Act.put]) (by first | rfl | simp [Act.eval, Act.put]) h2d (by omega) hzd ?_; intro g cap w3 ho3 hb3 hfr3 hg3; rw [hM] at ho3 ⊢; obtain ⟨⟨old3, hc3⟩, hf3, hE3⟩ := HE.out w3 g cap ho3 hb3)
  all_goals
    go_wp2
    go_end0
    exact ⟨rfl, hE3⟩
end Go.Proofs.Ytcbchkblobpdiaa.Pl
