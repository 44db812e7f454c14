/- copy inside one block, as a step of a region that draws its order; the program's copyLine. The block of a cache's run: 203 cells, part by part. append of one number to a list of the call's own, inside a region that draws its order. The methods of a cache's run. -/
import Derived.Test.YtngbddmbmkphcaaG8
import Derived.Test.YtngbddmbmkphcaaG9
import Derived.Test.YtngbddmbmkphcaaG6
import Derived.Deep.AppendLies
namespace Go.Proofs.Ytngbddmbmkphcaa.Pv
open Go.RowKit
theorem blk_setRow {w : World} {b : Nat} {cs : List Value} {t : TypeId} (h : Blk w b cs t) (ds : List Value) : Blk (w.setRow b ds.toArray) b ds t ∧ Keep b w (w.setRow b ds.toArray) :=
  ⟨setRow_heap w b _ _ t _ h, ⟨rfl, rfl, rfl, by simp [World.setRow], fun i hi => setRow_other w b i _ hi⟩⟩
theorem step_copyK {P : Program} {ops : Array Oper} {o : Oper} {a : Act} {w : World} {K : Act → World → Prop} {Q : Exit → Act → World → Prop} {E : Prop} (hgd : o.guard = none) (d s : Operand) (dT sT : TypeId)
    (ho : o.op = .call { callee := .builtin .copy, args := #[d, s], argTypes := #[dT, sT] }) (elem : TypeId) (hu : P.underlying dT = some (.slice elem)) (hsz : (P.info? elem).map (·.size) = some 1)
    (ad : Addr) (g off dLen dCap sLen sCap : Nat) (hd : a.eval d = .slice (some ⟨g, off, none⟩) dLen dCap) (hs : a.eval s = .slice (some ad) sLen sCap)
    (cur : List Value) (t : TypeId) (hg : Blk w g cur t) (cs : List Value) (hn : cs.length = Nat.min sLen dLen)
    (hsrc : ∀ j v, cs[j]? = some v → w.cell? (ad.add j) = some v)
    (hfit : off + cs.length ≤ cur.length) (h1 : ∀ v ∈ cs, v.oneCell' = true)
    (h : ∀ w', Hid (Blk w' g (Go.splice cur off cs) t) → Hid (Keep g w w') → K (a.put o.dst (goInt cs.length)) w') :
    if Region.wanted o (yielded ops a.tmps) = true then Oper.wp P o a w K Q else E := by
  have hw : Region.wanted o (yielded ops a.tmps) = true := by simp [Region.wanted, hgd]
  rw [if_pos hw]
  have hrun := Go.run_copy_row (P := P) w dT sT o.type elem g off dLen dCap ad sLen sCap cur.toArray t cs hu hsz hg hn hsrc (by simpa using hfit) h1
  unfold Oper.wp
  simp [execOp, ho, resolve, invoke, builtin, hd, hs, hrun, Result.andThen]
  obtain ⟨k1, k2⟩ := blk_setRow hg (Go.splice cur off cs)
  refine h _ ?_ ?_
  · show Blk _ _ _ _; simpa [Go.splice] using k1
  · show Keep _ _ _; simpa [Go.splice] using k2
theorem take4_cells (cs : List Value) (p : Nat) (h : p + 4 ≤ cs.length) : ((cs.drop p).take 4).length = 4 := by rw [List.length_take, List.length_drop]; omega
set_option maxRecDepth 100000 in
set_option maxHeartbeats 4000000 in
theorem copy_i (b od os L : Nat) (cs : List Value) (t : TypeId) (w : World) (h : Blk w b cs t) (hL : L < 16) (hod : od + 64 ≤ cs.length) (hos : os + 64 ≤ cs.length) (hone : ∀ v ∈ cs, v.oneCell' = true) :
    Calls Try.prog 72 #[.pointer (some ⟨b, od, none⟩), .pointer (some ⟨b, os, none⟩), .int .i64 L] w (fun e w' => e = .returned (.tuple #[]) ∧ Blk w' b (Go.splice cs (od + L * 4) ((cs.drop (os + L * 4)).take 4)) t ∧ Kept b w w') := by
  have hl := take4_cells cs (os + L * 4) (by omega)
  have HSRC := Lib.hid (fun (j : Nat) (v : Value) (hv : ((cs.drop (os + L * 4)).take 4)[j]? = some v) => show w.drew.cell? ((⟨b, os + L * 4, none⟩ : Addr).add j) = some v from by
    have := h.range (os + L * 4) 4 j v hv
    unfold Addr.add
    split
    · rename_i hj; subst hj; exact this
    · exact this)
  have HB := Lib.hid (show Blk w.drew b cs t from h)
  have HONE := Lib.hid (show ∀ v ∈ (cs.drop (os + L * 4)).take 4, v.oneCell' = true from fun v hv => hone v (List.mem_of_mem_drop (List.mem_of_mem_take hv)))
  have HFIT := Lib.hid (show od + L * 4 + 4 ≤ cs.length by omega)
  generalize (cs.drop (os + L * 4)).take 4 = ps at *
  generalize hS : L * 4 = S at *
  have e1 : (L : Int) * 4 = (S : Int) := by omega
  have e2 : (S : Int) + 4 ≤ 64 := by omega
  have e3 : (S : Int) ≤ (S : Int) + 4 := by omega
  have e4 : (S : Int) ≤ 64 := by omega
  have e5 : ((S : Int) + 4).toNat = S + 4 := by omega
  have e6 : (0 : Int) ≤ (S : Int) + 4 := by omega
  have e7 : IntKind.i64.wrap ((S : Int) + 4) = (S : Int) + 4 := IntWalk.i64_in _ (by omega)
  clear h hone hod hos
  go_enter Try.func72, Try.ntmps72
  go_wp2
  go_region_law (refine step_copyK rfl (.tmp 14) (.tmp 18) 23 23 rfl 2 Try.underlying23 isz ⟨b, os + S, none⟩ b (od + S) 4 (64 - S) (64 - S) (64 - S) (by simp [Act.eval, Act.put]; omega) (by simp [Act.eval, Act.put]; omega) cs t HB.out ps (by rw [hl]; exact (Nat.min_eq_right (by omega)).symm) HSRC.out (by rw [hl]; exact HFIT.out) HONE.out ?_; intro w4 hG4 hK4)
  all_goals
    go_wp2
    go_end0
    exact ⟨rfl, hG4.out, (Kept.of ((Below.refl _ w).drew)).trans (Keep.kept hK4.out)⟩
end Go.Proofs.Ytngbddmbmkphcaa.Pv
namespace Go.Proofs.Ytngbddmbmkphcaa.Pv
open Go.RowKit
/-- A list in three parts. -/
theorem seg_get (A M R : List Value) (a i : Nat) (ha : A.length = a) (hi : i < M.length) : (A ++ (M ++ R))[a + i]? = M[i]? := by
  subst ha
  rw [List.getElem?_append_right (by omega), Nat.add_sub_cancel_left, List.getElem?_append_left hi]
theorem seg_set (A M R : List Value) (a i : Nat) (ha : A.length = a) (hi : i < M.length) (u : Value) : (A ++ (M ++ R)).set (a + i) u = A ++ (M.set i u ++ R) := by
  subst ha
  rw [List.set_append_right _ _ (by omega), Nat.add_sub_cancel_left, List.set_append_left _ _ hi]
theorem seg_part (A M R : List Value) (a i n : Nat) (ha : A.length = a) (hi : i + n ≤ M.length) : ((A ++ (M ++ R)).drop (a + i)).take n = (M.drop i).take n := by
  subst ha
  rw [List.drop_append, List.drop_eq_nil_of_le (by omega : A.length ≤ A.length + i), List.nil_append, Nat.add_sub_cancel_left, List.drop_append_of_le_length (by omega), List.take_append_of_le_length (by rw [List.length_drop]; omega)]
theorem seg_splice (A M R vs : List Value) (a i : Nat) (ha : A.length = a) (hi : i + vs.length ≤ M.length) : Go.splice (A ++ (M ++ R)) (a + i) vs = A ++ (Go.splice M i vs ++ R) := by
  subst ha
  unfold Go.splice
  rw [List.take_append, List.take_of_length_le (by omega : A.length ≤ A.length + i), Nat.add_sub_cancel_left, List.take_append_of_le_length (by omega), Nat.add_assoc, List.drop_append, List.drop_eq_nil_of_le (by omega : A.length ≤ A.length + (i + vs.length)), List.nil_append, Nat.add_sub_cancel_left, List.drop_append_of_le_length (by omega)]
  simp only [List.append_assoc]
/-- A line of words out of others. -/
def lineTo (ws cs : List Int) (L : Nat) : List Int := ws.take (L * 4) ++ ((cs.drop (L * 4)).take 4 ++ ws.drop (L * 4 + 4))
theorem lineTo_len {ws cs : List Int} {L : Nat} (h1 : ws.length = 64) (h2 : cs.length = 64) (hL : L < 16) : (lineTo ws cs L).length = 64 := by
  unfold lineTo
  simp only [List.length_append, List.length_take, List.length_drop, h1, h2]
  omega
def wI (ws : List Int) : List Value := ws.map (Value.int .i64)
def dI (ds : List Bool) : List Value := ds.map Value.bool
theorem splice_line {ws cs : List Int} {L : Nat} (_h1 : ws.length = 64) (h2 : cs.length = 64) (hL : L < 16) : Go.splice (wI ws) (L * 4) (((wI cs).drop (L * 4)).take 4) = wI (lineTo ws cs L) := by
  have hl : (((wI cs).drop (L * 4)).take 4).length = 4 := by unfold wI; rw [List.length_take, List.length_drop, List.length_map, h2]; omega
  unfold Go.splice
  rw [hl]
  unfold wI lineTo
  simp only [List.map_append, List.map_take, List.map_drop]
/-- A cache and its memory after some accesses. -/
structure CaS where
  ws : List Int
  cs : List Int
  ds : List Bool
  k : Nat → Int
  rs : List Int
  h : Nat
  m : Nat
  i : Nat
  o : Nat
  f : Nat
def trC (S : CaS) : List Value := [.int .i64 (S.h : Int), .int .i64 (S.m : Int), .int .i64 (S.i : Int), .int .i64 (S.o : Int), .int .i64 (S.f : Int)]
def caC (v : Value) (rc pv : List Value) (S : CaS) : List Value := wI S.ws ++ ([v] ++ (rc ++ (six6 S.k ++ (trC S ++ (pv ++ (wI S.cs ++ dI S.ds))))))
structure CaW (S : CaS) : Prop where
  ws : S.ws.length = 64
  cs : S.cs.length = 64
  ds : S.ds.length = 16
  k : ∀ i, -1 ≤ S.k i ∧ S.k i ≤ 15
theorem wI_len (ws : List Int) : (wI ws).length = ws.length := List.length_map _
theorem dI_len (ds : List Bool) : (dI ds).length = ds.length := List.length_map _
theorem caC_len {v : Value} {rc pv : List Value} {S : CaS} (hW : CaW S) (h1 : rc.length = 43) (h2 : pv.length = 4) : (caC v rc pv S).length = 203 := by
  have e1 : (six6 S.k).length = 6 := rfl
  unfold caC trC
  simp only [List.length_append, wI_len, dI_len, hW.ws, hW.cs, hW.ds, h1, h2, e1, List.length_cons, List.length_nil]

theorem ca_lens {v : Value} {rc pv : List Value} {S : CaS} (hW : CaW S) (h1 : rc.length = 43) (h2 : pv.length = 4) : (wI S.ws).length = 64 ∧ ([v] : List Value).length = 1 ∧ rc.length = 43 ∧ (six6 S.k).length = 6 ∧ (trC S).length = 5 ∧ pv.length = 4 ∧ (wI S.cs).length = 64 ∧ (dI S.ds).length = 16 :=
  ⟨(wI_len _).trans hW.ws, rfl, h1, rfl, rfl, h2, (wI_len _).trans hW.cs, (dI_len _).trans hW.ds⟩
theorem caC_w (v : Value) (rc pv : List Value) (S : CaS) : caC v rc pv S = ([] : List Value) ++ (wI S.ws ++ ([v] ++ (rc ++ (six6 S.k ++ (trC S ++ (pv ++ (wI S.cs ++ dI S.ds))))))) := by unfold caC; first | rfl | (simp only [List.append_assoc]; done) | (simp only [List.append_assoc, List.append_nil]; done)
theorem caA_w {v : Value} {rc pv : List Value} {S : CaS} (hW : CaW S) (h1 : rc.length = 43) (h2 : pv.length = 4) : (([] : List Value)).length = 0 := by
  obtain ⟨a1, a2, a3, a4, a5, a6, a7, a8⟩ := ca_lens (v := v) hW h1 h2
  first | rfl | omega | (simp only [List.length_append]; omega)

theorem caC_v (v : Value) (rc pv : List Value) (S : CaS) : caC v rc pv S = wI S.ws ++ ([v] ++ (rc ++ (six6 S.k ++ (trC S ++ (pv ++ (wI S.cs ++ dI S.ds)))))) := by unfold caC; first | rfl | (simp only [List.append_assoc]; done) | (simp only [List.append_assoc, List.append_nil]; done)
theorem caA_v {v : Value} {rc pv : List Value} {S : CaS} (hW : CaW S) (h1 : rc.length = 43) (h2 : pv.length = 4) : (wI S.ws).length = 64 := by
  obtain ⟨a1, a2, a3, a4, a5, a6, a7, a8⟩ := ca_lens (v := v) hW h1 h2
  first | rfl | omega | (simp only [List.length_append]; omega)

theorem caC_r (v : Value) (rc pv : List Value) (S : CaS) : caC v rc pv S = (wI S.ws ++ [v]) ++ (rc ++ (six6 S.k ++ (trC S ++ (pv ++ (wI S.cs ++ dI S.ds))))) := by unfold caC; first | rfl | (simp only [List.append_assoc]; done) | (simp only [List.append_assoc, List.append_nil]; done)
theorem caA_r {v : Value} {rc pv : List Value} {S : CaS} (hW : CaW S) (h1 : rc.length = 43) (h2 : pv.length = 4) : ((wI S.ws ++ [v])).length = 65 := by
  obtain ⟨a1, a2, a3, a4, a5, a6, a7, a8⟩ := ca_lens (v := v) hW h1 h2
  first | rfl | omega | (simp only [List.length_append]; omega)

theorem caC_k (v : Value) (rc pv : List Value) (S : CaS) : caC v rc pv S = (wI S.ws ++ ([v] ++ rc)) ++ (six6 S.k ++ (trC S ++ (pv ++ (wI S.cs ++ dI S.ds)))) := by unfold caC; first | rfl | (simp only [List.append_assoc]; done) | (simp only [List.append_assoc, List.append_nil]; done)
theorem caA_k {v : Value} {rc pv : List Value} {S : CaS} (hW : CaW S) (h1 : rc.length = 43) (h2 : pv.length = 4) : ((wI S.ws ++ ([v] ++ rc))).length = 108 := by
  obtain ⟨a1, a2, a3, a4, a5, a6, a7, a8⟩ := ca_lens (v := v) hW h1 h2
  first | rfl | omega | (simp only [List.length_append]; omega)

theorem caC_t (v : Value) (rc pv : List Value) (S : CaS) : caC v rc pv S = (wI S.ws ++ ([v] ++ (rc ++ six6 S.k))) ++ (trC S ++ (pv ++ (wI S.cs ++ dI S.ds))) := by unfold caC; first | rfl | (simp only [List.append_assoc]; done) | (simp only [List.append_assoc, List.append_nil]; done)
theorem caA_t {v : Value} {rc pv : List Value} {S : CaS} (hW : CaW S) (h1 : rc.length = 43) (h2 : pv.length = 4) : ((wI S.ws ++ ([v] ++ (rc ++ six6 S.k)))).length = 114 := by
  obtain ⟨a1, a2, a3, a4, a5, a6, a7, a8⟩ := ca_lens (v := v) hW h1 h2
  first | rfl | omega | (simp only [List.length_append]; omega)

theorem caC_p (v : Value) (rc pv : List Value) (S : CaS) : caC v rc pv S = (wI S.ws ++ ([v] ++ (rc ++ (six6 S.k ++ trC S)))) ++ (pv ++ (wI S.cs ++ dI S.ds)) := by unfold caC; first | rfl | (simp only [List.append_assoc]; done) | (simp only [List.append_assoc, List.append_nil]; done)
theorem caA_p {v : Value} {rc pv : List Value} {S : CaS} (hW : CaW S) (h1 : rc.length = 43) (h2 : pv.length = 4) : ((wI S.ws ++ ([v] ++ (rc ++ (six6 S.k ++ trC S))))).length = 119 := by
  obtain ⟨a1, a2, a3, a4, a5, a6, a7, a8⟩ := ca_lens (v := v) hW h1 h2
  first | rfl | omega | (simp only [List.length_append]; omega)

theorem caC_c (v : Value) (rc pv : List Value) (S : CaS) : caC v rc pv S = (wI S.ws ++ ([v] ++ (rc ++ (six6 S.k ++ (trC S ++ pv))))) ++ (wI S.cs ++ dI S.ds) := by unfold caC; first | rfl | (simp only [List.append_assoc]; done) | (simp only [List.append_assoc, List.append_nil]; done)
theorem caA_c {v : Value} {rc pv : List Value} {S : CaS} (hW : CaW S) (h1 : rc.length = 43) (h2 : pv.length = 4) : ((wI S.ws ++ ([v] ++ (rc ++ (six6 S.k ++ (trC S ++ pv)))))).length = 123 := by
  obtain ⟨a1, a2, a3, a4, a5, a6, a7, a8⟩ := ca_lens (v := v) hW h1 h2
  first | rfl | omega | (simp only [List.length_append]; omega)

theorem caC_d (v : Value) (rc pv : List Value) (S : CaS) : caC v rc pv S = (wI S.ws ++ ([v] ++ (rc ++ (six6 S.k ++ (trC S ++ (pv ++ wI S.cs)))))) ++ (dI S.ds ++ ([] : List Value)) := by unfold caC; first | rfl | (simp only [List.append_assoc]; done) | (simp only [List.append_assoc, List.append_nil]; done)
theorem caA_d {v : Value} {rc pv : List Value} {S : CaS} (hW : CaW S) (h1 : rc.length = 43) (h2 : pv.length = 4) : ((wI S.ws ++ ([v] ++ (rc ++ (six6 S.k ++ (trC S ++ (pv ++ wI S.cs))))))).length = 187 := by
  obtain ⟨a1, a2, a3, a4, a5, a6, a7, a8⟩ := ca_lens (v := v) hW h1 h2
  first | rfl | omega | (simp only [List.length_append]; omega)

theorem ca_w {v : Value} {rc pv : List Value} {S : CaS} (hW : CaW S) (h1 : rc.length = 43) (h2 : pv.length = 4) (a : Nat) (ha : a < 64) : (caC v rc pv S)[a]? = some (.int .i64 (S.ws.getD a 0)) ∧ ∀ u, (caC v rc pv S).set a (.int .i64 u) = caC v rc pv { S with ws := S.ws.set a u } := by
  have hl : a < (wI S.ws).length := by rw [wI_len, hW.ws]; exact ha
  refine ⟨?_, fun u => ?_⟩
  · have := seg_get _ _ ([v] ++ (rc ++ (six6 S.k ++ (trC S ++ (pv ++ (wI S.cs ++ dI S.ds)))))) 0 a (caA_w (v := v) hW h1 h2) hl
    rw [← caC_w, Nat.zero_add] at this
    rw [this]
    unfold wI
    rw [List.getElem?_map, List.getElem?_eq_getElem (by rw [hW.ws]; exact ha), List.getD_eq_getElem?_getD, List.getElem?_eq_getElem (by rw [hW.ws]; exact ha)]
    rfl
  · have := seg_set _ _ ([v] ++ (rc ++ (six6 S.k ++ (trC S ++ (pv ++ (wI S.cs ++ dI S.ds)))))) 0 a (caA_w (v := v) hW h1 h2) hl (.int .i64 u)
    rw [← caC_w, Nat.zero_add] at this
    rw [this, caC_w]
    unfold wI
    rw [List.map_set]
    rfl
theorem ca_c {v : Value} {rc pv : List Value} {S : CaS} (hW : CaW S) (h1 : rc.length = 43) (h2 : pv.length = 4) (a : Nat) (ha : a < 64) : (caC v rc pv S)[123 + a]? = some (.int .i64 (S.cs.getD a 0)) ∧ ∀ u, (caC v rc pv S).set (123 + a) (.int .i64 u) = caC v rc pv { S with cs := S.cs.set a u } := by
  have hl : a < (wI S.cs).length := by rw [wI_len, hW.cs]; exact ha
  refine ⟨?_, fun u => ?_⟩
  · have := seg_get _ _ (dI S.ds) 123 a (caA_c (v := v) hW h1 h2) hl
    rw [← caC_c] at this
    rw [this]
    unfold wI
    rw [List.getElem?_map, List.getElem?_eq_getElem (by rw [hW.cs]; exact ha), List.getD_eq_getElem?_getD, List.getElem?_eq_getElem (by rw [hW.cs]; exact ha)]
    rfl
  · have := seg_set _ _ (dI S.ds) 123 a (caA_c (v := v) hW h1 h2) hl (.int .i64 u)
    rw [← caC_c] at this
    rw [this, caC_c]
    unfold wI
    rw [List.map_set]
    rfl
theorem ca_d {v : Value} {rc pv : List Value} {S : CaS} (hW : CaW S) (h1 : rc.length = 43) (h2 : pv.length = 4) (a : Nat) (ha : a < 16) : (caC v rc pv S)[187 + a]? = some (.bool (S.ds.getD a false)) ∧ ∀ u, (caC v rc pv S).set (187 + a) (.bool u) = caC v rc pv { S with ds := S.ds.set a u } := by
  have hl : a < (dI S.ds).length := by rw [dI_len, hW.ds]; exact ha
  refine ⟨?_, fun u => ?_⟩
  · have := seg_get _ _ [] 187 a (caA_d (v := v) hW h1 h2) hl
    rw [← caC_d] at this
    rw [this]
    unfold dI
    rw [List.getElem?_map, List.getElem?_eq_getElem (by rw [hW.ds]; exact ha), List.getD_eq_getElem?_getD, List.getElem?_eq_getElem (by rw [hW.ds]; exact ha)]
    rfl
  · have := seg_set _ _ [] 187 a (caA_d (v := v) hW h1 h2) hl (.bool u)
    rw [← caC_d] at this
    rw [this, caC_d]
    unfold dI
    rw [List.map_set]
    rfl
theorem ca_v {v : Value} {rc pv : List Value} {S : CaS} (hW : CaW S) (h1 : rc.length = 43) (h2 : pv.length = 4) : (caC v rc pv S)[64]? = some v ∧ ∀ u, (caC v rc pv S).set 64 u = caC u rc pv S := by
  refine ⟨?_, fun u => ?_⟩
  · have := seg_get _ [v] (rc ++ (six6 S.k ++ (trC S ++ (pv ++ (wI S.cs ++ dI S.ds))))) 64 0 (caA_v (v := v) hW h1 h2) (Nat.zero_lt_one : 0 < [v].length)
    rw [← caC_v] at this
    exact this
  · have := seg_set _ [v] (rc ++ (six6 S.k ++ (trC S ++ (pv ++ (wI S.cs ++ dI S.ds))))) 64 0 (caA_v (v := v) hW h1 h2) (Nat.zero_lt_one : 0 < [v].length) u
    rw [← caC_v] at this
    exact this
theorem ca_p {v : Value} {rc pv : List Value} {S : CaS} (hW : CaW S) (h1 : rc.length = 43) (h2 : pv.length = 4) (a : Nat) (ha : a < 4) : (caC v rc pv S)[119 + a]? = pv[a]? := by
  have := seg_get _ _ (wI S.cs ++ dI S.ds) 119 a (caA_p (v := v) hW h1 h2) (by rw [h2]; exact ha)
  rw [← caC_p] at this
  exact this
theorem ca_t {v : Value} {rc pv : List Value} {S : CaS} (hW : CaW S) (h1 : rc.length = 43) (h2 : pv.length = 4) (a : Nat) (ha : a < 5) : (caC v rc pv S)[114 + a]? = (trC S)[a]? ∧ ∀ u, (caC v rc pv S).set (114 + a) u = (wI S.ws ++ ([v] ++ (rc ++ six6 S.k))) ++ ((trC S).set a u ++ (pv ++ (wI S.cs ++ dI S.ds))) := by
  have hl : a < (trC S).length := ha
  refine ⟨?_, fun u => ?_⟩
  · have := seg_get _ _ (pv ++ (wI S.cs ++ dI S.ds)) 114 a (caA_t (v := v) hW h1 h2) hl
    rw [← caC_t] at this
    exact this
  · have := seg_set _ _ (pv ++ (wI S.cs ++ dI S.ds)) 114 a (caA_t (v := v) hW h1 h2) hl u
    rw [← caC_t] at this
    exact this

theorem ca_t0 {v : Value} {rc pv : List Value} {S : CaS} (hW : CaW S) (h1 : rc.length = 43) (h2 : pv.length = 4) : (caC v rc pv S)[114]? = some (.int .i64 (S.h : Int)) ∧ ∀ n : Nat, (caC v rc pv S).set 114 (.int .i64 (n : Int)) = caC v rc pv { S with h := n } := by
  obtain ⟨g1, g2⟩ := ca_t (v := v) hW h1 h2 0 (by decide)
  exact ⟨g1, fun n => by rw [show 114 = 114 + 0 from rfl, g2, caC_t]; rfl⟩

theorem ca_t1 {v : Value} {rc pv : List Value} {S : CaS} (hW : CaW S) (h1 : rc.length = 43) (h2 : pv.length = 4) : (caC v rc pv S)[115]? = some (.int .i64 (S.m : Int)) ∧ ∀ n : Nat, (caC v rc pv S).set 115 (.int .i64 (n : Int)) = caC v rc pv { S with m := n } := by
  obtain ⟨g1, g2⟩ := ca_t (v := v) hW h1 h2 1 (by decide)
  exact ⟨g1, fun n => by rw [show 115 = 114 + 1 from rfl, g2, caC_t]; rfl⟩

theorem ca_t2 {v : Value} {rc pv : List Value} {S : CaS} (hW : CaW S) (h1 : rc.length = 43) (h2 : pv.length = 4) : (caC v rc pv S)[116]? = some (.int .i64 (S.i : Int)) ∧ ∀ n : Nat, (caC v rc pv S).set 116 (.int .i64 (n : Int)) = caC v rc pv { S with i := n } := by
  obtain ⟨g1, g2⟩ := ca_t (v := v) hW h1 h2 2 (by decide)
  exact ⟨g1, fun n => by rw [show 116 = 114 + 2 from rfl, g2, caC_t]; rfl⟩

theorem ca_t3 {v : Value} {rc pv : List Value} {S : CaS} (hW : CaW S) (h1 : rc.length = 43) (h2 : pv.length = 4) : (caC v rc pv S)[117]? = some (.int .i64 (S.o : Int)) ∧ ∀ n : Nat, (caC v rc pv S).set 117 (.int .i64 (n : Int)) = caC v rc pv { S with o := n } := by
  obtain ⟨g1, g2⟩ := ca_t (v := v) hW h1 h2 3 (by decide)
  exact ⟨g1, fun n => by rw [show 117 = 114 + 3 from rfl, g2, caC_t]; rfl⟩

theorem ca_t4 {v : Value} {rc pv : List Value} {S : CaS} (hW : CaW S) (h1 : rc.length = 43) (h2 : pv.length = 4) : (caC v rc pv S)[118]? = some (.int .i64 (S.f : Int)) ∧ ∀ n : Nat, (caC v rc pv S).set 118 (.int .i64 (n : Int)) = caC v rc pv { S with f := n } := by
  obtain ⟨g1, g2⟩ := ca_t (v := v) hW h1 h2 4 (by decide)
  exact ⟨g1, fun n => by rw [show 118 = 114 + 4 from rfl, g2, caC_t]; rfl⟩

theorem ca_fm {v : Value} {rc pv : List Value} {S : CaS} (hW : CaW S) (h1 : rc.length = 43) (h2 : pv.length = 4) : FmA (caC v rc pv S) 65 rc S.k := by
  refine ⟨?_, ?_, by rw [caC_len hW h1 h2]; decide⟩
  · have := seg_part _ rc (six6 S.k ++ (trC S ++ (pv ++ (wI S.cs ++ dI S.ds)))) 65 0 43 (caA_r (v := v) hW h1 h2) (by rw [h1]; decide)
    rw [← caC_r] at this
    rw [Nat.add_zero] at this
    rw [this, List.drop_zero, List.take_of_length_le (by rw [h1]; decide)]
  · have := seg_part _ (six6 S.k) (trC S ++ (pv ++ (wI S.cs ++ dI S.ds))) 108 0 6 (caA_k (v := v) hW h1 h2) (Nat.le_refl _)
    rw [← caC_k] at this
    exact this
theorem ca_k {v : Value} {rc pv : List Value} {S : CaS} (hW : CaW S) (h1 : rc.length = 43) (h2 : pv.length = 4) (k' : Nat → Int) : Go.splice (caC v rc pv S) (65 + 43) (six6 k') = caC v rc pv { S with k := k' } := by
  have := seg_splice _ (six6 S.k) (trC S ++ (pv ++ (wI S.cs ++ dI S.ds))) (six6 k') 108 0 (caA_k (v := v) hW h1 h2) (Nat.le_refl _)
  rw [← caC_k] at this
  rw [show 65 + 43 = 108 + 0 from rfl, this, caC_k]
  rfl
theorem ca_in {v : Value} {rc pv : List Value} {S : CaS} (hW : CaW S) (h1 : rc.length = 43) (h2 : pv.length = 4) (L : Nat) (hL : L < 16) : Go.splice (caC v rc pv S) (123 + L * 4) (((caC v rc pv S).drop (0 + L * 4)).take 4) = caC v rc pv { S with cs := lineTo S.cs S.ws L } := by
  have e1 := seg_part _ _ ([v] ++ (rc ++ (six6 S.k ++ (trC S ++ (pv ++ (wI S.cs ++ dI S.ds)))))) 0 (L * 4) 4 (caA_w (v := v) hW h1 h2) (by rw [wI_len, hW.ws]; omega)
  rw [← caC_w] at e1
  rw [e1]
  have e2 := seg_splice _ (wI S.cs) (dI S.ds) (((wI S.ws).drop (L * 4)).take 4) 123 (L * 4) (caA_c (v := v) hW h1 h2) (by rw [wI_len, hW.cs, take4_cells _ _ (by rw [wI_len, hW.ws]; omega)]; omega)
  rw [← caC_c] at e2
  rw [e2, splice_line hW.cs hW.ws hL, caC_c]
  rfl
theorem ca_out {v : Value} {rc pv : List Value} {S : CaS} (hW : CaW S) (h1 : rc.length = 43) (h2 : pv.length = 4) (L : Nat) (hL : L < 16) : Go.splice (caC v rc pv S) (0 + L * 4) (((caC v rc pv S).drop (123 + L * 4)).take 4) = caC v rc pv { S with ws := lineTo S.ws S.cs L } := by
  have e1 := seg_part _ _ (dI S.ds) 123 (L * 4) 4 (caA_c (v := v) hW h1 h2) (by rw [wI_len, hW.cs]; omega)
  rw [← caC_c] at e1
  rw [e1]
  have e2 := seg_splice _ (wI S.ws) ([v] ++ (rc ++ (six6 S.k ++ (trC S ++ (pv ++ (wI S.cs ++ dI S.ds)))))) (((wI S.cs).drop (L * 4)).take 4) 0 (L * 4) (caA_w (v := v) hW h1 h2) (by rw [wI_len, hW.ws, take4_cells _ _ (by rw [wI_len, hW.cs]; omega)]; omega)
  rw [← caC_w] at e2
  rw [e2, splice_line hW.ws hW.cs hL, caC_w]
  rfl
theorem one_caC {v : Value} {rc pv : List Value} {S : CaS} (_hW : CaW S) (_h1 : rc.length = 43) (_h2 : pv.length = 4) (h0 : v.oneCell' = true) (h3 : ∀ u ∈ rc, u.oneCell' = true) (h4 : ∀ u ∈ pv, u.oneCell' = true) : ∀ u ∈ caC v rc pv S, u.oneCell' = true := fun u hu => by
  unfold caC wI dI at hu
  simp only [List.mem_append, List.mem_singleton, List.mem_map] at hu
  rcases hu with ⟨x, _, rfl⟩ | rfl | h | h | h | h | ⟨x, _, rfl⟩ | ⟨x, _, rfl⟩
  · rfl
  · exact h0
  · exact h3 u h
  · unfold six6 at h; simp only [List.mem_cons, List.not_mem_nil, or_false] at h; rcases h with rfl | rfl | rfl | rfl | rfl | rfl <;> rfl
  · unfold trC at h; simp only [List.mem_cons, List.not_mem_nil, or_false] at h; rcases h with rfl | rfl | rfl | rfl | rfl <;> rfl
  · exact h4 u h
  · rfl
  · rfl
theorem lineOf_i (a : Nat) (ha : a < 64) (w : World) : Calls Try.prog 68 #[.int .i64 (a : Int)] w (fun e w' => e = .returned (.int .i64 ((a / 4 : Nat) : Int)) ∧ w' = w) := by
  have e1 : (a : Int).tdiv 4 = ((a / 4 : Nat) : Int) := rfl
  have e2 : IntKind.i64.wrap ((a / 4 : Nat) : Int) = ((a / 4 : Nat) : Int) := IntWalk.i64_in _ (by omega)
  generalize a / 4 = q at *
  go_enter Try.func68, Try.ntmps68
  go_wp2
  go_ret
  exact ⟨rfl, rfl⟩
end Go.Proofs.Ytngbddmbmkphcaa.Pv
namespace Go.Proofs.Ytngbddmbmkphcaa
open Go.RowKit
theorem step_appI {ops : Array Oper} {o : Oper} {a : Act} {K : Act → World → Prop} {Q : Exit → Act → World → Prop} {E : Prop} (wr : World) (hgd : o.guard = none) (s x : Operand)
    (ho : o.op = .call { callee := .builtin .append, args := #[s, x], argTypes := #[23, 23] })
    (B : Nat) (v : Value) (xs : List Int) (u : Int) (hs : a.eval s = v) (hx : a.eval x = .slice (some ⟨wr.heap.size, 0, none⟩) 1 1) (hown : Own wr B v xs)
    (hlen : xs.length + 1 ≤ 1000000000) (hB : B ≤ wr.heap.size)
    (h : ∀ g cap w', Own w' B (.slice (some ⟨g, 0, none⟩) (xs.length + 1) cap) (xs ++ [u]) → Below B wr w' → (∀ b, b < wr.heap.size → v.ownBlock ≠ some b → w'.heap[b]? = wr.heap[b]?) → B ≤ g → K (a.put o.dst (.slice (some ⟨g, 0, none⟩) (xs.length + 1) cap)) w') :
    if Region.wanted o (yielded ops a.tmps) = true then Oper.wp Try.prog o a (wr.alloc (.cells #[.int .i64 u] 2)) K Q else E := by
  obtain ⟨i0, hi, hz0, hz1, hz2⟩ := info_parts infoI
  have hsz : (wr.alloc (.cells #[.int .i64 u] 2)).heap.size = wr.heap.size + 1 := Array.size_push _
  refine step_append_lies _ hgd s x 23 ho B 2 i0 (.int .i64 0) 1 8 Try.underlying23 hi hz0 hz1 hz2 rfl (by decide) v xs.length (xs.map (Value.int .i64)) hs (World.ownsRow.alloc hown _)
    ⟨wr.heap.size, 0, none⟩ 1 1 [.int .i64 u] hx rfl (cell_one_new _ _ _) ?_ (by decide) ?_ ?_ ?_ _ rfl ?_
  · intro u' hu'; simp at hu'; subst hu'; rfl
  · unfold maxLen; omega
  · omega
  · omega
  · intro g cap w' hrow hgrow hat _
    have hO : Own w' B (.slice (some ⟨g, 0, none⟩) (xs.length + 1) cap) (xs ++ [u]) := by
      show World.ownsRow _ _ _ _ _ (xs ++ [u]).length _
      rw [List.length_append, List.map_append]
      exact hrow
    refine h g cap w' hO (((Below.refl B wr).alloc hB _).grown hgrow (by omega) (fun k hk => (Own.block hown k hk).1)) (fun b hb hne => (hgrow.block b (by omega) (fun e => hne e.symm)).trans (Below.heap_alloc wr _ b hb)) ?_
    exact (Own.block hO g rfl).1
end Go.Proofs.Ytngbddmbmkphcaa
namespace Go.Proofs.Ytngbddmbmkphcaa.Pv
open Go.RowKit
/-- The block of a cache's run; pv: its cache as it came in. -/
structure CaB (b : Nat) (pv : List Value) (hs : List (List Int)) (ms : List Int) (S : CaS) (v : Value) (w0 w : World) : Prop where
  blk : Blk w b (caC v (rulC true ms.length hs ms) pv S) 78
  wf : CaW S
  p4 : pv.length = 4
  kept : Kept b w0 w

theorem CaB.self {b : Nat} {pv : List Value} {hs : List (List Int)} {ms : List Int} {S : CaS} {v : Value} {w0 w : World} (h : CaB b pv hs ms S v w0 w) : CaB b pv hs ms S v w w := ⟨h.blk, h.wf, h.p4, Kept.refl _ _⟩
theorem CaB.from {b : Nat} {pv : List Value} {hs : List (List Int)} {ms : List Int} {S : CaS} {v : Value} {w0 w : World} {w' : World} (k : Kept b w0 w) (h : CaB b pv hs ms S v w w') : CaB b pv hs ms S v w0 w' := ⟨h.blk, h.wf, h.p4, k.trans h.kept⟩
theorem CaB.drewN {b : Nat} {pv : List Value} {hs : List (List Int)} {ms : List Int} {S : CaS} {v : Value} {w0 w : World} (h : CaB b pv hs ms S v w0 w) (q : Nat) : CaB b pv hs ms S v w0 (w.drewN q) := ⟨h.blk, h.wf, h.p4, h.kept.trans (Kept.of (below_drewN q (Below.refl _ w)))⟩
theorem CaB.drew {b : Nat} {pv : List Value} {hs : List (List Int)} {ms : List Int} {S : CaS} {v : Value} {w0 w : World} (h : CaB b pv hs ms S v w0 w) : CaB b pv hs ms S v w0 w.drew := ⟨h.blk, h.wf, h.p4, h.kept.trans (Kept.of (Below.refl _ w).drew)⟩
theorem CaB.upd {b : Nat} {pv : List Value} {hs : List (List Int)} {ms : List Int} {S : CaS} {v : Value} {w0 w : World} {v' : Value} {S' : CaS} {j : Nat} {u : Value} (h : CaB b pv hs ms S v w0 w) (hw : CaW S') (e : (caC v (rulC true ms.length hs ms) pv S).set j u = caC v' (rulC true ms.length hs ms) pv S') : CaB b pv hs ms S' v' w0 (w.setCell ⟨b, j, none⟩ u) := by
  refine ⟨?_, hw, h.p4, h.kept.trans (Keep.kept (keep_set b [u] j w))⟩
  have := blk_set1 (j := j) h.blk u
  rw [e] at this
  exact this

theorem CaB.t0 {b : Nat} {pv : List Value} {hs : List (List Int)} {ms : List Int} {S : CaS} {v : Value} {w0 w : World} (h : CaB b pv hs ms S v w0 w) : w.cell? ⟨b, 114, none⟩ = some (.int .i64 (S.h : Int)) ∧ w.frozen? ⟨b, 114, none⟩ = false ∧ ∀ n : Nat, CaB b pv hs ms { S with h := n } v w0 (w.setCell ⟨b, 114, none⟩ (.int .i64 (n : Int))) := by
  obtain ⟨g1, g2⟩ := ca_t0 (v := v) h.wf (rulC_len true ms.length hs ms) h.p4
  exact ⟨(h.blk.cell 114).trans g1, h.blk.froz 114, fun n => h.upd ⟨h.wf.ws, h.wf.cs, h.wf.ds, h.wf.k⟩ (g2 n)⟩

theorem CaB.t1 {b : Nat} {pv : List Value} {hs : List (List Int)} {ms : List Int} {S : CaS} {v : Value} {w0 w : World} (h : CaB b pv hs ms S v w0 w) : w.cell? ⟨b, 115, none⟩ = some (.int .i64 (S.m : Int)) ∧ w.frozen? ⟨b, 115, none⟩ = false ∧ ∀ n : Nat, CaB b pv hs ms { S with m := n } v w0 (w.setCell ⟨b, 115, none⟩ (.int .i64 (n : Int))) := by
  obtain ⟨g1, g2⟩ := ca_t1 (v := v) h.wf (rulC_len true ms.length hs ms) h.p4
  exact ⟨(h.blk.cell 115).trans g1, h.blk.froz 115, fun n => h.upd ⟨h.wf.ws, h.wf.cs, h.wf.ds, h.wf.k⟩ (g2 n)⟩

theorem CaB.t2 {b : Nat} {pv : List Value} {hs : List (List Int)} {ms : List Int} {S : CaS} {v : Value} {w0 w : World} (h : CaB b pv hs ms S v w0 w) : w.cell? ⟨b, 116, none⟩ = some (.int .i64 (S.i : Int)) ∧ w.frozen? ⟨b, 116, none⟩ = false ∧ ∀ n : Nat, CaB b pv hs ms { S with i := n } v w0 (w.setCell ⟨b, 116, none⟩ (.int .i64 (n : Int))) := by
  obtain ⟨g1, g2⟩ := ca_t2 (v := v) h.wf (rulC_len true ms.length hs ms) h.p4
  exact ⟨(h.blk.cell 116).trans g1, h.blk.froz 116, fun n => h.upd ⟨h.wf.ws, h.wf.cs, h.wf.ds, h.wf.k⟩ (g2 n)⟩

theorem CaB.t3 {b : Nat} {pv : List Value} {hs : List (List Int)} {ms : List Int} {S : CaS} {v : Value} {w0 w : World} (h : CaB b pv hs ms S v w0 w) : w.cell? ⟨b, 117, none⟩ = some (.int .i64 (S.o : Int)) ∧ w.frozen? ⟨b, 117, none⟩ = false ∧ ∀ n : Nat, CaB b pv hs ms { S with o := n } v w0 (w.setCell ⟨b, 117, none⟩ (.int .i64 (n : Int))) := by
  obtain ⟨g1, g2⟩ := ca_t3 (v := v) h.wf (rulC_len true ms.length hs ms) h.p4
  exact ⟨(h.blk.cell 117).trans g1, h.blk.froz 117, fun n => h.upd ⟨h.wf.ws, h.wf.cs, h.wf.ds, h.wf.k⟩ (g2 n)⟩

theorem CaB.t4 {b : Nat} {pv : List Value} {hs : List (List Int)} {ms : List Int} {S : CaS} {v : Value} {w0 w : World} (h : CaB b pv hs ms S v w0 w) : w.cell? ⟨b, 118, none⟩ = some (.int .i64 (S.f : Int)) ∧ w.frozen? ⟨b, 118, none⟩ = false ∧ ∀ n : Nat, CaB b pv hs ms { S with f := n } v w0 (w.setCell ⟨b, 118, none⟩ (.int .i64 (n : Int))) := by
  obtain ⟨g1, g2⟩ := ca_t4 (v := v) h.wf (rulC_len true ms.length hs ms) h.p4
  exact ⟨(h.blk.cell 118).trans g1, h.blk.froz 118, fun n => h.upd ⟨h.wf.ws, h.wf.cs, h.wf.ds, h.wf.k⟩ (g2 n)⟩

theorem CaB.w {b : Nat} {pv : List Value} {hs : List (List Int)} {ms : List Int} {S : CaS} {v : Value} {w0 w : World} (h : CaB b pv hs ms S v w0 w) (a : Nat) (ha : a < 64) : w.cell? ⟨b, a, none⟩ = some (.int .i64 (S.ws.getD a 0)) ∧ w.frozen? ⟨b, a, none⟩ = false ∧ ∀ u, CaB b pv hs ms { S with ws := S.ws.set a u } v w0 (w.setCell ⟨b, a, none⟩ (.int .i64 u)) := by
  obtain ⟨g1, g2⟩ := ca_w (v := v) h.wf (rulC_len true ms.length hs ms) h.p4 a ha
  exact ⟨(h.blk.cell a).trans g1, h.blk.froz a, fun u => h.upd ⟨by rw [List.length_set]; exact h.wf.ws, h.wf.cs, h.wf.ds, h.wf.k⟩ (g2 u)⟩
theorem CaB.c {b : Nat} {pv : List Value} {hs : List (List Int)} {ms : List Int} {S : CaS} {v : Value} {w0 w : World} (h : CaB b pv hs ms S v w0 w) (a : Nat) (ha : a < 64) : w.cell? ⟨b, 123 + a, none⟩ = some (.int .i64 (S.cs.getD a 0)) ∧ w.frozen? ⟨b, 123 + a, none⟩ = false ∧ ∀ u, CaB b pv hs ms { S with cs := S.cs.set a u } v w0 (w.setCell ⟨b, 123 + a, none⟩ (.int .i64 u)) := by
  obtain ⟨g1, g2⟩ := ca_c (v := v) h.wf (rulC_len true ms.length hs ms) h.p4 a ha
  exact ⟨(h.blk.cell _).trans g1, h.blk.froz _, fun u => h.upd ⟨h.wf.ws, by rw [List.length_set]; exact h.wf.cs, h.wf.ds, h.wf.k⟩ (g2 u)⟩
theorem CaB.d {b : Nat} {pv : List Value} {hs : List (List Int)} {ms : List Int} {S : CaS} {v : Value} {w0 w : World} (h : CaB b pv hs ms S v w0 w) (a : Nat) (ha : a < 16) : w.cell? ⟨b, 187 + a, none⟩ = some (.bool (S.ds.getD a false)) ∧ w.frozen? ⟨b, 187 + a, none⟩ = false ∧ ∀ u, CaB b pv hs ms { S with ds := S.ds.set a u } v w0 (w.setCell ⟨b, 187 + a, none⟩ (.bool u)) := by
  obtain ⟨g1, g2⟩ := ca_d (v := v) h.wf (rulC_len true ms.length hs ms) h.p4 a ha
  exact ⟨(h.blk.cell _).trans g1, h.blk.froz _, fun u => h.upd ⟨h.wf.ws, h.wf.cs, by rw [List.length_set]; exact h.wf.ds, h.wf.k⟩ (g2 u)⟩
theorem CaB.v64 {b : Nat} {pv : List Value} {hs : List (List Int)} {ms : List Int} {S : CaS} {v : Value} {w0 w : World} (h : CaB b pv hs ms S v w0 w) : w.cell? ⟨b, 64, none⟩ = some v ∧ w.frozen? ⟨b, 64, none⟩ = false ∧ ∀ u, CaB b pv hs ms S u w0 (w.setCell ⟨b, 64, none⟩ u) := by
  obtain ⟨g1, g2⟩ := ca_v (v := v) h.wf (rulC_len true ms.length hs ms) h.p4
  exact ⟨(h.blk.cell 64).trans g1, h.blk.froz 64, fun u => h.upd h.wf (g2 u)⟩
theorem CaB.pol {b : Nat} {pv : List Value} {hs : List (List Int)} {ms : List Int} {S : CaS} {v : Value} {w0 w : World} (h : CaB b pv hs ms S v w0 w) (a : Nat) (ha : a < 4) : w.cell? ⟨b, 119 + a, none⟩ = pv[a]? := (h.blk.cell _).trans (ca_p (v := v) h.wf (rulC_len true ms.length hs ms) h.p4 a ha)
theorem CaB.fm {b : Nat} {pv : List Value} {hs : List (List Int)} {ms : List Int} {S : CaS} {v : Value} {w0 w : World} (h : CaB b pv hs ms S v w0 w) : FmA (caC v (rulC true ms.length hs ms) pv S) 65 (rulC true ms.length hs ms) S.k := ca_fm h.wf (rulC_len true ms.length hs ms) h.p4
/-- The methods of its fast memory. -/
theorem chas_i {b : Nat} {pv : List Value} {hs : List (List Int)} {ms : List Int} {S : CaS} {v : Value} {w0 w : World} (h1 : 1 ≤ ms.length) (h6 : ms.length ≤ 6) (h : CaB b pv hs ms S v w0 w) (x : Int) :
    Calls Try.prog 69 #[.pointer (some ⟨b, 65, none⟩), .int .i64 x] w (fun e w' => e = .returned (.bool (hitB ms.length S.k x)) ∧ ∃ q, w' = w.drewN q) :=
  fhas_i ms.length h1 h6 b 65 _ _ _ S.k x w rfl h.blk h.fm
theorem stN_rng {hs : List (List Int)} {ms : List Int} {k : Nat → Int} {x : Int} (h : ∀ i, -1 ≤ k i ∧ k i ≤ 15) (hx : 0 ≤ x ∧ x ≤ 15) (i : Nat) : -1 ≤ stN hs ms k x i ∧ stN hs ms k x i ≤ 15 := by
  unfold stN
  split
  · exact h _
  · unfold putA; split
    · omega
    · exact h _
theorem cuse_i {b : Nat} {pv : List Value} {hs : List (List Int)} {ms : List Int} {S : CaS} {v : Value} {w0 w : World} (hok : isP hs ms = true) (h : CaB b pv hs ms S v w0 w) (x : Int) (hx : 0 ≤ x ∧ x ≤ 15) :
    Calls Try.prog 77 #[.pointer (some ⟨b, 65, none⟩), .int .i64 x] w (fun e w' => e = .returned (.tuple #[.int .i64 (gonV ms.length S.k x), .bool (gonB ms.length S.k x)]) ∧ CaB b pv hs ms { S with k := stN hs ms S.k x } v w0 w') :=
  (fuse_i hs ms hok b 65 _ _ S.k x w h.blk h.fm).mono fun e w' ⟨he, hb, hk⟩ => ⟨he, ⟨by rw [ca_k h.wf (rulC_len _ _ _ _) h.p4] at hb; exact hb, ⟨h.wf.ws, h.wf.cs, h.wf.ds, stN_rng h.wf.k hx⟩, h.p4, h.kept.trans hk⟩⟩
/-- Lines into the copies and out of them. -/
theorem cin_i {b : Nat} {pv : List Value} {hs : List (List Int)} {ms : List Int} {S : CaS} {v : Value} {w0 w : World} (h : CaB b pv hs ms S v w0 w) (hv : v.oneCell' = true) (ho : ∀ u ∈ pv, u.oneCell' = true) (L : Nat) (hL : L < 16) :
    Calls Try.prog 72 #[.pointer (some ⟨b, 123, none⟩), .pointer (some ⟨b, 0, none⟩), .int .i64 L] w (fun e w' => e = .returned (.tuple #[]) ∧ CaB b pv hs ms { S with cs := lineTo S.cs S.ws L } v w0 w') :=
  (copy_i b 123 0 L _ _ w h.blk hL (by rw [caC_len h.wf (rulC_len _ _ _ _) h.p4]; decide) (by rw [caC_len h.wf (rulC_len _ _ _ _) h.p4]; decide) (one_caC h.wf (rulC_len _ _ _ _) h.p4 hv (one_rulC _ _ _ _) ho)).mono fun e w' ⟨he, hb, hk⟩ =>
    ⟨he, ⟨by rw [ca_in h.wf (rulC_len _ _ _ _) h.p4 L hL] at hb; exact hb, ⟨h.wf.ws, lineTo_len h.wf.cs h.wf.ws hL, h.wf.ds, h.wf.k⟩, h.p4, h.kept.trans hk⟩⟩
theorem cout_i {b : Nat} {pv : List Value} {hs : List (List Int)} {ms : List Int} {S : CaS} {v : Value} {w0 w : World} (h : CaB b pv hs ms S v w0 w) (hv : v.oneCell' = true) (ho : ∀ u ∈ pv, u.oneCell' = true) (L : Nat) (hL : L < 16) :
    Calls Try.prog 72 #[.pointer (some ⟨b, 0, none⟩), .pointer (some ⟨b, 123, none⟩), .int .i64 L] w (fun e w' => e = .returned (.tuple #[]) ∧ CaB b pv hs ms { S with ws := lineTo S.ws S.cs L } v w0 w') :=
  (copy_i b 0 123 L _ _ w h.blk hL (by rw [caC_len h.wf (rulC_len _ _ _ _) h.p4]; decide) (by rw [caC_len h.wf (rulC_len _ _ _ _) h.p4]; decide) (one_caC h.wf (rulC_len _ _ _ _) h.p4 hv (one_rulC _ _ _ _) ho)).mono fun e w' ⟨he, hb, hk⟩ =>
    ⟨he, ⟨by rw [ca_out h.wf (rulC_len _ _ _ _) h.p4 L hL] at hb; exact hb, ⟨lineTo_len h.wf.ws h.wf.cs hL, h.wf.cs, h.wf.ds, h.wf.k⟩, h.p4, h.kept.trans hk⟩⟩
/-- What the methods do. -/
def sendS (S : CaS) (a : Nat) (u : Int) : CaS := { S with ws := S.ws.set a u, o := S.o + 1 }
def cleanS (S : CaS) (L : Nat) : CaS := if S.ds.getD L false then { S with ds := S.ds.set L false, ws := lineTo S.ws S.cs L } else S
def cleanN (S : CaS) (L : Nat) : Nat := if S.ds.getD L false then 4 else 0
set_option maxRecDepth 100000 in
set_option maxHeartbeats 4000000 in
theorem write_g (b a : Nat) (x : Value) (u : Int) (w : World) (ha : a < 64) (h0 : w.cell? ⟨b, a, none⟩ = some x) (h1 : w.frozen? ⟨b, a, none⟩ = false) :
    Calls Try.prog 79 #[.pointer (some ⟨b, 0, none⟩), .int .i64 a, .int .i64 u] w (fun e w' => e = .returned (.tuple #[]) ∧ w' = w.setCell ⟨b, a, none⟩ (.int .i64 u)) := by
  have hai : (a : Int) < 64 := by omega
  go_enter Try.func79, Try.ntmps79
  go_wp2
  go_end0
  exact ⟨rfl, rfl⟩
set_option maxRecDepth 100000 in
set_option maxHeartbeats 4000000 in
theorem send_i {b : Nat} {pv : List Value} {hs : List (List Int)} {ms : List Int} {S : CaS} {v : Value} {w0 w : World} (h : CaB b pv hs ms S v w0 w) (a : Nat) (ha : a < 64) (u : Int) (hO : S.o ≤ 1000000) :
    Calls Try.prog 70 #[.pointer (some ⟨b, 0, none⟩), .int .i64 a, .int .i64 u] w (fun e w' => e = .returned (.tuple #[]) ∧ CaB b pv hs ms (sendS S a u) v w0 w') := by
  obtain ⟨c0, f0, s0⟩ := h.w a ha
  have HW := Lib.hid (write_g b a _ u w ha c0 f0)
  obtain ⟨c1, f1, s1⟩ := (s0 u).t3
  have H1 := Lib.hid (s1 (S.o + 1))
  have e1 : ((S.o + 1 : Nat) : Int) = (S.o : Int) + 1 := by omega
  rw [e1] at H1
  clear h s0 s1 c0 f0 e1
  generalize w.setCell ⟨b, a, none⟩ (.int .i64 u) = w1 at *
  have c1' : w1.cell? ⟨b, 117, none⟩ = some (.int .i64 (S.o : Int)) := c1
  go_enter Try.func70, Try.ntmps70
  go_wp2_with fail
  refine HW.out.mono ?_; rintro e w2 ⟨rfl, rfl⟩
  go_wp2
  go_end0
  exact ⟨rfl, H1.out⟩
set_option maxRecDepth 100000 in
set_option maxHeartbeats 4000000 in
theorem clean_i {b : Nat} {pv : List Value} {hs : List (List Int)} {ms : List Int} {S : CaS} {v : Value} {w0 w : World} (h : CaB b pv hs ms S v w0 w) (hv : v.oneCell' = true) (ho : ∀ u ∈ pv, u.oneCell' = true) (L : Nat) (hL : L < 16) :
    Calls Try.prog 57 #[.pointer (some ⟨b, 0, none⟩), .int .i64 L] w (fun e w' => e = .returned (.int .i64 (cleanN S L : Int)) ∧ CaB b pv hs ms (cleanS S L) v w0 w') := by
  obtain ⟨c0, f0, s0⟩ := h.d L hL
  have H1 := Lib.hid (fun (_ : S.ds.getD L false = true) => cout_i (s0 false).drew hv ho L hL)
  have hLi : (L : Int) < 16 := by omega
  have HH := Lib.hid h
  have e1 : S.ds.getD L false = true → cleanS S L = { S with ds := S.ds.set L false, ws := lineTo S.ws S.cs L } ∧ cleanN S L = 4 := fun hh => ⟨if_pos hh, if_pos hh⟩
  have e0 : S.ds.getD L false = false → cleanS S L = S ∧ cleanN S L = 0 := fun hh => ⟨if_neg (by rw [hh]; exact Bool.false_ne_true), if_neg (by rw [hh]; exact Bool.false_ne_true)⟩
  clear h s0
  generalize hr : S.ds.getD L false = r at *
  cases r
  · obtain ⟨e2, e3⟩ := e0 rfl
    rw [e2, e3]
    clear H1 e0 e1 e2 e3
    go_enter Try.func57, Try.ntmps57
    go_wp2
    go_ret
    exact ⟨rfl, HH.out⟩
  · obtain ⟨e2, e3⟩ := e1 rfl
    rw [e2, e3]
    have H2 := Lib.hid (H1.out rfl)
    clear H1 e0 e1 e2 e3
    go_enter Try.func57, Try.ntmps57
    go_wp2
    go_region_law (first | (go_simp; go_at_call 72; (with_reducible refine H2.out.mono ?_); rintro e w2 ⟨rfl, hB2⟩))
    all_goals
      have HB2 := Lib.hid hB2
      clear hB2
      go_wp2
      go_ret
      exact ⟨rfl, HB2.out⟩
end Go.Proofs.Ytngbddmbmkphcaa.Pv
