/- The program's contents in the order of their ages. The program's contents after a miss. append of a list that is read; the model's copy of a list. One use under a policy: the contents after it, the model's step. -/
import Derived.Test.YtngbddmbmkphcaaG6
import Derived.Test.YtngbddmbmkphcaaG1
import Derived.Maps.AppendAt
namespace Go.Proofs.Ytngbddmbmkphcaa.Pv
open Go.RowKit
def six6 (k : Nat → Int) : List Value := [.int .i64 (k 0), .int .i64 (k 1), .int .i64 (k 2), .int .i64 (k 3), .int .i64 (k 4), .int .i64 (k 5)]
theorem six6_get (k : Nat → Int) (j : Nat) (h : j < 6) : (six6 k)[j]? = some (.int .i64 (k j)) := by
  rcases below6 h with rfl | rfl | rfl | rfl | rfl | rfl <;> rfl
/-- the contents in the order, the first j of them -/
def outC (k : Nat → Int) (p : Nat → Nat) (j : Nat) : List Value := [if 0 < j then .int .i64 (k (p 0)) else .int .i64 0, if 1 < j then .int .i64 (k (p 1)) else .int .i64 0, if 2 < j then .int .i64 (k (p 2)) else .int .i64 0, if 3 < j then .int .i64 (k (p 3)) else .int .i64 0, if 4 < j then .int .i64 (k (p 4)) else .int .i64 0, if 5 < j then .int .i64 (k (p 5)) else .int .i64 0]
theorem outC_set (k : Nat → Int) (p : Nat → Nat) (j : Nat) (h : j < 6) : Go.splice (outC k p j) j [.int .i64 (k (p j))] = outC k p (j + 1) := by
  rcases below6 h with rfl | rfl | rfl | rfl | rfl | rfl <;> rfl
theorem outC_old (k : Nat → Int) (p : Nat → Nat) (j : Nat) (h : j < 6) : (outC k p j)[j]? = some (.int .i64 0) := by
  rcases below6 h with rfl | rfl | rfl | rfl | rfl | rfl <;> rfl
set_option maxHeartbeats 4000000 in
set_option maxRecDepth 100000 in
theorem after_i (p : Nat → Nat) (hp : ∀ i, i < 6 → p i < 6) (k : Nat → Int) (w : World) :
    Calls Try.prog 87 #[six (p 0 : Nat) (p 1 : Nat) (p 2 : Nat) (p 3 : Nat) (p 4 : Nat) (p 5 : Nat), six (k 0) (k 1) (k 2) (k 3) (k 4) (k 5)] w (RetB (six (k (p 0)) (k (p 1)) (k (p 2)) (k (p 3)) (k (p 4)) (k (p 5))) w) := by
  have HIX := Lib.hid (fun (j : Nat) (hj : j < 6) (w' : World) => (show (Instr.index 69 (.agg #[.int .i64 ((p 0 : Nat) : Int), .int .i64 ((p 1 : Nat) : Int), .int .i64 ((p 2 : Nat) : Int), .int .i64 ((p 3 : Nat) : Int), .int .i64 ((p 4 : Nat) : Int), .int .i64 ((p 5 : Nat) : Int)]) (.int .i64 (j : Nat))).run Try.prog w' = .ok (.int .i64 ((p j : Nat) : Int)) w' by
    rcases below6 hj with rfl | rfl | rfl | rfl | rfl | rfl <;> kernel_rfl))
  unfold six
  go_enter Try.func87, Try.ntmps87
  go_wp2
  have hb0 : Below w.heap.size w ((((w.alloc (.cells (six6 fun i => ((p i : Nat) : Int)).toArray 69)).alloc (.cells (six6 k).toArray 73)).alloc (.cells z6l.toArray 73)).alloc (.cells z6l.toArray 73)) := ((((Below.refl _ w).alloc (Nat.le_refl _) _).alloc (by simp) _).alloc (by simp; omega) _).alloc (by simp; omega) _
  have k1 : Blk ((((w.alloc (.cells (six6 fun i => ((p i : Nat) : Int)).toArray 69)).alloc (.cells (six6 k).toArray 73)).alloc (.cells z6l.toArray 73)).alloc (.cells z6l.toArray 73)) (w.heap.size + 1) (six6 k) 73 := Blk.alloc (Blk.alloc (Blk.newAt _ _ _ _ (by simp)) _) _
  have k2 : Blk ((((w.alloc (.cells (six6 fun i => ((p i : Nat) : Int)).toArray 69)).alloc (.cells (six6 k).toArray 73)).alloc (.cells z6l.toArray 73)).alloc (.cells z6l.toArray 73)) (w.heap.size + 1 + 1) z6l 73 := Blk.alloc (Blk.newAt _ _ _ _ (by simp)) _
  have k3 : Blk ((((w.alloc (.cells (six6 fun i => ((p i : Nat) : Int)).toArray 69)).alloc (.cells (six6 k).toArray 73)).alloc (.cells z6l.toArray 73)).alloc (.cells z6l.toArray 73)) (w.heap.size + 1 + 1 + 1) (outC k p 0) 73 := Blk.newAt _ _ z6l _ (by simp)
  have eL : ((((w.alloc (.cells #[.int .i64 ((p 0 : Nat) : Int), .int .i64 ((p 1 : Nat) : Int), .int .i64 ((p 2 : Nat) : Int), .int .i64 ((p 3 : Nat) : Int), .int .i64 ((p 4 : Nat) : Int), .int .i64 ((p 5 : Nat) : Int)] 69)).alloc (.cells #[.int .i64 (k 0), .int .i64 (k 1), .int .i64 (k 2), .int .i64 (k 3), .int .i64 (k 4), .int .i64 (k 5)] 73)).alloc (.cells #[.int .i64 0, .int .i64 0, .int .i64 0, .int .i64 0, .int .i64 0, .int .i64 0] 73)).alloc (.cells #[.int .i64 0, .int .i64 0, .int .i64 0, .int .i64 0, .int .i64 0, .int .i64 0] 73)) = ((((w.alloc (.cells (six6 fun i => ((p i : Nat) : Int)).toArray 69)).alloc (.cells (six6 k).toArray 73)).alloc (.cells z6l.toArray 73)).alloc (.cells z6l.toArray 73)) := rfl
  rw [eL]
  clear eL
  generalize ((((w.alloc (.cells (six6 fun i => ((p i : Nat) : Int)).toArray 69)).alloc (.cells (six6 k).toArray 73)).alloc (.cells z6l.toArray 73)).alloc (.cells z6l.toArray 73)) = W0 at *
  have K1 := Lib.hid k1
  have K2 := Lib.hid k2
  have K3 := Lib.hid k3
  have HB := Lib.hid hb0
  clear k1 k2 k3 hb0
  go_loopw [6, 7, 9] (fun _ _ i wr => ∃ j : Nat, j ≤ 6 ∧ i = .int .i64 (j : Nat) ∧ Hid (Blk wr (w.heap.size + 1) (six6 k) 73) ∧ Hid (Blk wr (w.heap.size + 1 + 1) z6l 73) ∧ Hid (Blk wr (w.heap.size + 1 + 1 + 1) (outC k p j) 73) ∧ Hid (Below w.heap.size w wr)) (fun _ _ i _ => 6 - (intOf i).toNat)
  case atStart => exact ⟨0, Nat.zero_le _, rfl, K1, K2, K3, HB⟩
  case round =>
    obtain ⟨j, hj, rfl, hk1, hk2, hk3, hb⟩ := hrel
    by_cases hlt : j < 6
    · have ix := HIX.out j hlt
      have hpj := hp j hlt
      have hpi : ((p j : Nat) : Int) < 6 := by omega
      have hji : (j : Int) < 6 := by omega
      have c0 := (hk1.out.cell (p j)).trans (six6_get k (p j) hpj)
      have o0 := (hk3.out.cell j).trans (outC_old k p j hlt)
      have f0 := hk3.out.froz j
      have hB2 : Blk (wr.setCell ⟨w.heap.size + 1 + 1 + 1, j, none⟩ (.int .i64 (k (p j)))) (w.heap.size + 1 + 1 + 1) (Go.splice (outC k p j) j [.int .i64 (k (p j))]) 73 := blk_set _ _ [.int .i64 (k (p j))] j _ wr hk3.out (by show j + 1 ≤ 6; omega)
      have hK2 : Keep (w.heap.size + 1 + 1 + 1) wr (wr.setCell ⟨w.heap.size + 1 + 1 + 1, j, none⟩ (.int .i64 (k (p j)))) := keep_set _ [.int .i64 (k (p j))] j wr
      rw [outC_set k p j hlt] at hB2
      have R1 := Lib.hid (hK2.blk hk1.out (by omega))
      have R2 := Lib.hid (hK2.blk hk2.out (by omega))
      have R3 := Lib.hid hB2
      have R4 := Lib.hid (hb.out.trans (hK2.below (by omega)))
      clear hB2 hK2 HIX
      generalize k (p j) = v at *
      generalize p j = pj at *
      go_wp2
      go_roundw
      case rel => exact ⟨j + 1, by omega, by go_num, R1, R2, R3, R4⟩
      case measure => simp [intOf]; omega
    · have e : j = 6 := by omega
      subst e
      have e0 : wr.cell? ⟨w.heap.size + 1 + 1 + 1, 0, none⟩ = some (.int .i64 (k (p 0))) := hk3.out.cell 0
      have e1 : wr.cell? ⟨w.heap.size + 1 + 1 + 1, 1, none⟩ = some (.int .i64 (k (p 1))) := hk3.out.cell 1
      have e2 : wr.cell? ⟨w.heap.size + 1 + 1 + 1, 2, none⟩ = some (.int .i64 (k (p 2))) := hk3.out.cell 2
      have e3 : wr.cell? ⟨w.heap.size + 1 + 1 + 1, 3, none⟩ = some (.int .i64 (k (p 3))) := hk3.out.cell 3
      have e4 : wr.cell? ⟨w.heap.size + 1 + 1 + 1, 4, none⟩ = some (.int .i64 (k (p 4))) := hk3.out.cell 4
      have e5 : wr.cell? ⟨w.heap.size + 1 + 1 + 1, 5, none⟩ = some (.int .i64 (k (p 5))) := hk3.out.cell 5
      have r0 : wr.cell? ⟨w.heap.size + 1 + 1, 0, none⟩ = some (.int .i64 0) := hk2.out.cell 0
      have r1 : wr.cell? ⟨w.heap.size + 1 + 1, 1, none⟩ = some (.int .i64 0) := hk2.out.cell 1
      have r2 : wr.cell? ⟨w.heap.size + 1 + 1, 2, none⟩ = some (.int .i64 0) := hk2.out.cell 2
      have r3 : wr.cell? ⟨w.heap.size + 1 + 1, 3, none⟩ = some (.int .i64 0) := hk2.out.cell 3
      have r4 : wr.cell? ⟨w.heap.size + 1 + 1, 4, none⟩ = some (.int .i64 0) := hk2.out.cell 4
      have r5 : wr.cell? ⟨w.heap.size + 1 + 1, 5, none⟩ = some (.int .i64 0) := hk2.out.cell 5
      have q0 := hk2.out.froz 0
      have q1 := hk2.out.froz 1
      have q2 := hk2.out.froz 2
      have q3 := hk2.out.froz 3
      have q4 := hk2.out.froz 4
      have q5 := hk2.out.froz 5
      clear HIX hk1 hk2 hk3
      go_wp2
      refine bodyPost_ret (v := six (k (p 0)) (k (p 1)) (k (p 2)) (k (p 3)) (k (p 4)) (k (p 5))) (by simp [six, results, Try.results87, go_sem, r0, r1, r2, r3, r4, r5, q0, q1, q2, q3, q4, q5]) rfl ⟨rfl, ?_⟩
      have hb5 := hb.out
      go_grown
end Go.Proofs.Ytngbddmbmkphcaa.Pv
namespace Go.Proofs.Ytngbddmbmkphcaa.Pv
open Go.RowKit
/-- the cells of contents in which one age holds a new number -/
def putA (k : Nat → Int) (i : Nat) (n : Int) (j : Nat) : Int := if j = i then n else k j
theorem six6_put (k : Nat → Int) (i : Nat) (n : Int) (h : i < 6) : Go.splice (six6 k) i [.int .i64 n] = six6 (putA k i n) := by
  rcases below6 h with rfl | rfl | rfl | rfl | rfl | rfl <;> rfl
/-- the ages that a miss's order names -/
def ordN (xs : List Int) (i : Nat) : Nat := (ordF xs i).toNat
theorem ordN_lt {xs : List Int} (h : ordB xs.length xs = true) (hl : xs.length ≤ 6) (i : Nat) (hi : i < 6) : ordN xs i < 6 ∧ ((ordN xs i : Nat) : Int) = ordF xs i := by
  unfold ordN ordF
  by_cases h2 : i < xs.length
  · rw [if_pos h2]
    have h1 : okTo xs.length xs xs.length = true := by unfold ordB at h; simp at h; exact h
    have h3 := okTo_all _ h1 i h2
    unfold okO at h3
    rw [Bool.and_eq_true] at h3
    have h4 := inN_mem.1 h3.1
    omega
  · rw [if_neg h2]
    omega
/-- the order of a miss, by the rules' last six cells -/
theorem rules_miss (n : Nat) (h6 : n ≤ 6) (hs : List (List Int)) (ms : List Int) : ((rulesL n hs n (rowC ms)).drop 37).take 6 = rowC ms := by
  have : n = 0 ∨ n = 1 ∨ n = 2 ∨ n = 3 ∨ n = 4 ∨ n = 5 ∨ n = 6 := by omega
  rcases this with rfl | rfl | rfl | rfl | rfl | rfl | rfl <;> rfl
/-- the order of a hit at an age, by the six cells of its place -/
theorem rules_hit (n : Nat) (h6 : n ≤ 6) (hs : List (List Int)) (ms : List Int) (i : Nat) (hi : i < n) : ((rulesL n hs n (rowC ms)).drop (1 + i * 6)).take 6 = rowC (hs.getD i []) := by
  have : n = 0 ∨ n = 1 ∨ n = 2 ∨ n = 3 ∨ n = 4 ∨ n = 5 ∨ n = 6 := by omega
  have h : i < 6 := by omega
  rcases this with rfl | rfl | rfl | rfl | rfl | rfl | rfl <;> rcases below6 h with rfl | rfl | rfl | rfl | rfl | rfl <;> first | rfl | (exact absurd hi (by decide))
/-- A policy's orders name ages. -/
theorem isP_miss_ord {hs : List (List Int)} {ms : List Int} (h : isP hs ms = true) : ordB ms.length ms = true ∧ ms.length ≤ 6 ∧ hs.length = ms.length := by
  unfold isP at h
  simp only [Bool.and_eq_true, decide_eq_true_eq] at h
  exact ⟨h.1.2, h.1.1.1.2, h.1.1.2⟩
theorem isP_hit_ord {hs : List (List Int)} {ms : List Int} (h : isP hs ms = true) (i : Nat) (hi : i < hs.length) : ordB ms.length (hs.getD i []) = true := by
  cases e : ordB ms.length (hs.getD i [])
  · rw [isP_hit i hi e] at h; cases h
  · rfl
theorem und6 : ∃ d, Try.prog.underlying 73 = some d ∧ d.isRow = true := by
  cases h : Try.prog.underlying 73 with
  | none => exact absurd h (by decide +kernel)
  | some d =>
    refine ⟨d, rfl, ?_⟩
    have e : (Try.prog.underlying 73).map (fun d => d.isRow) = some true := by kernel_rfl
    rw [h] at e
    simpa using e
theorem set_put (k : Nat → Int) (m : Nat) (n : Int) (h : m < 6) : [Value.int .i64 (k 0), .int .i64 (k 1), .int .i64 (k 2), .int .i64 (k 3), .int .i64 (k 4), .int .i64 (k 5)].set m (.int .i64 n) = six6 (putA k m n) := by
  rcases below6 h with rfl | rfl | rfl | rfl | rfl | rfl <;> rfl
theorem isz6c : (Try.prog.info? 73).map (·.size) = some 6 := by kernel_rfl
set_option maxHeartbeats 4000000 in
set_option maxRecDepth 100000 in
theorem miss_i (m : Nat) (h6 : m < 6) (rc : List Value) (rt : List Value) (hrc : rc = .int .i64 ((m : Int) + 1) :: rt) (p : Nat → Nat) (hp : ∀ i, i < 6 → p i < 6) (hm : (rc.drop 37).take 6 = six6 fun i => ((p i : Nat) : Int)) (k : Nat → Int) (n : Int) (w : World) :
    Calls Try.prog 86 #[.agg rc.toArray, six (k 0) (k 1) (k 2) (k 3) (k 4) (k 5), .int .i64 n] w (RetB (six (putA k m n (p 0)) (putA k m n (p 1)) (putA k m n (p 2)) (putA k m n (p 3)) (putA k m n (p 4)) (putA k m n (p 5))) w) := by
  obtain ⟨d6, hu6, hd6⟩ := und6
  have HU := Lib.hid (And.intro hu6 hd6)
  clear hu6 hd6
  have HM := Lib.hid (fun (i : Nat) (hi : i < 6) => (show rc[37 + i]? = some (.int .i64 ((p i : Nat) : Int)) by
    have h := six6_get (fun i => ((p i : Nat) : Int)) i hi
    rw [← hm, List.getElem?_take_of_lt hi, List.getElem?_drop] at h
    exact h))
  have HA := Lib.hid (fun w' => (show Calls Try.prog 87 #[.agg (six6 fun i => ((p i : Nat) : Int)).toArray, .agg (six6 (putA k m n)).toArray] w' (RetB (six (putA k m n (p 0)) (putA k m n (p 1)) (putA k m n (p 2)) (putA k m n (p 3)) (putA k m n (p 4)) (putA k m n (p 5))) w') from after_i p hp (putA k m n) w'))
  unfold six at HA
  have hmi : (m : Int) < 6 := by omega
  have HR := Lib.hid (fun (w' : World) (hb : Blk w' w.heap.size rc 72) => (show w'.rangeAt w.heap.size 37 (six6 fun i => ((p i : Nat) : Int)) by rw [← hm]; exact hb.range 37 6))
  clear hm
  have HRC := Lib.hid hrc
  subst hrc
  unfold six
  go_enter Try.func86, Try.ntmps86
  go_wp2_with (first | (with_reducible refine wpList_load_mid rfl 69 (.tmp 12) rfl w.heap.size 37 ?_ (six6 fun i => ((p i : Nat) : Int)) _ (HR.out _ ?_) Try.underlying69 rfl ?_ ?_) | (with_reducible refine wpList_loadB rfl 73 (.tmp 4) rfl (w.heap.size + 1) ?_ (six6 (putA k m n)) 73 ?_ d6 HU.out.1 HU.out.2 ?_ ?_))
  · exact Blk.alloc (Blk.alloc (Blk.newAt w _ _ _ rfl) _) _
  · have h := isz6; rw [Option.map_eq_some_iff] at h; exact h
  · rw [set_put k m n h6]; exact Blk.alloc (Blk.newAt _ _ _ _ (by simp)) _
  · have h := isz6c; rw [Option.map_eq_some_iff] at h; exact h
  refine (HA.out _).mono ?_; rintro e w3 ⟨rfl, b3⟩
  have bk : Blk w3 (w.heap.size + 1 + 1) z6l 73 := Blk.below (Blk.newAt _ _ z6l _ (by simp)) b3 (by simp)
  have hb3 : Below w.heap.size w w3 := bt ((((Below.refl _ w).alloc (Nat.le_refl _) _).alloc (by simp) _).alloc (by simp; omega) _) b3
  have HB3 := Lib.hid hb3
  have r0 : w3.cell? ⟨w.heap.size + 1 + 1, 0, none⟩ = some (.int .i64 0) := bk.cell 0
  have r1 : w3.cell? ⟨w.heap.size + 1 + 1, 1, none⟩ = some (.int .i64 0) := bk.cell 1
  have r2 : w3.cell? ⟨w.heap.size + 1 + 1, 2, none⟩ = some (.int .i64 0) := bk.cell 2
  have r3 : w3.cell? ⟨w.heap.size + 1 + 1, 3, none⟩ = some (.int .i64 0) := bk.cell 3
  have r4 : w3.cell? ⟨w.heap.size + 1 + 1, 4, none⟩ = some (.int .i64 0) := bk.cell 4
  have r5 : w3.cell? ⟨w.heap.size + 1 + 1, 5, none⟩ = some (.int .i64 0) := bk.cell 5
  have q0 := bk.froz 0
  have q1 := bk.froz 1
  have q2 := bk.froz 2
  have q3 := bk.froz 3
  have q4 := bk.froz 4
  have q5 := bk.froz 5
  clear bk b3 hb3 HA HR HM
  generalize putA k m n (p 0) = v0 at *
  generalize putA k m n (p 1) = v1 at *
  generalize putA k m n (p 2) = v2 at *
  generalize putA k m n (p 3) = v3 at *
  generalize putA k m n (p 4) = v4 at *
  generalize putA k m n (p 5) = v5 at *
  go_wp2
  refine bodyPost_ret (v := .agg #[.int .i64 v0, .int .i64 v1, .int .i64 v2, .int .i64 v3, .int .i64 v4, .int .i64 v5]) (by simp [results, Try.results86, go_sem, r0, r1, r2, r3, r4, r5, q0, q1, q2, q3, q4, q5]) rfl ⟨rfl, ?_⟩
  have hb5 := HB3.out
  go_grown
end Go.Proofs.Ytngbddmbmkphcaa.Pv
namespace Go.Proofs.Ytngbddmbmkphcaa
open Go.RowKit
/-- append of a list that is read. -/
theorem wpList_appL {ops : Array Oper} {rest : List Oper} {o : Oper} {a : Act} {Q : Exit → Act → World → Prop} (wr : World) (hgd : o.guard = none) (s x : Operand)
    (ho : o.op = .call { callee := .builtin .append, args := #[s, x], argTypes := #[23, 23] })
    (B : Nat) (v : Value) (xs ys : List Int) (b off m c : Nat) (hs : a.eval s = v) (hx : a.eval x = .slice (some ⟨b, off, none⟩) m c) (hown : Own wr B v xs) (hm : ys.length = m)
    (hc : ∀ j, j < m → wr.cell? ⟨b, off + j, none⟩ = some (.int .i64 (ys.getD j 0)))
    (hlen : xs.length + ys.length ≤ 1000000000) (hB : B ≤ wr.heap.size)
    (h : ∀ v' w', Own w' B v' (xs ++ ys) → Below B wr w' → wpList Try.prog ops Q rest (a.put o.dst v') w') :
    wpList Try.prog ops Q (o :: rest) a wr := by
  obtain ⟨i0, hi, hz0, hz1, hz2⟩ := info_parts infoI
  refine wpList_append_own_at _ hgd s x 23 ho B 2 i0 (.int .i64 0) 1 8 Try.underlying23 hi hz0 hz1 hz2 rfl (by decide) v xs.length (xs.map (Value.int .i64)) hs hown
    ⟨b, off, none⟩ m c (ys.map (Value.int .i64)) hx (by simp [hm]) ?_ ?_ ?_ ?_ ?_ ?_
  · intro j u hj
    rw [List.getElem?_map, Option.map_eq_some_iff] at hj
    obtain ⟨y, hy, rfl⟩ := hj
    obtain ⟨hjl, ey⟩ := List.getElem?_eq_some_iff.1 hy
    have h1 := hc j (by omega)
    have e : (⟨b, off, none⟩ : Addr).add j = ⟨b, off + j, none⟩ := by unfold Addr.add; by_cases h : j = 0 <;> simp [h]
    rw [e, h1, List.getD_eq_getElem?_getD, hy]; rfl
  · intro u hu
    obtain ⟨y, _, rfl⟩ := List.mem_map.1 hu
    rfl
  · unfold maxLen; omega
  · omega
  · omega
  · intro v' w' hown' hgrow _ _
    refine h v' w' ?_ ?_
    · show World.ownsRow _ _ _ _ _ (xs ++ ys).length _
      rw [List.length_append, List.map_append, hm]
      exact hown'
    · exact (Below.refl B wr).grown hgrow hB (fun k hk => (Own.block hown k hk).1)
theorem Own.cellAt {w : World} {B : Nat} {sa : Option Addr} {N cap : Nat} {L : List Int} (h : Own w B (.slice sa N cap) L) (hl : L.length = N) (j : Nat) (hj : j < N) :
    ∃ g, sa = some ⟨g, 0, none⟩ ∧ B ≤ g ∧ g < w.heap.size ∧ w.cell? ⟨g, j, none⟩ = some (.int .i64 (L.getD j 0)) ∧ w.frozen? ⟨g, j, none⟩ = false ∧
      ∀ u, Own (w.setCell ⟨g, j, none⟩ (.int .i64 u)) B (.slice sa N cap) (L.set j u) ∧ w.grownBy (w.setCell ⟨g, j, none⟩ (.int .i64 u)) (some g) := by
  rcases h.cases with ⟨hv, hx⟩ | ⟨g, c, hv, h1, h2, h3, h4, h5⟩
  · subst hx; simp at hl; omega
  · injection hv with e1 e2 e3
    subst e1 e3
    refine ⟨g, rfl, h1, h2, h4 j (by omega), h5 j, fun u => ?_⟩
    have h0 : w.ownsRow B 2 1 (.slice (some ⟨g, 0, none⟩) N cap) L.length (L.map (Value.int .i64)) := h
    rw [hl] at h0
    have hst := World.ownsRow.stored h0 j (.int .i64 u)
    rw [← List.map_set] at hst
    refine ⟨?_, hst.2⟩
    show World.ownsRow _ _ _ _ _ (L.set j u).length _
    rw [List.length_set, hl]
    exact hst.1
set_option maxHeartbeats 1000000 in
theorem own_any (b off c : Nat) (xs : List Int) (w : World) (hn : xs.length ≤ 1000) (hr : Row w (some ⟨b, off, none⟩) xs) :
    Calls Try.prog 61 #[.slice (some ⟨b, off, none⟩) xs.length c] w (Lb xs w) := by
  have HC := Lib.hid (fun j (hj : j < xs.length) => show (w.alloc (.cells #[] 2)).cell? ⟨b, off + j, none⟩ = some (.int .i64 (xs.getD j 0)) from by
    obtain ⟨b', off', e, h1, h2⟩ := hr j hj
    injection e with e
    injection e with e1 e2
    subst e1 e2
    rw [World.cell?_of_block (w := w) (a := ⟨b, off + j, none⟩) (Below.heap_alloc w _ b h2), h1])
  have HO := Lib.hid ((Own.lit0 w).mono (Nat.le_refl _))
  have hz : (w.alloc (.cells #[] 2)).heap.size = w.heap.size + 1 := Array.size_push _
  have HB := Lib.hid ((Below.refl w.heap.size w).alloc (Nat.le_refl _) (.cells #[] 2))
  have hq : ([] : List Int).length + xs.length ≤ 1000000000 := by simp; omega
  clear hr
  generalize hN : xs.length = N at *
  have HN := Lib.hid hN
  clear hN
  go_enter Try.func61, Try.ntmps61
  go_wp2_with (at_builtin; refine wpList_appL _ rfl _ _ rfl w.heap.size _ [] xs b off N c ?_ ?_ HO.out HN.out HC.out (by rw [HN.out]; exact hq) (by rw [hz]; omega) ?_; rfl; rfl)
  intro v' w' ho hb
  go_wp2
  go_ret
  exact ⟨_, rfl, by simpa using ho, HB.out.trans hb⟩
end Go.Proofs.Ytngbddmbmkphcaa
namespace Go.Proofs.Ytngbddmbmkphcaa.Pv
open Go.RowKit
/-- Whether a use hits. -/
def hitB (M : Nat) (k : Nat → Int) (x : Int) : Bool := decide ((rowL M k).idxOf x < M)
/-- What is at each age afterwards. -/
def stN (hs : List (List Int)) (ms : List Int) (k : Nat → Int) (x : Int) (i : Nat) : Int :=
  if (rowL ms.length k).idxOf x < ms.length then k (ordN (hs.getD ((rowL ms.length k).idxOf x) []) i) else putA k (ms.length - 1) x (ordN ms i)
theorem rowL_get (M : Nat) (k : Nat → Int) (i : Nat) (h : i < M) : (rowL M k).getD i 0 = k i := by simp [rowL, List.getD_eq_getElem?_getD, h]
theorem rowL_succ (M : Nat) (k : Nat → Int) : rowL (M + 1) k = rowL M k ++ [k M] := by simp [rowL, List.range_succ]
theorem rowL_set (M : Nat) (k : Nat → Int) (m : Nat) (x : Int) (hm : m < M) : (rowL M k).set m x = rowL M (putA k m x) := by
  apply List.ext_getElem?
  intro i
  by_cases hi : i < M
  · by_cases e : m = i
    · subst e; rw [List.getElem?_set_self (by rw [rowL_len]; exact hi)]; simp [rowL, hi, putA]
    · have e2 : ¬ i = m := fun h => e h.symm
      rw [List.getElem?_set_ne e]; simp [rowL, hi, putA, e2]
  · rw [List.getElem?_eq_none (by rw [List.length_set, rowL_len]; omega), List.getElem?_eq_none (by rw [rowL_len]; omega)]
theorem idx_hit (M : Nat) (k : Nat → Int) (x : Int) (h : (rowL M k).idxOf x < M) : k ((rowL M k).idxOf x) = x ∧ ∀ i, i < (rowL M k).idxOf x → k i ≠ x := by
  have hl : (rowL M k).idxOf x < (rowL M k).length := by rw [rowL_len]; exact h
  refine ⟨?_, fun i hi e => ?_⟩
  · have := List.getElem_idxOf hl
    rw [← rowL_get M k _ h, List.getD_eq_getElem?_getD, List.getElem?_eq_getElem hl]; exact this
  · have h2 := List.not_of_lt_findIdx (p := fun y => y == x) (xs := rowL M k) (i := i) hi
    have hi2 : i < M := by omega
    simp [rowL, e] at h2
theorem idx_miss (M : Nat) (k : Nat → Int) (x : Int) (h : ¬ (rowL M k).idxOf x < M) : ∀ i, i < M → k i ≠ x := fun i hi e => by
  have hm : x ∈ rowL M k := by
    unfold rowL
    rw [List.mem_map]
    exact ⟨i, List.mem_range.2 hi, e⟩
  have := List.idxOf_lt_length_of_mem hm
  rw [rowL_len] at this
  exact h this
theorem ordN_ltM {M : Nat} {o : List Int} (h : ordB M o = true) (i : Nat) (hi : i < M) : ordN o i < M ∧ o.getD i 0 = ((ordN o i : Nat) : Int) := by
  have hl := ordB_len h
  have h1 : okTo M o o.length = true := by unfold ordB at h; simp at h; exact h.1
  have h3 := okTo_all _ h1 i (by omega)
  unfold okO at h3
  rw [Bool.and_eq_true] at h3
  have h4 := inN_mem.1 h3.1
  unfold ordN ordF
  rw [if_pos (by omega)]
  omega
/-- How far a number is away in a list, or -1. -/
def ageI (xs : List Int) (x : Int) : Int := if xs.idxOf x < xs.length then ((xs.idxOf x : Nat) : Int) else -1
set_option maxHeartbeats 1000000 in
theorem age_s (a : Option Addr) (c : Nat) (xs : List Int) (x : Int) (w : World) (hn : xs.length ≤ 1000) (hr : Row w a xs) :
    Calls Try.prog 62 #[.slice a xs.length c, .int .i64 x] w (fun e w' => e = .returned (.int .i64 (ageI xs x)) ∧ w = w') := by
  have HC := Lib.hid hr
  have hle : xs.idxOf x ≤ xs.length := List.idxOf_le_length
  have HN := Lib.hid (fun j (hj : j < xs.idxOf x) => show xs.getD j 0 ≠ x from fun e => by
    have h2 := List.not_of_lt_findIdx (p := fun y => y == x) (xs := xs) (i := j) hj
    have hjl : j < xs.length := by omega
    rw [List.getD_eq_getElem?_getD, List.getElem?_eq_getElem hjl] at e
    simp at e
    simp [e] at h2)
  have HY := Lib.hid (fun (h : xs.idxOf x < xs.length) => show xs.getD (xs.idxOf x) 0 = x by rw [List.getD_eq_getElem?_getD, List.getElem?_eq_getElem h]; exact List.getElem_idxOf h)
  have HA := Lib.hid (show ageI xs x = if xs.idxOf x < xs.length then ((xs.idxOf x : Nat) : Int) else -1 from rfl)
  clear hr
  unfold Row at HC
  generalize ageI xs x = r at *
  generalize xs.idxOf x = K at *
  generalize hN : xs.length = N at *
  clear hN
  go_enter Try.func62, Try.ntmps62
  go_wp2
  go_loop [5] (fun i => ∃ j : Nat, j ≤ K ∧ i = .int .i64 j) (fun i => K - (intOf i).toNat)
  case atStart => exact ⟨0, Nat.zero_le _, rfl⟩
  case round =>
    obtain ⟨j, hj, rfl⟩ := hrel
    by_cases hlt : j < K
    · obtain ⟨b, off, rfl, c1, _⟩ := HC.out j (by omega)
      have hne := HN.out j hlt
      have hjN : (j : Int) < N := by omega
      generalize xs.getD j 0 = u at *
      go_wp2
      go_round
      case rel => exact ⟨j + 1, by omega, by go_num⟩
      case measure => simp [intOf]; omega
    · have e : j = K := by omega
      subst e
      by_cases hjN : j < N
      · obtain ⟨b, off, rfl, c1, _⟩ := HC.out j hjN
        have e1 := HY.out hjN
        rw [e1] at c1
        have e2 : r = (j : Int) := by rw [HA.out, if_pos hjN]
        clear HA HY HN
        subst e2
        go_wp2
        go_ret
        exact ⟨rfl, rfl⟩
      · have e2 : r = -1 := by rw [HA.out, if_neg hjN]
        have hjNi : ¬ (j : Int) < N := by omega
        clear HA HY HN
        subst e2
        go_wp2
        go_ret
        exact ⟨rfl, rfl⟩
/-- What a step leaves: the contents and whether it hit. -/
def Sh (xs : List Int) (b : Bool) (w : World) (e : Ending) (w' : World) : Prop := ∃ v, e = .returned (.tuple #[v, .bool b]) ∧ Own w' w.heap.size v xs ∧ Below w.heap.size w w'
/-- The loop of the model's step: an order's elements looked up. -/
theorem rowL_eq (M : Nat) (f g : Nat → Int) (h : ∀ i, i < M → f i = g i) : rowL M f = rowL M g := by
  unfold rowL
  exact List.map_congr_left fun i hi => h i (List.mem_range.1 hi)
set_option maxHeartbeats 4000000 in
set_option maxRecDepth 100000 in
theorem step_s (g : Nat) (a a' : Option Addr) (c c' : Nat) (hs : List (List Int)) (ms : List Int) (k : Nat → Int) (x : Int) (v : Value) (w : World) (hok : isP hs ms = true) (hg : g < w.heap.size) (h0 : w.cell? ⟨g, 0, none⟩ = some (.slice a hs.length c)) (h1 : w.cell? ⟨g, 1, none⟩ = some (.slice a' ms.length c'))
    (hr : RdR w a hs) (hm : Row w a' ms) (hv : Rd w v (rowL ms.length k)) :
    Calls Try.prog 44 #[.pointer (some ⟨g, 0, none⟩), v, .int .i64 x] w (Sh (rowL ms.length (stN hs ms k x)) (hitB ms.length k x) w) := by
  obtain ⟨ho, h6, hlen⟩ := isP_miss_ord hok
  have h1M : 1 ≤ ms.length := by unfold isP at hok; simp only [Bool.and_eq_true, decide_eq_true_eq] at hok; omega
  obtain ⟨va, vc, rfl, hvc, hvm, hvr⟩ := hv
  rw [rowL_len] at hvc ⊢
  obtain ⟨vb, voff, rfl, _, _⟩ := hvr 0 (by rw [rowL_len]; omega)
  have HOW := Lib.hid (by have := own_any vb voff vc (rowL ms.length k) w (by rw [rowL_len]; omega) hvr; rwa [rowL_len] at this)
  have HAG := Lib.hid (fun (w1 : World) (B : Nat) (v1 : Value) (o1 : Own w1 B v1 (rowL ms.length k)) => show ∃ a1 c1, v1 = .slice a1 ms.length c1 ∧ Calls Try.prog 62 #[.slice a1 ms.length c1, .int .i64 x] w1 (fun e w' => e = .returned (.int .i64 (ageI (rowL ms.length k) x)) ∧ w1 = w') from by
    obtain ⟨a1, c1, e1, _, _, hr1⟩ := o1.rd
    rw [rowL_len] at e1
    have := age_s a1 c1 (rowL ms.length k) x w1 (by rw [rowL_len]; omega) hr1
    rw [rowL_len] at this
    exact ⟨a1, c1, e1, this⟩)
  have hAI : ageI (rowL ms.length k) x = if (rowL ms.length k).idxOf x < ms.length then (((rowL ms.length k).idxOf x : Nat) : Int) else -1 := by unfold ageI; rw [rowL_len]
  have hHB : hitB ms.length k x = decide ((rowL ms.length k).idxOf x < ms.length) := rfl
  have hST := fun i => (show stN hs ms k x i = if (rowL ms.length k).idxOf x < ms.length then k (ordN (hs.getD ((rowL ms.length k).idxOf x) []) i) else putA k (ms.length - 1) x (ordN ms i) from rfl)
  rw [hAI] at HAG
  generalize hJ : (rowL ms.length k).idxOf x = J at *
  clear hJ hAI
  -- the two ways part ahead
  by_cases hit : J < ms.length
  · rw [if_pos hit] at HAG
    have hb : hitB ms.length k x = true := by rw [hHB, decide_eq_true hit]
    rw [hb]
    have hJh : J < hs.length := by omega
    obtain ⟨b0, off0, A, C, rfl, q1, q2, q4, _⟩ := hr J hJh
    have hoj := isP_hit_ord hok J hJh
    have hol := ordB_len hoj
    have HOR := Lib.hid (fun i (hi : i < ms.length) => ordN_ltM hoj i hi)
    have HF := Lib.hid (show rowL ms.length (stN hs ms k x) = rowL ms.length (fun i => k (ordN (hs.getD J []) i)) from rowL_eq _ _ _ fun i _ => by rw [hST, if_pos hit])
    rw [hol] at q1
    have HQ := Lib.hid q2
    unfold Row at HQ
    rw [hol] at HQ
    clear hST hHB hb ho hm hr hoj hol hvr q2
    generalize hM : ms.length = M at *
    clear hM
    generalize hs.getD J [] = o at *
    have hJM : (J : Int) < hs.length := by omega
    obtain ⟨F, hF⟩ : ∃ F : Nat → Int, F = fun i => k (ordN o i) := ⟨_, rfl⟩
    rw [← hF] at HF
    have HFJ := Lib.hid (fun i => show F i = k (ordN o i) by rw [hF])
    clear hF
    go_enter Try.func44, Try.ntmps44
    go_wp2_with fail
    refine HOW.out.mono ?_; rintro e w1 ⟨v1, rfl, o1, b1⟩
    obtain ⟨a1, c1, rfl, hA1⟩ := HAG.out w1 _ v1 o1
    have HA1 := Lib.hid hA1
    have BW := Lib.hid b1
    have HOLD := Lib.hid (fun (w9 : World) (hb9 : Below w1.heap.size w1 w9) (q : Nat) (hq : q < M) => show ∃ og, a1 = some ⟨og, 0, none⟩ ∧ w9.cell? ⟨og, q, none⟩ = some (.int .i64 (k q)) from by
      rcases o1.cases with ⟨_, h⟩ | ⟨og, cp, e, _, hgl, _, h, _⟩
      · have := congrArg List.length h; rw [rowL_len] at this; simp at this; omega
      · rw [rowL_len] at e h
        injection e with e
        exact ⟨og, e, (hb9.cell (p := ⟨og, q, none⟩) hgl).trans (by rw [h q hq, rowL_get M k q hq])⟩)
    have d0 := (b1.cell (p := ⟨g, 0, none⟩) hg).trans h0
    have d1 := (b1.cell (p := ⟨g, 1, none⟩) hg).trans h1
    have d2 := (b1.cell (p := ⟨b0, off0 + J, none⟩) q4).trans q1
    clear hA1 b1 HAG HOW o1
    go_wp2_with (go_at_call 62; (with_reducible refine HA1.out.mono ?_); rintro e w2 ⟨rfl, rfl⟩)
    go_loopw [11, 12] (fun y i wr => ∃ j : Nat, j ≤ M ∧ i = .int .i64 j ∧ Own wr w1.heap.size y (rowL j F) ∧ Below w1.heap.size w1 wr) (fun _ i _ => M - (intOf i).toNat)
    case atStart => exact ⟨0, Nat.zero_le _, rfl, Own.lit0 w1, (Below.refl _ _).alloc (Nat.le_refl _) _⟩
    case round =>
      obtain ⟨j, hj, rfl, hoy, hb⟩ := hrel
      have hsz := hb.size
      have hq : (rowL j F).length + 1 ≤ 1000000000 := by rw [rowL_len]; omega
      by_cases hlt : j < M
      · obtain ⟨ob, ooff, rfl, p1, hob⟩ := HQ.out j hlt
        have p2 : wr.cell? ⟨ob, ooff + j, none⟩ = some (.int .i64 (o.getD j 0)) := (hb.cell (p := ⟨ob, ooff + j, none⟩) (Nat.lt_of_lt_of_le hob BW.out.size)).trans ((BW.out.cell (p := ⟨ob, ooff + j, none⟩) hob).trans p1)
        obtain ⟨hn1, hn2⟩ := HOR.out j hlt
        rw [hn2] at p2
        obtain ⟨og, rfl, ocell⟩ := HOLD.out wr hb (ordN o j) hn1
        have hfj := Lib.hid (HFJ.out j)
        have hsu := Lib.hid (rowL_succ j F)
        clear hn2 p1
        rw [hfj.out] at hsu
        generalize ordN o j = q at *
        have hqi : (q : Int) < M := by omega
        generalize rowL j F = L at *
        generalize k q = u at *
        go_wp2_with (at_builtin; refine wpList_app _ rfl _ _ rfl w1.heap.size _ L _ ?_ ?_ hoy hq hsz ?_; rfl; rfl)
        intro v' w3 ho3 hb3
        go_wp2
        go_roundw
        case rel => exact ⟨j + 1, by omega, by go_num, by rw [hsu.out]; exact ho3, hb.trans hb3⟩
        case measure => simp [intOf]; omega
      · have e : j = M := by omega
        subst e
        go_wp2
        go_ret2
        rw [HF.out]
        exact ⟨_, rfl, hoy.mono BW.out.size, BW.out.trans (hb.mono BW.out.size)⟩
  · rw [if_neg hit] at HAG
    have hb : hitB ms.length k x = false := by rw [hHB, decide_eq_false hit]
    rw [hb]
    have HOR := Lib.hid (fun i (hi : i < ms.length) => ordN_ltM ho i hi)
    have HF := Lib.hid (show rowL ms.length (stN hs ms k x) = rowL ms.length (fun i => putA k (ms.length - 1) x (ordN ms i)) from rowL_eq _ _ _ fun i _ => by rw [hST, if_neg hit])
    have HQ := Lib.hid hm
    unfold Row at HQ
    clear hST hHB hb ho hm hr hvr hok
    generalize hM : ms.length = M at *
    clear hM
    obtain ⟨F, hF⟩ : ∃ F : Nat → Int, F = fun i => putA k (M - 1) x (ordN ms i) := ⟨_, rfl⟩
    rw [← hF] at HF
    have HFJ := Lib.hid (fun i => show F i = putA k (M - 1) x (ordN ms i) by rw [hF])
    clear hF
    have hm1 : ((M : Int) - 1).toNat = M - 1 := by omega
    have hm2 : (0 : Int) ≤ (M : Int) - 1 := by omega
    go_enter Try.func44, Try.ntmps44
    go_wp2_with fail
    refine HOW.out.mono ?_; rintro e w1 ⟨v1, rfl, o1, b1⟩
    obtain ⟨a1, c1, rfl, hA1⟩ := HAG.out w1 _ v1 o1
    have HA1 := Lib.hid hA1
    obtain ⟨og, e1, hBg, hgw, hcell, hfz, hset⟩ := Own.cellAt o1 (rowL_len M k) (M - 1) (by omega)
    subst e1
    obtain ⟨hO2, hG2⟩ := hset x
    rw [rowL_set M k (M - 1) x (by omega)] at hO2
    have hbw : Below w.heap.size w (w1.setCell ⟨og, M - 1, none⟩ (.int .i64 x)) := b1.setCell (p := ⟨og, M - 1, none⟩) hBg _
    have d0 := (b1.cell (p := ⟨g, 0, none⟩) hg).trans h0
    have d1 := (b1.cell (p := ⟨g, 1, none⟩) hg).trans h1
    have BW := Lib.hid hbw
    have HO2 := Lib.hid hO2
    clear hA1 b1 HAG HOW o1 hset hbw hO2 hG2
    have hm3 : (M : Int) - 1 = ((M - 1 : Nat) : Int) := by omega
    have hm4 : ((M - 1 : Nat) : Int) < M := by omega
    go_wp2_with (go_at_call 62; (with_reducible refine HA1.out.mono ?_); rintro e w2 ⟨rfl, rfl⟩)
    have hs12 : w1.heap.size = (w1.setCell ⟨og, M - 1, none⟩ (.int .i64 x)).heap.size := by simp
    generalize w1.setCell ⟨og, M - 1, none⟩ (.int .i64 x) = w2 at *
    clear hm1 hm2 hm3 hm4 hfz hcell
    have HOLD := Lib.hid (fun (w9 : World) (hb9 : Below w2.heap.size w2 w9) (q : Nat) (hq : q < M) => show ∃ og', some (⟨og, 0, none⟩ : Addr) = some ⟨og', 0, none⟩ ∧ w9.cell? ⟨og', q, none⟩ = some (.int .i64 (putA k (M - 1) x q)) from by
      rcases HO2.out.cases with ⟨h, _⟩ | ⟨og', cp, e, _, hgl, _, h, _⟩
      · cases h
      · rw [rowL_len] at e h
        injection e with e
        exact ⟨og', e, (hb9.cell (p := ⟨og', q, none⟩) hgl).trans (by rw [h q hq, rowL_get M _ q hq])⟩)
    go_loopw [11, 12] (fun y i wr => ∃ j : Nat, j ≤ M ∧ i = .int .i64 j ∧ Own wr w2.heap.size y (rowL j F) ∧ Below w2.heap.size w2 wr) (fun _ i _ => M - (intOf i).toNat)
    case atStart => exact ⟨0, Nat.zero_le _, rfl, (by rw [hs12]; exact Own.lit0 w2), (Below.refl _ _).alloc (Nat.le_refl _) _⟩
    case round =>
      clear hs12
      obtain ⟨j, hj, rfl, hoy, hb⟩ := hrel
      have hsz := hb.size
      have hq : (rowL j F).length + 1 ≤ 1000000000 := by rw [rowL_len]; omega
      by_cases hlt : j < M
      · obtain ⟨ob, ooff, rfl, p1, hob⟩ := HQ.out j hlt
        have p2 : wr.cell? ⟨ob, ooff + j, none⟩ = some (.int .i64 (ms.getD j 0)) := (hb.cell (p := ⟨ob, ooff + j, none⟩) (Nat.lt_of_lt_of_le hob BW.out.size)).trans ((BW.out.cell (p := ⟨ob, ooff + j, none⟩) hob).trans p1)
        obtain ⟨hn1, hn2⟩ := HOR.out j hlt
        rw [hn2] at p2
        obtain ⟨og', eog, ocell⟩ := HOLD.out wr hb (ordN ms j) hn1
        injection eog with eog
        injection eog with eog
        subst eog
        have hfj := Lib.hid (HFJ.out j)
        have hsu := Lib.hid (rowL_succ j F)
        clear hn2 p1
        rw [hfj.out] at hsu
        generalize ordN ms j = q at *
        have hqi : (q : Int) < M := by omega
        generalize rowL j F = L at *
        generalize putA k (M - 1) x q = u at *
        go_wp2_with (at_builtin; refine wpList_app _ rfl _ _ rfl w2.heap.size _ L _ ?_ ?_ hoy hq hsz ?_; rfl; rfl)
        intro v' w3 ho3 hb3
        go_wp2
        go_roundw
        case rel => exact ⟨j + 1, by omega, by go_num, by rw [hsu.out]; exact ho3, hb.trans hb3⟩
        case measure => simp [intOf]; omega
      · have e : j = M := by omega
        subst e
        go_wp2
        go_ret2
        rw [HF.out]
        exact ⟨_, rfl, hoy.mono BW.out.size, BW.out.trans (hb.mono BW.out.size)⟩
end Go.Proofs.Ytngbddmbmkphcaa.Pv
