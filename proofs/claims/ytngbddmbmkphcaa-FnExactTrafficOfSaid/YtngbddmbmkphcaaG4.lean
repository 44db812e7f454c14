/- Blocks as lists of cells: many cells stored and loaded at once, the world behind it a new one. No program. The program's rules of a policy: the contract of rulesOf. Lists of lists of the call's own: what they are, and the law's comparison of two. The law's reading of its marks in a list of lists. The law's marks in a list of lists. -/
import Derived.Test.YtngbddmbmkphcaaG1
import Derived.Deep.MidRow
import Derived.Laws.CopyOwn
import Derived.Deep.Upon
import Derived.Test.YtngbddmbmkphcaaG3
namespace Go.Proofs.Ytngbddmbmkphcaa
open Go.RowKit
/-- The block b holds these cells, and may be written. -/
def Blk (w : World) (b : Nat) (cs : List Value) (t : TypeId) : Prop := w.heap[b]? = some (.cells cs.toArray t (0, 0))
theorem Blk.cell {w : World} {b : Nat} {cs : List Value} {t : TypeId} (h : Blk w b cs t) (j : Nat) : w.cell? ⟨b, j, none⟩ = cs[j]? := by
  rw [cell_of_row w b j _ _ (0, 0) h]; simp
theorem Blk.froz {w : World} {b : Nat} {cs : List Value} {t : TypeId} (h : Blk w b cs t) (j : Nat) : w.frozen? ⟨b, j, none⟩ = false := frozen_of_row w b j _ _ h
theorem Blk.lt {w : World} {b : Nat} {cs : List Value} {t : TypeId} (h : Blk w b cs t) : b < w.heap.size := (Array.getElem?_eq_some_iff.1 h).1
theorem Blk.there {w : World} {b : Nat} {cs : List Value} {t : TypeId} (h : Blk w b cs t) (o n : Nat) (hn : o + n ≤ cs.length) : w.there b o n := fun j hj => by
  refine ⟨?_, h.froz _⟩
  rw [h.cell, List.getElem?_eq_getElem (by omega)]; rfl
theorem Blk.range {w : World} {b : Nat} {cs : List Value} {t : TypeId} (h : Blk w b cs t) (o n : Nat) : w.rangeAt b o ((cs.drop o).take n) := fun j v hv => by
  rw [h.cell]
  rw [List.getElem?_take] at hv
  split at hv
  · rwa [List.getElem?_drop] at hv
  · cases hv
theorem Blk.new (w : World) (cs : List Value) (t : TypeId) : Blk (w.alloc (.cells cs.toArray t)) w.heap.size cs t := heap_alloc_new w _
theorem Blk.newAt (w : World) (b : Nat) (cs : List Value) (t : TypeId) (hb : b = w.heap.size) : Blk (w.alloc (.cells cs.toArray t)) b cs t := by subst hb; exact Blk.new w cs t
theorem Blk.alloc {w : World} {b : Nat} {cs : List Value} {t : TypeId} (h : Blk w b cs t) (o : Obj) : Blk (w.alloc o) b cs t := (Below.heap_alloc w o b h.lt).trans h
theorem Blk.below {w w' : World} {b B : Nat} {cs : List Value} {t : TypeId} (h : Blk w b cs t) (hb : Below B w w') (hB : b < B) : Blk w' b cs t := (hb.block b hB).trans h
/-- One block has been written, and nothing else. -/
structure Keep (b : Nat) (w w' : World) : Prop where
  os : w'.os = w.os
  tape : w'.tape = w.tape
  output : w'.output = w.output
  size : w'.heap.size = w.heap.size
  block : ∀ i, i ≠ b → w'.heap[i]? = w.heap[i]?
theorem Keep.below {b B : Nat} {w w' : World} (h : Keep b w w') (hB : B ≤ b) : Below B w w' := ⟨h.os, h.tape, h.output, Nat.le_of_eq h.size.symm, fun i hi => h.block i (by omega)⟩
theorem Keep.blk {b c : Nat} {w w' : World} {cs : List Value} {t : TypeId} (h : Keep b w w') (hc : Blk w c cs t) (hne : c ≠ b) : Blk w' c cs t := (h.block c hne).trans hc
theorem keep_set (b : Nat) : ∀ (vs : List Value) (o : Nat) (w : World), Keep b w (w.setCells b o vs)
  | [], _, w => ⟨rfl, rfl, rfl, rfl, fun _ _ => rfl⟩
  | v :: r, o, w => by
    have h := keep_set b r (o + 1) (w.setCell ⟨b, o, none⟩ v)
    exact ⟨h.os, h.tape, h.output, by rw [World.setCells, h.size]; simp, fun i hi => by rw [World.setCells, h.block i hi]; exact Go.heap_setCell_other w ⟨b, o, none⟩ i v (fun e => hi (by simp [e]))⟩
theorem splice_cons (cs : List Value) (o : Nat) (v : Value) (r : List Value) (h : o < cs.length) : Go.splice (cs.set o v) (o + 1) r = Go.splice cs o (v :: r) := by
  unfold Go.splice
  rw [List.take_succ_eq_append_getElem (by simpa using h), List.take_set_of_le (Nat.le_refl o)]
  simp only [List.getElem_set_self, List.length_cons, List.append_assoc, List.cons_append, List.nil_append]
  congr 2
  rw [List.drop_set_of_lt (by omega)]
  rw [show o + 1 + r.length = o + (r.length + 1) by omega]
theorem blk_set (b : Nat) (t : TypeId) : ∀ (vs : List Value) (o : Nat) (cs : List Value) (w : World), Blk w b cs t → o + vs.length ≤ cs.length → Blk (w.setCells b o vs) b (Go.splice cs o vs) t
  | [], o, cs, w, h, _ => by
    have e : Go.splice cs o [] = cs := by simp [Go.splice]
    rw [e]; exact h
  | v :: r, o, cs, w, h, hl => by
    rw [List.length_cons] at hl
    have h2 : Blk (w.setCell ⟨b, o, none⟩ v) b (cs.set o v) t := by
      have := Go.heap_setCell_same w b o cs.toArray t v h
      unfold Blk
      rw [this]; simp
    have h3 := blk_set b t r (o + 1) (cs.set o v) _ h2 (by simp; omega)
    rw [splice_cons cs o v r (by omega)] at h3
    exact h3
theorem wpList_storeB {P : Program} {ops : Array Oper} {rest : List Oper} {op : Oper} {a : Act} {w : World} {Q : Exit → Act → World → Prop} (hgd : op.guard = none) (ty : TypeId) (x y : Operand) (ho : op.op = .store ty x y)
    (b o : Nat) (cells : List Value) (hx : a.eval x = .pointer (some ⟨b, o, none⟩)) (hy : a.eval y = .agg cells.toArray) (cs : List Value) (t : TypeId) (hb : Blk w b cs t) (hfit : o + cells.length ≤ cs.length)
    (hi : (P.info? ty).map (·.size) = some cells.length) (h1 : ∀ v ∈ cells, v.oneCell' = true)
    (h : ∀ w', Hid (Blk w' b (Go.splice cs o cells) t) → Hid (Keep b w w') → wpList P ops Q rest (a.put op.dst undef) w') : wpList P ops Q (op :: rest) a w := by
  refine wpList_store_mid hgd ty x y ho b o cells.toArray hx hy (hb.there o _ (by simpa using hfit)) (by simpa using hi) (all_oneCell_toArray h1) ?_
  exact h _ (show Blk _ _ _ _ by simpa using blk_set b t cells o cs w hb hfit) (show Keep _ _ _ by simpa using keep_set b cells o w)
theorem wpList_loadB {P : Program} {ops : Array Oper} {rest : List Oper} {op : Oper} {a : Act} {w : World} {Q : Exit → Act → World → Prop} (hgd : op.guard = none) (ty : TypeId) (x : Operand) (ho : op.op = .load ty x)
    (b : Nat) (hx : a.eval x = .pointer (some ⟨b, 0, none⟩)) (cs : List Value) (t : TypeId) (hb : Blk w b cs t) (d : TypeDesc) (hu : P.underlying ty = some d) (hd : d.isRow = true) (hi : (P.info? ty).map (·.size) = some cs.length)
    (h : wpList P ops Q rest (a.put op.dst (.agg cs.toArray)) w) : wpList P ops Q (op :: rest) a w :=
  wpList_load_mid hgd ty x ho b 0 hx cs d (by have := hb.range 0 cs.length; simpa using this) hu hd hi h
theorem results2 {P : Program} {fn : Func} {tmps : Array Value} {w : World} {a k : Nat} {t : TypeId} (hr : fn.results = #[.cell a t, .tmp k]) {p : Addr} (hp : tmps.getD a undef = .pointer (some p)) {v : Value}
    (hl : (loadVar t p).run P w = .ok v w) {u : Value} (hu : tmps.getD k undef = u) : (results fn tmps).run P w = .ok (.tuple #[v, u]) w := by
  subst hu
  unfold results
  rw [hr]
  have hp' : tmps[a]?.getD undef = .pointer (some p) := by simpa using hp
  simp [asAddr, hp', hl]
theorem Blk.loadVar {P : Program} {w : World} {b : Nat} {cs : List Value} {t : TypeId} (hb : Blk w b cs t) (ty : TypeId) (d : TypeDesc) (hu : P.underlying ty = some d) (hd : d.isRow = true) (hi : (P.info? ty).map (·.size) = some cs.length) :
    (loadVar ty ⟨b, 0, none⟩).run P w = .ok (.agg cs.toArray) w :=
  run_loadVar_mid w b 0 ty cs d (by have := hb.range 0 cs.length; simpa using this) hu hd hi
end Go.Proofs.Ytngbddmbmkphcaa
namespace Go.Proofs.Ytngbddmbmkphcaa.Pv
open Go.RowKit
theorem btw_i (x lo hi : Int) (w : World) : Calls Try.prog 76 #[.int .i64 x, .int .i64 lo, .int .i64 hi] w (Bl (decide (lo ≤ x) && decide (x ≤ hi)) w) := by
  by_cases h : lo ≤ x
  · go_enter Try.func76, Try.ntmps76
    go_wp2
    go_ret
    exact ⟨ret_bool (by simp [h]), rfl⟩
  · go_enter Try.func76, Try.ntmps76
    go_wp2
    go_ret
    exact ⟨ret_bool (by simp; omega), rfl⟩
theorem ways_i (x : Int) (w : World) : Calls Try.prog 74 #[.int .i64 x] w (Bl (decide (1 ≤ x) && decide (x ≤ 6)) w) := by
  have HB := Lib.hid (btw_i x 1 6)
  go_enter Try.func74, Try.ntmps74
  go_wp2_with (go_at_call 76; refine (HB.out _).mono ?_; rintro e w' ⟨rfl, rfl⟩)
  go_ret
  exact ⟨rfl, rfl⟩
theorem order_no (a : Option Addr) (c n L : Nat) (w : World) (hne : L ≠ n) (hL : L ≤ 1048576) (hn : n ≤ 1048576) :
    Calls Try.prog 75 #[.slice a L c, .int .i64 (n : Nat)] w (RetB (.tuple #[six 0 0 0 0 0 0, .bool false]) w) := by
  go_enter Try.func75, Try.ntmps75
  go_wp2
  refine bodyPost_ret (v := .tuple #[six 0 0 0 0 0 0, .bool false]) (by simp [six, results, Try.results75, go_sem]) rfl ⟨rfl, ?_⟩
  go_grown
def z6l : List Value := [.int .i64 0, .int .i64 0, .int .i64 0, .int .i64 0, .int .i64 0, .int .i64 0]
def z43 : List Value := .int .i64 0 :: (z6l ++ z6l ++ z6l ++ z6l ++ z6l ++ z6l ++ z6l)
def rowC (xs : List Int) : List Value := [.int .i64 (ordF xs 0), .int .i64 (ordF xs 1), .int .i64 (ordF xs 2), .int .i64 (ordF xs 3), .int .i64 (ordF xs 4), .int .i64 (ordF xs 5)]
def hitC (hs : List (List Int)) (j i : Nat) : List Value := if i < j then rowC (hs.getD i []) else z6l
/-- the cells of rules: the ways, the orders for the first j ages, the one for a miss -/
def rulesL (n : Nat) (hs : List (List Int)) (j : Nat) (m : List Value) : List Value := .int .i64 n :: (hitC hs j 0 ++ hitC hs j 1 ++ hitC hs j 2 ++ hitC hs j 3 ++ hitC hs j 4 ++ hitC hs j 5 ++ m)
theorem hitC_len (hs : List (List Int)) (j i : Nat) : (hitC hs j i).length = 6 := by unfold hitC; split <;> rfl
theorem rulesL_len (n : Nat) (hs : List (List Int)) (j : Nat) (m : List Value) (hm : m.length = 6) : (rulesL n hs j m).length = 43 := by simp [rulesL, hitC_len, hm]
theorem one_z6 : ∀ v ∈ z6l, v.oneCell' = true := fun v hv => by simp [z6l] at hv; rw [hv]; rfl
theorem one_row (xs : List Int) : ∀ v ∈ rowC xs, v.oneCell' = true := fun v hv => by
  simp [rowC] at hv
  rcases hv with rfl | rfl | rfl | rfl | rfl | rfl <;> rfl
theorem one_hit (hs : List (List Int)) (j i : Nat) : ∀ v ∈ hitC hs j i, v.oneCell' = true := by
  unfold hitC
  split
  · exact one_row _
  · exact one_z6
theorem one_rules (n : Nat) (hs : List (List Int)) (j : Nat) (m : List Value) (hm : ∀ v ∈ m, v.oneCell' = true) : ∀ v ∈ rulesL n hs j m, v.oneCell' = true := fun v hv => by
  simp only [rulesL, List.mem_cons, List.mem_append] at hv
  rcases hv with rfl | ((((((h | h) | h) | h) | h) | h) | h)
  · rfl
  · exact one_hit _ _ _ v h
  · exact one_hit _ _ _ v h
  · exact one_hit _ _ _ v h
  · exact one_hit _ _ _ v h
  · exact one_hit _ _ _ v h
  · exact one_hit _ _ _ v h
  · exact hm v h
theorem splice_miss (n : Nat) (hs : List (List Int)) (ms : List Int) : Go.splice (rulesL n hs 0 z6l) 37 (rowC ms) = rulesL n hs 0 (rowC ms) := rfl
theorem splice_hit (n : Nat) (hs : List (List Int)) (j : Nat) (hj : j < 6) (m : List Value) : Go.splice (rulesL n hs j m) (1 + j * 6) (rowC (hs.getD j [])) = rulesL n hs (j + 1) m := by
  rcases below6 hj with rfl | rfl | rfl | rfl | rfl | rfl <;> rfl
theorem splice_all (cs ds : List Value) (h : ds.length = cs.length) : Go.splice cs 0 ds = ds := by
  unfold Go.splice
  rw [Nat.zero_add, h, List.drop_length]; simp
theorem isz43 : (Try.prog.info? 72).map (·.size) = some 43 := by kernel_rfl
theorem isz6 : (Try.prog.info? 69).map (·.size) = some 6 := by kernel_rfl
theorem z43_len : z43.length = 43 := rfl
theorem und43 : ∃ d, Try.prog.underlying 72 = some d ∧ d.isRow = true := by
  cases h : Try.prog.underlying 72 with
  | none => exact absurd h (by decide +kernel)
  | some d =>
    refine ⟨d, rfl, ?_⟩
    have e : (Try.prog.underlying 72).map (fun d => d.isRow) = some true := by kernel_rfl
    rw [h] at e
    simpa using e
def rulV (b : Bool) (n : Nat) (hs : List (List Int)) (ms : List Int) : Value := .agg (if b then rulesL n hs n (rowC ms) else z43).toArray
/-- what orderOf returns for a list: its ages, or zeros where it has not as many -/
def rowD (n : Nat) (xs : List Int) : List Value := if xs.length = n then rowC xs else z6l
theorem rowD_yes {n : Nat} {xs : List Int} (h : ordB n xs = true) : rowD n xs = rowC xs := if_pos (ordB_len h)
theorem one_rowD (n : Nat) (xs : List Int) : ∀ v ∈ rowD n xs, v.oneCell' = true := by
  unfold rowD
  split
  · exact one_row _
  · exact one_z6
theorem rowD_len (n : Nat) (xs : List Int) : (rowD n xs).length = 6 := by unfold rowD; split <;> rfl
theorem order_any (a : Option Addr) (c n : Nat) (xs : List Int) (w : World) (h1 : 1 ≤ n) (h6 : n ≤ 6) (hl : xs.length ≤ 1048576) (hcap : xs.length ≤ c ∧ c ≤ 9223372036854775807) (hr : Row w a xs) :
    Calls Try.prog 75 #[.slice a xs.length c, .int .i64 (n : Nat)] w (RetB (.tuple #[.agg (rowD n xs).toArray, .bool (ordB n xs)]) w) := by
  by_cases h : xs.length = n
  · unfold rowD
    rw [if_pos h]
    have := order_i a c n xs w h h1 h6 (by omega) hr
    rw [← h] at this ⊢
    exact this
  · unfold rowD
    rw [if_neg h]
    have e : ordB n xs = false := by
      cases ho : ordB n xs
      · rfl
      · exact absurd (ordB_len ho) h
    rw [e]
    exact order_no a c n xs.length w h hl (by omega)
/-- What the loop of rulesOf keeps. -/
def RulI (Z N M c c' : Nat) (a a' : Option Addr) (hs : List (List Int)) (m : List Value) (j : Nat) (w w' : World) : Prop :=
  Blk w' Z [.slice a N c, .slice a' M c'] 33 ∧ Blk w' (Z + 1) z43 72 ∧ Blk w' (Z + 1 + 1) (rulesL M hs j m) 72 ∧ Below Z w w' ∧ Z + 3 ≤ w'.heap.size
theorem RulI.below {Z N M c c' : Nat} {a a' : Option Addr} {hs : List (List Int)} {m : List Value} {j : Nat} {w w' w2 : World} (h : RulI Z N M c c' a a' hs m j w w') (hb : Below w'.heap.size w' w2) : RulI Z N M c c' a a' hs m j w w2 := by
  obtain ⟨h1, h2, h3, h4, h5⟩ := h
  exact ⟨h1.below hb h1.lt, h2.below hb h2.lt, h3.below hb h3.lt, h4.trans (hb.mono (by omega)), Nat.le_trans h5 hb.size⟩
theorem RulI.step {Z N M c c' : Nat} {a a' : Option Addr} {hs : List (List Int)} {m : List Value} {j : Nat} {w w' w2 : World} (h : RulI Z N M c c' a a' hs m j w w') (hj : j < 6) (hb : Blk w2 (Z + 1 + 1) (Go.splice (rulesL M hs j m) (1 + j * 6) (rowC (hs.getD j []))) 72) (hk : Keep (Z + 1 + 1) w' w2) : RulI Z N M c c' a a' hs m (j + 1) w w2 := by
  obtain ⟨h1, h2, h3, h4, h5⟩ := h
  rw [splice_hit M hs j hj m] at hb
  exact ⟨hk.blk h1 (by omega), hk.blk h2 (by omega), hb, h4.trans (hk.below (by omega)), by rw [hk.size]; exact h5⟩
set_option maxHeartbeats 8000000 in
set_option maxRecDepth 100000 in
theorem rules_i (a a' : Option Addr) (c c' : Nat) (hs : List (List Int)) (ms : List Int) (w : World)
    (hr : Row w a' ms) (hcap : ms.length ≤ c' ∧ c' ≤ 9223372036854775807) (hm : ms.length ≤ 1048576) (hh : RdR w a hs) (hl : hs.length ≤ 1048576) :
    Calls Try.prog 63 #[.agg #[.slice a hs.length c, .slice a' ms.length c']] w (RetB (.tuple #[rulV (isP hs ms) ms.length hs ms, .bool (isP hs ms)]) w) := by
  obtain ⟨d43, hu43, hd43⟩ := und43
  have HL43 := Lib.hid (fun (w' : World) (b : Nat) (cs : List Value) (h : Blk w' b cs 72) (hc : cs.length = 43) => Blk.loadVar h 72 d43 hu43 hd43 (by rw [hc]; exact isz43))
  have HU := Lib.hid (And.intro hu43 hd43)
  clear hu43 hd43
  generalize hMM : ms.length = M at *
  generalize hNN : hs.length = N at *
  have HW := Lib.hid (fun w' => ways_i (M : Int) w')
  go_enter Try.func63, Try.ntmps63
  go_wp2_with (with_reducible refine wpList_storeB rfl 72 (.tmp 4) (.tmp 11) rfl (w.heap.size + 1 + 1) 0 (rulesL M hs 0 z6l) ?_ ?_ z43 72 ?_ ?_ ?_ ?_ ?_)
  · rfl
  · rfl
  · exact Blk.newAt _ _ _ _ (by simp)
  · rw [rulesL_len _ _ _ _ rfl]; decide
  · rw [rulesL_len _ _ _ _ rfl]; exact isz43
  · exact one_rules _ _ _ _ one_z6
  intro w2 hB hK
  rw [splice_all _ _ (by rw [rulesL_len _ _ _ _ rfl]; rfl)] at hB
  have hZ2 : Hid (Blk w2 (w.heap.size + 1) z43 72) := hK.out.blk (Blk.alloc (Blk.newAt _ _ _ _ (by simp)) _) (by omega)
  have hP2 : Hid (Blk w2 w.heap.size [.slice a N c, .slice a' M c'] 33) := hK.out.blk (Blk.alloc (Blk.alloc (Blk.newAt _ _ _ _ rfl) _) _) (by omega)
  have hb2 : Hid (Below w.heap.size w w2) := ((((Below.refl _ w).alloc (Nat.le_refl _) _).alloc (by simp) _).alloc (by simp; omega) _).trans (hK.out.below (by omega))
  have hs2 : w2.heap.size = w.heap.size + 3 := by rw [hK.out.size]; simp
  clear hK
  have cw : w2.cell? ⟨w.heap.size + 1 + 1, 0, none⟩ = some (.int .i64 M) := hB.out.cell 0
  have cp0 : w2.cell? ⟨w.heap.size, 0, none⟩ = some (.slice a N c) := hP2.out.cell 0
  have cp1 : w2.cell? ⟨w.heap.size, 1, none⟩ = some (.slice a' M c') := hP2.out.cell 1
  by_cases h16 : 1 ≤ M ∧ M ≤ 6
  · rw [show (decide ((1 : Int) ≤ (M : Int)) && decide ((M : Int) ≤ 6)) = true by rw [← Bool.decide_and]; simp; omega] at HW
    obtain ⟨h1, h6⟩ := h16
    by_cases hne : N = M
    · have d3 : ((N : Int) != (M : Int)) = false := by simp; omega
      have hI2 : Hid (RulI w.heap.size N M c c' a a' hs z6l 0 w w2) := ⟨hP2.out, hZ2.out, hB.out, hb2.out, Nat.le_of_eq hs2.symm⟩
      have HO := Lib.hid (order_any a' c' M ms w2 h1 h6 (by omega) (by omega) (hr.below hb2.out))
      rw [hMM] at HO
      go_wp2_with (first | (go_at_call 74; refine (HW.out _).mono ?_; rintro e w' ⟨rfl, rfl⟩) | (go_at_call 75; refine HO.out.mono ?_; rintro e w3 ⟨rfl, b3⟩; have hI3 := Lib.hid (hI2.out.below b3); have hB3 := Lib.hid hI3.out.2.2.1; clear b3) | (with_reducible refine wpList_storeB rfl 69 (.tmp 33) (.tmp 31) rfl (w.heap.size + 1 + 1) 37 (rowD M ms) ?_ ?_ (rulesL M hs 0 z6l) 72 hB3.out ?_ ?_ ?_ ?_))
      · rfl
      · rfl
      · rw [rulesL_len _ _ _ _ rfl, rowD_len]; decide
      · rw [rowD_len]; exact isz6
      · exact one_rowD _ _
      intro w4 hB4 hK4
      have cwr : RulI w.heap.size N M c c' a a' hs z6l 0 w w3 := hI3.out
      have hZ4 : Hid (Blk w4 (w.heap.size + 1) z43 72) := hK4.out.blk cwr.2.1 (by omega)
      have hb4 : Hid (Below w.heap.size w w4) := cwr.2.2.2.1.trans (hK4.out.below (by omega))
      have hP4 : Hid (Blk w4 w.heap.size [.slice a N c, .slice a' M c'] 33) := hK4.out.blk cwr.1 (by omega)
      have hs4 : w.heap.size + 3 ≤ w4.heap.size := by rw [hK4.out.size]; exact cwr.2.2.2.2
      clear cwr hI3 hB3 hK4 HO hI2 hB hZ2 hP2 hb2 hs2 cw cp0 cp1 d3 HW
      cases hom : ordB M ms
      · have hip : isP hs ms = false := isP_miss (by rw [hMM]; exact hom)
        clear hB4
        go_wp2_with (with_reducible refine wpList_storeB rfl 72 (.tmp 2) (.tmp 36) rfl (w.heap.size + 1) 0 z43 ?_ ?_ z43 72 hZ4.out ?_ ?_ ?_ ?_)
        · rfl
        · rfl
        · rw [z43_len]; decide
        · exact isz43
        · intro v hv; simp [z43, z6l] at hv; rw [hv]; rfl
        intro w5 hBx hKx
        rw [splice_all _ _ rfl] at hBx
        go_wp2
        refine bodyPost_ret (results2 (a := 2) (k := 3) (t := 72) (p := ⟨w.heap.size + 1, 0, none⟩) (by kernel_rfl) rfl (HL43.out _ _ _ hBx.out rfl) rfl) rfl ⟨?_, ?_⟩
        · rw [hip]; rfl
        · exact hb4.out.trans (hKx.out.below (by omega))
      · rw [rowD_yes hom, splice_miss] at hB4
        have hI4 : Hid (RulI w.heap.size N M c c' a a' hs (rowC ms) 0 w w4) := ⟨hP4.out, hZ4.out, hB4.out, hb4.out, hs4⟩
        have cp0 : w4.cell? ⟨w.heap.size, 0, none⟩ = some (.slice a N c) := hP4.out.cell 0
        clear hP4 hZ4 hB4 hb4 hs4
        go_wp2
        go_loopw [5, 6, 7, 40] (fun ok _ _ i wr => ∃ j : Nat, j ≤ N ∧ ok = .bool true ∧ i = .int .i64 (j : Nat) ∧ Hid ((hs.take j).all (ordB M) = true) ∧ Hid (RulI w.heap.size N M c c' a a' hs (rowC ms) j w wr)) (fun _ _ _ i _ => N - (intOf i).toNat)
        case atStart => exact ⟨0, Nat.zero_le _, rfl, rfl, Lib.hid rfl, hI4⟩
        case round =>
          obtain ⟨j, hj, rfl, rfl, hall, hI⟩ := hrel
          by_cases hlt : j < N
          · obtain ⟨b, off, A, C, rfl, c1, hrow, hbl, e5, e6, e7, _⟩ := hh j (by omega)
            have hbw : Below w.heap.size w wr := hI.out.2.2.2.1
            have c2 : wr.cell? ⟨b, off + j, none⟩ = some (.slice A (hs.getD j []).length C) := (hbw.cell (p := ⟨b, off + j, none⟩) hbl).trans c1
            have cw : wr.cell? ⟨w.heap.size + 1 + 1, 0, none⟩ = some (.int .i64 M) := hI.out.2.2.1.cell 0
            have HO := Lib.hid (order_any A C M (hs.getD j []) wr h1 h6 e5 ⟨e6, e7⟩ (hrow.below hbw))
            have HA := Lib.hid (all_take hs M j (by omega))
            have HN := Lib.hid (fun (h : ordB M (hs.getD j []) = false) => (isP_hit (hs := hs) (ms := ms) j (by omega) (by rw [hMM]; exact h)))
            have HRD := Lib.hid (fun (h : ordB M (hs.getD j []) = true) => rowD_yes h)
            have HRL := Lib.hid (rowD_len M (hs.getD j []))
            have HR1 := Lib.hid (one_rowD M (hs.getD j []))
            have hj6 : j < 6 := by omega
            have hj6i : (j : Int) < 6 := by omega
            clear c1 hrow hbl e5 e6 e7 hbw
            generalize (hs.getD j []).length = L at *
            generalize rowD M (hs.getD j []) = rd at *
            cases hob : ordB M (hs.getD j [])
            · have hip := HN.out hob
              rw [hob] at HO
              clear HN HRD HA hall hob
              go_wp2_with (first | (go_at_call 75; refine HO.out.mono ?_; rintro e w3 ⟨rfl, b3⟩; have hI3 := Lib.hid (hI.out.below b3); have hB3 := Lib.hid hI3.out.2.2.1; clear b3) | (with_reducible refine wpList_storeB rfl 69 (.tmp 54) (.tmp 51) rfl (w.heap.size + 1 + 1) (1 + j * 6) rd ?_ ?_ (rulesL M hs j (rowC ms)) 72 hB3.out ?_ ?_ ?_ ?_))
              · rfl
              · rfl
              · rw [rulesL_len _ _ _ _ rfl, HRL.out]; omega
              · rw [HRL.out]; exact isz6
              · exact HR1.out
              intro w4 hB4 hK4
              have hZ5 : Hid (Blk w4 (w.heap.size + 1) z43 72) := hK4.out.blk hI3.out.2.1 (by omega)
              have hb5 : Hid (Below w.heap.size w w4) := hI3.out.2.2.2.1.trans (hK4.out.below (by omega))
              clear hB4 hK4 hI3 hB3
              go_wp2_with (with_reducible refine wpList_storeB rfl 72 (.tmp 2) (.tmp 57) rfl (w.heap.size + 1) 0 z43 ?_ ?_ z43 72 hZ5.out ?_ ?_ ?_ ?_)
              · rfl
              · rfl
              · rw [z43_len]; decide
              · exact isz43
              · intro v hv; simp [z43, z6l] at hv; rw [hv]; rfl
              intro w5 hBx hKx
              rw [splice_all _ _ rfl] at hBx
              go_wp2
              refine bodyPost_ret (results2 (a := 2) (k := 3) (t := 72) (p := ⟨w.heap.size + 1, 0, none⟩) (by kernel_rfl) rfl (HL43.out _ _ _ hBx.out rfl) rfl) rfl ⟨?_, ?_⟩
              · rw [hip]; rfl
              · exact hb5.out.trans (hKx.out.below (by omega))
            · have hrd := Lib.hid (HRD.out hob)
              rw [hob] at HO
              have HA2 := HA.out
              rw [hob, hall.out] at HA2
              have HA3 := Lib.hid HA2
              clear HN HRD HA hall HA2 hob
              go_wp2_with (first | (go_at_call 75; refine HO.out.mono ?_; rintro e w3 ⟨rfl, b3⟩; have hI3 := Lib.hid (hI.out.below b3); have hB3 := Lib.hid hI3.out.2.2.1; clear b3) | (with_reducible refine wpList_storeB rfl 69 (.tmp 54) (.tmp 51) rfl (w.heap.size + 1 + 1) (1 + j * 6) rd ?_ ?_ (rulesL M hs j (rowC ms)) 72 hB3.out ?_ ?_ ?_ ?_))
              · rfl
              · rfl
              · rw [rulesL_len _ _ _ _ rfl, HRL.out]; omega
              · rw [HRL.out]; exact isz6
              · exact HR1.out
              intro w4 hB4 hK4
              rw [hrd.out] at hB4
              have hI4 := Lib.hid (hI3.out.step hj6 hB4.out hK4.out)
              clear hB4 hK4 hI3 hB3
              go_wp2
              go_roundw
              case rel => exact ⟨j + 1, by omega, rfl, by go_num, HA3, hI4⟩
              case measure => simp [intOf]; omega
          · have e : j = N := by omega
            subst e
            have hip : isP hs ms = true := isP_yes (by omega) (by omega) (by omega) (by rw [hMM]; exact hom) (by rw [hNN, hMM]; exact hall.out)
            have hZr := Lib.hid hI.out.2.1
            have hRr := Lib.hid hI.out.2.2.1
            have hbr := Lib.hid hI.out.2.2.2.1
            have hu1 := HU.out.1
            have hd1 := HU.out.2
            clear hI hall
            subst hne
            go_wp2_with (first | (with_reducible refine wpList_loadB rfl 72 (.tmp 4) rfl (w.heap.size + 1 + 1) ?_ (rulesL j hs j (rowC ms)) 72 hRr.out d43 HU.out.1 HU.out.2 ?_ ?_) | (with_reducible refine wpList_storeB rfl 72 (.tmp 2) (.tmp 59) rfl (w.heap.size + 1) 0 (rulesL j hs j (rowC ms)) ?_ ?_ z43 72 hZr.out ?_ ?_ ?_ ?_))
            · rfl
            · rw [rulesL_len _ _ _ _ rfl]; exact isz43
            · rw [rulesL_len _ _ _ _ rfl]; decide
            · rw [rulesL_len _ _ _ _ rfl]; exact isz43
            · exact one_rules _ _ _ _ (one_row _)
            intro w5 hBx hKx
            rw [splice_all _ _ (by rw [rulesL_len _ _ _ _ rfl]; rfl)] at hBx
            go_wp2
            refine bodyPost_ret (results2 (a := 2) (k := 3) (t := 72) (p := ⟨w.heap.size + 1, 0, none⟩) (by kernel_rfl) rfl (HL43.out _ _ _ hBx.out (rulesL_len _ _ _ _ rfl)) rfl) rfl ⟨?_, ?_⟩
            · rw [hip]; rfl
            · exact hbr.out.trans (hKx.out.below (by omega))
    · have d3 : ((N : Int) != (M : Int)) = true := by simp; omega
      have hip : isP hs ms = false := isP_len (by omega)
      go_wp2_with (first | (go_at_call 74; refine (HW.out _).mono ?_; rintro e w' ⟨rfl, rfl⟩) | (with_reducible refine wpList_storeB rfl 72 (.tmp 2) (.tmp 24) rfl (w.heap.size + 1) 0 z43 ?_ ?_ z43 72 hZ2.out ?_ ?_ ?_ ?_))
      · rfl
      · rfl
      · rw [z43_len]; decide
      · exact isz43
      · intro v hv; simp [z43, z6l] at hv; rw [hv]; rfl
      intro w3 hBx hKx
      rw [splice_all _ _ rfl] at hBx
      go_wp2
      refine bodyPost_ret (results2 (a := 2) (k := 3) (t := 72) (p := ⟨w.heap.size + 1, 0, none⟩) (by kernel_rfl) rfl (HL43.out _ _ _ hBx.out rfl) rfl) rfl ⟨?_, ?_⟩
      · rw [hip]; rfl
      · exact hb2.out.trans (hKx.out.below (by omega))
  · rw [show (decide ((1 : Int) ≤ (M : Int)) && decide ((M : Int) ≤ 6)) = false by rw [← Bool.decide_and]; simp; omega] at HW
    have hip : isP hs ms = false := by
      rcases Nat.lt_or_ge M 1 with h | h
      · exact isP_low (by omega)
      · exact isP_high (by omega)
    go_wp2_with (first | (go_at_call 74; refine (HW.out _).mono ?_; rintro e w' ⟨rfl, rfl⟩) | (with_reducible refine wpList_storeB rfl 72 (.tmp 2) (.tmp 24) rfl (w.heap.size + 1) 0 z43 ?_ ?_ z43 72 hZ2.out ?_ ?_ ?_ ?_))
    · rfl
    · rfl
    · rw [z43_len]; decide
    · exact isz43
    · intro v hv; simp [z43, z6l] at hv; rw [hv]; rfl
    intro w3 hB3 hK3
    rw [splice_all _ _ rfl] at hB3
    go_wp2
    refine bodyPost_ret (results2 (a := 2) (k := 3) (t := 72) (p := ⟨w.heap.size + 1, 0, none⟩) (by kernel_rfl) rfl (HL43.out _ _ _ hB3.out rfl) rfl) rfl ⟨?_, ?_⟩
    · rw [hip]; rfl
    · exact hb2.out.trans (hK3.out.below (by omega))
end Go.Proofs.Ytngbddmbmkphcaa.Pv
namespace Go.Proofs.Ytngbddmbmkphcaa
open Go.RowKit
/-- The empty slice, where a place is asked beyond the end. -/
abbrev s0 : Value := .slice none 0 0
/-- A list of lists of the call's own: the row holds slices, each of the call's own, each in a block of its own. -/
def Own2 (w : World) (B : Nat) (v : Value) (vs : List Value) (xss : List (List Int)) : Prop :=
  vs.length = xss.length ∧ w.ownsRow B 23 1 v vs.length vs ∧ (∀ i, i < xss.length → Own w B (vs.getD i s0) (xss.getD i [])) ∧
    (∀ i j k, i < j → j < xss.length → (vs.getD i s0).ownBlock = some k → (vs.getD j s0).ownBlock ≠ some k) ∧ ∀ i k, i < xss.length → (vs.getD i s0).ownBlock = some k → v.ownBlock ≠ some k
theorem Own2.nil (w : World) (B : Nat) : Own2 w B (.slice none 0 0) [] [] := ⟨rfl, World.ownsRow_nil _ _ _ _, fun i h => by simp at h, fun i j k _ h => by simp at h, fun i k h => by simp at h⟩
theorem Own2.cases {w : World} {B : Nat} {v : Value} {vs : List Value} {xss : List (List Int)} (h : Own2 w B v vs xss) :
    (v = .slice none 0 0 ∧ xss = []) ∨ ∃ g cap, v = .slice (some ⟨g, 0, none⟩) xss.length cap ∧ B ≤ g ∧ g < w.heap.size ∧ xss.length ≤ 9223372036854775807 ∧
      (∀ i, i < xss.length → w.cell? ⟨g, i, none⟩ = some (vs.getD i s0)) ∧ ∀ i, w.frozen? ⟨g, i, none⟩ = false := by
  obtain ⟨hl, h0, _⟩ := h
  rcases h0.2 with ⟨rfl, hn⟩ | ⟨g, cap, cur, rfl, hB, hg, hnc, hcm, hcs, htake⟩
  · exact .inl ⟨rfl, List.eq_nil_of_length_eq_zero (by omega)⟩
  · refine .inr ⟨g, cap, by rw [hl], hB, (Array.getElem?_eq_some_iff.1 hg).1, by unfold maxLen at hcm; omega, fun i hi => ?_, fun i => h0.frozenAt i⟩
    rw [h0.cellAt i (by omega), List.getElem?_eq_getElem (by omega), List.getD_eq_getElem?_getD, List.getElem?_eq_getElem (by omega)]
    rfl
theorem Own2.below {w w' : World} {B : Nat} {v : Value} {vs : List Value} {xss : List (List Int)} (h : Own2 w B v vs xss) {C : Nat} (hb : Below C w w') (hC : w.heap.size ≤ C) : Own2 w' B v vs xss := by
  obtain ⟨hl, h0, h1, h2⟩ := h
  refine ⟨hl, ?_, fun i hi => (h1 i hi).below hb hC, h2⟩
  refine ⟨h0.1, ?_⟩
  rcases h0.2 with hn | ⟨g, cap, cur, hv, hg, hh, r⟩
  · exact .inl hn
  · exact .inr ⟨g, cap, cur, hv, hg, by rw [hb.block g (Nat.lt_of_lt_of_le (Array.getElem?_eq_some_iff.1 hh).1 hC)]; exact hh, r⟩
theorem Own2.drewN {w : World} {B : Nat} {v : Value} {vs : List Value} {xss : List (List Int)} (h : Own2 w B v vs xss) (k : Nat) : Own2 (w.drewN k) B v vs xss := h
theorem eq2_zero (a1 a2 : Option Addr) (c1 c2 : Nat) (w : World) : Calls Try.prog 54 #[.slice a1 0 c1, .slice a2 0 c2] w (Drew w) := by
  go_enter Try.func54, Try.ntmps54
  go_wp2
  refine wp_loop_rounds 1 ?_
  rw [rounds_succ]
  go_wp2
  go_ret
  exact ⟨0, rfl, rfl⟩
set_option maxHeartbeats 400000 in
theorem eq2_cells (b1 b2 c1 c2 N : Nat) (vs1 vs2 : List Value) (w : World) (hn : N ≤ 9223372036854775807)
    (h1 : ∀ i, i < N → w.cell? ⟨b1, i, none⟩ = some (vs1.getD i s0)) (h2 : ∀ i, i < N → w.cell? ⟨b2, i, none⟩ = some (vs2.getD i s0))
    (he : ∀ i q, i < N → Calls Try.prog 13 #[vs1.getD i s0, vs2.getD i s0] (w.drewN q) (Drew (w.drewN q))) :
    Calls Try.prog 54 #[.slice (some ⟨b1, 0, none⟩) N c1, .slice (some ⟨b2, 0, none⟩) N c2] w (Drew w) := by
  have H1 := Lib.hid h1
  have H2 := Lib.hid h2
  have HE := Lib.hid he
  clear h1 h2 he
  go_enter Try.func54, Try.ntmps54
  go_wp2
  go_loopw [5] (fun i wr => ∃ k q : Nat, k ≤ N ∧ i = .int .i64 k ∧ wr = w.drewN q) (fun i _ => N - (intOf i).toNat)
  case atStart => exact ⟨0, 0, Nat.zero_le _, rfl, rfl⟩
  case round =>
    obtain ⟨k, q, hk, rfl, rfl⟩ := hrel
    by_cases hlt : k < N
    · have g1 := H1.out k hlt
      have g2 := H2.out k hlt
      have ge := Lib.hid (fun n => (show Calls Try.prog 13 #[vs1.getD k s0, vs2.getD k s0] (w.drewN (q + n)) fun e w' => e = .returned (.bool true) ∧ ∃ m, w' = w.drewN (q + m) from
        (HE.out k (q + n) hlt).mono fun e w' ⟨m, h1, h2⟩ => ⟨h1, n + m, by rw [h2, World.drewN_drewN, Nat.add_assoc]⟩))
      generalize vs1.getD k s0 = u1 at *
      generalize vs2.getD k s0 = u2 at *
      go_wp2
      go_quiet (exact ge.out _)
      go_wp2
      go_roundw
      case rel => exact ⟨k + 1, _, by omega, by go_num, rfl⟩
      case measure => simp [intOf]; omega
    · go_wp2
      go_ret
      exact ⟨q, rfl, rfl⟩
theorem eq2_own {w : World} {B1 B2 : Nat} {v1 v2 : Value} {vs1 vs2 : List Value} {xss : List (List Int)} (h1 : Own2 w B1 v1 vs1 xss) (h2 : Own2 w B2 v2 vs2 xss) :
    Calls Try.prog 54 #[v1, v2] w (Drew w) := by
  rcases h1.cases with ⟨rfl, rfl⟩ | ⟨g1, c1, rfl, _, _, hm, hc1, _⟩
  · rcases h2.cases with ⟨rfl, _⟩ | ⟨g2, c2, rfl, _, _, _, hc2, _⟩
    · exact eq2_zero _ _ _ _ _
    · exact eq2_zero _ _ _ _ _
  · rcases h2.cases with ⟨rfl, rfl⟩ | ⟨g2, c2, rfl, _, _, _, hc2, _⟩
    · exact eq2_zero _ _ _ _ _
    · exact eq2_cells _ _ _ _ _ vs1 vs2 w hm hc1 hc2 (fun i q hi => eq_own ((h1.2.2.1 i hi).drewN q) ((h2.2.2.1 i hi).drewN q))
end Go.Proofs.Ytngbddmbmkphcaa
namespace Go.Proofs.Ytngbddmbmkphcaa
open Go.RowKit
/-- The marks from k on in lists so long. -/
def mk2 : Nat → List Nat → List (List Int)
  | _, [] => []
  | k, n :: ns => marks k n :: mk2 (k + n) ns
theorem mk2_length : ∀ (k : Nat) (ns : List Nat), (mk2 k ns).length = ns.length
  | _, [] => rfl
  | k, n :: ns => by rw [mk2, List.length_cons, List.length_cons, mk2_length]
theorem mk2_get : ∀ (k : Nat) (ns : List Nat) (j : Nat), j < ns.length → (mk2 k ns).getD j [] = marks (k + (ns.take j).sum) (ns.getD j 0)
  | k, [], j, h => by simp at h
  | k, n :: ns, 0, h => by simp [mk2]
  | k, n :: ns, j + 1, h => by
    have := mk2_get (k + n) ns j (by simpa using h)
    rw [mk2, List.getD_cons_succ, this]
    simp [Nat.add_assoc]
theorem sum_step (ns : List Nat) (j : Nat) (h : j < ns.length) : (ns.take (j + 1)).sum = (ns.take j).sum + ns.getD j 0 := by
  rw [List.take_succ_eq_append_getElem h, List.sum_append, List.getD_eq_getElem?_getD, List.getElem?_eq_getElem h]
  simp
theorem sum_take_le : ∀ (ns : List Nat) (j : Nat), (ns.take j).sum ≤ ns.sum
  | [], j => by simp
  | n :: ns, 0 => by simp
  | n :: ns, j + 1 => by
    have := sum_take_le ns j
    simp; omega
end Go.Proofs.Ytngbddmbmkphcaa
namespace Go.Proofs.Ytngbddmbmkphcaa
open Go.RowKit
theorem Own2.marked {w w' : World} {B j : Nat} {v : Value} {vs : List Value} {ys : List (List Int)} {zs : List Int} (h : Own2 w B v vs ys) (hj : j < ys.length) (ho : Own w' B (vs.getD j s0) zs)
    (hg : w.grownBy w' (vs.getD j s0).ownBlock) : Own2 w' B v vs (ys.set j zs) := by
  obtain ⟨hl, h0, h1, h2, h3⟩ := h
  refine ⟨by rw [List.length_set]; exact hl, ?_, fun i hi => ?_, fun i i' k hii hi' => h2 i i' k hii (by simpa using hi'), fun i k hi => h3 i k (by simpa using hi)⟩
  · refine World.ownsRow.kept h0 hg ?_
    cases hv : (vs.getD j s0).ownBlock with
    | none =>
      cases hv2 : v.ownBlock with
      | none => exact .inl rfl
      | some k => exact .inr (fun e => by cases e)
    | some k =>
      cases hv2 : v.ownBlock with
      | none => exact .inl rfl
      | some k2 => exact .inr (fun e => h3 j k hj hv (by rw [hv2]; exact e))
  · rw [List.length_set] at hi
    by_cases e : i = j
    · subst e
      have e2 : (ys.set i zs).getD i [] = zs := by rw [List.getD_eq_getElem?_getD, List.getElem?_set_self hi]; rfl
      rw [e2]
      exact ho
    · have e2 : (ys.set j zs).getD i [] = ys.getD i [] := by rw [List.getD_eq_getElem?_getD, List.getElem?_set_ne (fun h => e h.symm), ← List.getD_eq_getElem?_getD]
      rw [e2]
      refine (h1 i hi).kept hg fun k hk hne => ?_
      rcases Nat.lt_or_gt_of_ne e with hlt | hlt
      · exact h2 i j k hlt hj hk hne.symm
      · exact h2 j i k hlt hi hne.symm hk
theorem ext_getD (xs ys : List (List Int)) (hl : xs.length = ys.length) (h : ∀ i, i < xs.length → xs.getD i [] = ys.getD i []) : xs = ys := by
  refine List.ext_getElem hl fun i h1 h2 => ?_
  have := h i h1
  rwa [List.getD_eq_getElem?_getD, List.getElem?_eq_getElem h1, List.getD_eq_getElem?_getD, List.getElem?_eq_getElem h2] at this
/-- Some of the lists hold marks by now. -/
def Mid (k j : Nat) (ns : List Nat) (xss ys : List (List Int)) : Prop := ys.length = xss.length ∧ (∀ i, i < j → ys.getD i [] = (mk2 k ns).getD i []) ∧ ∀ i, j ≤ i → ys.getD i [] = xss.getD i []
theorem Mid.start (k : Nat) (ns : List Nat) (xss : List (List Int)) : Mid k 0 ns xss xss := ⟨rfl, fun i h => by omega, fun i _ => rfl⟩
theorem Mid.step {k j : Nat} {ns : List Nat} {xss ys : List (List Int)} (h : Mid k j ns xss ys) (hj : j < xss.length) (hn : ns.length = xss.length) :
    Mid k (j + 1) ns xss (ys.set j (marks (k + (ns.take j).sum) (ns.getD j 0))) := by
  obtain ⟨h0, h1, h2⟩ := h
  refine ⟨by rw [List.length_set]; exact h0, fun i hi => ?_, fun i hi => ?_⟩
  · by_cases e : i = j
    · subst e
      rw [List.getD_eq_getElem?_getD, List.getElem?_set_self (by omega), mk2_get k ns i (by omega)]
      rfl
    · rw [List.getD_eq_getElem?_getD, List.getElem?_set_ne (fun h => e h.symm), ← List.getD_eq_getElem?_getD]
      exact h1 i (by omega)
  · rw [List.getD_eq_getElem?_getD, List.getElem?_set_ne (by omega), ← List.getD_eq_getElem?_getD]
    exact h2 i (by omega)
theorem Mid.stop {k : Nat} {ns : List Nat} {xss ys : List (List Int)} (h : Mid k xss.length ns xss ys) (hn : ns.length = xss.length) : ys = mk2 k ns :=
  ext_getD _ _ (by rw [h.1, mk2_length, hn]) fun i hi => h.2.1 i (by rw [← h.1]; exact hi)
def Marked2 (B : Nat) (v : Value) (vs : List Value) (k : Nat) (ns : List Nat) (w : World) (e : Ending) (w' : World) : Prop := e = .returned (.int .i64 ((k + ns.sum : Nat) : Int)) ∧ Own2 w' B v vs (mk2 k ns) ∧ Below B w w' ∧ w.heap.size ≤ w'.heap.size
theorem mark2_zero (a : Option Addr) (c : Nat) (k : Int) (w : World) : Calls Try.prog 55 #[.slice a 0 c, .int .i64 k] w (Count k w) := by
  go_enter Try.func55, Try.ntmps55
  go_wp2
  refine wp_loop_rounds 1 ?_
  rw [rounds_succ]
  go_wp2
  go_ret
  exact ⟨rfl, rfl⟩
theorem row_cell {w : World} {B b N c j : Nat} {vs : List Value} {ys : List (List Int)} (h : Own2 w B (.slice (some ⟨b, 0, none⟩) N c) vs ys) (hl : ys.length = N) (hj : j < N) : w.cell? ⟨b, j, none⟩ = some (vs.getD j s0) := by
  rcases h.cases with ⟨h, _⟩ | ⟨g, cap, he, _, _, _, hc, _⟩
  · cases h
  · injection he with h1 h2 h3
    injection h1 with h1
    injection h1 with h1
    subst h1
    exact hc j (by omega)
set_option maxHeartbeats 800000 in
theorem mark2_cells (B b c k : Nat) (vs : List Value) (xss : List (List Int)) (w : World) (hk : k + (xss.map List.length).sum ≤ 9223372036854775807) (hB : B ≤ w.heap.size)
    (h : Own2 w B (.slice (some ⟨b, 0, none⟩) xss.length c) vs xss) (hm : xss.length ≤ 9223372036854775807) :
    Calls Try.prog 55 #[.slice (some ⟨b, 0, none⟩) xss.length c, .int .i64 k] w (Marked2 B (.slice (some ⟨b, 0, none⟩) xss.length c) vs k (xss.map List.length) w) := by
  have HH := Lib.hid h
  have hnl : (xss.map List.length).length = xss.length := by simp
  have HX := Lib.hid (show ∀ j, j < xss.length → (xss.map List.length).getD j 0 = (xss.getD j []).length from fun j hj => by
    rw [List.getD_eq_getElem?_getD, List.getElem?_map, List.getElem?_eq_getElem hj, List.getD_eq_getElem?_getD, List.getElem?_eq_getElem hj]; rfl)
  clear h
  generalize hns : xss.map List.length = ns at *
  clear hns
  have HS := Lib.hid (fun j (h : j < xss.length) => sum_step ns j (by omega))
  have HT := Lib.hid (fun j => sum_take_le ns j)
  have HA := Lib.hid (show (ns.take xss.length).sum = ns.sum by rw [List.take_of_length_le (by omega)])
  have HM := Lib.hid (fun j ys (h : Mid k j ns xss ys) (hj : j < xss.length) => h.step hj hnl)
  have HE := Lib.hid (fun ys (h : Mid k xss.length ns xss ys) => h.stop hnl)
  have H0 := Lib.hid (Mid.start k ns xss)
  go_enter Try.func55, Try.ntmps55
  go_wp2
  go_loopw [1, 5] (fun m i wr => ∃ (j r : Nat) (ys : List (List Int)), j ≤ xss.length ∧ i = .int .i64 j ∧ m = .int .i64 ((k + r : Nat) : Int) ∧ Hid (r = (ns.take j).sum) ∧ Hid (Mid k j ns xss ys) ∧ Hid (Own2 wr B (.slice (some ⟨b, 0, none⟩) xss.length c) vs ys) ∧ Below B w wr ∧ w.heap.size ≤ wr.heap.size) (fun _ i _ => xss.length - (intOf i).toNat)
  case atStart => exact ⟨0, 0, xss, Nat.zero_le _, rfl, rfl, Lib.hid (by simp), H0, HH, Below.refl _ _, Nat.le_refl _⟩
  case round =>
    obtain ⟨j, r, ys, hj, rfl, rfl, hr, hmid, how, hbw, hsz⟩ := hrel
    by_cases hlt : j < xss.length
    · have g1 : wr.cell? ⟨b, j, none⟩ = some (vs.getD j s0) := row_cell how.out hmid.out.1 hlt
      have ho : Own wr B (vs.getD j s0) (xss.getD j []) := by
        have := how.out.2.2.1 j (by rw [hmid.out.1]; exact hlt)
        rwa [hmid.out.2.2 j (Nat.le_refl _)] at this
      have hs := HS.out j hlt
      have hb := HT.out (j + 1)
      have hx := HX.out j hlt
      have hms := Lib.hid (HM.out j ys hmid.out hlt)
      have hjy : j < ys.length := by rw [hmid.out.1]; exact hlt
      have ge := Lib.hid (mark_own (k + r) ho (by have := hr.out; omega))
      have hwd := Lib.hid (fun w' zs (o : Own w' B (vs.getD j s0) zs) (g : wr.grownBy w' (vs.getD j s0).ownBlock) => how.out.marked hjy o g)
      have hbk := Lib.hid (ho.block)
      rw [← hx] at ge
      rw [← hr.out] at hms hs
      clear ho hx hjy
      generalize vs.getD j s0 = u1 at *
      generalize ns.getD j 0 = d at *
      go_wp2_with (go_at_call 18; refine ge.out.mono ?_; rintro e w' ⟨rfl, o1, gr⟩)
      go_roundw
      case rel => exact ⟨j + 1, r + d, _, by omega, by go_num, by rw [← Nat.add_assoc]; rfl, Lib.hid hs.symm, hms, Lib.hid (hwd.out _ _ o1 gr), hbw.grown gr (Nat.le_trans hB hsz) (fun q hq => (hbk.out q hq).1), Nat.le_trans hsz gr.size⟩
      case measure => simp [intOf]; omega
    · have ej : j = xss.length := by omega
      subst ej
      have hx := HA.out
      rw [← hr.out] at hx
      subst hx
      have hy := HE.out ys hmid.out
      subst hy
      have hw2 := how.out
      go_wp2
      go_ret
      exact ⟨rfl, how.out, hbw, hsz⟩
theorem mark2_own {w : World} {B : Nat} {v : Value} {vs : List Value} {xss : List (List Int)} (k : Nat) (h : Own2 w B v vs xss) (hk : k + (xss.map List.length).sum ≤ 9223372036854775807) (hB : B ≤ w.heap.size) :
    Calls Try.prog 55 #[v, .int .i64 k] w (Marked2 B v vs k (xss.map List.length) w) := by
  rcases h.cases with ⟨rfl, rfl⟩ | ⟨g, c, rfl, _, _, hm, _, _⟩
  · exact (mark2_zero none 0 k w).mono fun e w' ⟨he, hw⟩ => ⟨by rw [he]; simp, by rw [← hw]; exact h, by rw [← hw]; exact Below.refl _ _, by rw [← hw]; exact Nat.le_refl _⟩
  · exact mark2_cells B g c k vs xss w hk hB h hm
end Go.Proofs.Ytngbddmbmkphcaa
