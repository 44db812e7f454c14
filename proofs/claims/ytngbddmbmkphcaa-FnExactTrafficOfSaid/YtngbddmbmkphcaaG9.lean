/- A struct that is built of parts whose cells are lists: each part is spliced into the zero value. A fast memory inside a block, at any place in it: the contracts of its methods. -/
import Derived.Test.YtngbddmbmkphcaaG4
import Derived.Laws.Tables
import Derived.OrdersHeld
import Derived.Test.YtngbddmbmkphcaaG8
import Derived.Test.YtngbddmbmkphcaaG6
import Derived.Deep.RegionHeld3
namespace Go.Proofs.Ytngbddmbmkphcaa
open Go.RowKit
theorem fold_splice : ∀ (vs : List Value) (off k : Nat) (cells : Array Value), off + k + vs.length ≤ cells.size →
    ((vs.zipIdx k).foldl (fun cs x => cs.setIfInBounds (off + x.2) x.1) cells).toList = Go.splice cells.toList (off + k) vs
  | [], off, k, cells, _ => by simp [Go.splice]
  | v :: r, off, k, cells, h => by
    rw [List.length_cons] at h
    rw [List.zipIdx_cons, List.foldl_cons, fold_splice r off (k + 1) _ (by simp; omega), Array.toList_setIfInBounds]
    exact splice_cons cells.toList (off + k) v r (by simp; omega)
theorem fill_cons (place : Nat → Option (Nat × Nat)) (cells : List Value) (i : Nat) (v : Value) (rest : List (Nat × Value)) (off size : Nat) (vs : List Value) (hp : place i = some (off, size)) (hv : v.cells = vs.toArray) (hs : vs.length = size) (hl : off + size ≤ cells.length) :
    Instr.fill place cells.toArray ((i, v) :: rest) = Instr.fill place (Go.splice cells off vs).toArray rest := by
  have e := fold_splice vs off 0 cells.toArray (by simp; omega)
  rw [Instr.fill, hp]
  simp only [hv]
  rw [if_neg (by simp; omega)]
  congr 1
  apply Array.ext'
  rw [Nat.add_zero] at e
  simpa using e
def placesOf (P : Program) (d : TypeDesc) : Option (List (Nat × Nat)) :=
  match d with
  | .struct fs => fs.toList.mapM fun f => (P.info? f.type).map fun i => (f.offset, i.size)
  | _ => none
theorem builtS {P : Program} {t : TypeId} {places : List (Nat × Nat)} {zc : Array Value} {parts : List (Nat × Value)} {cells : Array Value} (hp : (P.underlying t).bind (placesOf P) = some places)
    (hz : (P.info? t).map (fun it => it.zero.map (·.cells)) = some (some zc)) (hf : Instr.fill (places.toArray[·]?) zc parts = some cells) : P.built t parts = some cells := by
  unfold Program.built
  cases hit : P.info? t with
  | none => rw [hit] at hz; simp at hz
  | some it =>
    rw [hit] at hz
    simp only [Option.map_some, Option.some.injEq] at hz
    cases hu : P.underlying t with
    | none => rw [hu] at hp; simp at hp
    | some d =>
      rw [hu] at hp
      simp only [Option.bind_some] at hp
      cases hzz : it.zero with
      | none => rw [hzz] at hz; simp at hz
      | some z =>
        rw [hzz] at hz
        simp only [Option.map_some, Option.some.injEq] at hz
        cases d with
        | struct fs =>
          have hp' : (fs.toList.mapM fun f => (P.info? f.type).map fun i => (f.offset, i.size)) = some places := hp
          simp only [hzz, hp', hz]
          exact hf
        | _ => simp [placesOf] at hp
theorem yieldsIf_build {P : Program} {ops : Array Oper} {S : World → Prop} {op : Oper} {a : Act} (hw : Region.wanted op (yielded ops a.tmps) = true) (t : TypeId) (parts : Array (Nat × Operand)) (ho : op.op = .build t parts) (cells : Array Value)
    (hb : P.built t (parts.map fun (i, x) => (i, a.eval x)).toList = some cells) : YieldsIf P ops S op (.agg cells) a :=
  .inl ⟨hw, fun w _ => by
    unfold execOp
    simp only [ho, Sem.run_bind, run_build w t _ cells hb, Result.andThen_ok]
    rfl⟩
end Go.Proofs.Ytngbddmbmkphcaa
namespace Go.Proofs.Ytngbddmbmkphcaa.Pv
open Go.RowKit
/-- At the place o of the cells cs there are rules, and behind them what is at each age. -/
def FmA (cs : List Value) (o : Nat) (rc : List Value) (k : Nat → Int) : Prop := (cs.drop o).take 43 = rc ∧ (cs.drop (o + 43)).take 6 = six6 k ∧ o + 49 ≤ cs.length
theorem FmA.rule {cs : List Value} {o : Nat} {rc : List Value} {k : Nat → Int} (h : FmA cs o rc k) (j : Nat) (hj : j < 43) : cs[o + j]? = rc[j]? := by
  rw [← h.1, List.getElem?_take_of_lt hj, List.getElem?_drop]
theorem FmA.con {cs : List Value} {o : Nat} {rc : List Value} {k : Nat → Int} (h : FmA cs o rc k) (j : Nat) (hj : j < 6) : cs[o + 43 + j]? = some (.int .i64 (k j)) := by
  have h2 := six6_get k j hj
  rw [← h.2.1, List.getElem?_take_of_lt hj, List.getElem?_drop] at h2
  exact h2
/-- Only the block b has been written, and new ones made. -/
structure Kept (b : Nat) (w w' : World) : Prop where
  os : w'.os = w.os
  tape : w'.tape = w.tape
  output : w'.output = w.output
  size : w.heap.size ≤ w'.heap.size
  block : ∀ i, i < w.heap.size → i ≠ b → w'.heap[i]? = w.heap[i]?
theorem Kept.of {b : Nat} {w w' : World} (h : Below w.heap.size w w') : Kept b w w' := ⟨h.os, h.tape, h.output, h.size, fun i hi _ => h.block i hi⟩
theorem Keep.kept {b : Nat} {w w' : World} (h : Keep b w w') : Kept b w w' := ⟨h.os, h.tape, h.output, Nat.le_of_eq h.size.symm, fun i _ hi => h.block i hi⟩
theorem Kept.refl (b : Nat) (w : World) : Kept b w w := ⟨rfl, rfl, rfl, Nat.le_refl _, fun _ _ _ => rfl⟩
theorem Kept.trans {b : Nat} {w w' w2 : World} (h : Kept b w w') (k : Kept b w' w2) : Kept b w w2 :=
  ⟨k.os.trans h.os, k.tape.trans h.tape, k.output.trans h.output, Nat.le_trans h.size k.size, fun i hi hb => (k.block i (Nat.lt_of_lt_of_le hi h.size) hb).trans (h.block i hi hb)⟩
theorem Kept.below {b B : Nat} {w w' : World} (h : Kept b w w') (hB : B ≤ b) (hw : B ≤ w.heap.size) : Below B w w' := ⟨h.os, h.tape, h.output, h.size, fun i hi => h.block i (by omega) (by omega)⟩
theorem Kept.blk {b c : Nat} {w w' : World} {cs : List Value} {t : TypeId} (h : Kept b w w') (hc : Blk w c cs t) (hne : c ≠ b) : Blk w' c cs t := (h.block c hc.lt hne).trans hc
theorem Kept.row {b : Nat} {w w' : World} {a : Option Addr} {xs : List Int} (h : Kept b w w') (hr : Row w a xs) (hne : ∀ c o, a = some ⟨c, o, none⟩ → c ≠ b) : Row w' a xs := fun j hj => by
  obtain ⟨c, o, e, h1, h2⟩ := hr j hj
  exact ⟨c, o, e, (World.cell?_of_block (w := w) (a := ⟨c, o + j, none⟩) (h.block c h2 (hne c o e))).trans h1, Nat.lt_of_lt_of_le h2 h.size⟩
theorem OwnW.kept1 {b B : Nat} {w w' : World} {v : Value} {xs : List Int} (h : OwnW w B v xs) (k : Kept b w w') (hne : v.ownBlock ≠ some b) : OwnW w' B v xs :=
  h.same fun c hc hlt => k.block c hlt (fun e => hne (by rw [hc, e]))
theorem Kept.far {b Z : Nat} {w w' w2 : World} (h : Kept b w w') (k : Keep Z w' w2) (hZ : w.heap.size ≤ Z) : Kept b w w2 :=
  ⟨k.os.trans h.os, k.tape.trans h.tape, k.output.trans h.output, by rw [k.size]; exact h.size, fun i hi hb => (k.block i (by omega)).trans (h.block i hi hb)⟩
/-- Whether a step with x replaces an address, and which. -/
def gonB (M : Nat) (k : Nat → Int) (x : Int) : Bool := !(hitB M k x || decide (k (M - 1) = -1))
def gonV (M : Nat) (k : Nat → Int) (x : Int) : Int := if gonB M k x then k (M - 1) else 0
def UseR (b o : Nat) (cs : List Value) (t : TypeId) (k' : Nat → Int) (v : Int) (g : Bool) (w : World) (e : Ending) (w' : World) : Prop :=
  e = .returned (.tuple #[.int .i64 v, .bool g]) ∧ Blk w' b (Go.splice cs (o + 43) (six6 k')) t ∧ Kept b w w'
theorem und6c : ∃ d, Try.prog.underlying 73 = some d ∧ d.isRow = true := und6
set_option maxRecDepth 100000 in
set_option maxHeartbeats 8000000 in
theorem fuse_i (hs : List (List Int)) (ms : List Int) (hok : isP hs ms = true) (b o : Nat) (cs : List Value) (t : TypeId) (k : Nat → Int) (x : Int) (w : World) (hb : Blk w b cs t) (hf : FmA cs o (rulC true ms.length hs ms) k) :
    Calls Try.prog 77 #[.pointer (some ⟨b, o, none⟩), .int .i64 x] w (UseR b o cs t (stN hs ms k x) (gonV ms.length k x) (gonB ms.length k x) w) := by
  obtain ⟨_, h6, _⟩ := isP_miss_ord hok
  have h1M : 1 ≤ ms.length := by unfold isP at hok; simp only [Bool.and_eq_true, decide_eq_true_eq] at hok; omega
  have HU := Lib.hid (fun w' => show Calls Try.prog 82 #[.agg (rulC true ms.length hs ms).toArray, .agg (six6 k).toArray, .int .i64 x] w' (RetB (.tuple #[.agg (six6 (stN hs ms k x)).toArray, .bool (hitB ms.length k x)]) w') from use_any hs ms hok k x w')
  have c0 : w.cell? ⟨b, o, none⟩ = some (.int .i64 (ms.length : Nat)) := by
    have := (hb.cell (o + 0)).trans (hf.rule 0 (by decide))
    exact this
  have c1 : w.cell? ⟨b, o + 43 + (ms.length - 1), none⟩ = some (.int .i64 (k (ms.length - 1))) := (hb.cell _).trans (hf.con _ (by omega))
  have hgv : gonV ms.length k x = if gonB ms.length k x then k (ms.length - 1) else 0 := rfl
  have hgb : gonB ms.length k x = !(hitB ms.length k x || decide (k (ms.length - 1) = -1)) := rfl
  have hL := rulC_len true ms.length hs ms
  obtain ⟨d43, hu43, hd43⟩ := und43
  have HU4 := Lib.hid (And.intro hu43 hd43)
  obtain ⟨d6, hu6, hd6⟩ := und6
  have HU6 := Lib.hid (And.intro hu6 hd6)
  clear hu43 hd43 hu6 hd6
  have HR1 := Lib.hid (fun (w9 : World) (h9 : Blk w9 b cs t) => (show w9.rangeAt b o (rulC true ms.length hs ms) from by have := h9.range o 43; rwa [hf.1] at this))
  have HR2 := Lib.hid (fun (w9 : World) (h9 : Blk w9 b cs t) => (show w9.rangeAt b (o + 43) (six6 k) from by have := h9.range (o + 43) 6; rwa [hf.2.1] at this))
  have hlen := hf.2.2
  clear hf
  generalize rulC true ms.length hs ms = rc at *
  generalize stN hs ms k x = k' at *
  generalize gonV ms.length k x = gv at *
  generalize gonB ms.length k x = gb at *
  generalize hitB ms.length k x = hit at *
  obtain ⟨m, hm⟩ : ∃ m, ms.length = m + 1 := ⟨ms.length - 1, by omega⟩
  rw [hm] at c0 c1 hgv hgb
  rw [Nat.add_sub_cancel] at c1 hgv hgb
  rw [show (((m + 1 : Nat)) : Int) = (m : Int) + 1 by omega] at c0
  have hm6 : (m : Int) < 6 := by omega
  clear hm h1M h6 hok
  generalize k m = old at *
  have HG := Lib.hid (And.intro hgv hgb)
  clear hgv hgb
  have hmz : 0 ≤ (m : Int) := by omega
  have hw1 : IntKind.i64.wrap ((m : Int) + 1 - 1) = (m : Int) := by rw [show (m : Int) + 1 - 1 = m by omega]; rw [IntKind.wrap_i64]; omega
  go_enter Try.func77, Try.ntmps77
  go_wp2
  go_quiet (fail)
  rename_i nq
  have hbq : Blk (w.drewN nq) b cs t := hb
  have Hq : Hid (Kept b w (w.drewN nq)) := Kept.of (below_drewN nq (Below.refl _ w))
  have hsz : (w.drewN nq).heap.size = w.heap.size := rfl
  obtain ⟨wq, hwq⟩ : ∃ wq, wq = w.drewN nq := ⟨_, rfl⟩
  rw [← hwq] at hbq Hq hsz ⊢
  clear hwq hb c0 c1
  have HSZ := Lib.hid hsz
  clear hsz
  go_wp2
  refine wp_region_noPanic ?_
  refine wp_region_held_drew (S := fun w' => Blk w' b cs t) (by kernel_rfl) hbq (fun hS => ?_)
  refine wpAnyH_take (i := 0) (oi := ⟨some 21, _, _, _, _, _⟩) (v := ?_) rfl (by kernel_rfl) (by kernel_rfl) (by kernel_rfl) (fun _ _ _ h => h) (Or.inl ⟨by rfl, ?_⟩) hS ?_
  rotate_left
  · intro w9 _
    go_simp
    try with_reducible rfl
  simp only [Act.put, List.setIfInBounds_toArray, List.set_cons_zero, List.set_cons_succ]
  refine wpAnyH_take (i := 1) (oi := ⟨some 22, _, _, _, _, _⟩) (v := ?_) rfl (by kernel_rfl) (by kernel_rfl) (by kernel_rfl) (fun _ _ _ h => h) (Or.inl ⟨by rfl, ?_⟩) hS ?_
  rotate_left
  · intro w9 _
    go_simp
    try with_reducible rfl
  simp only [Act.put, List.setIfInBounds_toArray, List.set_cons_zero, List.set_cons_succ]
  refine wpAnyH_take (i := 2) (oi := ⟨some 23, _, _, _, _, _⟩) (v := ?_) rfl (by kernel_rfl) (by kernel_rfl) (by kernel_rfl) (fun _ _ _ h => h) (Or.inl ⟨by rfl, ?_⟩) hS ?_
  rotate_left
  · intro w9 _
    go_simp
    try with_reducible rfl
  simp only [Act.put, List.setIfInBounds_toArray, List.set_cons_zero, List.set_cons_succ]
  refine wpAnyH_take (i := 4) (oi := ⟨some 25, _, _, _, _, _⟩) (v := ?_) rfl (by kernel_rfl) (by kernel_rfl) (by kernel_rfl) (fun _ _ _ h => h) (Or.inl ⟨by rfl, ?_⟩) hS ?_
  rotate_left
  · intro w9 _
    go_simp
    try with_reducible rfl
  simp only [Act.put, List.setIfInBounds_toArray, List.set_cons_zero, List.set_cons_succ]
  refine wpAnyH_take (i := 5) (oi := ⟨some 26, _, _, _, _, _⟩) (v := ?_) rfl (by kernel_rfl) (by kernel_rfl) (by kernel_rfl) (fun _ _ _ h => h) (Or.inl ⟨by rfl, ?_⟩) hS ?_
  rotate_left
  · intro w9 _
    go_simp
    try with_reducible rfl
  simp only [Act.put, List.setIfInBounds_toArray, List.set_cons_zero, List.set_cons_succ]
  refine wpAnyH_take (i := 6) (oi := ⟨some 27, _, _, _, _, _⟩) (v := ?_) rfl (by kernel_rfl) (by kernel_rfl) (by kernel_rfl) (fun _ _ _ h => h) (Or.inl ⟨by rfl, ?_⟩) hS ?_
  rotate_left
  · intro w9 _
    go_simp
    try with_reducible rfl
  simp only [Act.put, List.setIfInBounds_toArray, List.set_cons_zero, List.set_cons_succ]
  refine wpAnyH_take (i := 8) (oi := ⟨some 29, _, _, _, _, _⟩) (v := ?_) rfl (by kernel_rfl) (by kernel_rfl) (by kernel_rfl) (fun _ _ _ h => h) (Or.inl ⟨by rfl, ?_⟩) hS ?_
  rotate_left
  · intro w9 _
    go_simp
    try with_reducible rfl
  simp only [Act.put, List.setIfInBounds_toArray, List.set_cons_zero, List.set_cons_succ]
  refine wpAnyH_take (i := 3) (oi := ⟨some 24, _, _, _, _, _⟩) (v := .agg (rc).toArray) rfl (by kernel_rfl) (by kernel_rfl) (by kernel_rfl) (fun _ _ _ h => h) ?_ hS ?_
  · refine yieldsIf_load_mid ?_ 72 (.tmp 23) ?_ b o ?_ rc d43 ?_ HU4.out.1 HU4.out.2 (by rw [hL]; exact isz43)
    · rfl
    · rfl
    · rfl
    · intro w9 h9
      exact HR1.out w9 h9
  simp only [Act.put, List.setIfInBounds_toArray, List.set_cons_zero, List.set_cons_succ]
  refine wpAnyH_take (i := 7) (oi := ⟨some 28, _, _, _, _, _⟩) (v := .agg ((six6 k)).toArray) rfl (by kernel_rfl) (by kernel_rfl) (by kernel_rfl) (fun _ _ _ h => h) ?_ hS ?_
  · refine yieldsIf_load_mid ?_ 73 (.tmp 27) ?_ b (o + 43) ?_ (six6 k) d6 ?_ HU6.out.1 HU6.out.2 isz6c
    · rfl
    · rfl
    · rfl
    · intro w9 h9
      exact HR2.out w9 h9
  simp only [Act.put, List.setIfInBounds_toArray, List.set_cons_zero, List.set_cons_succ]
  have hlt := hbq.lt
  refine wpAnyH_ready (rs := [9, 13]) (by kernel_rfl) (by simp) ?_
  refine AllReadyH.cons (o := ⟨some 30, _, _, _, _, _⟩) rfl (fun K hK => ?_) (AllReadyH.cons (o := ⟨some 7, _, _, _, _, _⟩) rfl (fun K hK => ?_) AllReadyH.nil)
  · go_simp
    go_wp2_with (go_at_call 82; (with_reducible refine (HU.out _).mono ?_); rintro e w2 ⟨rfl, b2⟩)
    have bb2 : Below wq.heap.size wq w2 := drewB b2
    refine hK.out _ _ (hbq.below bb2 hlt) (fun hS4 => ?_)
    clear hK K hS b2
    try simp only [Act.put, List.setIfInBounds_toArray, List.set_cons_zero, List.set_cons_succ]
    refine wpAnyH_take (i := 10) (oi := ⟨some 20, _, _, _, _, _⟩) (v := ?_) rfl (by kernel_rfl) (by kernel_rfl) (by kernel_rfl) (fun _ _ _ h => h) (Or.inl ⟨by rfl, ?_⟩) hS4 ?_
    rotate_left
    · intro w9 _
      go_simp
      try with_reducible rfl
    simp only [Act.put, List.setIfInBounds_toArray, List.set_cons_zero, List.set_cons_succ]
    refine wpAnyH_take (i := 11) (oi := ⟨some 31, _, _, _, _, _⟩) (v := ?_) rfl (by kernel_rfl) (by kernel_rfl) (by kernel_rfl) (fun _ _ _ h => h) (Or.inl ⟨by rfl, ?_⟩) hS4 ?_
    rotate_left
    · intro w9 _
      go_simp
      try with_reducible rfl
    simp only [Act.put, List.setIfInBounds_toArray, List.set_cons_zero, List.set_cons_succ]
    refine wpAnyH_take (i := 12) (oi := ⟨some 32, _, _, _, _, _⟩) (v := ?_) rfl (by kernel_rfl) (by kernel_rfl) (by kernel_rfl) (fun _ _ _ h => h) (Or.inl ⟨by rfl, ?_⟩) hS4 ?_
    rotate_left
    · intro w9 _
      go_simp
      try with_reducible rfl
    simp only [Act.put, List.setIfInBounds_toArray, List.set_cons_zero, List.set_cons_succ]
    refine wpAnyH_ready (rs := [13]) (by kernel_rfl) (by simp) ?_
    refine AllReadyH.cons (o := ⟨some 7, _, _, _, _, _⟩) rfl (fun K hK => ?_) AllReadyH.nil
    go_simp
    have BZ : Blk (w2.alloc (.cells #[.int .i64 0, .int .i64 0, .int .i64 0, .int .i64 0, .int .i64 0, .int .i64 0] 73)) w2.heap.size z6l 73 := Blk.newAt w2 _ z6l _ rfl
    have hb3 := hS4.alloc (.cells #[.int .i64 0, .int .i64 0, .int .i64 0, .int .i64 0, .int .i64 0, .int .i64 0] 73)
    have hk3 : Kept b w (w2.alloc (.cells #[.int .i64 0, .int .i64 0, .int .i64 0, .int .i64 0, .int .i64 0, .int .i64 0] 73)) := Hq.out.trans (Kept.of (bb2.alloc bb2.size _))
    have hne : w2.heap.size ≠ b := by have := hS4.lt; omega
    have hZ : w.heap.size ≤ w2.heap.size := by have := bb2.size; have := HSZ.out; omega
    refine hK.out _ _ hb3 (fun hS5 => ?_)
    clear hK K hS4 Hq bb2
    generalize w2.heap.size = Z at *
    generalize w2.alloc (.cells #[.int .i64 0, .int .i64 0, .int .i64 0, .int .i64 0, .int .i64 0, .int .i64 0] 73) = w3 at *
    try simp only [Act.put, List.setIfInBounds_toArray, List.set_cons_zero, List.set_cons_succ]
    refine wpAnyH_ready (rs := [14]) (by kernel_rfl) (by simp) ?_
    refine AllReadyH.cons (o := ⟨none, _, _, _, _, _⟩) rfl (fun K hK => ?_) AllReadyH.nil
    rw [if_pos (by rfl)]
    refine wp_store_mid 73 (.tmp 7) (.tmp 31) rfl Z 0 (six6 k').toArray rfl rfl (BZ.there 0 6 (by decide)) isz6c (all_oneCell_toArray (one_six k')) ?_
    obtain ⟨w5, hw5⟩ : ∃ w5, w5 = w3.setCells Z 0 (six6 k').toArray.toList := ⟨_, rfl⟩
    rw [← hw5]
    have K5 : Keep Z w3 w5 := by rw [hw5]; exact keep_set Z _ _ _
    have T5 : Blk w5 Z (six6 k') 73 := by
      have := blk_set Z _ (six6 k') 0 _ _ BZ (show 0 + (six6 k').length ≤ z6l.length from Nat.le_refl 6)
      rw [splice_all z6l (six6 k') rfl] at this
      rw [hw5]; exact this
    have hb5 := K5.blk hb3 (by omega)
    have hk5 := Lib.hid (hk3.far K5 hZ)
    refine hK.out _ _ hb5 (fun hS7 => ?_)
    clear hK K hw5 K5 hk3 hb3 BZ hS5
    try simp only [Act.put, List.setIfInBounds_toArray, List.set_cons_zero, List.set_cons_succ]
    refine wpAnyH_take (i := 15) (oi := ⟨some 8, _, _, _, _, _⟩) (v := ?_) rfl (by kernel_rfl) (by kernel_rfl) (by kernel_rfl) (fun _ _ _ h => h) (Or.inl ⟨by rfl, ?_⟩) hS7 ?_
    rotate_left
    · intro w9 _
      go_simp
      try with_reducible rfl
    simp only [Act.put, List.setIfInBounds_toArray, List.set_cons_zero, List.set_cons_succ]
    refine wpAnyH_done (by kernel_rfl) ?_ _
    refine NoPanic.normal ?_
    clear hS7
    go_wp2_with (first | (with_reducible refine wpList_loadB rfl 73 (.tmp 7) rfl Z ?_ (six6 k') 73 T5 d6 HU6.out.1 HU6.out.2 ?_ ?_) | (with_reducible refine wpList_storeB rfl 73 (.tmp 36) (.tmp 34) rfl b (o + 43) (six6 k') ?_ ?_ cs t hb5 ?_ ?_ ?_ ?_))
    all_goals (first | exact isz6c | exact one_six k' | (show o + 43 + 6 ≤ cs.length; omega) | rfl | skip)
    intro w6 hB6 hK6
    have hk6 := Lib.hid (hk5.out.trans (Keep.kept hK6.out))
    clear hK6 hk5 hb5 T5
    obtain ⟨hgv, hgb⟩ := HG.out
    by_cases ho : old = -1
    · have ho' : (old == -1) = true := by rw [ho]; rfl
      rw [decide_eq_true ho, Bool.or_true] at hgb
      rw [hgb] at hgv
      have e1 : gb = false := hgb
      have e2 : gv = 0 := hgv
      clear hgb hgv
      subst e1 e2
      cases hit
      all_goals
        go_wp2
        go_ret2
        exact ⟨rfl, hB6.out, hk6.out⟩
    · have ho' : (old == -1) = false := by simp [ho]
      rw [decide_eq_false ho, Bool.or_false] at hgb
      rw [hgb] at hgv
      cases hit
      · have e1 : gb = true := hgb
        have e2 : gv = old := hgv
        clear hgb hgv
        subst e1 e2
        go_wp2
        go_ret2
        exact ⟨rfl, hB6.out, hk6.out⟩
      · have e1 : gb = false := hgb
        have e2 : gv = 0 := hgv
        clear hgb hgv
        subst e1 e2
        go_wp2
        go_ret2
        exact ⟨rfl, hB6.out, hk6.out⟩
  · go_simp
    have BZ : Blk (wq.alloc (.cells #[.int .i64 0, .int .i64 0, .int .i64 0, .int .i64 0, .int .i64 0, .int .i64 0] 73)).drew wq.heap.size z6l 73 := Blk.newAt wq _ z6l _ rfl
    have hb2 : Blk (wq.alloc (.cells #[.int .i64 0, .int .i64 0, .int .i64 0, .int .i64 0, .int .i64 0, .int .i64 0] 73)).drew b cs t := hbq.alloc _
    have hk2 : Kept b w (wq.alloc (.cells #[.int .i64 0, .int .i64 0, .int .i64 0, .int .i64 0, .int .i64 0, .int .i64 0] 73)).drew := Hq.out.trans (Kept.of ((Below.refl _ wq).alloc (Nat.le_refl _) _).drew)
    have hne : wq.heap.size ≠ b := by omega
    have hZ : w.heap.size ≤ wq.heap.size := by have := HSZ.out; omega
    refine hK.out _ _ hb2 (fun hS5 => ?_)
    clear hK K hS Hq
    generalize wq.heap.size = Z at *
    generalize (wq.alloc (.cells #[.int .i64 0, .int .i64 0, .int .i64 0, .int .i64 0, .int .i64 0, .int .i64 0] 73)).drew = w2 at *
    try simp only [Act.put, List.setIfInBounds_toArray, List.set_cons_zero, List.set_cons_succ]
    refine wpAnyH_ready (rs := [9]) (by kernel_rfl) (by simp) ?_
    refine AllReadyH.cons (o := ⟨some 30, _, _, _, _, _⟩) rfl (fun K hK => ?_) AllReadyH.nil
    go_simp
    go_wp2_with (go_at_call 82; (with_reducible refine (HU.out _).mono ?_); rintro e w3 ⟨rfl, b3⟩)
    have hb3 := hb2.below b3 hb2.lt
    have hk3 : Kept b w w3 := hk2.trans (Kept.of b3)
    have BZ := BZ.below b3 BZ.lt
    refine hK.out _ _ hb3 (fun hS6 => ?_)
    clear hK K hS5 b3 hb2 hk2
    try simp only [Act.put, List.setIfInBounds_toArray, List.set_cons_zero, List.set_cons_succ]
    refine wpAnyH_take (i := 10) (oi := ⟨some 20, _, _, _, _, _⟩) (v := ?_) rfl (by kernel_rfl) (by kernel_rfl) (by kernel_rfl) (fun _ _ _ h => h) (Or.inl ⟨by rfl, ?_⟩) hS6 ?_
    rotate_left
    · intro w9 _
      go_simp
      try with_reducible rfl
    simp only [Act.put, List.setIfInBounds_toArray, List.set_cons_zero, List.set_cons_succ]
    refine wpAnyH_take (i := 11) (oi := ⟨some 31, _, _, _, _, _⟩) (v := ?_) rfl (by kernel_rfl) (by kernel_rfl) (by kernel_rfl) (fun _ _ _ h => h) (Or.inl ⟨by rfl, ?_⟩) hS6 ?_
    rotate_left
    · intro w9 _
      go_simp
      try with_reducible rfl
    simp only [Act.put, List.setIfInBounds_toArray, List.set_cons_zero, List.set_cons_succ]
    refine wpAnyH_take (i := 12) (oi := ⟨some 32, _, _, _, _, _⟩) (v := ?_) rfl (by kernel_rfl) (by kernel_rfl) (by kernel_rfl) (fun _ _ _ h => h) (Or.inl ⟨by rfl, ?_⟩) hS6 ?_
    rotate_left
    · intro w9 _
      go_simp
      try with_reducible rfl
    simp only [Act.put, List.setIfInBounds_toArray, List.set_cons_zero, List.set_cons_succ]
    try simp only [Act.put, List.setIfInBounds_toArray, List.set_cons_zero, List.set_cons_succ]
    refine wpAnyH_ready (rs := [14]) (by kernel_rfl) (by simp) ?_
    refine AllReadyH.cons (o := ⟨none, _, _, _, _, _⟩) rfl (fun K hK => ?_) AllReadyH.nil
    rw [if_pos (by rfl)]
    refine wp_store_mid 73 (.tmp 7) (.tmp 31) rfl Z 0 (six6 k').toArray rfl rfl (BZ.there 0 6 (by decide)) isz6c (all_oneCell_toArray (one_six k')) ?_
    obtain ⟨w5, hw5⟩ : ∃ w5, w5 = w3.setCells Z 0 (six6 k').toArray.toList := ⟨_, rfl⟩
    rw [← hw5]
    have K5 : Keep Z w3 w5 := by rw [hw5]; exact keep_set Z _ _ _
    have T5 : Blk w5 Z (six6 k') 73 := by
      have := blk_set Z _ (six6 k') 0 _ _ BZ (show 0 + (six6 k').length ≤ z6l.length from Nat.le_refl 6)
      rw [splice_all z6l (six6 k') rfl] at this
      rw [hw5]; exact this
    have hb5 := K5.blk hb3 (by omega)
    have hk5 := Lib.hid (hk3.far K5 hZ)
    refine hK.out _ _ hb5 (fun hS7 => ?_)
    clear hK K hw5 K5 hk3 hb3 BZ hS6
    try simp only [Act.put, List.setIfInBounds_toArray, List.set_cons_zero, List.set_cons_succ]
    refine wpAnyH_take (i := 15) (oi := ⟨some 8, _, _, _, _, _⟩) (v := ?_) rfl (by kernel_rfl) (by kernel_rfl) (by kernel_rfl) (fun _ _ _ h => h) (Or.inl ⟨by rfl, ?_⟩) hS7 ?_
    rotate_left
    · intro w9 _
      go_simp
      try with_reducible rfl
    simp only [Act.put, List.setIfInBounds_toArray, List.set_cons_zero, List.set_cons_succ]
    refine wpAnyH_done (by kernel_rfl) ?_ _
    refine NoPanic.normal ?_
    clear hS7
    go_wp2_with (first | (with_reducible refine wpList_loadB rfl 73 (.tmp 7) rfl Z ?_ (six6 k') 73 T5 d6 HU6.out.1 HU6.out.2 ?_ ?_) | (with_reducible refine wpList_storeB rfl 73 (.tmp 36) (.tmp 34) rfl b (o + 43) (six6 k') ?_ ?_ cs t hb5 ?_ ?_ ?_ ?_))
    all_goals (first | exact isz6c | exact one_six k' | (show o + 43 + 6 ≤ cs.length; omega) | rfl | skip)
    intro w6 hB6 hK6
    have hk6 := Lib.hid (hk5.out.trans (Keep.kept hK6.out))
    clear hK6 hk5 hb5 T5
    obtain ⟨hgv, hgb⟩ := HG.out
    by_cases ho : old = -1
    · have ho' : (old == -1) = true := by rw [ho]; rfl
      rw [decide_eq_true ho, Bool.or_true] at hgb
      rw [hgb] at hgv
      have e1 : gb = false := hgb
      have e2 : gv = 0 := hgv
      clear hgb hgv
      subst e1 e2
      cases hit
      all_goals
        go_wp2
        go_ret2
        exact ⟨rfl, hB6.out, hk6.out⟩
    · have ho' : (old == -1) = false := by simp [ho]
      rw [decide_eq_false ho, Bool.or_false] at hgb
      rw [hgb] at hgv
      cases hit
      · have e1 : gb = true := hgb
        have e2 : gv = old := hgv
        clear hgb hgv
        subst e1 e2
        go_wp2
        go_ret2
        exact ⟨rfl, hB6.out, hk6.out⟩
      · have e1 : gb = false := hgb
        have e2 : gv = 0 := hgv
        clear hgb hgv
        subst e1 e2
        go_wp2
        go_ret2
        exact ⟨rfl, hB6.out, hk6.out⟩
/-! ### has, takeOut, list -/
theorem sixN_take (M : Nat) (h : M ≤ 6) (k : Nat → Int) : (sixN k).take M = rowL M k := by
  apply List.ext_getElem?
  intro i
  by_cases hi : i < M
  · rw [List.getElem?_take_of_lt hi]
    rcases below6 (show i < 6 by omega) with rfl | rfl | rfl | rfl | rfl | rfl <;> simp [sixN, rowL, hi]
  · rw [List.getElem?_eq_none (by simp [sixN]; omega), List.getElem?_eq_none (by simp [rowL]; omega)]
theorem hit_has (M : Nat) (k : Nat → Int) (x : Int) : (rowL M k).contains x = hitB M k x := by
  have hl : (rowL M k).length = M := by simp [rowL]
  unfold hitB
  cases h : (rowL M k).contains x
  · have h1 : x ∉ rowL M k := by simpa using h
    rw [decide_eq_false]
    intro h2
    exact h1 (List.idxOf_lt_length_iff.1 (by rw [hl]; exact h2))
  · have h1 : x ∈ rowL M k := by simpa using h
    have h2 := List.idxOf_lt_length_iff.2 h1
    rw [hl] at h2
    rw [decide_eq_true h2]
set_option maxRecDepth 100000 in
set_option maxHeartbeats 8000000 in
theorem fhas_i (M : Nat) (h1 : 1 ≤ M) (h6 : M ≤ 6) (b o : Nat) (cs : List Value) (t : TypeId) (rc : List Value) (k : Nat → Int) (x : Int) (w : World) (hrc : rc[0]? = some (.int .i64 (M : Nat))) (hb : Blk w b cs t) (hf : FmA cs o rc k) :
    Calls Try.prog 69 #[.pointer (some ⟨b, o, none⟩), .int .i64 x] w (fun e w' => e = .returned (.bool (hitB M k x)) ∧ ∃ q, w' = w.drewN q) := by
  have c0 : w.cell? ⟨b, o, none⟩ = some (.int .i64 (M : Nat)) := ((hb.cell (o + 0)).trans (hf.rule 0 (by decide))).trans hrc
  have HH := Lib.hid (fun (n : Nat) => (show Calls Try.prog 78 #[.slice (some ⟨b, o + 43, none⟩) M 6, .int .i64 x] (w.drewN n) (fun e w2 => e = .returned (.bool (hitB M k x)) ∧ ∃ m, w2 = w.drewN m) from by
    have h := Try.slices_has b (o + 43) M 6 (sixN k) x (w.drewN n) (by show M ≤ 6; exact h6) (by omega) (fun j hj => by
      have hj6 : j < 6 := hj
      rw [sixN_get k j hj6]
      exact (hb.cell _).trans (hf.con j hj6))
    rw [sixN_take M h6, hit_has] at h
    exact h.mono fun e w2 ⟨he, hw⟩ => ⟨he, n, hw⟩))
  have hM6 : (M : Int) ≤ 6 := by omega
  clear hb hf hrc
  generalize hitB M k x = r at *
  go_enter Try.func69, Try.ntmps69
  go_wp2
  go_quiet (exact HH.out _)
  go_wp2
  go_ret
  exact ⟨rfl, _, rfl⟩
theorem blk_set1 {w : World} {b j : Nat} {cs : List Value} {t : TypeId} (h : Blk w b cs t) (v : Value) : Blk (w.setCell ⟨b, j, none⟩ v) b (cs.set j v) t := by
  have := Go.heap_setCell_same w b j cs.toArray t v h
  unfold Blk
  rw [this]; simp
/-- Contents from which x has been taken out. -/
def outK (M : Nat) (k : Nat → Int) (x : Int) : Nat → Int := if hitB M k x then putA k ((rowL M k).idxOf x) (-1) else k
theorem splice_at (cs r : List Value) (p : Nat) (h : (cs.drop p).take r.length = r) (hl : p + r.length ≤ cs.length) (i : Nat) (hi : i < r.length) (v : Value) : Go.splice cs p (r.set i v) = cs.set (p + i) v := by
  have e2 : cs.drop p = r ++ cs.drop (p + r.length) := by
    have := List.take_append_drop r.length (cs.drop p)
    rw [h, List.drop_drop] at this
    exact this.symm
  have e : cs = cs.take p ++ (r ++ cs.drop (p + r.length)) := by rw [← e2, List.take_append_drop]
  have hp : (cs.take p).length = p := by simp; omega
  have h3 : cs.set (p + i) v = (cs.take p ++ (r ++ cs.drop (p + r.length))).set (p + i) v := by rw [← e]
  rw [h3, List.set_append_right _ _ (by omega), hp, Nat.add_sub_cancel_left, List.set_append_left _ _ hi]
  unfold Go.splice
  rw [List.length_set]
theorem splice_same (cs r : List Value) (p : Nat) (h : (cs.drop p).take r.length = r) : Go.splice cs p r = cs := by
  have e2 : cs.drop p = r ++ cs.drop (p + r.length) := by
    have := List.take_append_drop r.length (cs.drop p)
    rw [h, List.drop_drop] at this
    exact this.symm
  unfold Go.splice
  rw [← e2, List.take_append_drop]
theorem six6_putF (k : Nat → Int) (m : Nat) (h : m < 6) (x : Int) : six6 (putA k m x) = (six6 k).set m (.int .i64 x) := by
  rcases below6 h with rfl | rfl | rfl | rfl | rfl | rfl <;> rfl
def TakeR (b o : Nat) (cs : List Value) (t : TypeId) (k' : Nat → Int) (g : Bool) (w : World) (e : Ending) (w' : World) : Prop :=
  e = .returned (.bool g) ∧ Blk w' b (Go.splice cs (o + 43) (six6 k')) t ∧ Kept b w w'
set_option maxRecDepth 100000 in
set_option maxHeartbeats 8000000 in
theorem flist_i (M : Nat) (h1 : 1 ≤ M) (h6 : M ≤ 6) (b o : Nat) (cs : List Value) (t : TypeId) (rc : List Value) (k : Nat → Int) (w : World) (hrc : rc[0]? = some (.int .i64 (M : Nat))) (hb : Blk w b cs t) (hf : FmA cs o rc k) :
    Calls Try.prog 56 #[.pointer (some ⟨b, o, none⟩)] w (fun e w' => ∃ v, e = .returned v ∧ OwnW w' w.heap.size v (rowL M k) ∧ Below w.heap.size w w') := by
  have c0 : w.cell? ⟨b, o, none⟩ = some (.int .i64 (M : Nat)) := ((hb.cell (o + 0)).trans (hf.rule 0 (by decide))).trans hrc
  have k0 : w.cell? ⟨b, o + 43, none⟩ = some (.int .i64 (k 0)) := (hb.cell (o + 43 + 0)).trans (hf.con 0 (by decide))
  have k1 : w.cell? ⟨b, o + 43 + 1, none⟩ = some (.int .i64 (k 1)) := (hb.cell _).trans (hf.con 1 (by decide))
  have k2 : w.cell? ⟨b, o + 43 + 2, none⟩ = some (.int .i64 (k 2)) := (hb.cell _).trans (hf.con 2 (by decide))
  have k3 : w.cell? ⟨b, o + 43 + 3, none⟩ = some (.int .i64 (k 3)) := (hb.cell _).trans (hf.con 3 (by decide))
  have k4 : w.cell? ⟨b, o + 43 + 4, none⟩ = some (.int .i64 (k 4)) := (hb.cell _).trans (hf.con 4 (by decide))
  have k5 : w.cell? ⟨b, o + 43 + 5, none⟩ = some (.int .i64 (k 5)) := (hb.cell _).trans (hf.con 5 (by decide))
  have hbl := hb.lt
  have HS := Lib.hid (fun (w9 : World) (bb : Below w.drew.heap.size w.drew w9) => (show w9.cell? ⟨b, o, none⟩ = some (.int .i64 (M : Nat)) ∧ w9.cell? ⟨b, o + 43, none⟩ = some (.int .i64 (k 0)) ∧ w9.cell? ⟨b, o + 43 + 1, none⟩ = some (.int .i64 (k 1)) ∧ w9.cell? ⟨b, o + 43 + 2, none⟩ = some (.int .i64 (k 2)) ∧ w9.cell? ⟨b, o + 43 + 3, none⟩ = some (.int .i64 (k 3)) ∧ w9.cell? ⟨b, o + 43 + 4, none⟩ = some (.int .i64 (k 4)) ∧ w9.cell? ⟨b, o + 43 + 5, none⟩ = some (.int .i64 (k 5)) from by
    have hb2 : Below w.heap.size w w9 := drewB bb
    exact ⟨(hb2.cell (p := ⟨b, o, none⟩) hbl).trans c0, (hb2.cell (p := ⟨b, o + 43, none⟩) hbl).trans k0, (hb2.cell (p := ⟨b, o + 43 + 1, none⟩) hbl).trans k1, (hb2.cell (p := ⟨b, o + 43 + 2, none⟩) hbl).trans k2, (hb2.cell (p := ⟨b, o + 43 + 3, none⟩) hbl).trans k3, (hb2.cell (p := ⟨b, o + 43 + 4, none⟩) hbl).trans k4, (hb2.cell (p := ⟨b, o + 43 + 5, none⟩) hbl).trans k5⟩))
  have HF := Lib.hid (fun (w' : World) => (show Calls Try.prog 71 #[.agg #[.int .i64 (k 0), .int .i64 (k 1), .int .i64 (k 2), .int .i64 (k 3), .int .i64 (k 4), .int .i64 (k 5)], .int .i64 ((M : Nat) : Int)] w' (fun e' w9 => ∃ v', e' = .returned v' ∧ OwnW w9 w'.heap.size v' (rowL M k) ∧ Below w'.heap.size w' w9) from
    (first_i M h1 h6 _ _ _ _ _ _ w').mono fun e w9 ⟨he, hw⟩ => ⟨_, he, by rw [← hw]; exact first_row M h6 k w' 68, by rw [← hw]; exact (Below.refl _ _).alloc (Nat.le_refl _) _⟩))
  clear hb hf hrc
  generalize rowL M k = R at *
  generalize k 0 = x0 at *
  generalize k 1 = x1 at *
  generalize k 2 = x2 at *
  generalize k 3 = x3 at *
  generalize k 4 = x4 at *
  generalize k 5 = x5 at *
  go_enter Try.func56, Try.ntmps56
  go_wp2
  go_region_held3 (fun w9 => w9.cell? ⟨b, o, none⟩ = some (.int .i64 (M : Nat)) ∧ w9.cell? ⟨b, o + 43, none⟩ = some (.int .i64 x0) ∧ w9.cell? ⟨b, o + 43 + 1, none⟩ = some (.int .i64 x1) ∧ w9.cell? ⟨b, o + 43 + 2, none⟩ = some (.int .i64 x2) ∧ w9.cell? ⟨b, o + 43 + 3, none⟩ = some (.int .i64 x3) ∧ w9.cell? ⟨b, o + 43 + 4, none⟩ = some (.int .i64 x4) ∧ w9.cell? ⟨b, o + 43 + 5, none⟩ = some (.int .i64 x5)) (first | exact ⟨c0, k0, k1, k2, k3, k4, k5⟩ | exact HS.out _ (by assumption)) (first | (go_at_call 71; (with_reducible refine (HF.out _).mono ?_); rintro e w2 ⟨v2, rfl, o2, b2⟩))
  all_goals
    have hO := Lib.hid o2
    have hB := Lib.hid (drewB b2)
    clear o2 b2
    go_wp2
    go_ret
    exact ⟨_, rfl, hO.out, hB.out⟩
/-! ### emptyMemory -/
def z49 : List Value := z43 ++ z6l
theorem isz49 : (Try.prog.info? 75).map (·.size) = some 49 := by kernel_rfl
theorem und49 : ∃ d, Try.prog.underlying 75 = some d ∧ d.isRow = true := by
  cases h : Try.prog.underlying 75 with
  | none => exact absurd h (by decide +kernel)
  | some d =>
    refine ⟨d, rfl, ?_⟩
    have e : (Try.prog.underlying 75).map (fun d => d.isRow) = some true := by kernel_rfl
    rw [h] at e
    simpa using e
theorem places49 : (Try.prog.underlying 75).bind (placesOf Try.prog) = some [(0, 43), (43, 6)] := by kernel_rfl
theorem zero49 : (Try.prog.info? 75).map (fun it => it.zero.map (·.cells)) = some (some z49.toArray) := by kernel_rfl
theorem splice_two (A B : List Value) (a b : List Value) (ha : a.length = A.length) (hb : b.length = B.length) : Go.splice (Go.splice (A ++ B) 0 a) A.length b = a ++ b := by
  have h1 : Go.splice (A ++ B) 0 a = a ++ B := by
    unfold Go.splice
    rw [Nat.zero_add, ha, List.drop_left]; simp
  rw [h1]
  unfold Go.splice
  rw [← ha, List.take_left, hb, List.drop_of_length_le (by simp [hb])]; simp
theorem built49 (rc : List Value) (hl : rc.length = 43) (k : Nat → Int) : Try.prog.built 75 [(0, .agg rc.toArray), (1, .agg (six6 k).toArray)] = some (rc ++ six6 k).toArray := by
  refine builtS places49 zero49 ?_
  rw [fill_cons _ z49 0 _ _ 0 43 rc rfl rfl hl (by decide), fill_cons _ _ 1 _ _ 43 6 (six6 k) rfl rfl rfl (by
    unfold Go.splice
    simp [hl, z49, z43, z6l])]
  have h := splice_two z43 z6l rc (six6 k) hl rfl
  rw [show Go.splice (Go.splice z49 0 rc) 43 (six6 k) = rc ++ six6 k from h]
  rfl
set_option maxRecDepth 100000 in
set_option maxHeartbeats 8000000 in
theorem emem_i {v : Value} {hs : List (List Int)} {ms : List Int} {w : World} (h : RdP w v hs ms) :
    Calls Try.prog 49 #[v] w (RetB (.tuple #[.agg (rulC (isP hs ms) ms.length hs ms ++ six6 (fun _ => -1)).toArray, .bool (isP hs ms)]) w) := by
  obtain ⟨d43, hu43, hd43⟩ := und43
  have HU4 := Lib.hid (And.intro hu43 hd43)
  obtain ⟨d49, hu49, hd49⟩ := und49
  have HL49 := Lib.hid (fun (w' : World) (b : Nat) (cs : List Value) (h : Blk w' b cs 75) (hc : cs.length = 49) => Blk.loadVar h 75 d49 hu49 hd49 (by rw [hc]; exact isz49))
  clear hu43 hd43 hu49 hd49
  obtain ⟨a, c, a', c', rfl, h1, h2, h3, h4, h5⟩ := h
  obtain ⟨W0, hW0⟩ : ∃ W0, W0 = (w.alloc (.cells #[.slice a hs.length c, .slice a' ms.length c'] 33)).alloc (.cells z49.toArray 75) := ⟨_, rfl⟩
  have b0 : Below w.heap.size w W0 := by rw [hW0]; exact ((Below.refl _ w).alloc (Nat.le_refl _) _).alloc (by simp) _
  have BR : Blk W0 (w.heap.size + 1) z49 75 := by rw [hW0]; exact Blk.newAt _ _ z49 _ (by simp)
  have HR := Lib.hid (rules_any (w := W0) ⟨a, c, a', c', rfl, h1.below b0, h2, h3.below b0, h4, h5⟩)
  unfold RulR at HR
  have HL := Lib.hid (rulC_len (isP hs ms) ms.length hs ms)
  have H1 := Lib.hid (one_rulC (isP hs ms) ms.length hs ms)
  have HE := Lib.hid (fun w' => show Calls Try.prog 64 #[] w' (RetB (.agg (six6 (fun _ => -1)).toArray) w') from empty6_i w')
  clear h1 h3 h5
  have HBD := Lib.hid (built49 (rulC (isP hs ms) ms.length hs ms) HL.out (fun _ => -1))
  have HF := Lib.hid (show (rulC (isP hs ms) ms.length hs ms ++ six6 (fun _ => -1)).length = 49 by rw [List.length_append, HL.out]; rfl)
  have HO := Lib.hid (show ∀ x ∈ rulC (isP hs ms) ms.length hs ms ++ six6 (fun _ => -1), x.oneCell' = true from fun x hx => by rcases List.mem_append.1 hx with h | h; exact H1.out x h; exact one_six _ x h)
  generalize rulC (isP hs ms) ms.length hs ms = rc at *
  generalize isP hs ms = r at *
  generalize hs.length = N at *
  generalize ms.length = M at *
  obtain ⟨EC, hEC⟩ : ∃ EC, EC = six6 (fun _ => -1) := ⟨_, rfl⟩
  rw [← hEC] at HE HBD HF HO ⊢
  clear hEC
  go_enter Try.func49, Try.ntmps49
  go_wp2_with fail
  rw [hW0] at HR
  refine HR.out.mono ?_; rintro e w1 ⟨rfl, b1⟩
  rw [← hW0] at b1
  have BR1 := BR.below b1 BR.lt
  have B1 := Lib.hid (bt b0 b1)
  have hs1 : w.heap.size + 1 < w1.heap.size := BR1.lt
  clear b0 b1 hW0 HR BR
  go_wp2_with (with_reducible refine wpList_storeB rfl 72 (.tmp 4) (.tmp 9) rfl w1.heap.size 0 rc ?_ ?_ z43 72 ?_ ?_ ?_ ?_ ?_)
  all_goals (first | exact Blk.newAt w1 _ z43 _ rfl | (rw [HL.out]; decide) | (rw [HL.out]; exact isz43) | exact H1.out | rfl | skip)
  intro w2 hB2 hK2
  rw [splice_all _ _ (by rw [HL.out]; rfl)] at hB2
  have hX := hB2.out
  have B12 : Below w1.heap.size w1 w2 := ((Below.refl _ w1).alloc (Nat.le_refl _) _).trans (hK2.out.below (Nat.le_refl _))
  have BR2 := Lib.hid (BR1.below B12 hs1)
  have B2 := Lib.hid (bt B1.out B12)
  clear hB2 hK2 BR1 B1
  generalize w1.heap.size = X at *
  go_wp2
  refine wp_region_noPanic ?_
  refine wp_region_held_drew (S := fun w' => Blk w' X rc 72) (by kernel_rfl) hX (fun hS => ?_)
  refine wpAnyH_take (i := 3) (oi := ⟨some 14, _, _, _, _, _⟩) (v := ?_) rfl (by kernel_rfl) (by kernel_rfl) (by kernel_rfl) (fun _ _ _ h => h) (Or.inl ⟨by rfl, ?_⟩) hS ?_
  rotate_left
  · intro w9 _
    go_simp
    try with_reducible rfl
  simp only [Act.put, List.setIfInBounds_toArray, List.set_cons_zero, List.set_cons_succ]
  refine wpAnyH_take (i := 0) (oi := ⟨some 11, _, _, _, _, _⟩) (v := .agg (rc).toArray) rfl (by kernel_rfl) (by kernel_rfl) (by kernel_rfl) (fun _ _ _ h => h) ?_ hS ?_
  · refine yieldsIf_load_mid ?_ 72 (.tmp 4) ?_ X 0 ?_ rc d43 ?_ HU4.out.1 HU4.out.2 (by rw [HL.out]; exact isz43)
    · rfl
    · rfl
    · rfl
    · intro w9 h9
      exact (by have := h9.range 0 rc.length; rw [List.drop_zero, List.take_length] at this; exact this)
  simp only [Act.put, List.setIfInBounds_toArray, List.set_cons_zero, List.set_cons_succ]
  refine wpAnyH_ready (rs := [1]) (by kernel_rfl) (by simp) ?_
  refine AllReadyH.cons (o := ⟨some 12, _, _, _, _, _⟩) rfl (fun K hK => ?_) AllReadyH.nil
  go_simp
  go_wp2_with (go_at_call 64; (with_reducible refine (HE.out _).mono ?_); rintro e w3 ⟨rfl, b3⟩)
  have b23 : Below w2.heap.size w2 w3 := drewB b3
  refine hK.out _ _ (hX.below b23 hX.lt) (fun hS4 => ?_)
  clear hK K hS b3
  try simp only [Act.put, List.setIfInBounds_toArray, List.set_cons_zero, List.set_cons_succ]
  refine wpAnyH_take (i := 2) (oi := ⟨some 13, _, _, _, _, _⟩) (v := .agg (rc ++ EC).toArray) rfl (by kernel_rfl) (by kernel_rfl) (by kernel_rfl) (fun _ _ _ h => h) ?_ hS4 ?_
  · exact yieldsIf_build rfl 75 #[(0, .tmp 11), (1, .tmp 12)] rfl _ (by simpa [Act.eval] using HBD.out)
  try simp only [Act.put, List.setIfInBounds_toArray, List.set_cons_zero, List.set_cons_succ]
  have BR3 := BR2.out.below b23 BR2.out.lt
  have B3 := Lib.hid (bt B2.out b23)
  refine wpAnyH_ready (rs := [4]) (by kernel_rfl) (by simp) ?_
  refine AllReadyH.cons (o := ⟨none, _, _, _, _, _⟩) rfl (fun K hK => ?_) AllReadyH.nil
  rw [if_pos (by rfl)]
  refine wp_store_mid 75 (.tmp 2) (.tmp 13) rfl (w.heap.size + 1) 0 (rc ++ EC).toArray rfl rfl (BR3.there 0 _ (by rw [List.size_toArray, HF.out]; decide)) (by rw [List.size_toArray, HF.out]; exact isz49) (all_oneCell_toArray HO.out) ?_
  obtain ⟨w5, hw5⟩ : ∃ w5, w5 = w3.setCells (w.heap.size + 1) 0 (rc ++ EC).toArray.toList := ⟨_, rfl⟩
  rw [← hw5]
  have K5 : Keep (w.heap.size + 1) w3 w5 := by rw [hw5]; exact keep_set _ _ _ _
  have T5 : Blk w5 (w.heap.size + 1) (rc ++ EC) 75 := by
    have := blk_set (w.heap.size + 1) _ (rc ++ EC) 0 _ _ BR3 (by rw [HF.out]; decide)
    rw [splice_all _ _ (by rw [HF.out]; rfl)] at this
    rw [hw5]; exact this
  refine hK.out _ _ (K5.blk hS4 (by omega)) (fun hS7 => ?_)
  have B5 := Lib.hid (B3.out.trans (K5.below (by omega)))
  clear hK K hw5 K5 BR3 hS4 B3
  try simp only [Act.put, List.setIfInBounds_toArray, List.set_cons_zero, List.set_cons_succ]
  refine wpAnyH_take (i := 5) (oi := ⟨some 3, _, _, _, _, _⟩) (v := ?_) rfl (by kernel_rfl) (by kernel_rfl) (by kernel_rfl) (fun _ _ _ h => h) (Or.inl ⟨by rfl, ?_⟩) hS7 ?_
  rotate_left
  · intro w9 _
    go_simp
    try with_reducible rfl
  simp only [Act.put, List.setIfInBounds_toArray, List.set_cons_zero, List.set_cons_succ]
  refine wpAnyH_done (by kernel_rfl) ?_ _
  refine NoPanic.normal ?_
  clear hS7
  go_wp2
  refine bodyPost_ret (results2 (a := 2) (k := 3) (t := 75) (p := ⟨w.heap.size + 1, 0, none⟩) (by kernel_rfl) rfl (HL49.out _ _ _ T5 HF.out) rfl) rfl ⟨rfl, B5.out⟩
end Go.Proofs.Ytngbddmbmkphcaa.Pv
