/- The model's run of a cache. -/
import Derived.Test.YtngbddmbmkphcaaG15
namespace Go.Proofs.Ytngbddmbmkphcaa.Pv
open Go.RowKit Ac Tr
theorem has_hitM (M : Nat) (k : Nat → Int) (x : Int) : (rowL M k).contains x = hitB M k x := by
  unfold hitB
  rw [List.contains_eq_mem]
  by_cases h : x ∈ rowL M k
  · have := List.idxOf_lt_length_of_mem h
    rw [rowL_len] at this
    rw [decide_eq_true h, decide_eq_true this]
  · have := List.idxOf_eq_length h
    rw [rowL_len] at this
    rw [decide_eq_false h, decide_eq_false (by omega)]
theorem has_ownM {w : World} {B M : Nat} {k : Nat → Int} {v : Value} (h : Own w B v (rowL M k)) (hM : M ≤ 6) (x : Int) : Calls Try.prog 43 #[v, .int .i64 x] w (Bl (hitB M k x) w) := by
  obtain ⟨a, c, rfl, _, _, hr⟩ := h.rd
  rw [← has_hitM]
  exact Tr.has_s a c _ x w (by rw [rowL_len]; omega) hr
theorem step_appJ {ops : Array Oper} {o : Oper} {a : Act} {K : Act → World → Prop} {Q : Exit → Act → World → Prop} {E : Prop} (wr : World) (hgd : o.guard = none) (s x : Operand)
    (ho : o.op = .call { callee := .builtin .append, args := #[s, x], argTypes := #[23, 23] })
    (B : Nat) (v : Value) (xs : List Int) (u : Int) (hs : a.eval s = v) (hx : a.eval x = .slice (some ⟨wr.heap.size, 0, none⟩) 1 1) (hown : Own wr B v xs)
    (hlen : xs.length + 1 ≤ 1000000000) (hB : B ≤ wr.heap.size)
    (h : ∀ g cap w', Own w' B (.slice (some ⟨g, 0, none⟩) (xs.length + 1) cap) (xs ++ [u]) → Below B wr w' → (∀ b, b < wr.heap.size → v.ownBlock ≠ some b → w'.heap[b]? = wr.heap[b]?) → (v.ownBlock = some g ∨ wr.heap.size ≤ g) → K (a.put o.dst (.slice (some ⟨g, 0, none⟩) (xs.length + 1) cap)) w') :
    if Region.wanted o (yielded ops a.tmps) = true then Oper.wp Try.prog o a (wr.alloc (.cells #[.int .i64 u] 2)) K Q else E := by
  obtain ⟨i0, hi, hz0, hz1, hz2⟩ := info_parts infoI
  have hsz : (wr.alloc (.cells #[.int .i64 u] 2)).heap.size = wr.heap.size + 1 := Array.size_push _
  refine step_append_lies _ hgd s x 23 ho B 2 i0 (.int .i64 0) 1 8 Try.underlying23 hi hz0 hz1 hz2 rfl (by decide) v xs.length (xs.map (Value.int .i64)) hs (World.ownsRow.alloc hown _)
    ⟨wr.heap.size, 0, none⟩ 1 1 [.int .i64 u] hx rfl (cell_one_new _ _ _) ?_ (by decide) ?_ ?_ ?_ _ rfl ?_
  · intro u' hu'; simp at hu'; subst hu'; rfl
  · unfold maxLen; omega
  · omega
  · omega
  · intro g cap w' hrow hgrow hat _
    have hO : Own w' B (.slice (some ⟨g, 0, none⟩) (xs.length + 1) cap) (xs ++ [u]) := by
      show World.ownsRow _ _ _ _ _ (xs ++ [u]).length _
      rw [List.length_append, List.map_append]
      exact hrow
    refine h g cap w' hO (((Below.refl B wr).alloc hB _).grown hgrow (by omega) (fun k hk => (Own.block hown k hk).1)) (fun b hb hne => (hgrow.block b (by omega) (fun e => hne e.symm)).trans (Below.heap_alloc wr _ b hb)) ?_
    rcases hat with h1 | h1
    · exact .inl h1
    · exact .inr (by omega)
theorem Md.wg {M B r : Nat} {x : Nat → Value} {S : CaS} {ls : List Int} {w0 w : World} (h : Md M B r x S ls w0 w) {g c : Nat} (e : x 0 = .slice (some ⟨g, 0, none⟩) 64 c) (a : Nat) (ha : a < 64) : w.cell? ⟨g, a, none⟩ = some (.int .i64 (S.ws.getD a 0)) ∧ w.frozen? ⟨g, a, none⟩ = false ∧
    ∀ u, Md M B r x { S with ws := S.ws.set a u } ls w0 (w.setCell ⟨g, a, none⟩ (.int .i64 u)) := by
  obtain ⟨g', c', e', _, h1, h2, h3⟩ := h.w a ha
  rw [e] at e'
  injection e' with e1
  injection e1 with e1
  injection e1 with e1
  subst e1
  exact ⟨h1, h2, h3⟩
theorem Md.cg {M B r : Nat} {x : Nat → Value} {S : CaS} {ls : List Int} {w0 w : World} (h : Md M B r x S ls w0 w) {g c : Nat} (e : x 1 = .slice (some ⟨g, 0, none⟩) 64 c) (a : Nat) (ha : a < 64) : w.cell? ⟨g, a, none⟩ = some (.int .i64 (S.cs.getD a 0)) ∧ w.frozen? ⟨g, a, none⟩ = false ∧
    ∀ u, Md M B r x { S with cs := S.cs.set a u } ls w0 (w.setCell ⟨g, a, none⟩ (.int .i64 u)) := by
  obtain ⟨g', c', e', _, h1, h2, h3⟩ := h.c a ha
  rw [e] at e'
  injection e' with e1
  injection e1 with e1
  injection e1 with e1
  subst e1
  exact ⟨h1, h2, h3⟩
theorem Md.dg {M B r : Nat} {x : Nat → Value} {S : CaS} {ls : List Int} {w0 w : World} (h : Md M B r x S ls w0 w) {g c : Nat} (e : x 2 = .slice (some ⟨g, 0, none⟩) 16 c) (a : Nat) (ha : a < 16) : w.cell? ⟨g, a, none⟩ = some (.bool (S.ds.getD a false)) ∧ w.frozen? ⟨g, a, none⟩ = false ∧
    ∀ u, Md M B r x { S with ds := S.ds.set a u } ls w0 (w.setCell ⟨g, a, none⟩ (.bool u)) := by
  obtain ⟨g', c', e', _, h1, h2, h3⟩ := h.d a ha
  rw [e] at e'
  injection e' with e1
  injection e1 with e1
  injection e1 with e1
  subst e1
  exact ⟨h1, h2, h3⟩
def StepR (M B r : Nat) (x : Nat → Value) (S' : CaS) (ls : List Int) (w0 : World) (hit : Bool) (e : Ending) (w6 : World) : Prop :=
  ∃ a' c', e = .returned (.tuple #[.slice a' M c', .bool hit]) ∧ (∃ o, w6.cell? ⟨r, 3, none⟩ = some o) ∧ w6.frozen? ⟨r, 3, none⟩ = false ∧ Hid (Md M B r (updF x 3 (.slice a' M c')) S' ls w0 (w6.setCell ⟨r, 3, none⟩ (.slice a' M c')))
theorem step_md {B r g : Nat} {x : Nat → Value} {S : CaS} {ls : List Int} {w0 w : World} {hs : List (List Int)} {ms : List Int} (h : Md ms.length B r x S ls w0 w) (y : Int) (hy : 0 ≤ y ∧ y ≤ 15)
    (HSTEP : Hid (∀ (w' : World) (k : Nat → Int) (v : Value) (y : Int), Below B w0 w' → Rd w' v (rowL ms.length k) → Calls Try.prog 44 #[.pointer (some ⟨g, 0, none⟩), v, .int .i64 y] w' (Sh (rowL ms.length (stN hs ms k y)) (hitB ms.length k y) w'))) :
    Calls Try.prog 44 #[.pointer (some ⟨g, 0, none⟩), x 3, .int .i64 y] w (StepR ms.length B r x { S with k := stN hs ms S.k y } ls w0 (hitB ms.length S.k y)) := by
  have o3 : Own w B (x 3) (rowL ms.length S.k) := h.own 3 (by decide)
  have hB8 : B ≤ w.heap.size := by have := h.blk.lt; have := h.hB; omega
  refine (HSTEP.out w S.k (x 3) y h.bl o3.rd).mono fun e w9 ⟨v', he, o', b'⟩ => ?_
  have hR := h.repl 3 (by decide) (w' := w9) (v' := v') (S' := { S with k := stN hs ms S.k y }) (ls' := ls) (fun b hb _ => b'.block b hb) (b'.mono hB8) (o'.mono hB8) (fun k hk => .inr (o'.block k hk).1) (fun i hi hne w v hp => by rcases below6 hi with rfl | rfl | rfl | rfl | rfl | rfl <;> first | exact hp | exact absurd rfl hne) (fun y => rfl) ⟨h.wf.ws, h.wf.cs, h.wf.ds, fun i => stN_rng h.wf.k hy i⟩
  obtain ⟨a', c', hv'⟩ := Own.form o'
  rw [rowL_len] at hv'
  subst hv'
  exact ⟨a', c', he, hR.1, hR.2.1, Lib.hid hR.2.2⟩
theorem Md.start {M B r : Nat} {d : Nat → Bool} {x : Nat → Value} {w0 w : World} (hJ : RegJ M B d x w0 w) (hall : ∀ j, j < 6 → d j = true) (hbk : Blk w r [x 0, x 1, x 2, x 3, x 4, x 5, .int .i64 0, .int .i64 0, .int .i64 0, .int .i64 0, .int .i64 0] 56) (hB : B ≤ r) (hn : ∀ j, j < 6 → (x j).ownBlock ≠ some r) :
    Md M B r x ca0 [] w0 w := by
  refine ⟨hbk, fun j hj => ?_, hn, hJ.sep, hB, ca0_wf, hJ.bl⟩
  have h := hJ.own j hj (hall j hj)
  rcases below6 hj with rfl | rfl | rfl | rfl | rfl | rfl
  · exact h
  · exact h
  · exact h
  · show Own w B (x 3) (rowL M (fun _ => (-1 : Int)))
    rw [rowL_empty]; exact h
  · exact h
  · exact h
theorem caR_succ (hs : List (List Int)) (ms : List Int) (bk al : Bool) (xs : List (Int × Int)) (j : Nat) : caR hs ms bk al xs (j + 1) = if (xs.getD j (0, 0)).1 = 1 then writeS hs ms bk al (caR hs ms bk al xs j) (xs.getD j (0, 0)).2.toNat ((j : Int) + 1) else readS hs ms (caR hs ms bk al xs j) (xs.getD j (0, 0)).2.toNat := rfl
theorem flF_k (S : CaS) (j : Nat) : (flF S j).k = S.k := by
  induction j with
  | zero => rfl
  | succ j ih =>
    rw [flF]; split
    · exact ih
    · exact (cleanS_k _ _).trans ih
theorem flF_step (S : CaS) (hw : CaW S) (j : Nat) : flF S (j + 1) = { outS (flF S j) (S.k j) with f := (flF S j).f + outN (flF S j) (S.k j) } := by
  have hk := hw.k j
  rw [flF]
  by_cases e : S.k j = -1
  · rw [if_pos e]
    have hlt : S.k j < 0 := by omega
    unfold outS outN
    rw [if_pos hlt, if_pos hlt]
    rfl
  · rw [if_neg e]
    have hlt : ¬ S.k j < 0 := by omega
    unfold outS outN
    rw [if_neg hlt, if_neg hlt]
theorem wpList_appJ {ops : Array Oper} {rest : List Oper} {o : Oper} {a : Act} {Q : Exit → Act → World → Prop} (wr : World) (hgd : o.guard = none) (s x : Operand)
    (ho : o.op = .call { callee := .builtin .append, args := #[s, x], argTypes := #[23, 23] })
    (B : Nat) (v : Value) (xs : List Int) (u : Int) (hs : a.eval s = v) (hx : a.eval x = .slice (some ⟨wr.heap.size, 0, none⟩) 1 1) (hown : Own wr B v xs)
    (hlen : xs.length + 1 ≤ 1000000000) (hB : B ≤ wr.heap.size)
    (h : ∀ v' w', Own w' B v' (xs ++ [u]) → Below B wr w' → (∀ b, b < wr.heap.size → v.ownBlock ≠ some b → w'.heap[b]? = wr.heap[b]?) → (∀ k, v'.ownBlock = some k → v.ownBlock = some k ∨ wr.heap.size ≤ k) → wpList Try.prog ops Q rest (a.put o.dst v') w') :
    wpList Try.prog ops Q (o :: rest) a (wr.alloc (.cells #[.int .i64 u] 2)) := by
  obtain ⟨i0, hi, hz0, hz1, hz2⟩ := info_parts infoI
  have hsz : (wr.alloc (.cells #[.int .i64 u] 2)).heap.size = wr.heap.size + 1 := Array.size_push _
  refine wpList_append_own_at _ hgd s x 23 ho B 2 i0 (.int .i64 0) 1 8 Try.underlying23 hi hz0 hz1 hz2 rfl (by decide) v xs.length (xs.map (Value.int .i64)) hs (World.ownsRow.alloc hown _)
    ⟨wr.heap.size, 0, none⟩ 1 1 [.int .i64 u] hx rfl (cell_one_new _ _ _) ?_ ?_ ?_ ?_ ?_
  · intro u' hu; simp at hu; subst hu; rfl
  · unfold maxLen; omega
  · omega
  · simp; omega
  · intro v' w' hown' hgrow _ hblk
    refine h v' w' ?_ ?_ (fun b hb hne => (hgrow.block b (by omega) (fun e => hne e.symm)).trans (Below.heap_alloc wr _ b hb)) (fun k hk => ?_)
    · show World.ownsRow _ _ _ _ _ (xs ++ [u]).length _
      rw [List.length_append, List.map_append]
      exact hown'
    · exact ((Below.refl B wr).alloc hB _).grown hgrow (by omega) (fun k hk => (Own.block hown k hk).1)
    · rcases hblk with hb | hb
      · exact .inl (hb ▸ hk)
      · rw [hb] at hk
        injection hk with hk
        exact .inr (by omega)
theorem by_frame {K : Act → World → Prop} {A : World → Prop} {G : World → World} {C : Prop} (F : Act) (h1 : (∀ w6, A w6 → K F (G w6)) → C) (h2 : ∀ w6, A w6 → K F (G w6)) : C := h1 h2
/-- What l07Do leaves. -/
def DoR (M B : Nat) (S : CaS) (ls : List Int) (w0 : World) (e : Ending) (w' : World) : Prop := ∃ r x, e = .returned (.pointer (some ⟨r, 0, none⟩)) ∧ Md M B r x S ls w0 w'

set_option maxRecDepth 100000 in
set_option maxHeartbeats 16000000 in
theorem do_s {g sc : Nat} {sa : Option Addr} {w : World} {hs : List (List Int)} {ms : List Int} {bk al : Bool} {xs : List (Int × Int)} (hok : isP hs ms = true) (hxo : okT xs = true) (hg : g < w.heap.size)
    (HEM0 : Hid (∀ w', Below w.heap.size w w' → Calls Try.prog 42 #[.pointer (some ⟨g, 0, none⟩)] w' (Lb (emptyL ms.length) w')))
    (HSTEP : Hid (∀ (w' : World) (k : Nat → Int) (v : Value) (y : Int), Below w.heap.size w w' → Rd w' v (rowL ms.length k) → Calls Try.prog 44 #[.pointer (some ⟨g, 0, none⟩), v, .int .i64 y] w' (Sh (rowL ms.length (stN hs ms k y)) (hitB ms.length k y) w')))
    (hcb : w.cell? ⟨g, 2, none⟩ = some (.bool bk)) (hca : w.cell? ⟨g, 3, none⟩ = some (.bool al)) (hx : RowA w sa xs) :
    Calls Try.prog 29 #[.pointer (some ⟨g, 0, none⟩), .slice sa xs.length sc] w (DoR ms.length w.heap.size (flF (caR hs ms bk al xs xs.length) ms.length) (dirL (caR hs ms bk al xs xs.length).ds 16) w) := by
  have HCB := Lib.hid (fun (w' : World) (hb : Below w.heap.size w w') => (show w'.cell? ⟨g, 2, none⟩ = some (.bool bk) ∧ w'.cell? ⟨g, 3, none⟩ = some (.bool al) from ⟨(hb.cell (p := ⟨g, 2, none⟩) hg).trans hcb, (hb.cell (p := ⟨g, 3, none⟩) hg).trans hca⟩))
  have HXR := Lib.hid (fun (w' : World) (hb : Below w.heap.size w w') (j : Nat) (hj : j < xs.length) => (hx.below hb) j hj)
  have hn60 := okT_len hxo
  have HXO := Lib.hid (fun j (hj : j < xs.length) => And.intro (okT_get hxo j hj).1 (okT_at hxo j hj))
  have hpp := lt_len hok
  have HCS := Lib.hid (caR_succ hs ms bk al xs)
  have HBD := Lib.hid (caR_bd hs ms bk al xs)
  have HRSL := Lib.hid (caR_rs hs ms bk al xs)
  have HC0 := Lib.hid (show caR hs ms bk al xs 0 = ca0 from rfl)
  obtain ⟨M, hM⟩ : ∃ M, M = ms.length := ⟨_, rfl⟩
  have HEM := HEM0
  rw [← hM] at HEM
  have HMM := Lib.hid hM
  have HHG := Lib.hid hg
  have HOK := Lib.hid hok
  obtain ⟨p1, p6⟩ := hpp
  clear hcb hca hx hxo hM HEM0 hg hok
  generalize hN : xs.length = N at *
  clear hN
  go_enter Try.func29, Try.ntmps29
  go_upto_region 1 with fail
  rename_i K hK
  refine wp_region_inv (by kernel_rfl) (fun listed a w' => ∃ (d : Nat → Bool) (x : Nat → Value) (b3 b4 b5 b9 b10 b11 : Bool) (v5 v15 v16 v17 v21 v22 : Value), listed = #[d 0, d 1, d 2, b3, b4, b5, d 3, d 4, d 5, b9, b10, b11] ∧ a = ({ tmps := #[.pointer (some ⟨g, 0, none⟩), .slice sa N sc, undef, undef, .pointer none, v5, undef, undef, undef, undef, undef, undef, (x 0), (x 1), (x 2), v15, v16, v17, (x 3), (x 4), (x 5), v21, v22, undef, undef, undef, undef, undef, undef, undef, undef, undef, undef, undef, undef, undef, undef, undef, undef, undef, undef, undef, undef, undef, undef, undef, undef, undef, undef, undef, undef, undef, undef, undef, undef, undef, undef, undef, undef, undef, undef, undef, undef, undef, undef, undef, undef, undef, undef, undef, undef, undef, undef, undef, undef, undef, undef, undef, undef, undef, undef, undef, undef, undef, undef, undef, undef, undef, undef, undef, undef, undef, undef, undef, undef, undef, undef, undef, undef, undef, undef, undef, undef, undef, undef, undef, undef, undef, undef, undef, undef, undef, undef, undef, undef, undef, undef, undef, undef, undef, undef, undef, undef, undef, undef, undef, undef, undef, undef, undef, undef, undef, undef, undef, undef, undef, undef, undef, undef, undef, undef, undef, undef, undef, undef, undef, undef, undef, undef, undef, undef, undef, undef, undef, undef, undef, undef, undef, undef, undef, undef, undef, undef, undef, undef, undef, undef, undef, undef, undef, undef, undef, undef, undef, undef, undef, undef, undef, undef, undef, undef, undef, undef, undef, undef, undef, undef, undef, undef, undef, undef, undef, undef, undef, undef, undef, undef, undef, undef, undef, undef, undef, undef, undef, undef, undef, undef, undef, undef, undef, undef, undef, undef, undef], defers := [] } : Act) ∧ Hid (RegJ M w.heap.size d x w w') ∧ Hid (RegX g d x b3 b4 b5 b9 b10 b11 v5 v15 v16 v17 v21 v22 w.heap.size w')) ?_ ?_ ?_
  · refine ⟨fun _ => false, fun _ => undef, false, false, false, false, false, false, undef, undef, undef, undef, undef, undef, rfl, rfl, ⟨(Below.refl _ w).drew, fun _ _ h => (by cases h), fun _ _ _ => rfl, fun _ _ k h => (by cases h), fun _ _ _ _ _ k h => (by cases h)⟩, ⟨fun h => (by cases h), fun h => (by cases h), fun h => (by cases h), fun h => (by cases h), fun h => (by cases h), fun h => (by cases h)⟩⟩
  · rintro listed a w1 ⟨d, x, b3, b4, b5, b9, b10, b11, v5, v15, v16, v17, v21, v22, rfl, rfl, hJ, hX⟩ i hi
    have hlt : i < 12 := by
      unfold Region.ready at hi
      rw [List.mem_filter] at hi
      exact List.mem_range.1 hi.1
    rcases (show i = 0 ∨ i = 1 ∨ i = 2 ∨ i = 3 ∨ i = 4 ∨ i = 5 ∨ i = 6 ∨ i = 7 ∨ i = 8 ∨ i = 9 ∨ i = 10 ∨ i = 11 by omega) with rfl | rfl | rfl | rfl | rfl | rfl | rfl | rfl | rfl | rfl | rfl | rfl
    · have hb : d 0 = false := by
        unfold Region.ready at hi
        rw [List.mem_filter] at hi
        simpa [Region.binds] using hi.2
      refine wpOp_step rfl fun K' hK' => ?_
      rw [if_pos (by simp [Region.wanted])]
      obtain ⟨w2, hr, ho, hbw⟩ := mk64 w1
      have hB1 := hJ.out.bl.size
      have hl : ∀ k, (Value.slice (some ⟨w1.heap.size, 0, none⟩) 64 64).ownBlock = some k → w1.heap.size ≤ k ∧ k < w2.heap.size := fun k hk => World.ownsRow.lt ho k hk
      unfold Oper.wp
      simp [execOp, Act.eval, hr, Result.andThen]
      refine hK' _ _ ⟨updF d 0 true, updF x 0 (.slice (some ⟨w1.heap.size, 0, none⟩) 64 64), b3, b4, b5, b9, b10, b11, v5, v15, v16, v17, v21, v22, rfl, rfl, hJ.out.put hB1 0 hbw _ (Own.mono ho hB1) hl, hX.out.put 0 (by decide) hb _ _⟩
    · have hb : d 1 = false := by
        unfold Region.ready at hi
        rw [List.mem_filter] at hi
        simpa [Region.binds] using hi.2
      refine wpOp_step rfl fun K' hK' => ?_
      rw [if_pos (by simp [Region.wanted])]
      obtain ⟨w2, hr, ho, hbw⟩ := mk64 w1
      have hB1 := hJ.out.bl.size
      have hl : ∀ k, (Value.slice (some ⟨w1.heap.size, 0, none⟩) 64 64).ownBlock = some k → w1.heap.size ≤ k ∧ k < w2.heap.size := fun k hk => World.ownsRow.lt ho k hk
      unfold Oper.wp
      simp [execOp, Act.eval, hr, Result.andThen]
      refine hK' _ _ ⟨updF d 1 true, updF x 1 (.slice (some ⟨w1.heap.size, 0, none⟩) 64 64), b3, b4, b5, b9, b10, b11, v5, v15, v16, v17, v21, v22, rfl, rfl, hJ.out.put hB1 1 hbw _ (Own.mono ho hB1) hl, hX.out.put 1 (by decide) hb _ _⟩
    · have hb : d 2 = false := by
        unfold Region.ready at hi
        rw [List.mem_filter] at hi
        simpa [Region.binds] using hi.2
      refine wpOp_step rfl fun K' hK' => ?_
      rw [if_pos (by simp [Region.wanted])]
      obtain ⟨w2, hr, ho, hbw⟩ := mkB16 w1
      have hB1 := hJ.out.bl.size
      have hl : ∀ k, (Value.slice (some ⟨w1.heap.size, 0, none⟩) 16 16).ownBlock = some k → w1.heap.size ≤ k ∧ k < w2.heap.size := fun k hk => World.ownsRow.lt ho k hk
      unfold Oper.wp
      simp [execOp, Act.eval, hr, Result.andThen]
      refine hK' _ _ ⟨updF d 2 true, updF x 2 (.slice (some ⟨w1.heap.size, 0, none⟩) 16 16), b3, b4, b5, b9, b10, b11, v5, v15, v16, v17, v21, v22, rfl, rfl, hJ.out.put hB1 2 hbw _ (OwnB.mono ho hB1) hl, hX.out.put 2 (by decide) hb _ _⟩
    · have hb : b3 = false := by
        unfold Region.ready at hi
        rw [List.mem_filter] at hi
        simpa [Region.binds] using hi.2
      refine wpOp_step rfl fun K' hK' => ?_
      rw [if_pos (by simp [Region.wanted])]
      obtain ⟨x1, x2, x3, x4, x5, x6⟩ := hX.out
      unfold Oper.wp
      simp only [execOp]
      go_simp
      refine hK' _ _ ⟨d, x, true, b4, b5, b9, b10, b11, v5, _, v16, v17, v21, v22, rfl, rfl, hJ, ⟨fun _ => rfl, x2, x3, x4, x5, x6⟩⟩
    · have hb : b4 = false ∧ b3 = true := by
        unfold Region.ready at hi
        rw [List.mem_filter] at hi
        simpa [Region.binds] using hi.2
      refine wpOp_step rfl fun K' hK' => ?_
      rw [if_pos (by simp [Region.wanted])]
      obtain ⟨x1, x2, x3, x4, x5, x6⟩ := hX.out
      have hv := x1 hb.2
      subst hv
      unfold Oper.wp
      simp only [execOp]
      go_simp
      refine hK' _ _ ⟨d, x, b3, true, b5, b9, b10, b11, v5, _, _, v17, v21, v22, rfl, rfl, hJ, ⟨x1, fun _ => rfl, x3, x4, x5, x6⟩⟩
    · have hb : b5 = false ∧ b4 = true := by
        unfold Region.ready at hi
        rw [List.mem_filter] at hi
        simpa [Region.binds] using hi.2
      refine wpOp_step rfl fun K' hK' => ?_
      rw [if_pos (by simp [Region.wanted])]
      obtain ⟨x1, x2, x3, x4, x5, x6⟩ := hX.out
      have hv := x2 hb.2
      subst hv
      unfold Oper.wp
      simp only [execOp]
      go_simp
      refine hK' _ _ ⟨d, x, b3, b4, true, b9, b10, b11, v5, v15, _, _, v21, v22, rfl, rfl, hJ, ⟨x1, x2, fun _ => rfl, x4, x5, x6⟩⟩
    · have hb : d 3 = false ∧ b5 = true := by
        unfold Region.ready at hi
        rw [List.mem_filter] at hi
        simpa [Region.binds] using hi.2
      refine wpOp_step rfl fun K' hK' => ?_
      rw [if_pos (by simp [Region.wanted])]
      have hv := hX.out.2.2.1 hb.2
      subst hv
      have hB1 := hJ.out.bl.size
      have HE := Lib.hid (HEM.out w1 hJ.out.bl)
      go_simp
      refine HE.out.mono ?_; rintro e w2 ⟨v, rfl, ho, hbw⟩
      refine hK' _ _ ⟨updF d 3 true, updF x 3 v, b3, b4, b5, b9, b10, b11, v5, v15, v16, _, v21, v22, rfl, rfl, hJ.out.put hB1 3 hbw _ (Own.mono ho hB1) (fun k hk => Own.block ho k hk), hX.out.put 3 (by decide) hb.1 _ _⟩
    · have hb : d 4 = false := by
        unfold Region.ready at hi
        rw [List.mem_filter] at hi
        simpa [Region.binds] using hi.2
      refine wpOp_step rfl fun K' hK' => ?_
      rw [if_pos (by simp [Region.wanted])]
      have hB1 := hJ.out.bl.size
      have ho := Own.lit0 w1
      have hbw : Below w1.heap.size w1 (w1.alloc (.cells #[] 2)) := (Below.refl _ w1).alloc (Nat.le_refl _) _
      unfold Oper.wp
      simp only [execOp]
      go_simp
      refine hK' _ _ ⟨updF d 4 true, updF x 4 (.slice (some ⟨w1.heap.size, 0, none⟩) 0 0), b3, b4, b5, b9, b10, b11, v5, v15, v16, v17, v21, v22, rfl, rfl, hJ.out.put hB1 4 hbw _ (Own.mono ho hB1) (fun k hk => Own.block ho k hk), hX.out.put 4 (by decide) hb _ _⟩
    · have hb : d 5 = false := by
        unfold Region.ready at hi
        rw [List.mem_filter] at hi
        simpa [Region.binds] using hi.2
      refine wpOp_step rfl fun K' hK' => ?_
      rw [if_pos (by simp [Region.wanted])]
      have hB1 := hJ.out.bl.size
      have ho := Own.lit0 w1
      have hbw : Below w1.heap.size w1 (w1.alloc (.cells #[] 2)) := (Below.refl _ w1).alloc (Nat.le_refl _) _
      unfold Oper.wp
      simp only [execOp]
      go_simp
      refine hK' _ _ ⟨updF d 5 true, updF x 5 (.slice (some ⟨w1.heap.size, 0, none⟩) 0 0), b3, b4, b5, b9, b10, b11, v5, v15, v16, v17, v21, v22, rfl, rfl, hJ.out.put hB1 5 hbw _ (Own.mono ho hB1) (fun k hk => Own.block ho k hk), hX.out.put 5 (by decide) hb _ _⟩
    · have hb : b9 = false ∧ (d 0 = true ∧ d 1 = true ∧ d 2 = true ∧ d 3 = true ∧ d 4 = true ∧ d 5 = true) := by
        unfold Region.ready at hi
        rw [List.mem_filter] at hi
        simpa [Region.binds] using hi.2
      refine wpOp_step rfl fun K' hK' => ?_
      rw [if_pos (by simp [Region.wanted])]
      obtain ⟨x1, x2, x3, x4, x5, x6⟩ := hX.out
      have hall : ∀ j, j < 6 → d j = true := fun j hj => by
        obtain ⟨_, q0, q1, q2, q3, q4, q5⟩ := hb
        rcases below6 hj with rfl | rfl | rfl | rfl | rfl | rfl <;> assumption
      have hf := fun j hj => (hJ.out.own j hj (hall j hj)).form
      have hr := run_build (P := Try.prog) w1 56 #[(0, x 0), (1, x 1), (2, x 2), (3, x 3), (4, x 4), (5, x 5)] _ (built11 _ _ _ _ _ _ (hf 0 (by decide)) (hf 1 (by decide)) (hf 2 (by decide)) (hf 3 (by decide)) (hf 4 (by decide)) (hf 5 (by decide)))
      have h10 : b10 = true → False := fun e => by have := (x5 e).1; rw [hb.1] at this; cases this
      unfold Oper.wp
      simp [execOp, Act.eval, hr, Result.andThen]
      refine hK' _ _ ⟨d, x, b3, b4, b5, true, b10, b11, v5, v15, v16, v17, _, v22, rfl, rfl, hJ, ⟨x1, x2, x3, fun _ => ⟨hall, rfl⟩, fun e => (h10 e).elim, fun e => (h10 (x6 e).1).elim⟩⟩
    · have hb : b10 = false ∧ b9 = true := by
        unfold Region.ready at hi
        rw [List.mem_filter] at hi
        simpa [Region.binds] using hi.2
      refine wpOp_step rfl fun K' hK' => ?_
      rw [if_pos (by simp [Region.wanted])]
      obtain ⟨x1, x2, x3, x4, x5, x6⟩ := hX.out
      obtain ⟨hall, hv⟩ := x4 hb.2
      subst hv
      have hB1 := hJ.out.bl.size
      have h11 : b11 = true → False := fun e => by have := (x6 e).1; rw [hb.1] at this; cases this
      have hbw : Below w1.heap.size w1 (w1.alloc (.cells #[x 0, x 1, x 2, x 3, x 4, x 5, .int .i64 0, .int .i64 0, .int .i64 0, .int .i64 0, .int .i64 0] 56)) := (Below.refl _ w1).alloc (Nat.le_refl _) _
      have hbk := Blk.newAt w1 w1.heap.size [x 0, x 1, x 2, x 3, x 4, x 5, .int .i64 0, .int .i64 0, .int .i64 0, .int .i64 0, .int .i64 0] 56 rfl
      unfold Oper.wp
      simp only [execOp]
      go_simp
      refine hK' _ _ ⟨d, x, b3, b4, b5, b9, true, b11, v5, v15, v16, v17, _, _, rfl, rfl, hJ.out.step hB1 hbw, ⟨x1, x2, x3, fun e => ⟨hall, rfl⟩, fun _ => ⟨hb.2, _, rfl, hbk, hB1, fun j hj e => Nat.lt_irrefl _ (hJ.out.lt j hj _ e).2⟩, fun e => (h11 e).elim⟩⟩
    · have hb : b11 = false ∧ b10 = true := by
        unfold Region.ready at hi
        rw [List.mem_filter] at hi
        have h9 := hi.2
        simp [Region.binds] at h9
        exact ⟨h9.1, by simp_all⟩
      refine wpOp_step rfl fun K' hK' => ?_
      rw [if_pos (by simp [Region.wanted])]
      unfold Oper.wp
      simp only [execOp]
      go_simp
      obtain ⟨x1, x2, x3, x4, x5, x6⟩ := hX.out
      refine hK' _ _ ⟨d, x, b3, b4, b5, b9, b10, true, v22, v15, v16, v17, v21, v22, rfl, rfl, hJ, ⟨x1, x2, x3, x4, x5, fun _ => ⟨hb.2, rfl⟩⟩⟩
  · rintro listed a w1 ⟨d, x, b3, b4, b5, b9, b10, b11, v5, v15, v16, v17, v21, v22, rfl, rfl, hJ, hX⟩ hr
    have hn := fun i => List.eq_nil_iff_forall_not_mem.1 hr i
    unfold Region.ready at hn
    have q0 : d 0 = true := by
      have := hn 0
      simpa [List.mem_filter, Region.binds] using this
    have q1 : d 1 = true := by
      have := hn 1
      simpa [List.mem_filter, Region.binds, q0] using this
    have q2 : d 2 = true := by
      have := hn 2
      simpa [List.mem_filter, Region.binds, q0, q1] using this
    have q3 : b3 = true := by
      have := hn 3
      simpa [List.mem_filter, Region.binds, q0, q1, q2] using this
    have q4 : b4 = true := by
      have := hn 4
      simpa [List.mem_filter, Region.binds, q0, q1, q2, q3] using this
    have q5 : b5 = true := by
      have := hn 5
      simpa [List.mem_filter, Region.binds, q0, q1, q2, q3, q4] using this
    have q6 : d 3 = true := by
      have := hn 6
      simpa [List.mem_filter, Region.binds, q0, q1, q2, q3, q4, q5] using this
    have q7 : d 4 = true := by
      have := hn 7
      simpa [List.mem_filter, Region.binds, q0, q1, q2, q3, q4, q5, q6] using this
    have q8 : d 5 = true := by
      have := hn 8
      simpa [List.mem_filter, Region.binds, q0, q1, q2, q3, q4, q5, q6, q7] using this
    have q9 : b9 = true := by
      have := hn 9
      simpa [List.mem_filter, Region.binds, q0, q1, q2, q3, q4, q5, q6, q7, q8] using this
    have q10 : b10 = true := by
      have := hn 10
      simpa [List.mem_filter, Region.binds, q0, q1, q2, q3, q4, q5, q6, q7, q8, q9] using this
    have q11 : b11 = true := by
      have := hn 11
      simpa [List.mem_filter, Region.binds, q0, q1, q2, q3, q4, q5, q6, q7, q8, q9, q10] using this
    obtain ⟨x1, x2, x3, x4, x5, x6⟩ := hX.out
    obtain ⟨_, h5⟩ := x6 q11
    obtain ⟨_, r, hr2, hbk, hBr, hnr⟩ := x5 q10
    subst h5
    subst hr2
    clear hr hn
    dsimp only
    have HX := Lib.hid (And.intro (hJ.out) (And.intro hbk (And.intro hBr hnr)))
    clear x1 x2 x3 x4 x5 x6 hbk hBr hnr hJ hX
    show K _ _
    apply hK
    clear hK K

    have hst := Md.start HX.out.1 (fun j hj => by rcases below6 hj with rfl | rfl | rfl | rfl | rfl | rfl <;> assumption) HX.out.2.1 HX.out.2.2.1 HX.out.2.2.2
    have HI0 : Hid (Md M w.heap.size r x (caR hs ms bk al xs 0) [] w w1) := by show Md _ _ _ _ _ _ _ _; rw [HC0.out]; exact hst
    clear hst HX HEM HC0 q0 q1 q2 q3 q4 q5 q6 q7 q8 q9 q10 q11
    go_wp2
    rw [HMM.out] at HI0
    clear HMM
    go_loopw [6, 7, 8, 9] (fun i _ _ _ wr => ∃ (j : Nat) (x' : Nat → Value), j ≤ N ∧ i = .int .i64 (j : Int) ∧ Hid (Md ms.length w.heap.size r x' (caR hs ms bk al xs j) [] w wr)) (fun i _ _ _ _ => N - (intOf i).toNat)
    case atStart => exact ⟨0, x, Nat.zero_le _, rfl, HI0⟩
    case round =>
      obtain ⟨j, x', hj, rfl, hI⟩ := hrel
      clear HI0
      by_cases hlt : j < N
      · have hrow := HXR.out wr hI.out.bl
        obtain ⟨b, off, ea, k0, k1, hbs⟩ := hrow j hlt
        obtain ⟨hkd, a, ha, had⟩ := HXO.out j hlt
        have hcs := HCS.out j
        rw [had, Int.toNat_natCast] at hcs
        rw [had] at k1
        have hkd' : (xs.getD j (0, 0)).1 = 0 ∨ (xs.getD j (0, 0)).1 = 1 := by
          unfold isK at hkd
          rw [Bool.or_eq_true, decide_eq_true_eq, decide_eq_true_eq] at hkd
          exact hkd
        subst ea
        have hq : a / 4 < 16 := by omega
        have eq4 : (a : Int) / 4 = ((a / 4 : Nat) : Int) := by omega
        have EQ4 := Lib.hid eq4
        have hai : (a : Int) < 64 := by omega
        have hqi : ((a / 4 : Nat) : Int) < 16 := by omega
        obtain ⟨bd1, bd2, bd3, bd4⟩ := HBD.out j
        have hrl := HRSL.out j
        have hrs1 := bringS_rs hs ms (caR hs ms bk al xs j) (a / 4)
        have hbd9 := bringS_bd (hs := hs) (ms := ms) (S := caR hs ms bk al xs j) (n := 5 * j) ⟨bd1, bd2, bd3, bd4⟩ (a / 4)
        obtain ⟨_, _, _, bo9⟩ := hbd9
        have HBH := Lib.hid (fun (hh : hitB ms.length (caR hs ms bk al xs j).k ((a / 4 : Nat) : Int) = true) => (show bringS hs ms (caR hs ms bk al xs j) (a / 4) = { caR hs ms bk al xs j with h := (caR hs ms bk al xs j).h + 1, k := stN hs ms (caR hs ms bk al xs j).k ((a / 4 : Nat) : Int) } from if_pos hh))
        have HBF := Lib.hid (fun (hh : hitB ms.length (caR hs ms bk al xs j).k ((a / 4 : Nat) : Int) = false) => fill_eq hs ms (caR hs ms bk al xs j) (a / 4) hI.out.wf p1 hq hh)
        have HWR := Lib.hid (show writeS hs ms bk al (caR hs ms bk al xs j) a ((j : Int) + 1) = if !hitB ms.length (caR hs ms bk al xs j).k ((a / 4 : Nat) : Int) && !al then sendS { caR hs ms bk al xs j with m := (caR hs ms bk al xs j).m + 1 } a ((j : Int) + 1)
          else if bk then { bringS hs ms (caR hs ms bk al xs j) (a / 4) with cs := (bringS hs ms (caR hs ms bk al xs j) (a / 4)).cs.set a ((j : Int) + 1), ds := (bringS hs ms (caR hs ms bk al xs j) (a / 4)).ds.set (a / 4) true }
          else sendS { bringS hs ms (caR hs ms bk al xs j) (a / 4) with cs := (bringS hs ms (caR hs ms bk al xs j) (a / 4)).cs.set a ((j : Int) + 1) } a ((j : Int) + 1) from rfl)
        have HRD := Lib.hid (show readS hs ms (caR hs ms bk al xs j) a = { bringS hs ms (caR hs ms bk al xs j) (a / 4) with rs := (caR hs ms bk al xs j).rs ++ [(bringS hs ms (caR hs ms bk al xs j) (a / 4)).cs.getD a 0] } from rfl)
        have HCJ := Lib.hid hcs
        have HRS1 := Lib.hid hrs1
        clear hcs hrow hrs1 had eq4 HXO HCS HBD HRSL
        generalize readS hs ms (caR hs ms bk al xs j) a = SR at *
        generalize writeS hs ms bk al (caR hs ms bk al xs j) a ((j : Int) + 1) = SW at *
        generalize bringS hs ms (caR hs ms bk al xs j) (a / 4) = S1 at *
        generalize caR hs ms bk al xs j = S at *
        generalize (xs.getD j (0, 0)).1 = kd at *
        generalize a / 4 = q at *
        obtain ⟨gw, cw, ew, hgw, kw, fw, _⟩ := hI.out.w a ha
        obtain ⟨gc, cc, ec, hgc, _, _, _⟩ := hI.out.c a ha
        obtain ⟨gd, cd, ed, hgd, _, _, _⟩ := hI.out.d q hq
        have o3 : Own wr w.heap.size (x' 3) (rowL ms.length S.k) := hI.out.own 3 (by decide)
        obtain ⟨a3, c3, e3⟩ := Own.form o3
        rw [rowL_len] at e3
        have o4 : Own wr w.heap.size (x' 4) S.rs := hI.out.own 4 (by decide)
        obtain ⟨a4, c4, e4⟩ := Own.form o4
        have HHA := Lib.hid (has_ownM o3 p6 ((q : Nat) : Int))
        have lgw := ((hI.out.own 0 (by decide)).lt gw (by rw [ew]; rfl)).1
        have lgc := ((hI.out.own 1 (by decide)).lt gc (by rw [ec]; rfl)).1
        have lgd := ((hI.out.own 2 (by decide)).lt gd (by rw [ed]; rfl)).1
        have hgg := HHG.out
        have n1 : ¬ gw = r := fun e => hI.out.ne 0 (by decide) (by rw [ew, ← e]; rfl)
        have n2 : ¬ gc = r := fun e => hI.out.ne 1 (by decide) (by rw [ec, ← e]; rfl)
        have n3 : ¬ gd = r := fun e => hI.out.ne 2 (by decide) (by rw [ed, ← e]; rfl)
        have n4 : ¬ gw = gc := fun e => hI.out.sep 0 1 (by decide) (by decide) (by decide) gw (by rw [ew]; rfl) (by rw [ec, e]; rfl)
        have n5 : ¬ gd = gc := fun e => hI.out.sep 2 1 (by decide) (by decide) (by decide) gd (by rw [ed]; rfl) (by rw [ec, e]; rfl)
        have n6 : ¬ g = gc := by omega
        have n11 : ¬ g = r := by have := hI.out.hB; omega
        have n7 : ¬ r = gw := fun e => n1 e.symm
        have n8 : ¬ r = gc := fun e => n2 e.symm
        have n9 : ¬ r = gd := fun e => n3 e.symm
        have n10 : ¬ gc = gw := fun e => n4 e.symm
        have hn4 : S.rs.length + 1 ≤ 1000000000 := by omega
        have h3 := (hI.out.hd 3 (by decide)).1
        rw [e3] at h3
        rw [e3] at HHA
        have HNC := Lib.hid (And.intro n1 (And.intro n2 (And.intro n3 (And.intro n4 (And.intro n5 (And.intro n6 (And.intro n7 (And.intro n8 (And.intro n9 (And.intro n10 n11))))))))))
        clear lgw lgc lgd hgg n1 n2 n3 n4 n5 n6 n7 n8 n9 n10 n11 o3 o4 hkd
        cases hr : hitB ms.length S.k ((q : Nat) : Int)
        · rw [hr] at HHA HWR
          have HS1 := Lib.hid (HBF.out hr)
          obtain ⟨c7, f7, s7⟩ := hI.out.n1
          have hM2 := s7 (S.m + 1)
          rw [show ((S.m + 1 : Nat) : Int) = (S.m : Int) + 1 by omega] at hM2
          have ca7 := (HCB.out wr hI.out.bl).2
          have G := Lib.hid (fill_s HOK.out hM2 q hq ⟨by show S.i ≤ 1000000; omega, by show S.o ≤ 1000000; omega⟩ HSTEP)
          clear s7 hr HBF HBH
          rcases hkd' with rfl | rfl
          · clear hM2
            go_wp2_with fail
            rw [EQ4.out]
            refine HHA.out.mono ?_; rintro e w2 ⟨rfl, rfl⟩
            obtain ⟨n1, n2, n3, n4, n5, n6, n7, n8, n9, n10, n11⟩ := HNC.out
            go_wp2_with fail
            (with_reducible refine G.out.mono ?_); rintro e w7 ⟨rfl, x7, hM7, hx7⟩
            rw [HS1.out] at hM7
            have HX7 := Lib.hid hx7
            have HM7 := Lib.hid hM7
            clear hM7 hx7 c7 f7 h3 fw kw G HHA n1 n2 n3 n4 n5 n6 n7 n8 n9 n10 n11

            have e71 := (HX7.out 1 (by decide)).trans ec
            have e74 := (HX7.out 4 (by decide)).trans e4
            have t1 := (HM7.out.hd 1 (by decide)).1
            rw [e71] at t1
            have t4 := (HM7.out.hd 4 (by decide)).1
            rw [e74] at t4
            obtain ⟨kc7, _, _⟩ := HM7.out.cg e71 a ha
            have hsz7 : r < w7.heap.size := HM7.out.blk.lt
            have hBr := HM7.out.hB
            have hB7 : w.heap.size ≤ w7.drew.heap.size := by show _ ≤ w7.heap.size; omega
            have o47 : Own w7.drew w.heap.size (.slice a4 S.rs.length c4) S.rs := by
              have h := HM7.out.drew.own 4 (by decide)
              rw [e74] at h
              have h2 : Own w7.drew w.heap.size (.slice a4 S.rs.length c4) S1.rs := h
              rw [HRS1.out] at h2
              exact h2
            have HE2 := Lib.hid (fun (w3 : World) (g9 cap : Nat) (ho : Own w3 w.heap.size (.slice (some ⟨g9, 0, none⟩) (S.rs.length + 1) cap) (S.rs ++ [S1.cs.getD a 0])) (hb : Below w.heap.size w7.drew w3) (hfr : ∀ b, b < w7.drew.heap.size → (Value.slice a4 S.rs.length c4).ownBlock ≠ some b → w3.heap[b]? = w7.drew.heap[b]?) (hat : (Value.slice a4 S.rs.length c4).ownBlock = some g9 ∨ w7.drew.heap.size ≤ g9) =>
              HM7.out.drew.repl 4 (by decide) (w' := w3) (v' := .slice (some ⟨g9, 0, none⟩) (S.rs.length + 1) cap) (S' := { S1 with rs := S.rs ++ [S1.cs.getD a 0] }) (ls' := []) (by rw [e74]; exact hfr) hb ho (fun k hk => by
                have e9 : g9 = k := by injection hk
                subst e9
                rw [e74]
                exact hat) (fun i hi hne w v hp => by rcases below6 hi with rfl | rfl | rfl | rfl | rfl | rfl <;> first | exact hp | exact absurd rfl hne) (fun y => rfl) ⟨HM7.out.wf.ws, HM7.out.wf.cs, HM7.out.wf.ds, HM7.out.wf.k⟩)
            have t4a : (w7.alloc (.cells #[.int .i64 (S1.cs.getD a 0)] 2)).cell? ⟨r, 4, none⟩ = some (.slice a4 S.rs.length c4) := (World.cell?_of_block (w := w7) (a := ⟨r, 4, none⟩) (Below.heap_alloc w7 _ r hsz7)).trans t4
            have HT := Lib.hid (fun (x9 : Nat → Value) (w9 : World) (h : Md ms.length w.heap.size r x9 { S1 with rs := S.rs ++ [S1.cs.getD a 0] } [] w w9) => (show Md ms.length w.heap.size r x9 (caR hs ms bk al xs (j + 1)) [] w w9 by rw [HCJ.out, if_neg (by decide), HRD.out]; exact h))
            clear HRS1 HRD HWR HCJ
            generalize S1.cs.getD a 0 = u at *
            generalize hn4' : S.rs.length = nr at *
            obtain ⟨n1, n2, n3, n4, n5, n6, n7, n8, n9, n10, n11⟩ := HNC.out
            go_wp2
            go_region_law (refine step_appJ w7.drew rfl (.tmp 118) (.tmp 126) rfl w.heap.size (.slice a4 nr c4) S.rs u (by first | rfl | simp [Act.eval, Act.put]) (by first | rfl | simp [Act.eval, Act.put]) o47 (by omega) hB7 ?_; intro g9 cap w3 ho3 hb3 hfr3 hat3; rw [hn4'] at ho3 ⊢; obtain ⟨⟨old3, hc3⟩, hf3, hE3⟩ := HE2.out w3 g9 cap ho3 hb3 hfr3 hat3)
            all_goals
              have hE4 := Lib.hid (HT.out _ _ hE3)
              clear hE3 HE2 HT
              go_wp2
              go_roundw
              case rel => exact ⟨j + 1, _, by omega, by go_num, hE4⟩
              case measure => simp [intOf]; omega
          · cases al
            · skip
              have M3 := (hM2.wg ew a ha).2.2 ((j : Int) + 1)
              have M4 := M3.n3.2.2 (S.o + 1)
              rw [show ((S.o + 1 : Nat) : Int) = (S.o : Int) + 1 by omega] at M4
              have M10 : Hid (Md ms.length w.heap.size r x' (caR hs ms bk false xs (j + 1)) [] w _) := Lib.hid (by rw [HCJ.out, if_pos rfl, HWR.out, if_pos (show (!false && !false) = true from rfl)]; exact M4)
              obtain ⟨c9, f9, _⟩ := hI.out.n3
              have h0 := (hI.out.hd 0 (by decide)).1
              rw [ew] at h0
              clear hM2 M3 M4 HRS1 HRD HWR HCJ G
              generalize S.ws.getD a 0 = uw at *
              go_wp2_with fail
              rw [EQ4.out]
              refine HHA.out.mono ?_; rintro e w2 ⟨rfl, rfl⟩
              obtain ⟨n1, n2, n3, n4, n5, n6, n7, n8, n9, n10, n11⟩ := HNC.out
              go_wp2
              go_roundw
              case rel => exact ⟨j + 1, _, by omega, by go_num, M10⟩
              case measure => simp [intOf]; omega
            · cases bk
              · clear hM2
                go_wp2_with fail
                rw [EQ4.out]
                refine HHA.out.mono ?_; rintro e w2 ⟨rfl, rfl⟩
                obtain ⟨n1, n2, n3, n4, n5, n6, n7, n8, n9, n10, n11⟩ := HNC.out
                go_wp2_with fail
                (with_reducible refine G.out.mono ?_); rintro e w7 ⟨rfl, x7, hM7, hx7⟩
                rw [HS1.out] at hM7
                have HX7 := Lib.hid hx7
                have HM7 := Lib.hid hM7
                clear hM7 hx7 c7 f7 h3 fw kw G HHA n1 n2 n3 n4 n5 n6 n7 n8 n9 n10 n11

                have e70 := (HX7.out 0 (by decide)).trans ew
                have e71 := (HX7.out 1 (by decide)).trans ec
                have e72 := (HX7.out 2 (by decide)).trans ed
                have t0 := (HM7.out.hd 0 (by decide)).1
                rw [e70] at t0
                have t1 := (HM7.out.hd 1 (by decide)).1
                rw [e71] at t1
                have t2 := (HM7.out.hd 2 (by decide)).1
                rw [e72] at t2
                obtain ⟨kc7, fc7, sc7⟩ := HM7.out.cg e71 a ha
                have M8 := sc7 ((j : Int) + 1)
                have cb7 := (HCB.out w7 HM7.out.bl).1
                obtain ⟨kw7, fw7, _⟩ := HM7.out.wg e70 a ha
                obtain ⟨c97, f97, _⟩ := HM7.out.n3
                have M9 := ((M8.wg e70 a ha).2.2 ((j : Int) + 1)).n3.2.2 (S1.o + 1)
                rw [show ((S1.o + 1 : Nat) : Int) = (S1.o : Int) + 1 by omega] at M9
                have M10 : Hid (Md ms.length w.heap.size r x7 (caR hs ms false true xs (j + 1)) [] w _) := Lib.hid (by rw [HCJ.out, if_pos (by first | trivial | rfl), HWR.out, if_neg (by decide), if_neg (by decide)]; exact M9)
                clear sc7 M8 M9 HRS1 HRD HWR HCJ
                generalize S1.ds.getD q false = ud at *
                generalize S1.ws.getD a 0 = uw at *
                generalize S1.cs.getD a 0 = uc at *
                obtain ⟨n1, n2, n3, n4, n5, n6, n7, n8, n9, n10, n11⟩ := HNC.out
                go_wp2
                go_roundw
                case rel => exact ⟨j + 1, _, by omega, by go_num, M10⟩
                case measure => simp [intOf]; omega
              · clear hM2
                go_wp2_with fail
                rw [EQ4.out]
                refine HHA.out.mono ?_; rintro e w2 ⟨rfl, rfl⟩
                obtain ⟨n1, n2, n3, n4, n5, n6, n7, n8, n9, n10, n11⟩ := HNC.out
                go_wp2_with fail
                (with_reducible refine G.out.mono ?_); rintro e w7 ⟨rfl, x7, hM7, hx7⟩
                rw [HS1.out] at hM7
                have HX7 := Lib.hid hx7
                have HM7 := Lib.hid hM7
                clear hM7 hx7 c7 f7 h3 fw kw G HHA n1 n2 n3 n4 n5 n6 n7 n8 n9 n10 n11

                have e70 := (HX7.out 0 (by decide)).trans ew
                have e71 := (HX7.out 1 (by decide)).trans ec
                have e72 := (HX7.out 2 (by decide)).trans ed
                have t0 := (HM7.out.hd 0 (by decide)).1
                rw [e70] at t0
                have t1 := (HM7.out.hd 1 (by decide)).1
                rw [e71] at t1
                have t2 := (HM7.out.hd 2 (by decide)).1
                rw [e72] at t2
                obtain ⟨kc7, fc7, sc7⟩ := HM7.out.cg e71 a ha
                have M8 := sc7 ((j : Int) + 1)
                have cb7 := (HCB.out w7 HM7.out.bl).1
                obtain ⟨kd7, fd7, _⟩ := HM7.out.dg e72 q hq
                have M9 := (M8.dg e72 q hq).2.2 true
                have M10 : Hid (Md ms.length w.heap.size r x7 (caR hs ms true true xs (j + 1)) [] w _) := Lib.hid (by rw [HCJ.out, if_pos (by first | trivial | rfl), HWR.out, if_neg (by decide), if_pos (by first | trivial | rfl)]; exact M9)
                clear sc7 M8 M9 HRS1 HRD HWR HCJ
                generalize S1.ds.getD q false = ud at *
                generalize S1.ws.getD a 0 = uw at *
                generalize S1.cs.getD a 0 = uc at *
                obtain ⟨n1, n2, n3, n4, n5, n6, n7, n8, n9, n10, n11⟩ := HNC.out
                go_wp2
                go_roundw
                case rel => exact ⟨j + 1, _, by omega, by go_num, M10⟩
                case measure => simp [intOf]; omega
        · rw [hr] at HHA HWR
          have HS1 := Lib.hid (HBH.out hr)
          obtain ⟨c6, f6, s6⟩ := hI.out.n0
          have hM2 := s6 (S.h + 1)
          rw [show ((S.h + 1 : Nat) : Int) = (S.h : Int) + 1 by omega] at hM2
          have G := Lib.hid (step_md hM2.drew ((q : Nat) : Int) (by omega) HSTEP)
          rw [e3] at G
          rw [show hitB ms.length ({ S with h := S.h + 1 } : CaS).k ((q : Nat) : Int) = true from hr] at G
          unfold StepR at G
          clear s6 hM2 hr HBF HBH
          rcases hkd' with rfl | rfl
          · skip
            go_wp2_with fail
            rw [EQ4.out]
            refine HHA.out.mono ?_; rintro e w2 ⟨rfl, rfl⟩
            go_wp2
            go_region_law (first | (go_simp; go_at_call 44; (with_reducible refine G.out.mono ?_); rintro e w6 ⟨a', c', rfl, ⟨o6, hc6⟩, hf6, hM6⟩))
            all_goals
              have hM7 := hM6.out
              rw [← HS1.out] at hM7
              have HX7 := Lib.hid (fun j (hj : j ≠ 3) => upd_ne x' 3 j (.slice a' ms.length c') hj)
              clear hM6 hc6 hf6 G HHA
              generalize (w6.setCell ⟨r, 3, none⟩ (.slice a' ms.length c')) = w7 at *
              generalize updF x' 3 (.slice a' ms.length c') = x7 at *
              have HM7 := Lib.hid hM7
              clear hM7 c6 f6 h3 fw kw
              have e71 := (HX7.out 1 (by decide)).trans ec
              have e74 := (HX7.out 4 (by decide)).trans e4
              have t1 := (HM7.out.hd 1 (by decide)).1
              rw [e71] at t1
              have t4 := (HM7.out.hd 4 (by decide)).1
              rw [e74] at t4
              obtain ⟨kc7, _, _⟩ := HM7.out.cg e71 a ha
              have hsz7 : r < w7.heap.size := HM7.out.blk.lt
              have hBr := HM7.out.hB
              have hB7 : w.heap.size ≤ w7.drew.heap.size := by show _ ≤ w7.heap.size; omega
              have o47 : Own w7.drew w.heap.size (.slice a4 S.rs.length c4) S.rs := by
                have h := HM7.out.drew.own 4 (by decide)
                rw [e74] at h
                have h2 : Own w7.drew w.heap.size (.slice a4 S.rs.length c4) S1.rs := h
                rw [HRS1.out] at h2
                exact h2
              have HE2 := Lib.hid (fun (w3 : World) (g9 cap : Nat) (ho : Own w3 w.heap.size (.slice (some ⟨g9, 0, none⟩) (S.rs.length + 1) cap) (S.rs ++ [S1.cs.getD a 0])) (hb : Below w.heap.size w7.drew w3) (hfr : ∀ b, b < w7.drew.heap.size → (Value.slice a4 S.rs.length c4).ownBlock ≠ some b → w3.heap[b]? = w7.drew.heap[b]?) (hat : (Value.slice a4 S.rs.length c4).ownBlock = some g9 ∨ w7.drew.heap.size ≤ g9) =>
                HM7.out.drew.repl 4 (by decide) (w' := w3) (v' := .slice (some ⟨g9, 0, none⟩) (S.rs.length + 1) cap) (S' := { S1 with rs := S.rs ++ [S1.cs.getD a 0] }) (ls' := []) (by rw [e74]; exact hfr) hb ho (fun k hk => by
                  have e9 : g9 = k := by injection hk
                  subst e9
                  rw [e74]
                  exact hat) (fun i hi hne w v hp => by rcases below6 hi with rfl | rfl | rfl | rfl | rfl | rfl <;> first | exact hp | exact absurd rfl hne) (fun y => rfl) ⟨HM7.out.wf.ws, HM7.out.wf.cs, HM7.out.wf.ds, HM7.out.wf.k⟩)
              have t4a : (w7.alloc (.cells #[.int .i64 (S1.cs.getD a 0)] 2)).cell? ⟨r, 4, none⟩ = some (.slice a4 S.rs.length c4) := (World.cell?_of_block (w := w7) (a := ⟨r, 4, none⟩) (Below.heap_alloc w7 _ r hsz7)).trans t4
              have HT := Lib.hid (fun (x9 : Nat → Value) (w9 : World) (h : Md ms.length w.heap.size r x9 { S1 with rs := S.rs ++ [S1.cs.getD a 0] } [] w w9) => (show Md ms.length w.heap.size r x9 (caR hs ms bk al xs (j + 1)) [] w w9 by rw [HCJ.out, if_neg (by decide), HRD.out]; exact h))
              clear HRS1 HRD HWR HCJ
              generalize S1.cs.getD a 0 = u at *
              generalize hn4' : S.rs.length = nr at *
              obtain ⟨n1, n2, n3, n4, n5, n6, n7, n8, n9, n10, n11⟩ := HNC.out
              go_wp2
              go_region_law (refine step_appJ w7.drew rfl (.tmp 118) (.tmp 126) rfl w.heap.size (.slice a4 nr c4) S.rs u (by first | rfl | simp [Act.eval, Act.put]) (by first | rfl | simp [Act.eval, Act.put]) o47 (by omega) hB7 ?_; intro g9 cap w3 ho3 hb3 hfr3 hat3; rw [hn4'] at ho3 ⊢; obtain ⟨⟨old3, hc3⟩, hf3, hE3⟩ := HE2.out w3 g9 cap ho3 hb3 hfr3 hat3)
              all_goals
                have hE4 := Lib.hid (HT.out _ _ hE3)
                clear hE3 HE2 HT
                go_wp2
                go_roundw
                case rel => exact ⟨j + 1, _, by omega, by go_num, hE4⟩
                case measure => simp [intOf]; omega
          · cases bk
            · skip
              go_wp2_with fail
              rw [EQ4.out]
              refine HHA.out.mono ?_; rintro e w2 ⟨rfl, rfl⟩
              go_wp2
              go_region_law (first | (go_simp; go_at_call 44; (with_reducible refine G.out.mono ?_); rintro e w6 ⟨a', c', rfl, ⟨o6, hc6⟩, hf6, hM6⟩))
              all_goals
                have hM7 := hM6.out
                rw [← HS1.out] at hM7
                have HX7 := Lib.hid (fun j (hj : j ≠ 3) => upd_ne x' 3 j (.slice a' ms.length c') hj)
                clear hM6 hc6 hf6 G HHA
                generalize (w6.setCell ⟨r, 3, none⟩ (.slice a' ms.length c')) = w7 at *
                generalize updF x' 3 (.slice a' ms.length c') = x7 at *
                have HM7 := Lib.hid hM7
                clear hM7 c6 f6 h3 fw kw
                have e70 := (HX7.out 0 (by decide)).trans ew
                have e71 := (HX7.out 1 (by decide)).trans ec
                have e72 := (HX7.out 2 (by decide)).trans ed
                have t0 := (HM7.out.hd 0 (by decide)).1
                rw [e70] at t0
                have t1 := (HM7.out.hd 1 (by decide)).1
                rw [e71] at t1
                have t2 := (HM7.out.hd 2 (by decide)).1
                rw [e72] at t2
                obtain ⟨kc7, fc7, sc7⟩ := HM7.out.cg e71 a ha
                have M8 := sc7 ((j : Int) + 1)
                have cb7 := (HCB.out w7 HM7.out.bl).1
                obtain ⟨kw7, fw7, _⟩ := HM7.out.wg e70 a ha
                obtain ⟨c97, f97, _⟩ := HM7.out.n3
                have M9 := ((M8.wg e70 a ha).2.2 ((j : Int) + 1)).n3.2.2 (S1.o + 1)
                rw [show ((S1.o + 1 : Nat) : Int) = (S1.o : Int) + 1 by omega] at M9
                have M10 : Hid (Md ms.length w.heap.size r x7 (caR hs ms false al xs (j + 1)) [] w _) := Lib.hid (by rw [HCJ.out, if_pos (by first | trivial | rfl), HWR.out, if_neg (by simp), if_neg (by decide)]; exact M9)
                clear sc7 M8 M9 HRS1 HRD HWR HCJ
                generalize S1.ds.getD q false = ud at *
                generalize S1.ws.getD a 0 = uw at *
                generalize S1.cs.getD a 0 = uc at *
                obtain ⟨n1, n2, n3, n4, n5, n6, n7, n8, n9, n10, n11⟩ := HNC.out
                go_wp2
                go_roundw
                case rel => exact ⟨j + 1, _, by omega, by go_num, M10⟩
                case measure => simp [intOf]; omega
            · skip
              go_wp2_with fail
              rw [EQ4.out]
              refine HHA.out.mono ?_; rintro e w2 ⟨rfl, rfl⟩
              go_wp2
              go_region_law (first | (go_simp; go_at_call 44; (with_reducible refine G.out.mono ?_); rintro e w6 ⟨a', c', rfl, ⟨o6, hc6⟩, hf6, hM6⟩))
              all_goals
                have hM7 := hM6.out
                rw [← HS1.out] at hM7
                have HX7 := Lib.hid (fun j (hj : j ≠ 3) => upd_ne x' 3 j (.slice a' ms.length c') hj)
                clear hM6 hc6 hf6 G HHA
                generalize (w6.setCell ⟨r, 3, none⟩ (.slice a' ms.length c')) = w7 at *
                generalize updF x' 3 (.slice a' ms.length c') = x7 at *
                have HM7 := Lib.hid hM7
                clear hM7 c6 f6 h3 fw kw
                have e70 := (HX7.out 0 (by decide)).trans ew
                have e71 := (HX7.out 1 (by decide)).trans ec
                have e72 := (HX7.out 2 (by decide)).trans ed
                have t0 := (HM7.out.hd 0 (by decide)).1
                rw [e70] at t0
                have t1 := (HM7.out.hd 1 (by decide)).1
                rw [e71] at t1
                have t2 := (HM7.out.hd 2 (by decide)).1
                rw [e72] at t2
                obtain ⟨kc7, fc7, sc7⟩ := HM7.out.cg e71 a ha
                have M8 := sc7 ((j : Int) + 1)
                have cb7 := (HCB.out w7 HM7.out.bl).1
                obtain ⟨kd7, fd7, _⟩ := HM7.out.dg e72 q hq
                have M9 := (M8.dg e72 q hq).2.2 true
                have M10 : Hid (Md ms.length w.heap.size r x7 (caR hs ms true al xs (j + 1)) [] w _) := Lib.hid (by rw [HCJ.out, if_pos (by first | trivial | rfl), HWR.out, if_neg (by simp), if_pos (by first | trivial | rfl)]; exact M9)
                clear sc7 M8 M9 HRS1 HRD HWR HCJ
                generalize S1.ds.getD q false = ud at *
                generalize S1.ws.getD a 0 = uw at *
                generalize S1.cs.getD a 0 = uc at *
                obtain ⟨n1, n2, n3, n4, n5, n6, n7, n8, n9, n10, n11⟩ := HNC.out
                go_wp2
                go_roundw
                case rel => exact ⟨j + 1, _, by omega, by go_num, M10⟩
                case measure => simp [intOf]; omega
      · skip
        have e : j = N := by omega
        subst e
        have HF0 := Lib.hid (caR_f hs ms bk al xs j)
        have hwf := hI.out.wf
        have HDS := Lib.hid (fun k => (show dirL (caR hs ms bk al xs j).ds (k + 1) = if (caR hs ms bk al xs j).ds.getD k false then dirL (caR hs ms bk al xs j).ds k ++ [(k : Int)] else dirL (caR hs ms bk al xs j).ds k from rfl))
        have HDL := Lib.hid (dirL_len (caR hs ms bk al xs j).ds)
        have HFS := Lib.hid (fun k => flF_step (caR hs ms bk al xs j) hwf k)
        have HFK := Lib.hid (flF_k (caR hs ms bk al xs j))
        have HFF := Lib.hid (flF_f (caR hs ms bk al xs j))
        have HKR := Lib.hid hwf.k
        have HI0 : Hid (Md ms.length w.heap.size r x' (caR hs ms bk al xs j) (dirL (caR hs ms bk al xs j).ds 0) w wr) := hI
        have HE0 := Lib.hid (show flF (caR hs ms bk al xs j) 0 = caR hs ms bk al xs j from rfl)
        clear hI hwf HXO HCS HBD HRSL HXR HCB
        generalize hS : caR hs ms bk al xs j = S at *
        generalize hD : dirL S.ds = DL at *
        generalize hF : flF S = FL at *
        have HHD := Lib.hid hD
        have HHF := Lib.hid hF
        clear hD hF hS
        go_wp2
        go_loopw [10] (fun l wr2 => ∃ (k : Nat) (x2 : Nat → Value), k ≤ 16 ∧ l = .int .i64 (k : Int) ∧ Hid (Md ms.length w.heap.size r x2 S (DL k) w wr2)) (fun l _ => 16 - (intOf l).toNat)
        case atStart => exact ⟨0, x', by omega, rfl, HI0⟩
        case round =>
          rename_i wr1 _
          obtain ⟨k, x2, hk, rfl, hI⟩ := hrel
          clear HI0
          by_cases hlt2 : k < 16
          · have hki : (k : Int) < 16 := by omega
            obtain ⟨gd, cd, ed, hgd, kd, fd, _⟩ := hI.out.d k hlt2
            have h2 := (hI.out.hd 2 (by decide)).1
            rw [ed] at h2
            have hst := HDS.out k
            have hdl := HDL.out k
            cases hr : S.ds.getD k false
            · rw [hr] at kd hst
              rw [if_neg Bool.false_ne_true] at hst
              rw [← hst] at hI
              clear hst hr
              go_wp2
              go_roundw
              case rel => exact ⟨k + 1, x2, by omega, by go_num, hI⟩
              case measure => simp [intOf]; omega
            · rw [hr] at kd hst
              rw [if_pos rfl] at hst
              have HST := Lib.hid hst
              have h5 := (hI.out.hd 5 (by decide)).1
              have o5 : Own _ w.heap.size (x2 5) (DL k) := hI.out.own 5 (by decide)
              obtain ⟨a5, c5, e5⟩ := Own.form o5
              have hq5 : (DL k).length + 1 ≤ 1000000000 := by omega
              have hBz : w.heap.size ≤ _ := Nat.le_trans hI.out.hB (Nat.le_of_lt hI.out.blk.lt)
              have hsame5 : ∀ i, i < 6 → i ≠ 5 → ∀ w1 v, PRs ms.length w.heap.size S (DL k) i w1 v → PRs ms.length w.heap.size S (DL (k + 1)) i w1 v := fun i hi hne w v hp => by rcases below6 hi with rfl | rfl | rfl | rfl | rfl | rfl <;> first | exact hp | exact absurd rfl hne
              rw [e5] at h5 o5
              have HE5 := Lib.hid e5
              clear hst hr e5
              generalize hl5 : (DL k).length = n5 at *
              go_wp2_with (at_builtin; refine wpList_appJ _ rfl _ _ rfl w.heap.size (.slice a5 n5 c5) (DL k) (k : Int) ?_ ?_ o5 (by rw [hl5]; exact hq5) hBz ?_; rfl; rfl)
              intro v' w3 ho3 hb3 hfr3 hat3
              have hR := hI.out.repl 5 (by decide) (w' := w3) (v' := v') (S' := S) (ls' := DL (k + 1)) (by rw [HE5.out]; exact hfr3) hb3 (by rw [HST.out]; exact ho3) (fun q hq => by rw [HE5.out]; exact hat3 q hq) hsame5 (fun y => rfl) hI.out.wf
              obtain ⟨⟨o9, k9⟩, f9, hM9⟩ := hR
              obtain ⟨a9, c9, e9⟩ := Own.form ho3
              rw [show (DL k ++ [(k : Int)]).length = n5 + 1 by rw [List.length_append, hl5]; rfl] at e9
              have HM9 := Lib.hid hM9
              clear hM9 ho3 hb3 hfr3 hat3 hsame5
              subst e9
              go_wp2
              go_roundw
              case rel => exact ⟨k + 1, _, by omega, by go_num, HM9⟩
              case measure => simp [intOf]; omega
          · have e : k = 16 := by omega
            have hki : ¬ (k : Int) < 16 := by omega
            rw [e] at hI
            clear e
            have HJ0 : Hid (Md ms.length w.heap.size r x2 (FL 0) (DL 16) w wr) := by show Md _ _ _ _ _ _ _ _; rw [HE0.out]; exact hI.out
            have o3 : Own _ w.heap.size (x2 3) (rowL ms.length S.k) := hI.out.own 3 (by decide)
            obtain ⟨a3, c3, e3⟩ := Own.form o3
            rw [rowL_len] at e3
            clear o3 hI HDS HDL
            go_wp2
            go_loopw [11] (fun l wr3 => ∃ k : Nat, k ≤ ms.length ∧ l = .int .i64 (k : Int) ∧ Hid (Md ms.length w.heap.size r x2 (FL k) (DL 16) w wr3)) (fun l _ => ms.length - (intOf l).toNat)
            case atStart => exact ⟨0, Nat.zero_le _, rfl, HJ0⟩
            case round =>
              obtain ⟨k', hk', rfl, hJ⟩ := hrel
              clear HJ0
              have h3 := (hJ.out.hd 3 (by decide)).1
              rw [e3] at h3
              by_cases hlt2 : k' < ms.length
              · have o3 : Own _ w.heap.size (x2 3) (rowL ms.length (FL k').k) := hJ.out.own 3 (by decide)
                rw [HFK.out k'] at o3
                obtain ⟨g3, c3', e3', _, hg3, k3, _, _⟩ := own_elem o3 k' (by rw [rowL_len]; exact hlt2)
                rw [rowL_len, e3] at e3'
                rw [rowL_get _ _ _ hlt2] at k3
                injection e3' with e3a e3b e3c
                subst e3a
                obtain ⟨c10, f10, _⟩ := hJ.out.n4
                have hff := HFF.out k'
                have hon := outN_le (FL k') (S.k k')
                have hof := outS_f (FL k') (S.k k')
                have hst := HFS.out k'
                have G := Lib.hid ((out_s hJ.out.drew (S.k k') (HKR.out k')).mono (R' := fun e w6 => e = .returned (.int .i64 (outN (FL k') (S.k k') : Int)) ∧ (w6.cell? ⟨r, 10, none⟩ = some (.int .i64 ((FL k').f : Int)) ∧ w6.frozen? ⟨r, 10, none⟩ = false) ∧ Hid (Md ms.length w.heap.size r x2 (FL (k' + 1)) (DL 16) w (w6.setCell ⟨r, 10, none⟩ (.int .i64 (((FL k').f : Int) + (outN (FL k') (S.k k') : Int)))))) fun e w6 ⟨he, hB⟩ => by
                  obtain ⟨c6, f6, s6⟩ := hB.n4
                  rw [hof] at c6
                  have hB7 := s6 ((FL k').f + outN (FL k') (S.k k'))
                  rw [Int.natCast_add] at hB7
                  exact ⟨he, ⟨c6, f6⟩, Lib.hid (by rw [hst]; exact hB7)⟩)
                have hf0 := HF0.out
                have e9 : IntKind.i64.wrap (((FL k').f : Int) + (outN (FL k') (S.k k') : Int)) = ((FL k').f : Int) + (outN (FL k') (S.k k') : Int) := IntWalk.i64_in _ (by omega)
                have HST := Lib.hid hst
                clear hst hof o3 hf0 e3b e3c
                generalize outN (FL k') (S.k k') = on at *
                generalize S.k k' = y at *
                generalize (FL k').f = ff at *
                go_upto_region 31 with fail
                rename_i K hK
                have HK := Lib.hid hK
                clear hK
                apply by_frame (K := K) (A := fun w6 => Hid (Md ms.length w.heap.size r x2 (FL (k' + 1)) (DL 16) w (w6.setCell ⟨r, 10, none⟩ (.int .i64 ((ff : Int) + (on : Int)))))) (G := fun w6 => w6.setCell ⟨r, 10, none⟩ (.int .i64 ((ff : Int) + (on : Int))))
                · intro HKK
                  go_region_law (first | (go_simp; go_at_call 46; (with_reducible refine G.out.mono ?_); rintro e w6 ⟨rfl, ⟨c6, f6⟩, hB6⟩))
                  all_goals exact HKK w6 hB6
                · intro w6 hB6
                  clear G c10 f10 k3
                  show K _ _
                  apply HK.out
                  clear HK K
                  go_wp2
                  go_roundw
                  case rel => exact ⟨k' + 1, by omega, by go_num, hB6⟩
                  case measure => simp [intOf]; omega
              · have e : k' = ms.length := by omega
                subst e
                go_wp2
                go_ret
                exact ⟨r, x2, rfl, hJ.out⟩
end Go.Proofs.Ytngbddmbmkphcaa.Pv
