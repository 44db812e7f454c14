/- The program's clock: a use. -/
import Derived.Test.YtdjkmffekfbbcaaCclu
namespace Go.Proofs.Ytdjkmffekfbbcaa.Ck
open Go.RowKit
theorem wpList_appL {ops : Array Oper} {rest : List Oper} {o : Oper} {a : Act} {Q : Exit → Act → World → Prop} (wr : World) (hgd : o.guard = none) (s x : Operand)
    (ho : o.op = .call { callee := .builtin .append, args := #[s, x], argTypes := #[24, 24] })
    (B : Nat) (v : Value) (xs : List Int) (u : Int) (hs : a.eval s = v) (hx : a.eval x = .slice (some ⟨wr.heap.size, 0, none⟩) 1 1) (hown : Own wr B v xs)
    (hlen : xs.length + 1 ≤ 1000000000) (hB : B ≤ wr.heap.size)
    (h : ∀ v' w', Own w' B v' (xs ++ [u]) → Below B wr w' → (∀ b, b < wr.heap.size → v.ownBlock ≠ some b → w'.heap[b]? = wr.heap[b]?) → (∀ k, v'.ownBlock = some k → v.ownBlock = some k ∨ wr.heap.size ≤ k) → wpList Try.prog ops Q rest (a.put o.dst v') w') :
    wpList Try.prog ops Q (o :: rest) a (wr.alloc (.cells #[.int .i64 u] 2)) := by
  obtain ⟨i0, hi, hz0, hz1, hz2⟩ := info_parts infoI
  have hsz : (wr.alloc (.cells #[.int .i64 u] 2)).heap.size = wr.heap.size + 1 := Array.size_push _
  refine wpList_append_own_at _ hgd s x 24 ho B 2 i0 (.int .i64 0) 1 8 Try.underlying24 hi hz0 hz1 hz2 rfl (by decide) v xs.length (xs.map (Value.int .i64)) hs (World.ownsRow.alloc hown _)
    ⟨wr.heap.size, 0, none⟩ 1 1 [.int .i64 u] hx rfl (cell_one_new _ _ _) ?_ ?_ ?_ ?_ ?_
  · intro u' hu; simp at hu; subst hu; rfl
  · unfold maxLen; omega
  · omega
  · simp; omega
  · intro v' w' hown' hgrow _ hblk
    refine h v' w' ?_ ?_ (fun b hb hne => (hgrow.block b (by omega) (fun e => hne e.symm)).trans (Below.heap_alloc wr _ b hb)) (fun k hk => ?_)
    · show World.ownsRow _ _ _ _ _ (xs ++ [u]).length _
      rw [List.length_append, List.map_append]
      exact hown'
    · exact ((Below.refl B wr).alloc hB _).grown hgrow (by omega) (fun k hk => (Own.block hown k hk).1)
    · rcases hblk with hb | hb
      · exact .inl (hb ▸ hk)
      · rw [hb] at hk
        injection hk with hk
        exact .inr (by omega)
theorem Ckm.drop {xo : Option (Nat × Option Obj)} {n B r : Nat} {fv lv : Value} {S : CkS} {w0 w : World} (h : Ckm xo n B r fv lv S w0 w) : Ckm none n B r fv lv S w0 w := ⟨h.blk, h.fs, h.ol, h.ne1, h.ne2, h.sep, h.hB, h.bl, fun q hq => by cases hq⟩
theorem Ckm.boxed {n B r : Nat} {fv lv : Value} {S : CkS} {w0 w : World} (h : Ckm none n B r fv lv S w0 w) (kd ad : Int) :
    Ckm (some (w.heap.size, some (.cells #[.int .i64 kd, .int .i64 ad] 49 (0, 0)))) n B r fv lv S w0 (w.alloc (.cells #[.int .i64 kd, .int .i64 ad] 49)) := by
  have h1 := h.below ((Below.refl w.heap.size w).alloc (Nat.le_refl _) (.cells #[.int .i64 kd, .int .i64 ad] 49))
  have hn : Blk (w.alloc (.cells #[.int .i64 kd, .int .i64 ad] 49)) w.heap.size [.int .i64 kd, .int .i64 ad] 49 := Blk.newAt w _ _ _ rfl
  refine ⟨h1.blk, h1.fs, h1.ol, h1.ne1, h1.ne2, h1.sep, h1.hB, h1.bl, fun q hq => ?_⟩
  injection hq with hq
  subst hq
  exact ⟨hn, hn.lt, fun e => by have h2 : w.heap.size = r := e; have := h.blk.lt; omega, fun e => by have := (h.fs.block _ e).2; exact Nat.lt_irrefl _ this, fun e => by have := (h.ol.block _ e).2; exact Nat.lt_irrefl _ this⟩
theorem Ckm.xb {X : Nat} {kd ad : Int} {n B r : Nat} {fv lv : Value} {S : CkS} {w0 w : World} (h : Ckm (some (X, some (.cells #[.int .i64 kd, .int .i64 ad] 49 (0, 0)))) n B r fv lv S w0 w) :
    w.cell? ⟨X, 0, none⟩ = some (.int .i64 kd) ∧ w.cell? ⟨X, 1, none⟩ = some (.int .i64 ad) ∧ X < w.heap.size ∧ X ≠ r ∧ fv.ownBlock ≠ some X := by
  obtain ⟨a1, a2, a3, a4, _⟩ := h.x _ rfl
  have hb : Blk w X [.int .i64 kd, .int .i64 ad] 49 := a1
  exact ⟨hb.cell 0, hb.cell 1, a2, a3, a4⟩
/-- What a use leaves at a fault, by the cleared frame. -/
def missS (n : Nat) (S : CkS) (x : Int) : CkS := { cfS n S with p := (cfS n S).p.set (cfI n S) (x, mkd (cfS n S).p (cfI n S), wrt (cfS n S).p (cfI n S)) }
theorem cfI_lt {n : Nat} {S : CkS} (hW : CkW n S) : cfI n S < (cfS n S).p.length := by
  have h1 := hW.p
  have h2 := hW.h
  unfold cfI cfS
  split
  · show S.p.length < (S.p ++ [f0]).length
    rw [List.length_append, List.length_singleton]; omega
  · have hl : S.h < S.p.length := by omega
    show _ < ((V S.p S.h).1.set _ f0).length
    rw [List.length_set, V_len _ _ hl]
    exact V_lt _ _ hl
theorem step_miss {n : Nat} {S : CkS} (hW : CkW n S) (w : Bool) (x : Int) (hf : ¬ fi S.p x < S.p.length) :
    ckStep n S w x = { missS n S x with p := tch (missS n S x).p (cfI n S) w, fl := S.fl ++ [1] } := by
  have h1 := hW.p
  have h2 := hW.h
  unfold ckStep
  rw [if_neg hf]
  unfold missS
  by_cases hlt : S.p.length < n
  · have e1 : cfI n S = S.p.length := if_pos hlt
    have e2 : cfS n S = { S with p := S.p ++ [f0] } := if_pos hlt
    rw [if_pos hlt, e1, e2]
    have hg : (S.p ++ [f0]).getD S.p.length f0 = f0 := by rw [List.getD_eq_getElem?_getD, List.getElem?_append_right (Nat.le_refl _), Nat.sub_self]; rfl
    have e3 : mkd (S.p ++ [f0]) S.p.length = false := by unfold mkd; rw [hg]; rfl
    have e4 : wrt (S.p ++ [f0]) S.p.length = false := by unfold wrt; rw [hg]; rfl
    have e5 : (S.p ++ [f0]).set S.p.length (x, false, false) = S.p ++ [(x, false, false)] := by rw [List.set_append_right _ _ (Nat.le_refl _), Nat.sub_self]; rfl
    simp only [e3, e4, e5]
  · have e1 : cfI n S = (V S.p S.h).2 := if_neg hlt
    have e2 : cfS n S = ⟨(V S.p S.h).1.set (V S.p S.h).2 f0, ((V S.p S.h).2 + 1) % S.p.length, S.fl, S.b + if wrt (V S.p S.h).1 (V S.p S.h).2 then 1 else 0⟩ := if_neg hlt
    rw [if_neg hlt, e1, e2]
    have hl : S.h < S.p.length := by omega
    obtain ⟨_, q2, q3⟩ := pgA_set (V S.p S.h).1 (V S.p S.h).2 (by rw [V_len _ _ hl]; exact V_lt _ _ hl) f0
    have e3 : mkd ((V S.p S.h).1.set (V S.p S.h).2 f0) (V S.p S.h).2 = false := q2
    have e4 : wrt ((V S.p S.h).1.set (V S.p S.h).2 f0) (V S.p S.h).2 = false := q3
    simp only [e3, e4, List.set_set]
theorem tch_no (p : List Pf) (j : Nat) : p.set j (pgA p j, true, wrt p j) = tch p j false := by unfold tch; rw [Bool.or_false]
theorem tch_yes (p : List Pf) (j : Nat) (hj : j < p.length) : (p.set j (pgA p j, true, wrt p j)).set j (pgA (p.set j (pgA p j, true, wrt p j)) j, mkd (p.set j (pgA p j, true, wrt p j)) j, true) = tch p j true := by
  obtain ⟨q1, q2, q3⟩ := pgA_set p j hj (pgA p j, true, wrt p j)
  rw [q1, q2, List.set_set]
  unfold tch
  rw [Bool.or_true]

set_option maxRecDepth 100000 in
set_option maxHeartbeats 8000000 in
theorem use_i {n B r : Nat} {fv lv : Value} {S : CkS} {w0 w : World} (h : Ckm none n B r fv lv S w0 w) (hW : CkW n S) (hn : n ≤ 16) (hb : S.b ≤ 900) (hfl : S.fl.length ≤ 900) (kd ad : Int) (hk : kd = 0 ∨ kd = 1) :
    Calls Try.prog 34 #[.pointer (some ⟨r, 0, none⟩), .agg #[.int .i64 kd, .int .i64 ad]] w (fun e w2 => e = .returned (.tuple #[]) ∧ ∃ fv' lv', Ckm none n B r fv' lv' (ckStep n S (decide (kd = 1)) ad) w0 w2) := by
  have hmf : ∀ (fn : Fn) (first cap : Array Value) (w : World), (Instr.makeFunc fn first cap).run Try.prog w = .ok (.func fn first cap) w := fun _ _ _ _ => rfl
  have hBX := h.boxed kd ad
  have hp := hW.p
  have hh := hW.h
  obtain ⟨x0, x1, hXl, _, _⟩ := hBX.xb
  obtain ⟨c0, _⟩ := hBX.cell
  have HIX := Lib.hid (index_i hBX ad w.heap.size (by omega) hXl x1)
  have HB2 := Lib.hid (fun (w2 : World) (hb2 : Below (w.alloc (.cells #[.int .i64 kd, .int .i64 ad] 49)).heap.size (w.alloc (.cells #[.int .i64 kd, .int .i64 ad] 49)) w2) => hBX.below hb2)
  have HWW := Lib.hid hW
  obtain ⟨X, hX⟩ : ∃ X, w.heap.size = X := ⟨_, rfl⟩
  rw [hX] at HB2
  have HX := Lib.hid hX
  obtain ⟨a0, d0, e0⟩ := hBX.fs.form
  clear h hBX x0 hW hX
  subst e0
  by_cases hf : fi S.p ad < S.p.length
  · have hi : ixV S.p ad = (fi S.p ad : Int) := if_pos hf
    have HST := Lib.hid (fun wv => (show ckStep n S wv ad = { S with p := tch S.p (fi S.p ad) wv, fl := S.fl ++ [0] } from if_pos hf))
    rw [hi] at HIX
    clear hi
    generalize fi S.p ad = at0 at *
    rcases hk with rfl | rfl
    · go_enter Try.func34, Try.ntmps34
      go_wp2_with fail
      refine HIX.out.mono ?_; rintro e w2 ⟨rfl, b2⟩
      rw [HX.out]
      have hM5 := HB2.out w2 b2
      obtain ⟨g, c, ev5, _⟩ := hM5.fr at0 hf
      injection ev5 with ea _ ed
      subst ea ed
      generalize hm : S.p.length = m at *
      have hat : at0 < S.p.length := by rw [hm]; exact hf
      obtain ⟨fv5, hfv5⟩ : ∃ fv5, fv5 = Value.slice (some ⟨g, 0, none⟩) m d0 := ⟨_, rfl⟩
      rw [← hfv5] at hM5
      have HM5 := Lib.hid hM5
      have HEV5 := Lib.hid hfv5
      obtain ⟨c, hc⟩ : ∃ c, c = d0 := ⟨_, rfl⟩
      subst hc
      clear b2 HIX HB2 c0 x1 hM5 hfv5
      obtain ⟨t0, _, _, t3, _⟩ := HM5.out.cell
      rw [HEV5.out] at t0
      obtain ⟨al, cl, el⟩ := Own.form HM5.out.ol
      have ol5 := HM5.out.ol
      rw [el] at t3 ol5
      have HEL := Lib.hid el
      have hB5 : B ≤ w2.heap.size := by have := HM5.out.blk.lt; have := HM5.out.hB; omega
      obtain ⟨ngr, _, _, _⟩ := HM5.out.frg HEV5.out at0 hat
      obtain ⟨_, _, _, xr, xf⟩ := HM5.out.xb
      rw [HEV5.out] at xf
      have xg : ¬ X = g := fun e => xf (by rw [e]; rfl)
      have xg' : ¬ g = X := fun e => xg e.symm
      have xr1 : ¬ X = r := xr
      have xr2 : ¬ r = X := fun e => xr e.symm
      have n1 : ¬ g = r := ngr
      have n2 : ¬ r = g := fun e => ngr e.symm
      have HNN := Lib.hid (And.intro xg (And.intro xg' (And.intro xr1 (And.intro xr2 (And.intro n1 n2)))))
      clear xg xg' xr1 xr2 n1 n2 ngr xr xf el
      have hfl5 : (S).fl.length + 1 ≤ 1000000000 := by omega
      generalize hnl : (S).fl.length = nl at *
      go_wp2_with (at_builtin; refine wpList_appL _ rfl _ _ rfl B (.slice al nl cl) (S).fl 0 ?_ ?_ ol5 (by rw [hnl]; exact hfl5) hB5 ?_; rfl; rfl)
      intro v' w6 ho6 hb6 hfr6 hat6
      obtain ⟨q0, q1, hM7⟩ := HM5.out.replL (w' := w6) (lv' := v') (by rw [HEL.out]; exact hfr6) hb6 ho6 (fun k hk => by rw [HEL.out]; exact hat6 k hk)
      rw [HEL.out] at q0
      obtain ⟨a6, c6, e6⟩ := Own.form ho6
      rw [show ((S).fl ++ [(0 : Int)]).length = nl + 1 by rw [List.length_append, hnl]; rfl] at e6
      have s0 : w6.cell? ⟨r, 0, none⟩ = some (.slice (some ⟨g, 0, none⟩) m c) := by
        have hb := (hfr6 r HM5.out.blk.lt (by rw [← HEL.out]; exact HM5.out.ne2))
        exact (World.cell?_of_block (a := ⟨r, 0, none⟩) hb).trans t0
      have hgb : w6.heap[g]? = w2.heap[g]? := hfr6 g ((HM5.out.fs.block g (by rw [HEV5.out]; rfl)).2) (by rw [← HEL.out]; exact fun e => HM5.out.sep g (by rw [HEV5.out]; rfl) e)
      have hxb : w6.heap[X]? = w2.heap[X]? := hfr6 X HM5.out.xb.2.2.1 (by rw [← HEL.out]; exact (HM5.out.x _ rfl).2.2.2.2)
      obtain ⟨_, ⟨p0, p1, p2⟩, fz, _⟩ := HM5.out.frg HEV5.out at0 hat
      have p1' : w6.cell? ⟨g, at0 * 3 + 1, none⟩ = some (.bool (mkd (S).p at0)) := (World.cell?_of_block (a := ⟨g, at0 * 3 + 1, none⟩) hgb).trans p1
      have p2' : w6.cell? ⟨g, at0 * 3 + 2, none⟩ = some (.bool (wrt (S).p at0)) := (World.cell?_of_block (a := ⟨g, at0 * 3 + 2, none⟩) hgb).trans p2
      have z1 : w6.frozen? ⟨g, at0 * 3 + 1, none⟩ = false := (World.frozen?_of_block (a := ⟨g, at0 * 3 + 1, none⟩) hgb).trans (fz _)
      have z2 : w6.frozen? ⟨g, at0 * 3 + 2, none⟩ = false := (World.frozen?_of_block (a := ⟨g, at0 * 3 + 2, none⟩) hgb).trans (fz _)
      have x0 : w6.cell? ⟨X, 0, none⟩ = some (.int .i64 0) := (World.cell?_of_block (a := ⟨X, 0, none⟩) hxb).trans HM5.out.xb.1
      have hM8 := (hM7.frg HEV5.out at0 hat).2.2.2.2.1 true
      have HF := Lib.hid (show Ckm none n B r fv5 v' (ckStep n S (decide ((0 : Int) = 1)) ad) w0 _ from by
        have e := hM8.drop
        have e2 := tch_no (S).p at0
        rw [HST.out]
        show Ckm none n B r fv5 v' ⟨tch (S).p at0 false, _, _, _⟩ w0 _
        rw [← e2]
        exact e)
      clear hM7 hM8 ho6 hb6 hfr6 hat6 hgb hxb p0 p1 p2 fz ol5 t0 t3
      obtain ⟨xg, xg', xr1, xr2, n1, n2⟩ := HNN.out
      have hati : (at0 : Int) < (m : Int) := by omega
      generalize mkd (S).p at0 = mm at *
      generalize wrt (S).p at0 = ww at *
      subst e6
      go_wp2
      first | go_end0 | refine bodyPost_ret (results_none rfl _ _ _) rfl ?_
      exact ⟨rfl, _, _, HF.out⟩
    · go_enter Try.func34, Try.ntmps34
      go_wp2_with fail
      refine HIX.out.mono ?_; rintro e w2 ⟨rfl, b2⟩
      rw [HX.out]
      have hM5 := HB2.out w2 b2
      obtain ⟨g, c, ev5, _⟩ := hM5.fr at0 hf
      injection ev5 with ea _ ed
      subst ea ed
      generalize hm : S.p.length = m at *
      have hat : at0 < S.p.length := by rw [hm]; exact hf
      obtain ⟨fv5, hfv5⟩ : ∃ fv5, fv5 = Value.slice (some ⟨g, 0, none⟩) m d0 := ⟨_, rfl⟩
      rw [← hfv5] at hM5
      have HM5 := Lib.hid hM5
      have HEV5 := Lib.hid hfv5
      obtain ⟨c, hc⟩ : ∃ c, c = d0 := ⟨_, rfl⟩
      subst hc
      clear b2 HIX HB2 c0 x1 hM5 hfv5
      obtain ⟨t0, _, _, t3, _⟩ := HM5.out.cell
      rw [HEV5.out] at t0
      obtain ⟨al, cl, el⟩ := Own.form HM5.out.ol
      have ol5 := HM5.out.ol
      rw [el] at t3 ol5
      have HEL := Lib.hid el
      have hB5 : B ≤ w2.heap.size := by have := HM5.out.blk.lt; have := HM5.out.hB; omega
      obtain ⟨ngr, _, _, _⟩ := HM5.out.frg HEV5.out at0 hat
      obtain ⟨_, _, _, xr, xf⟩ := HM5.out.xb
      rw [HEV5.out] at xf
      have xg : ¬ X = g := fun e => xf (by rw [e]; rfl)
      have xg' : ¬ g = X := fun e => xg e.symm
      have xr1 : ¬ X = r := xr
      have xr2 : ¬ r = X := fun e => xr e.symm
      have n1 : ¬ g = r := ngr
      have n2 : ¬ r = g := fun e => ngr e.symm
      have HNN := Lib.hid (And.intro xg (And.intro xg' (And.intro xr1 (And.intro xr2 (And.intro n1 n2)))))
      clear xg xg' xr1 xr2 n1 n2 ngr xr xf el
      have hfl5 : (S).fl.length + 1 ≤ 1000000000 := by omega
      generalize hnl : (S).fl.length = nl at *
      go_wp2_with (at_builtin; refine wpList_appL _ rfl _ _ rfl B (.slice al nl cl) (S).fl 0 ?_ ?_ ol5 (by rw [hnl]; exact hfl5) hB5 ?_; rfl; rfl)
      intro v' w6 ho6 hb6 hfr6 hat6
      obtain ⟨q0, q1, hM7⟩ := HM5.out.replL (w' := w6) (lv' := v') (by rw [HEL.out]; exact hfr6) hb6 ho6 (fun k hk => by rw [HEL.out]; exact hat6 k hk)
      rw [HEL.out] at q0
      obtain ⟨a6, c6, e6⟩ := Own.form ho6
      rw [show ((S).fl ++ [(0 : Int)]).length = nl + 1 by rw [List.length_append, hnl]; rfl] at e6
      have s0 : w6.cell? ⟨r, 0, none⟩ = some (.slice (some ⟨g, 0, none⟩) m c) := by
        have hb := (hfr6 r HM5.out.blk.lt (by rw [← HEL.out]; exact HM5.out.ne2))
        exact (World.cell?_of_block (a := ⟨r, 0, none⟩) hb).trans t0
      have hgb : w6.heap[g]? = w2.heap[g]? := hfr6 g ((HM5.out.fs.block g (by rw [HEV5.out]; rfl)).2) (by rw [← HEL.out]; exact fun e => HM5.out.sep g (by rw [HEV5.out]; rfl) e)
      have hxb : w6.heap[X]? = w2.heap[X]? := hfr6 X HM5.out.xb.2.2.1 (by rw [← HEL.out]; exact (HM5.out.x _ rfl).2.2.2.2)
      obtain ⟨_, ⟨p0, p1, p2⟩, fz, _⟩ := HM5.out.frg HEV5.out at0 hat
      have p1' : w6.cell? ⟨g, at0 * 3 + 1, none⟩ = some (.bool (mkd (S).p at0)) := (World.cell?_of_block (a := ⟨g, at0 * 3 + 1, none⟩) hgb).trans p1
      have p2' : w6.cell? ⟨g, at0 * 3 + 2, none⟩ = some (.bool (wrt (S).p at0)) := (World.cell?_of_block (a := ⟨g, at0 * 3 + 2, none⟩) hgb).trans p2
      have z1 : w6.frozen? ⟨g, at0 * 3 + 1, none⟩ = false := (World.frozen?_of_block (a := ⟨g, at0 * 3 + 1, none⟩) hgb).trans (fz _)
      have z2 : w6.frozen? ⟨g, at0 * 3 + 2, none⟩ = false := (World.frozen?_of_block (a := ⟨g, at0 * 3 + 2, none⟩) hgb).trans (fz _)
      have x0 : w6.cell? ⟨X, 0, none⟩ = some (.int .i64 1) := (World.cell?_of_block (a := ⟨X, 0, none⟩) hxb).trans HM5.out.xb.1
      have hM8 := (hM7.frg HEV5.out at0 hat).2.2.2.2.1 true
      have hM9 := (hM8.frg HEV5.out at0 (by show at0 < ((S).p.set _ _).length; rw [List.length_set]; exact hat)).2.2.2.2.2 true
      have HF := Lib.hid (show Ckm none n B r fv5 v' (ckStep n S (decide ((1 : Int) = 1)) ad) w0 _ from by
        have e := hM9.drop
        have e2 := tch_yes (S).p at0 hat
        rw [HST.out]
        show Ckm none n B r fv5 v' ⟨tch (S).p at0 true, _, _, _⟩ w0 _
        rw [← e2]
        exact e)
      clear hM9
      clear hM7 hM8 ho6 hb6 hfr6 hat6 hgb hxb p0 p1 p2 fz ol5 t0 t3
      obtain ⟨xg, xg', xr1, xr2, n1, n2⟩ := HNN.out
      have hati : (at0 : Int) < (m : Int) := by omega
      generalize mkd (S).p at0 = mm at *
      generalize wrt (S).p at0 = ww at *
      subst e6
      go_wp2
      first | go_end0 | refine bodyPost_ret (results_none rfl _ _ _) rfl ?_
      exact ⟨rfl, _, _, HF.out⟩
  · have hi : ixV S.p ad = -1 := if_neg hf
    have HST := Lib.hid (fun wv => step_miss HWW.out wv ad hf)
    have hcl := cfI_lt HWW.out
    have hcfl : (cfS n S).fl = S.fl := by unfold cfS; split <;> rfl
    have HCF := Lib.hid (fun (w2 : World) (hM : Ckm (some (X, some (.cells #[.int .i64 kd, .int .i64 ad] 49 (0, 0)))) n B r (.slice a0 S.p.length d0) lv S w0 w2) => clear_i hM hp hn hh (by omega))
    rw [hi] at HIX
    have HTF := Lib.hid (show (missS n S ad).fl = S.fl from hcfl)
    have HTD := Lib.hid (show missS n S ad = { cfS n S with p := (cfS n S).p.set (cfI n S) (ad, mkd (cfS n S).p (cfI n S), wrt (cfS n S).p (cfI n S)) } from rfl)
    have HTP := Lib.hid (show (missS n S ad).p.length = (cfS n S).p.length from List.length_set)
    clear hi hcfl
    generalize missS n S ad = T at *
    generalize cfS n S = T0 at *
    generalize cfI n S = at0 at *
    have hcfi : ((at0 : Int) < 0) = False := by simp
    rcases hk with rfl | rfl
    · skip
      go_enter Try.func34, Try.ntmps34
      go_wp2_with fail
      refine HIX.out.mono ?_; rintro e w2 ⟨rfl, b2⟩
      rw [HX.out]
      have HC2 := Lib.hid (HCF.out w2 (HB2.out w2 b2))
      clear HCF HB2 b2 HIX c0 x1
      go_wp2_with fail
      refine HC2.out.mono ?_; rintro e w3 ⟨rfl, fv3, hM3⟩
      obtain ⟨g, c, ev3, hgr, ⟨k0, k1, k2⟩, fz, _⟩ := hM3.fr at0 hcl
      obtain ⟨y0, y1, yl, yr, yf⟩ := hM3.xb
      obtain ⟨d0', _⟩ := hM3.cell
      subst ev3
      have hM4 := ((hM3.frg rfl at0 hcl).2.2.2.1 ad).drew
      have hM4' : Ckm (some (X, some (.cells #[.int .i64 0, .int .i64 ad] 49 (0, 0)))) n B r (.slice (some ⟨g, 0, none⟩) T0.p.length c) lv { T0 with p := T0.p.set at0 (ad, mkd T0.p at0, wrt T0.p at0) } w0 (w3.setCell ⟨g, at0 * 3, none⟩ (.int .i64 ad)).drew := hM4
      rw [← HTD.out] at hM4'
      have HM4 := Lib.hid hM4'
      have z0 := fz (at0 * 3)
      have xg : ¬ X = g := fun e => yf (by rw [e]; rfl)
      have xg' : ¬ g = X := fun e => xg e.symm
      have n1 : ¬ g = r := hgr
      have n2 : ¬ r = g := fun e => hgr e.symm
      have hat : at0 < T.p.length := by rw [HTP.out]; exact hcl
      have hati0 : (at0 : Int) < (T0.p.length : Int) := by omega
      clear hM3 hM4 hM4' fz HC2
      generalize hm : T0.p.length = m at *
      generalize pgA T0.p at0 = pg at *
      generalize mkd T0.p at0 = mm0 at *
      generalize wrt T0.p at0 = ww0 at *
      go_wp2
      go_region
      all_goals
        obtain ⟨fv5, hfv5⟩ : ∃ fv5, fv5 = Value.slice (some ⟨g, 0, none⟩) m c := ⟨_, rfl⟩
        rw [← hfv5] at HM4
        have HEV5 := Lib.hid hfv5
        generalize (w3.setCell ⟨g, at0 * 3, none⟩ (.int .i64 ad)).drew = w4 at *
        have HM5 := HM4
        have hm2 : T.p.length = m := by rw [HTP.out] <;> exact hm
        have hflT : T.fl.length ≤ 900 := by rw [HTF.out]; exact hfl
        have hm9 : at0 < m := by omega
        clear HM4 hfv5 k0 k1 k2 y0 y1 yl yr yf d0' z0 xg xg' n1 n2 hm hati0 hcl HTD
        obtain ⟨t0, _, _, t3, _⟩ := HM5.out.cell
        rw [HEV5.out] at t0
        obtain ⟨al, cl, el⟩ := Own.form HM5.out.ol
        have ol5 := HM5.out.ol
        rw [el] at t3 ol5
        have HEL := Lib.hid el
        have hB5 : B ≤ w4.heap.size := by have := HM5.out.blk.lt; have := HM5.out.hB; omega
        obtain ⟨ngr, _, _, _⟩ := HM5.out.frg HEV5.out at0 hat
        obtain ⟨_, _, _, xr, xf⟩ := HM5.out.xb
        rw [HEV5.out] at xf
        have xg : ¬ X = g := fun e => xf (by rw [e]; rfl)
        have xg' : ¬ g = X := fun e => xg e.symm
        have xr1 : ¬ X = r := xr
        have xr2 : ¬ r = X := fun e => xr e.symm
        have n1 : ¬ g = r := ngr
        have n2 : ¬ r = g := fun e => ngr e.symm
        have HNN := Lib.hid (And.intro xg (And.intro xg' (And.intro xr1 (And.intro xr2 (And.intro n1 n2)))))
        clear xg xg' xr1 xr2 n1 n2 ngr xr xf el
        have hfl5 : (T).fl.length + 1 ≤ 1000000000 := by omega
        generalize hnl : (T).fl.length = nl at *
        go_wp2_with (at_builtin; refine wpList_appL _ rfl _ _ rfl B (.slice al nl cl) (T).fl 1 ?_ ?_ ol5 (by rw [hnl]; exact hfl5) hB5 ?_; rfl; rfl)
        intro v' w6 ho6 hb6 hfr6 hat6
        obtain ⟨q0, q1, hM7⟩ := HM5.out.replL (w' := w6) (lv' := v') (by rw [HEL.out]; exact hfr6) hb6 ho6 (fun k hk => by rw [HEL.out]; exact hat6 k hk)
        rw [HEL.out] at q0
        obtain ⟨a6, c6, e6⟩ := Own.form ho6
        rw [show ((T).fl ++ [(1 : Int)]).length = nl + 1 by rw [List.length_append, hnl]; rfl] at e6
        have s0 : w6.cell? ⟨r, 0, none⟩ = some (.slice (some ⟨g, 0, none⟩) m c) := by
          have hb := (hfr6 r HM5.out.blk.lt (by rw [← HEL.out]; exact HM5.out.ne2))
          exact (World.cell?_of_block (a := ⟨r, 0, none⟩) hb).trans t0
        have hgb : w6.heap[g]? = w4.heap[g]? := hfr6 g ((HM5.out.fs.block g (by rw [HEV5.out]; rfl)).2) (by rw [← HEL.out]; exact fun e => HM5.out.sep g (by rw [HEV5.out]; rfl) e)
        have hxb : w6.heap[X]? = w4.heap[X]? := hfr6 X HM5.out.xb.2.2.1 (by rw [← HEL.out]; exact (HM5.out.x _ rfl).2.2.2.2)
        obtain ⟨_, ⟨p0, p1, p2⟩, fz, _⟩ := HM5.out.frg HEV5.out at0 hat
        have p1' : w6.cell? ⟨g, at0 * 3 + 1, none⟩ = some (.bool (mkd (T).p at0)) := (World.cell?_of_block (a := ⟨g, at0 * 3 + 1, none⟩) hgb).trans p1
        have p2' : w6.cell? ⟨g, at0 * 3 + 2, none⟩ = some (.bool (wrt (T).p at0)) := (World.cell?_of_block (a := ⟨g, at0 * 3 + 2, none⟩) hgb).trans p2
        have z1 : w6.frozen? ⟨g, at0 * 3 + 1, none⟩ = false := (World.frozen?_of_block (a := ⟨g, at0 * 3 + 1, none⟩) hgb).trans (fz _)
        have z2 : w6.frozen? ⟨g, at0 * 3 + 2, none⟩ = false := (World.frozen?_of_block (a := ⟨g, at0 * 3 + 2, none⟩) hgb).trans (fz _)
        have x0 : w6.cell? ⟨X, 0, none⟩ = some (.int .i64 0) := (World.cell?_of_block (a := ⟨X, 0, none⟩) hxb).trans HM5.out.xb.1
        have hM8 := (hM7.frg HEV5.out at0 hat).2.2.2.2.1 true
        have HF := Lib.hid (show Ckm none n B r fv5 v' (ckStep n S (decide ((0 : Int) = 1)) ad) w0 _ from by
          have e := hM8.drop
          have e2 := tch_no (T).p at0
          rw [HST.out, ← HTF.out]
          show Ckm none n B r fv5 v' ⟨tch (T).p at0 false, _, _, _⟩ w0 _
          rw [← e2]
          exact e)
        clear hM7 hM8 ho6 hb6 hfr6 hat6 hgb hxb p0 p1 p2 fz ol5 t0 t3
        obtain ⟨xg, xg', xr1, xr2, n1, n2⟩ := HNN.out
        have hati : (at0 : Int) < (m : Int) := by omega
        generalize mkd (T).p at0 = mm at *
        generalize wrt (T).p at0 = ww at *
        subst e6
        go_wp2
        first | go_end0 | refine bodyPost_ret (results_none rfl _ _ _) rfl ?_
        exact ⟨rfl, _, _, HF.out⟩
    · skip
      go_enter Try.func34, Try.ntmps34
      go_wp2_with fail
      refine HIX.out.mono ?_; rintro e w2 ⟨rfl, b2⟩
      rw [HX.out]
      have HC2 := Lib.hid (HCF.out w2 (HB2.out w2 b2))
      clear HCF HB2 b2 HIX c0 x1
      go_wp2_with fail
      refine HC2.out.mono ?_; rintro e w3 ⟨rfl, fv3, hM3⟩
      obtain ⟨g, c, ev3, hgr, ⟨k0, k1, k2⟩, fz, _⟩ := hM3.fr at0 hcl
      obtain ⟨y0, y1, yl, yr, yf⟩ := hM3.xb
      obtain ⟨d0', _⟩ := hM3.cell
      subst ev3
      have hM4 := ((hM3.frg rfl at0 hcl).2.2.2.1 ad).drew
      have hM4' : Ckm (some (X, some (.cells #[.int .i64 1, .int .i64 ad] 49 (0, 0)))) n B r (.slice (some ⟨g, 0, none⟩) T0.p.length c) lv { T0 with p := T0.p.set at0 (ad, mkd T0.p at0, wrt T0.p at0) } w0 (w3.setCell ⟨g, at0 * 3, none⟩ (.int .i64 ad)).drew := hM4
      rw [← HTD.out] at hM4'
      have HM4 := Lib.hid hM4'
      have z0 := fz (at0 * 3)
      have xg : ¬ X = g := fun e => yf (by rw [e]; rfl)
      have xg' : ¬ g = X := fun e => xg e.symm
      have n1 : ¬ g = r := hgr
      have n2 : ¬ r = g := fun e => hgr e.symm
      have hat : at0 < T.p.length := by rw [HTP.out]; exact hcl
      have hati0 : (at0 : Int) < (T0.p.length : Int) := by omega
      clear hM3 hM4 hM4' fz HC2
      generalize hm : T0.p.length = m at *
      generalize pgA T0.p at0 = pg at *
      generalize mkd T0.p at0 = mm0 at *
      generalize wrt T0.p at0 = ww0 at *
      go_wp2
      go_region
      all_goals
        obtain ⟨fv5, hfv5⟩ : ∃ fv5, fv5 = Value.slice (some ⟨g, 0, none⟩) m c := ⟨_, rfl⟩
        rw [← hfv5] at HM4
        have HEV5 := Lib.hid hfv5
        generalize (w3.setCell ⟨g, at0 * 3, none⟩ (.int .i64 ad)).drew = w4 at *
        have HM5 := HM4
        have hm2 : T.p.length = m := by rw [HTP.out] <;> exact hm
        have hflT : T.fl.length ≤ 900 := by rw [HTF.out]; exact hfl
        have hm9 : at0 < m := by omega
        clear HM4 hfv5 k0 k1 k2 y0 y1 yl yr yf d0' z0 xg xg' n1 n2 hm hati0 hcl HTD
        obtain ⟨t0, _, _, t3, _⟩ := HM5.out.cell
        rw [HEV5.out] at t0
        obtain ⟨al, cl, el⟩ := Own.form HM5.out.ol
        have ol5 := HM5.out.ol
        rw [el] at t3 ol5
        have HEL := Lib.hid el
        have hB5 : B ≤ w4.heap.size := by have := HM5.out.blk.lt; have := HM5.out.hB; omega
        obtain ⟨ngr, _, _, _⟩ := HM5.out.frg HEV5.out at0 hat
        obtain ⟨_, _, _, xr, xf⟩ := HM5.out.xb
        rw [HEV5.out] at xf
        have xg : ¬ X = g := fun e => xf (by rw [e]; rfl)
        have xg' : ¬ g = X := fun e => xg e.symm
        have xr1 : ¬ X = r := xr
        have xr2 : ¬ r = X := fun e => xr e.symm
        have n1 : ¬ g = r := ngr
        have n2 : ¬ r = g := fun e => ngr e.symm
        have HNN := Lib.hid (And.intro xg (And.intro xg' (And.intro xr1 (And.intro xr2 (And.intro n1 n2)))))
        clear xg xg' xr1 xr2 n1 n2 ngr xr xf el
        have hfl5 : (T).fl.length + 1 ≤ 1000000000 := by omega
        generalize hnl : (T).fl.length = nl at *
        go_wp2_with (at_builtin; refine wpList_appL _ rfl _ _ rfl B (.slice al nl cl) (T).fl 1 ?_ ?_ ol5 (by rw [hnl]; exact hfl5) hB5 ?_; rfl; rfl)
        intro v' w6 ho6 hb6 hfr6 hat6
        obtain ⟨q0, q1, hM7⟩ := HM5.out.replL (w' := w6) (lv' := v') (by rw [HEL.out]; exact hfr6) hb6 ho6 (fun k hk => by rw [HEL.out]; exact hat6 k hk)
        rw [HEL.out] at q0
        obtain ⟨a6, c6, e6⟩ := Own.form ho6
        rw [show ((T).fl ++ [(1 : Int)]).length = nl + 1 by rw [List.length_append, hnl]; rfl] at e6
        have s0 : w6.cell? ⟨r, 0, none⟩ = some (.slice (some ⟨g, 0, none⟩) m c) := by
          have hb := (hfr6 r HM5.out.blk.lt (by rw [← HEL.out]; exact HM5.out.ne2))
          exact (World.cell?_of_block (a := ⟨r, 0, none⟩) hb).trans t0
        have hgb : w6.heap[g]? = w4.heap[g]? := hfr6 g ((HM5.out.fs.block g (by rw [HEV5.out]; rfl)).2) (by rw [← HEL.out]; exact fun e => HM5.out.sep g (by rw [HEV5.out]; rfl) e)
        have hxb : w6.heap[X]? = w4.heap[X]? := hfr6 X HM5.out.xb.2.2.1 (by rw [← HEL.out]; exact (HM5.out.x _ rfl).2.2.2.2)
        obtain ⟨_, ⟨p0, p1, p2⟩, fz, _⟩ := HM5.out.frg HEV5.out at0 hat
        have p1' : w6.cell? ⟨g, at0 * 3 + 1, none⟩ = some (.bool (mkd (T).p at0)) := (World.cell?_of_block (a := ⟨g, at0 * 3 + 1, none⟩) hgb).trans p1
        have p2' : w6.cell? ⟨g, at0 * 3 + 2, none⟩ = some (.bool (wrt (T).p at0)) := (World.cell?_of_block (a := ⟨g, at0 * 3 + 2, none⟩) hgb).trans p2
        have z1 : w6.frozen? ⟨g, at0 * 3 + 1, none⟩ = false := (World.frozen?_of_block (a := ⟨g, at0 * 3 + 1, none⟩) hgb).trans (fz _)
        have z2 : w6.frozen? ⟨g, at0 * 3 + 2, none⟩ = false := (World.frozen?_of_block (a := ⟨g, at0 * 3 + 2, none⟩) hgb).trans (fz _)
        have x0 : w6.cell? ⟨X, 0, none⟩ = some (.int .i64 1) := (World.cell?_of_block (a := ⟨X, 0, none⟩) hxb).trans HM5.out.xb.1
        have hM8 := (hM7.frg HEV5.out at0 hat).2.2.2.2.1 true
        have hM9 := (hM8.frg HEV5.out at0 (by show at0 < ((T).p.set _ _).length; rw [List.length_set]; exact hat)).2.2.2.2.2 true
        have HF := Lib.hid (show Ckm none n B r fv5 v' (ckStep n S (decide ((1 : Int) = 1)) ad) w0 _ from by
          have e := hM9.drop
          have e2 := tch_yes (T).p at0 hat
          rw [HST.out, ← HTF.out]
          show Ckm none n B r fv5 v' ⟨tch (T).p at0 true, _, _, _⟩ w0 _
          rw [← e2]
          exact e)
        clear hM9
        clear hM7 hM8 ho6 hb6 hfr6 hat6 hgb hxb p0 p1 p2 fz ol5 t0 t3
        obtain ⟨xg, xg', xr1, xr2, n1, n2⟩ := HNN.out
        have hati : (at0 : Int) < (m : Int) := by omega
        generalize mkd (T).p at0 = mm at *
        generalize wrt (T).p at0 = ww at *
        subst e6
        go_wp2
        first | go_end0 | refine bodyPost_ret (results_none rfl _ _ _) rfl ?_
        exact ⟨rfl, _, _, HF.out⟩
end Go.Proofs.Ytdjkmffekfbbcaa.Ck
