/- The program's intervals: by a map of last uses, then sorted. -/
import Derived.Test.YtlakekeolpepbaaCivl
import Derived.Maps.OwnSet
import Derived.Maps.OwnOps
namespace Go.Proofs.Ytlakekeolpepbaa.Tr
open Go.RowKit Go.Maps
/-- A boxed variable. -/
def Bx (w : World) (b : Nat) (v : Value) (t : TypeId) : Prop := w.heap[b]? = some (.cells #[v] t (0, 0))
theorem Bx.cell {w : World} {b : Nat} {v : Value} {t : TypeId} (h : Bx w b v t) : w.cell? ⟨b, 0, none⟩ = some v := by rw [cell_of_row w b 0 _ _ (0, 0) h]; rfl
theorem Bx.froz {w : World} {b : Nat} {v : Value} {t : TypeId} (h : Bx w b v t) : w.frozen? ⟨b, 0, none⟩ = false := frozen_of_row w b 0 _ _ h
theorem Bx.lt {w : World} {b : Nat} {v : Value} {t : TypeId} (h : Bx w b v t) : b < w.heap.size := (Array.getElem?_eq_some_iff.1 h).1
theorem Bx.below {w w' : World} {b B : Nat} {v : Value} {t : TypeId} (h : Bx w b v t) (hb : Below B w w') (hB : b < B) : Bx w' b v t := (hb.block b hB).trans h
theorem Bx.set {w : World} {b : Nat} {v : Value} {t : TypeId} (h : Bx w b v t) (u : Value) : Bx (w.setCell ⟨b, 0, none⟩ u) b u t := by
  unfold Bx
  rw [Go.heap_setCell_same w b 0 _ _ u h]; rfl
theorem grown_set (w : World) (b : Nat) (u : Value) : w.grownBy (w.setCell ⟨b, 0, none⟩ u) (some b) :=
  ⟨rfl, rfl, rfl, by simp [World.setCell], fun k _ hk => Go.heap_setCell_other w ⟨b, 0, none⟩ k u (fun e => hk (by simp [e]))⟩
theorem Bx.grown {w w' : World} {b : Nat} {v : Value} {t : TypeId} {row : Option Nat} (h : Bx w b v t) (hg : w.grownBy w' row) (hne : some b ≠ row) : Bx w' b v t := (hg.block b h.lt hne).trans h
theorem lawI : Keyed Try.prog 2 := int_keyed Try.underlying2
theorem zeroI (w : World) : (zeroValue 2).run Try.prog w = .ok (.int .i64 0) w := by kernel_rfl
theorem mapBelow {w w' : World} {b n B : Nat} {D : DataW Unit} (h : w.ownsMap Try.prog 2 (plainElem Try.prog 2) b n D) (hb : Below B w w') (hB : b < B) : w'.ownsMap Try.prog 2 (plainElem Try.prog 2) b n D := by
  obtain ⟨es, clock, h1, h2⟩ := h
  exact ⟨es, clock, (hb.block b hB).trans h1, h2⟩
/-- The map tells for each number where it stood last among the first j. -/
def MapL (xs : List Int) (j : Nat) (D : DataW Unit) : Prop := IsMap D ∧ ∀ x : Int, has D (.int .i64 x) = decide (0 ≤ lastAt xs x j) ∧ (0 ≤ lastAt xs x j → ∀ z, D.atKey (.int .i64 x) z = .lit (.int .i64 (lastAt xs x j)))
theorem MapL.zero (xs : List Int) : MapL xs 0 (.map []) := ⟨isMap_empty, fun x => ⟨by simp [lastAt, has], fun h => by simp [lastAt] at h⟩⟩
theorem MapL.step {xs : List Int} {j : Nat} {D : DataW Unit} (h : MapL xs j D) : MapL xs (j + 1) (D.put (.int .i64 (xs.getD j 0)) (.lit (.int .i64 (j : Nat)))) := by
  refine ⟨h.1.put _ _, fun x => ?_⟩
  rw [lastAt_succ]
  by_cases e : xs.getD j 0 = x
  · subst e
    rw [if_pos rfl]
    exact ⟨by rw [has_put_same h.1 (by simp [WideAt.IsKeyLit])]; simp, fun _ z => atKey_put_same h.1 (by simp [WideAt.IsKeyLit]) _ z⟩
  · rw [if_neg e]
    have hne : (Lit.int .i64 x) ≠ (Lit.int .i64 (xs.getD j 0)) := fun h => e (by injection h with _ h; exact h.symm)
    exact ⟨by rw [has_put_other hne]; exact (h.2 x).1, fun h0 z => by rw [atKey_put_other hne]; exact (h.2 x).2 h0 z⟩
/-- What the loop of intervalsOf keeps. -/
def IvI (xs : List Int) (Z : Nat) (w : World) (j : Nat) (v : Value) (wr : World) : Prop :=
  Bx wr Z v 39 ∧ OwnI wr (Z + 2) v (ivE xs j) ∧ (∃ D : DataW Unit, wr.ownsMap Try.prog 2 (plainElem Try.prog 2) (Z + 1) j D ∧ MapL xs j D) ∧ Below Z w wr ∧ Z + 2 ≤ wr.heap.size
/-- What a function leaves that returns intervals of its own. -/
def LbI (ps : List (Int × Int)) (w : World) (e : Ending) (w' : World) : Prop := ∃ v, e = .returned v ∧ OwnI w' w.heap.size v ps ∧ Below w.heap.size w w'
theorem ivE_yes (xs : List Int) (j : Nat) (h : 0 ≤ lastAt xs (xs.getD j 0) j) : ivE xs (j + 1) = ivE xs j ++ [(lastAt xs (xs.getD j 0) j, (j : Int))] := by rw [ivE, if_pos h]
theorem ivE_no (xs : List Int) (j : Nat) (h : ¬ 0 ≤ lastAt xs (xs.getD j 0) j) : ivE xs (j + 1) = ivE xs j := by rw [ivE, if_neg h, List.append_nil]
/-- The round's end: the map is written. -/
theorem IvI.upd {xs : List Int} {Z : Nat} {w : World} {j : Nat} {v : Value} {wr w1 : World} {D : DataW Unit} (h1 : Bx wr Z v 39) (h2 : OwnI wr (Z + 2) v (ivE xs (j + 1))) (h4 : Below Z w wr) (h5 : Z + 2 ≤ wr.heap.size) (hm : MapL xs j D)
    (hown : w1.ownsMap Try.prog 2 (plainElem Try.prog 2) (Z + 1) (j + 1) (D.put (.int .i64 (xs.getD j 0)) (.lit (.int .i64 (j : Nat))))) (hg : wr.grownBy w1 (some (Z + 1))) : IvI xs Z w (j + 1) v w1 :=
  ⟨h1.grown hg (by simp), h2.kept hg (fun k hk e => by have := (h2.block k hk).1; injection e with e; omega), ⟨_, hown, hm.step⟩, h4.grown hg (by omega) (fun k hk => by injection hk with hk; omega), Nat.le_trans h5 hg.size⟩
theorem IvI.start (xs : List Int) (w : World) : IvI xs w.heap.size w 0 (.slice none 0 0) ((w.alloc (.cells #[.slice none 0 0] 39)).alloc (.map #[] 0)) := by
  have hz : (w.alloc (.cells #[.slice none 0 0] 39)).heap.size = w.heap.size + 1 := Array.size_push _
  have hz2 : ((w.alloc (.cells #[.slice none 0 0] 39)).alloc (.map #[] 0)).heap.size = (w.alloc (.cells #[.slice none 0 0] 39)).heap.size + 1 := Array.size_push _
  refine ⟨?_, OwnI.nil _ _, ⟨_, hz ▸ World.ownsMap_made _ _ _ _, MapL.zero xs⟩, ?_, by omega⟩
  · exact (Below.heap_alloc _ _ _ (by omega)).trans (heap_alloc_new w _)
  · exact ((Below.refl _ w).alloc (Nat.le_refl _) _).alloc (by omega) _
set_option maxHeartbeats 4000000 in
set_option maxRecDepth 100000 in
theorem iv_i (a : Option Addr) (c : Nat) (xs : List Int) (w : World) (hok : okU xs = true) (hr : Row w a xs) :
    Calls Try.prog 25 #[.slice a xs.length c] w (LbI (ivP xs) w) := by
  have hmm := @run_makeMap Try.prog
  have hN60 := okU_len hok
  have HC := Lib.hid (fun (j : Nat) (hj : j < xs.length) => hr j hj)
  have HA := Lib.hid (fun (j : Nat) (hj : j < xs.length) => okU_at hok j hj)
  have HS := Lib.hid (fun (l : List (Int × Int)) (h1 : l.Perm (ivE xs xs.length)) (h2 : l.Pairwise (fun a b => a.1 ≤ b.1)) => iv_sorted xs l h1 h2)
  have HLN := Lib.hid (fun j => ivE_len xs j)
  have HR := Lib.hid (fun (j : Nat) => lastAt_rng xs (xs.getD j 0) j)
  have HY := Lib.hid (fun j => ivE_yes xs j)
  have HNO := Lib.hid (fun j => ivE_no xs j)
  have HST := Lib.hid (IvI.start xs w)
  clear hr hok
  generalize ivP xs = IV at *
  generalize hN : xs.length = N at *
  clear hN
  go_enter Try.func25, Try.ntmps25
  go_wp2
  go_loopw [5, 6, 7, 8, 12] (fun _ _ _ _ i wr => ∃ (j : Nat) (v : Value), j ≤ N ∧ i = .int .i64 j ∧ Hid (IvI xs w.heap.size w j v wr)) (fun _ _ _ _ i _ => N - (intOf i).toNat)
  case atStart => exact ⟨0, .slice none 0 0, Nat.zero_le _, rfl, HST⟩
  case round =>
    obtain ⟨j, v, hj, rfl, hI⟩ := hrel
    clear HST
    by_cases hlt : j < N
    · obtain ⟨b, off, rfl, c1, hbw⟩ := HC.out j hlt
      obtain ⟨h1, h2, ⟨D, h3, hm⟩, h4, h5⟩ := hI.out
      obtain ⟨va, vc, rfl⟩ := h2.form
      have c2 : wr.cell? ⟨b, off + j, none⟩ = some (.int .i64 (xs.getD j 0)) := (h4.cell (p := ⟨b, off + j, none⟩) hbw).trans c1
      have hu := HA.out j hlt
      have hl := HR.out j
      have hmx := Lib.hid (hm.2 (xs.getD j 0))
      have hy := Lib.hid (HY.out j)
      have hn := Lib.hid (HNO.out j)
      have hln := HLN.out j
      have HUP := Lib.hid (fun (v' : Value) (w2 w1 : World) (a1 : Bx w2 w.heap.size v' 39) (a2 : OwnI w2 (w.heap.size + 2) v' (ivE xs (j + 1))) (a4 : Below w.heap.size w w2) (a5 : w.heap.size + 2 ≤ w2.heap.size) => IvI.upd (w1 := w1) a1 a2 a4 a5 hm)
      have H1 := Lib.hid h1
      have H2 := Lib.hid h2
      have H3 := Lib.hid h3
      have H4 := Lib.hid h4
      have k0 := h1.cell
      have kf := h1.froz
      clear c1 hm hI h1 h2 h3 h4
      generalize lastAt xs (xs.getD j 0) j = L at *
      generalize ivE xs (j + 1) = E1 at *
      generalize ivE xs j = E0 at *
      generalize xs.getD j 0 = u at *
      have hwf : (Lit.int .i64 u).wf = true := WalkArith.wf_i64 (by omega)
      have hwj : (Lit.int .i64 (j : Int)).wf = true := WalkArith.wf_i64 (by omega)
      have hjm : j < maxLen := by unfold maxLen; omega
      by_cases hL : 0 ≤ L
      · have hhas := hmx.out.1
        rw [decide_eq_true hL] at hhas
        go_wp2_with (first
          | (at_lookup; refine wpList_lookup_own_ok_int _ rfl _ _ 52 rfl 2 2 .i64 lawI Try.underlying52 Try.underlying2 (zeroI _) (w.heap.size + 1) j D rfl H3.out _ _ rfl (keyOf_int_mk Try.underlying2 hwf) ?_; intro cL hat hwc; rw [hhas]; (have e : cL = L := by (have h := (hmx.out.2 hL _).symm.trans hat; injection h with h; injection h with _ h; exact h.symm)); subst e)
          | (at_builtin; refine wpList_appI _ rfl _ _ rfl (w.heap.size + 2) _ E0 _ _ ?_ ?_ H2.out (by omega) h5 ?_; rfl; rfl))
        intro v1 w1 ho1 hb1
        obtain ⟨v1a, v1c, rfl⟩ := ho1.form
        have hbx1 := H1.out.below hb1 (Nat.lt_add_of_pos_right (by decide))
        have kx := hbx1.cell
        have ky := hbx1.froz
        have H3' := Lib.hid ((mapBelow H3.out hb1 (by omega)).kept (grown_set w1 w.heap.size (.slice v1a (E0 ++ [(cL, (j : Int))]).length v1c)) (by simp))
        have HO1 := Lib.hid (ho1.kept (grown_set w1 w.heap.size (.slice v1a (E0 ++ [(cL, (j : Int))]).length v1c)) (fun k hk e => by have := (ho1.block k hk).1; injection e with e; omega))
        have HB1 := Lib.hid (hbx1.set (.slice v1a (E0 ++ [(cL, (j : Int))]).length v1c))
        have H41 := Lib.hid (((H4.out.trans (hb1.mono (by omega))).setCell (p := ⟨w.heap.size, 0, none⟩) (Nat.le_refl _) (.slice v1a (E0 ++ [(cL, (j : Int))]).length v1c)))
        have H51 : w.heap.size + 2 ≤ (w1.setCell ⟨w.heap.size, 0, none⟩ (.slice v1a (E0 ++ [(cL, (j : Int))]).length v1c)).heap.size := by
          have := hb1.size
          simp [World.setCell]; omega
        have H52 := Lib.hid H51
        have HE := Lib.hid (hy.out hL)
        clear ho1 hb1 hbx1 H51 hmx hy hn
        generalize hLL : (E0 ++ [(cL, (j : Int))]).length = LL at *
        clear hLL
        generalize (E0 ++ [(cL, (j : Int))]) = EE at *
        go_wp2_with (at_mapUpdate; refine wpList_mapUpdate_own _ rfl _ _ _ 52 rfl 2 2 lawI Try.underlying52 _ (w.heap.size + 1) j _ rfl H3'.out hjm _ _ _ rfl rfl (keyOf_int_mk Try.underlying2 hwf) _ [] (plainElem_int Try.underlying2 hwj) ?_; intro w2 hown2 hgrow2)
        go_roundw
        case rel => exact ⟨j + 1, _, by omega, by go_num, Lib.hid (HUP.out _ _ _ HB1.out (by rw [HE.out]; exact HO1.out) H41.out H52.out hown2 hgrow2)⟩
        case measure => simp [intOf] <;> omega
      · have hhas := hmx.out.1
        rw [decide_eq_false hL] at hhas
        have HE := Lib.hid (hn.out (by omega))
        clear hy hn
        go_wp2_with (first
          | (at_lookup; refine wpList_lookup_own_ok_int _ rfl _ _ 52 rfl 2 2 .i64 lawI Try.underlying52 Try.underlying2 (zeroI _) (w.heap.size + 1) j D rfl H3.out _ _ rfl (keyOf_int_mk Try.underlying2 hwf) ?_; intro cL hat hwc; rw [hhas])
          | (at_mapUpdate; refine wpList_mapUpdate_own _ rfl _ _ _ 52 rfl 2 2 lawI Try.underlying52 _ (w.heap.size + 1) j _ rfl H3.out hjm _ _ _ rfl rfl (keyOf_int_mk Try.underlying2 hwf) _ [] (plainElem_int Try.underlying2 hwj) ?_; intro w2 hown2 hgrow2))
        go_roundw
        case rel => exact ⟨j + 1, _, by omega, by go_num, Lib.hid (HUP.out _ _ _ H1.out (by rw [HE.out]; exact H2.out) H4.out h5 hown2 hgrow2)⟩
        case measure => simp [intOf] <;> omega
    · have e : j = N := by omega
      subst e
      obtain ⟨h1, h2, _, h4, h5⟩ := hI.out
      obtain ⟨va, vc, rfl⟩ := h2.form
      have k0 := h1.cell
      have hln := HLN.out j
      have HSI := Lib.hid (sort_iv (B := w.heap.size + 2) (Z := w.heap.size) (by omega) h2 k0 h1.lt (by omega) h5)
      have HE := Lib.hid (fun (w2 : World) (l : List (Int × Int)) (p1 : l.Perm (ivE xs j)) (p2 : l.Pairwise (fun a b => a.1 ≤ b.1)) (o2 : OwnI w2 (w.heap.size + 2) (.slice va (ivE xs j).length vc) l) (b2 : Below (w.heap.size + 2) wr w2) =>
        (show w2.cell? ⟨w.heap.size, 0, none⟩ = some (.slice va (ivE xs j).length vc) ∧ OwnI w2 w.heap.size (.slice va (ivE xs j).length vc) IV ∧ Below w.heap.size w w2 from
          ⟨(h1.below b2 (by omega)).cell, by have e := HS.out l p1 p2; rw [← e]; exact o2.mono (by omega), h4.trans (b2.mono (by omega))⟩))
      clear h1 h2 h4 h5 hI HS HLN HC HA HR HY HNO
      generalize (ivE xs j).length = LL at *
      generalize ivE xs j = EE at *
      go_wp2_with (go_at_call 40; refine HSI.out.mono ?_; rintro e w2 ⟨rfl, l, p1, p2, o2, b2⟩; obtain ⟨k1, k2, k3⟩ := HE.out w2 l p1 p2 o2 b2; have K2 := Lib.hid k2; have K3 := Lib.hid k3; clear o2 b2 k2 k3 p1 p2)
      go_ret
      exact ⟨_, rfl, K2.out, K3.out⟩
end Go.Proofs.Ytlakekeolpepbaa.Tr
