/- The program's clock: the look for a page, a frame made clear. -/
import Derived.Test.YtdjkmffekfbbcaaCclk
import Derived.Deep.QuietTactic
namespace Go.Proofs.Ytdjkmffekfbbcaa.Ck
open Go.RowKit
theorem fi_at (p : List Pf) (x : Int) (j : Nat) (hj : j < p.length) (hne : ∀ i, i < j → pgA p i ≠ x) (he : pgA p j = x) : fi p x = j := by
  have hlt : ∀ (p : List Pf) (j : Nat), j < p.length → (∀ i, i < j → pgA p i ≠ x) → pgA p j = x → fi p x = j := by
    intro p
    induction p with
    | nil => intro j hj; simp at hj
    | cons f p ih =>
      intro j hj hne he
      unfold fi
      rw [List.map_cons, List.idxOf_cons]
      cases j with
      | zero =>
        have e : f.1 = x := he
        have e2 : (f.1 == x) = true := by simpa using e
        rw [e2]; rfl
      | succ j =>
        have e0 := hne 0 (by omega)
        have e1 : (f.1 == x) = false := by simpa using (show ¬ f.1 = x from e0)
        rw [e1]
        have := ih j (by simpa using hj) (fun i hi => hne (i + 1) (by omega)) he
        unfold fi at this
        simp only [cond_false]
        rw [this]
  exact hlt p j hj hne he
theorem fi_none (p : List Pf) (x : Int) (hne : ∀ i, i < p.length → pgA p i ≠ x) : fi p x = p.length := by
  unfold fi
  have : x ∉ p.map Prod.fst := fun hm => by
    obtain ⟨f, hf, e⟩ := List.mem_map.1 hm
    obtain ⟨i, hi, e2⟩ := List.mem_iff_getElem.1 hf
    refine hne i hi ?_
    unfold pgA
    rw [List.getD_eq_getElem?_getD, List.getElem?_eq_getElem hi]
    show (p[i]).1 = x
    rw [e2, e]
  rw [List.idxOf_eq_length this, List.length_map]
theorem same_page (pg x : Int) (m v : Bool) (X : Nat) (w : World) (hX : X < w.heap.size) (hx : w.cell? ⟨X, 1, none⟩ = some (.int .i64 x)) :
    Calls Try.prog 56 #[.agg #[.int .i64 pg, .bool m, .bool v], .pointer (some ⟨X, 0, none⟩)] w (Bb (pg == x) w) := by
  go_enter Try.func56, Try.ntmps56
  go_wp2
  go_ret
  exact ⟨rfl, (Below.refl _ _).alloc (Nat.le_refl _) _⟩
def ixV (p : List Pf) (x : Int) : Int := if fi p x < p.length then (fi p x : Int) else -1
set_option maxRecDepth 100000 in
set_option maxHeartbeats 2000000 in
theorem index_i {xo : Option (Nat × Option Obj)} {n B r : Nat} {fv lv : Value} {S : CkS} {w0 w : World} (h : Ckm xo n B r fv lv S w0 w) (x : Int) (X : Nat) (hl : S.p.length ≤ 16) (hX : X < w.heap.size) (hx : w.cell? ⟨X, 1, none⟩ = some (.int .i64 x)) :
    Calls Try.prog 55 #[fv, .func (.func 56) #[] #[.pointer (some ⟨X, 0, none⟩)]] w (Nb (ixV S.p x) w) := by
  obtain ⟨a, c, ev⟩ := h.fs.form
  have HI := Lib.hid (fun (w' : World) (hb : Below w.heap.size w w') (j : Nat) (hj : j < S.p.length) => (show ∃ g, a = some ⟨g, 0, none⟩ ∧ w'.cell? ⟨g, j * 3, none⟩ = some (.int .i64 (pgA S.p j)) ∧ w'.cell? ⟨g, j * 3 + 1, none⟩ = some (.bool (mkd S.p j)) ∧ w'.cell? ⟨g, j * 3 + 2, none⟩ = some (.bool (wrt S.p j)) from by
    obtain ⟨g, c', e', _, ⟨k0, k1, k2⟩, _⟩ := (h.below hb).fr j hj
    rw [ev] at e'
    injection e' with e1
    exact ⟨g, e1, k0, k1, k2⟩))
  have HSP := Lib.hid (fun (w' : World) (hb : Below w.heap.size w w') (pg : Int) (m v : Bool) => same_page pg x m v X w' (Nat.lt_of_lt_of_le hX hb.size) ((hb.cell (p := ⟨X, 1, none⟩) hX).trans hx))
  have HA := Lib.hid (fun j hj hne he => fi_at S.p x j hj hne he)
  have HN := Lib.hid (fi_none S.p x)
  unfold ixV
  rw [ev]
  clear h ev hx
  obtain ⟨F, hF⟩ : ∃ F, fi S.p x = F := ⟨_, rfl⟩
  rw [hF] at HN ⊢
  have HA' := Lib.hid (fun j hj hne he => hF.symm.trans (HA.out j hj hne he))
  clear HA hF
  obtain ⟨R, hR⟩ : ∃ R : Int, (if F < S.p.length then (F : Int) else -1) = R := ⟨_, rfl⟩
  rw [hR]
  have HRR := Lib.hid hR
  clear hR
  generalize hL : S.p.length = L at *
  clear hL
  go_enter Try.func55, Try.ntmps55
  go_wp2
  go_loopw [5, 8] (fun _ i wr => ∃ j : Nat, j ≤ L ∧ i = .int .i64 (j : Int) ∧ Hid (∀ i, i < j → pgA S.p i ≠ x) ∧ Hid (Below w.heap.size w wr)) (fun _ i _ => L - (intOf i).toNat)
  case atStart => exact ⟨0, Nat.zero_le _, rfl, Lib.hid (fun i hi => by omega), Lib.hid (Below.refl _ _)⟩
  case round =>
    obtain ⟨j, hj, rfl, hne, hb⟩ := hrel
    by_cases hlt : j < L
    · obtain ⟨g, rfl, k0, k1, k2⟩ := HI.out wr hb.out j hlt
      have HS := Lib.hid (HSP.out wr hb.out (pgA S.p j) (mkd S.p j) (wrt S.p j))
      have HBB := Lib.hid (fun (w2 : World) (h2 : Below wr.heap.size wr w2) => hb.out.trans (h2.mono hb.out.size))
      by_cases he : pgA S.p j = x
      · have hF := HA'.out j hlt hne.out he
        have hxb : (pgA S.p j == x) = true := by simpa using he
        rw [hxb] at HS
        have hRj : R = (j : Int) := by rw [← HRR.out, hF, if_pos hlt]
        subst hRj
        clear HRR
        generalize pgA S.p j = pg at *
        generalize mkd S.p j = m at *
        generalize wrt S.p j = v at *
        clear hF hxb he HI HSP HA' HN
        go_wp2_with fail
        refine HS.out.mono ?_; rintro e w2 ⟨rfl, b2⟩
        have HB2 := Lib.hid (HBB.out w2 b2)
        clear b2
        go_wp2
        go_ret
        exact ⟨rfl, HB2.out⟩
      · have hxb : (pgA S.p j == x) = false := by simpa using he
        rw [hxb] at HS
        have HNE := Lib.hid (show ∀ i, i < j + 1 → pgA S.p i ≠ x from fun i hi => by
          by_cases e : i = j
          · subst e; exact he
          · exact hne.out i (by omega))
        generalize hpg : pgA S.p j = pg at k0 HS
        generalize mkd S.p j = m at *
        generalize wrt S.p j = v at *
        clear hxb he hpg
        go_wp2_with fail
        refine HS.out.mono ?_; rintro e w2 ⟨rfl, b2⟩
        have HB2 := Lib.hid (HBB.out w2 b2)
        clear b2
        go_wp2
        go_roundw
        case rel => exact ⟨j + 1, by omega, by go_num, HNE, HB2⟩
        case measure => simp [intOf]; omega
    · have e : j = L := by omega
      subst e
      have hF := HN.out hne.out
      have hRj : R = -1 := by rw [← HRR.out, hF, if_neg (Nat.lt_irrefl _)]
      subst hRj
      clear hF HRR
      go_wp2
      go_ret
      exact ⟨rfl, hb.out⟩
/-! clearFrame -/
theorem pgA_set (p : List Pf) (j : Nat) (hj : j < p.length) (f : Pf) : pgA (p.set j f) j = f.1 ∧ mkd (p.set j f) j = f.2.1 ∧ wrt (p.set j f) j = f.2.2 := by
  have e : (p.set j f).getD j f0 = f := by rw [List.getD_eq_getElem?_getD, List.getElem?_set_self hj]; rfl
  unfold pgA mkd wrt
  rw [e]
  exact ⟨rfl, rfl, rfl⟩
theorem Ckm.zero {xo : Option (Nat × Option Obj)} {n B r : Nat} {fv lv : Value} {S : CkS} {w0 w : World} (h : Ckm xo n B r fv lv S w0 w) {g m c : Nat} (e : fv = .slice (some ⟨g, 0, none⟩) m c) (j : Nat) (hj : j < S.p.length) :
    Ckm xo n B r fv lv { S with p := S.p.set j f0 } w0 (((w.setCell ⟨g, j * 3, none⟩ (.int .i64 0)).setCell ⟨g, j * 3 + 1, none⟩ (.bool false)).setCell ⟨g, j * 3 + 2, none⟩ (.bool false)) := by
  have h1 := (h.frg e j hj).2.2.2.1 0
  have h2 := (h1.frg e j (by show j < (S.p.set _ _).length; rw [List.length_set]; exact hj)).2.2.2.2.1 false
  have h3 := (h2.frg e j (by show j < ((S.p.set _ _).set _ _).length; rw [List.length_set, List.length_set]; exact hj)).2.2.2.2.2 false
  obtain ⟨q1, q2, q3⟩ := pgA_set S.p j hj (0, mkd S.p j, wrt S.p j)
  obtain ⟨t1, t2, t3⟩ := pgA_set (S.p.set j (0, mkd S.p j, wrt S.p j)) j (by rw [List.length_set]; exact hj) (pgA (S.p.set j (0, mkd S.p j, wrt S.p j)) j, false, wrt (S.p.set j (0, mkd S.p j, wrt S.p j)) j)
  have e3 : (((S.p.set j (0, mkd S.p j, wrt S.p j)).set j (pgA (S.p.set j (0, mkd S.p j, wrt S.p j)) j, false, wrt (S.p.set j (0, mkd S.p j, wrt S.p j)) j)).set j (pgA ((S.p.set j (0, mkd S.p j, wrt S.p j)).set j (pgA (S.p.set j (0, mkd S.p j, wrt S.p j)) j, false, wrt (S.p.set j (0, mkd S.p j, wrt S.p j)) j)) j, mkd ((S.p.set j (0, mkd S.p j, wrt S.p j)).set j (pgA (S.p.set j (0, mkd S.p j, wrt S.p j)) j, false, wrt (S.p.set j (0, mkd S.p j, wrt S.p j)) j)) j, false)) = S.p.set j f0 := by
    rw [t1, t2, q1, List.set_set, List.set_set]
    rfl
  have h4 : Ckm xo n B r fv lv { S with p := (((S.p.set j (0, mkd S.p j, wrt S.p j)).set j (pgA (S.p.set j (0, mkd S.p j, wrt S.p j)) j, false, wrt (S.p.set j (0, mkd S.p j, wrt S.p j)) j)).set j (pgA ((S.p.set j (0, mkd S.p j, wrt S.p j)).set j (pgA (S.p.set j (0, mkd S.p j, wrt S.p j)) j, false, wrt (S.p.set j (0, mkd S.p j, wrt S.p j)) j)) j, mkd ((S.p.set j (0, mkd S.p j, wrt S.p j)).set j (pgA (S.p.set j (0, mkd S.p j, wrt S.p j)) j, false, wrt (S.p.set j (0, mkd S.p j, wrt S.p j)) j)) j, false)) } w0 _ := h3
  rw [e3] at h4
  exact h4
def cfI (n : Nat) (S : CkS) : Nat := if S.p.length < n then S.p.length else (V S.p S.h).2
def cfS (n : Nat) (S : CkS) : CkS := if S.p.length < n then { S with p := S.p ++ [f0] } else ⟨(V S.p S.h).1.set (V S.p S.h).2 f0, ((V S.p S.h).2 + 1) % S.p.length, S.fl, S.b + if wrt (V S.p S.h).1 (V S.p S.h).2 then 1 else 0⟩
set_option maxRecDepth 100000 in
set_option maxHeartbeats 4000000 in
theorem clear_i {xo : Option (Nat × Option Obj)} {n B r : Nat} {fv lv : Value} {S : CkS} {w0 w : World} (h : Ckm xo n B r fv lv S w0 w) (hp : S.p.length ≤ n) (hn : n ≤ 16) (hh : S.h < n) (hb : S.b ≤ 1000) :
    Calls Try.prog 57 #[.pointer (some ⟨r, 0, none⟩)] w (fun e w2 => e = .returned (.int .i64 (cfI n S : Int)) ∧ ∃ fv', Ckm xo n B r fv' lv (cfS n S) w0 w2) := by
  obtain ⟨c0, c1, _, _, c4⟩ := h.cell
  obtain ⟨a, c, ev⟩ := h.fs.form
  by_cases hlt : S.p.length < n
  · have e1 : cfI n S = S.p.length := if_pos hlt
    have e2 : cfS n S = { S with p := S.p ++ [f0] } := if_pos hlt
    rw [e1, e2]
    have hof : OwnF w B fv S.p := h.fs
    have hlt2 : (S.p.length : Int) < (n : Int) := by omega
    have hsz : B ≤ w.heap.size := by have := h.blk.lt; have := h.hB; omega
    have HR := Lib.hid (fun (q : Nat) (w' : World) (p' : List Pf) (fv' : Value) (hst : ∀ b, b < (w.drewN q).heap.size → fv.ownBlock ≠ some b → w'.heap[b]? = (w.drewN q).heap[b]?) (hbl : Below B (w.drewN q) w') (ho : OwnF w' B fv' p') (hk : ∀ k, fv'.ownBlock = some k → fv.ownBlock = some k ∨ (w.drewN q).heap.size ≤ k) => (h.drewN q).replF hst hbl ho hk)
    rw [ev] at c0 hof HR
    clear e1 e2 h ev c4
    generalize hL : S.p.length = L at *
    go_enter Try.func57, Try.ntmps57
    go_wp2
    go_quiet (fail)
    rename_i nq
    have hof2 : OwnF (w.drewN nq) B (.slice a L c) S.p := hof.same fun _ _ => rfl
    go_wp2_with (at_builtin; refine wpList_appF _ rfl _ _ rfl B (.slice a L c) S.p ?_ ?_ hof2 (by omega) hsz ?_; rfl; rfl)
    intro v' w3 ho3 hb3 hfr3 hat3
    obtain ⟨q0, f0', hM⟩ := HR.out nq w3 _ v' hfr3 hb3 ho3 hat3
    obtain ⟨a3, c3, e3⟩ := ho3.form
    have hle : (S.p ++ [f0]).length = L + 1 := by rw [List.length_append, hL]; rfl
    rw [hle] at e3
    have HM := Lib.hid hM
    clear hM ho3 hb3 hfr3 hat3 hle hof2 hof HR
    subst e3
    go_wp2
    go_ret
    exact ⟨rfl, _, HM.out⟩
  · have e1 : cfI n S = (V S.p S.h).2 := if_neg hlt
    have e2 : cfS n S = ⟨(V S.p S.h).1.set (V S.p S.h).2 f0, ((V S.p S.h).2 + 1) % S.p.length, S.fl, S.b + if wrt (V S.p S.h).1 (V S.p S.h).2 then 1 else 0⟩ := if_neg hlt
    rw [e1, e2]
    have hhl : S.h < S.p.length := by omega
    have hvl := V_len S.p S.h hhl
    have hvt := V_lt S.p S.h hhl
    obtain ⟨g, c', ev', hgr, _⟩ := h.fr S.h hhl
    have HVI := Lib.hid (fun q => victim_i (h.drewN q) (by omega) hhl)
    have hlt2 : ¬ (S.p.length : Int) < (n : Int) := by omega
    have HEV := Lib.hid ev'
    rw [ev'] at c0
    clear e1 e2 h ev hlt
    generalize hVV : V S.p S.h = VV at *
    obtain ⟨nb, hnb⟩ : ∃ nb, (S.b + if wrt VV.1 VV.2 then 1 else 0) = nb := ⟨_, rfl⟩
    rw [hnb]
    have HNB := Lib.hid hnb
    clear hnb
    have HVL := Lib.hid hvl
    clear hVV hvl
    generalize hL : S.p.length = L at *
    have hvi : (VV.2 : Int) < (L : Int) := by omega
    clear hL
    go_enter Try.func57, Try.ntmps57
    go_wp2
    go_quiet (fail)
    rename_i nq
    go_wp2_with fail
    refine (HVI.out nq).mono ?_; rintro e w2 ⟨rfl, hM⟩
    have hvp : VV.2 < VV.1.length := by rw [HVL.out]; exact hvt
    obtain ⟨d0, _, _, _, d4⟩ := hM.cell
    have d4' : w2.cell? ⟨r, 4, none⟩ = some (.int .i64 (S.b : Int)) := d4
    have fz4 := hM.blk.froz 4
    rw [HEV.out] at d0
    obtain ⟨_, ⟨k0, k1, k2⟩, fz, _⟩ := hM.frg HEV.out VV.2 hvp
    have k0' : w2.cell? ⟨g, VV.2 * 3, none⟩ = some (.int .i64 (pgA VV.1 VV.2)) := k0
    have k1' : w2.cell? ⟨g, VV.2 * 3 + 1, none⟩ = some (.bool (mkd VV.1 VV.2)) := k1
    have k2' : w2.cell? ⟨g, VV.2 * 3 + 2, none⟩ = some (.bool (wrt VV.1 VV.2)) := k2
    have z0 := fz (VV.2 * 3)
    have z1 := fz (VV.2 * 3 + 1)
    have z2 := fz (VV.2 * 3 + 2)
    have n1 : ¬ g = r := hgr
    have n2 : ¬ r = g := fun e => hgr e.symm
    cases hw : wrt VV.1 VV.2
    · rw [hw] at k2'
      have hZ := hM.zero HEV.out VV.2 hvp
      have enb : nb = S.b := by rw [← HNB.out, hw, if_neg Bool.false_ne_true]; rfl
      have HZ := Lib.hid hZ
      have HEN := Lib.hid enb
      clear hM hZ k0 k1 k2 fz d4 HVI enb hw HNB
      generalize pgA VV.1 VV.2 = pg at *
      generalize mkd VV.1 VV.2 = m at *
      go_wp2
      go_ret
      exact ⟨rfl, _, by rw [HEN.out]; exact HZ.out⟩
    · rw [hw] at k2'
      have hB5 := hM.setB (S.b + 1)
      rw [show ((S.b + 1 : Nat) : Int) = (S.b : Int) + 1 by omega] at hB5
      have hZ := hB5.zero HEV.out VV.2 hvp
      have enb : nb = S.b + 1 := by rw [← HNB.out, hw, if_pos rfl]
      have HZ := Lib.hid hZ
      have HEN := Lib.hid enb
      clear hM hZ hB5 k0 k1 k2 fz d4 HVI enb hw HNB
      generalize pgA VV.1 VV.2 = pg at *
      generalize mkd VV.1 VV.2 = m at *
      go_wp2
      go_ret
      exact ⟨rfl, _, by rw [HEN.out]; exact HZ.out⟩
end Go.Proofs.Ytdjkmffekfbbcaa.Ck
