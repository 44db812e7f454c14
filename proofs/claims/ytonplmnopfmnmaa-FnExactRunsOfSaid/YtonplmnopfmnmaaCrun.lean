/- Lists of runs of the call's own: append, one more in the last count; encodeRuns at numbers. -/
import Derived.Test.YtonplmnopfmnmaaCappg
import Derived.Test.YtonplmnopfmnmaaCrd
import Derived.Test.YtonplmnopfmnmaaPlainUses
import Derived.Laws.OwnMore
namespace Go.Proofs.Ytonplmnopfmnmaa.Tr
open Go.RowKit
def rcells : List (Int × Nat) → List Value
  | [] => []
  | r :: rs => .int .i64 r.1 :: .int .i64 (r.2 : Nat) :: rcells rs
theorem rcells_app (a b : List (Int × Nat)) : rcells (a ++ b) = rcells a ++ rcells b := by
  induction a with
  | nil => rfl
  | cons r a ih => simp [rcells, ih]
theorem rcells_length (a : List (Int × Nat)) : (rcells a).length = a.length * 2 := by
  induction a with
  | nil => rfl
  | cons r a ih => simp [rcells, ih]; omega
/-- v is a list of runs of the call's own. -/
def OwnR (w : World) (B : Nat) (v : Value) (rs : List (Int × Nat)) : Prop := w.ownsRow B 46 2 v rs.length (rcells rs)
theorem OwnR.nil (w : World) (B : Nat) : OwnR w B (.slice none 0 0) [] := World.ownsRow_nil _ _ _ _
theorem OwnR.block {w : World} {B : Nat} {v : Value} {rs : List (Int × Nat)} (h : OwnR w B v rs) : ∀ k, v.ownBlock = some k → B ≤ k ∧ k < w.heap.size := World.ownsRow.lt h
theorem infoR : (Try.prog.info? 46).map (fun i => (i.zero, i.size, i.bytes)) = some (some (.agg #[.int .i64 0, .int .i64 0]), 2, 16) := by kernel_rfl
theorem OwnR.form {w : World} {B : Nat} {v : Value} {rs : List (Int × Nat)} (h : OwnR w B v rs) (hn : 0 < rs.length) : ∃ g cap, v = .slice (some ⟨g, 0, none⟩) rs.length cap := by
  rcases h.2 with ⟨_, h0⟩ | ⟨g, cap, cur, hv, _⟩
  · omega
  · exact ⟨g, cap, hv⟩
theorem OwnR.form' {w : World} {B : Nat} {v : Value} {rs : List (Int × Nat)} (h : OwnR w B v rs) : ∃ a cap, v = .slice a rs.length cap := by
  rcases h.2 with ⟨h0, h1⟩ | ⟨g, cap, cur, hv, _⟩
  · exact ⟨none, 0, by rw [h0, h1]⟩
  · exact ⟨_, cap, hv⟩
theorem OwnR.below {w w' : World} {B C : Nat} {v : Value} {rs : List (Int × Nat)} (h : OwnR w B v rs) (hb : Below C w w') (hC : w.heap.size ≤ C) : OwnR w' B v rs := by
  refine ⟨h.1, ?_⟩
  rcases h.2 with hn | ⟨g, cap, cur, hv, hg, hh, r⟩
  · exact .inl hn
  · exact .inr ⟨g, cap, cur, hv, hg, by rw [hb.block g (Nat.lt_of_lt_of_le (Array.getElem?_eq_some_iff.1 hh).1 hC)]; exact hh, r⟩
theorem wpList_appR {ops : Array Oper} {rest : List Oper} {o : Oper} {a : Act} {Q : Exit → Act → World → Prop} (wr : World) (hgd : o.guard = none) (s x : Operand)
    (ho : o.op = .call { callee := .builtin .append, args := #[s, x], argTypes := #[43, 43] })
    (B : Nat) (v : Value) (rs : List (Int × Nat)) (u : Int) (hs : a.eval s = v) (hx : a.eval x = .slice (some ⟨wr.heap.size, 0, none⟩) 1 1) (hown : OwnR wr B v rs)
    (hlen : rs.length + 1 ≤ 1000000000) (hB : B ≤ wr.heap.size)
    (h : ∀ v' w', OwnR w' B v' (rs ++ [(u, 0)]) → Below B wr w' → wpList Try.prog ops Q rest (a.put o.dst v') w') :
    wpList Try.prog ops Q (o :: rest) a (wr.alloc (.cells #[.int .i64 u, .int .i64 0] 46)) := by
  obtain ⟨i0, hi, hz0, hz1, hz2⟩ := info_parts infoR
  refine wpList_append_own _ hgd s x 43 ho B 46 i0 (.agg #[.int .i64 0, .int .i64 0]) 2 16 Try.underlying43 hi hz0 hz1 hz2 rfl (by decide) v rs.length (rcells rs) hs (World.ownsRow.alloc hown _)
    ⟨wr.heap.size, 0, none⟩ 1 1 [.int .i64 u, .int .i64 0] hx rfl ?_ ?_ ?_ ?_ ?_ ?_
  · intro j u' hj
    match j, hj with
    | 0, hj => simp at hj; subst hj; simp [Addr.add]
    | 1, hj => simp at hj; subst hj; simp [Addr.add]
  · intro u' hu; simp at hu; rcases hu with hu | hu <;> subst hu <;> rfl
  · unfold maxLen; omega
  · omega
  · simp; omega
  · intro v' w' hown' hgrow _
    refine h v' w' ?_ ?_
    · show World.ownsRow _ _ _ _ _ (rs ++ [(u, 0)]).length _
      rw [List.length_append, rcells_app]
      exact hown'
    · exact ((Below.refl B wr).alloc hB _).grown hgrow (by simp; omega) (fun k hk => (OwnR.block hown k hk).1)
/-- The last count of runs. -/
theorem OwnR.last {w : World} {B g cap : Nat} {rs : List (Int × Nat)} {y : Int} {c : Nat} (h : OwnR w B (.slice (some ⟨g, 0, none⟩) (rs.length + 1) cap) (rs ++ [(y, c)])) :
    B ≤ g ∧ g < w.heap.size ∧ w.cell? ⟨g, rs.length * 2 + 1, none⟩ = some (.int .i64 (c : Nat)) ∧ w.frozen? ⟨g, rs.length * 2 + 1, none⟩ = false ∧
      OwnR (w.setCell ⟨g, rs.length * 2 + 1, none⟩ (.int .i64 (((c + 1 : Nat)) : Int))) B (.slice (some ⟨g, 0, none⟩) (rs.length + 1) cap) (rs ++ [(y, c + 1)]) := by
  have h0 : w.ownsRow B 46 2 (.slice (some ⟨g, 0, none⟩) (rs.length + 1) cap) (rs.length + 1) (rcells (rs ++ [(y, c)])) := by
    have h1 : w.ownsRow B 46 2 (.slice (some ⟨g, 0, none⟩) (rs.length + 1) cap) (rs ++ [(y, c)]).length (rcells (rs ++ [(y, c)])) := h
    rw [List.length_append] at h1
    exact h1
  obtain ⟨hB, hg⟩ := OwnR.block h g rfl
  have hc := World.ownsRow.cellAt h0 (rs.length * 2 + 1) (by omega)
  have hl := rcells_length rs
  refine ⟨hB, hg, ?_, World.ownsRow.frozenAt h0 _, ?_⟩
  · rw [hc, rcells_app, List.getElem?_append_right (by omega), show rs.length * 2 + 1 - (rcells rs).length = 1 from by omega]
    rfl
  · have h1 := (World.ownsRow.stored h0 (rs.length * 2 + 1) (.int .i64 (((c + 1 : Nat)) : Int))).1
    show World.ownsRow _ _ _ _ _ (rs ++ [(y, c + 1)]).length _
    rw [List.length_append]
    have e : (rcells (rs ++ [(y, c)])).set (rs.length * 2 + 1) (.int .i64 (((c + 1 : Nat)) : Int)) = rcells (rs ++ [(y, c + 1)]) := by
      rw [rcells_app, rcells_app, List.set_append_right _ _ (by omega), show rs.length * 2 + 1 - (rcells rs).length = 1 from by omega]
      rfl
    rw [e] at h1
    exact h1
theorem rstep_len (acc : List (Int × Nat)) (x : Int) : (rstep acc x).length ≤ acc.length + 1 := by
  unfold rstep
  split
  · simp
  · split <;> simp <;> omega
theorem runsP_len (xs : List Int) : ∀ j, (runsP (xs.take j)).length ≤ j
  | 0 => by simp [runsP]
  | j + 1 => by
    have ih := runsP_len xs j
    by_cases hj : j < xs.length
    · rw [List.take_succ_eq_append_getElem hj, runsP_snoc]
      have := rstep_len (runsP (xs.take j)) xs[j]
      omega
    · rw [List.take_of_length_le (by omega)] at ih ⊢
      omega
theorem runsP_cnt (xs : List Int) (j : Nat) (r : Int × Nat) (hr : r ∈ runsP (xs.take j)) : r.2 ≤ xs.length := by
  have h := (runs_of (xs.take j)).flat
  have h1 : (List.replicate r.2 r.1).length ≤ ((runsP (xs.take j)).flatMap fun r => List.replicate r.2 r.1).length := by
    obtain ⟨a, b, e⟩ := List.append_of_mem hr
    rw [e]
    simp only [List.flatMap_append, List.flatMap_cons, List.length_append]
    omega
  rw [h, List.length_replicate, List.length_take] at h1
  omega
/-- What a function leaves that returns runs of its own. -/
def LbR (rs : List (Int × Nat)) (w : World) (e : Ending) (w' : World) : Prop := ∃ v, e = .returned v ∧ OwnR w' w.heap.size v rs ∧ Below w.heap.size w w'
/-- How the runs of j numbers come from those of one fewer: either one more run that is empty yet, or the last one; then one more. -/
theorem runs_step (xs : List Int) (j : Nat) (hj : j < xs.length) :
    (j = 0 ∨ xs.getD j 0 ≠ xs.getD (j - 1) 0 → runsP (xs.take (j + 1)) = runsP (xs.take j) ++ [(xs.getD j 0, 1)]) ∧
      (j ≠ 0 → xs.getD j 0 = xs.getD (j - 1) 0 → ∃ a c, runsP (xs.take j) = a ++ [(xs.getD j 0, c)] ∧ runsP (xs.take (j + 1)) = a ++ [(xs.getD j 0, c + 1)]) := by
  rw [List.take_succ_eq_append_getElem hj, runsP_snoc, ← getD_get xs j hj]
  have hR := runs_of (xs.take j)
  rcases snoc_cases (runsP (xs.take j)) with h2 | ⟨a, ⟨y, c⟩, h2⟩
  · rw [h2] at hR ⊢
    have hnil : xs.take j = [] := by simpa using hR.flat.symm
    have hj0 : j = 0 := by
      have := congrArg List.length hnil
      rw [List.length_take, List.length_nil] at this
      omega
    exact ⟨fun _ => rfl, fun h => absurd hj0 h⟩
  · have hlast := hR.last a y c h2
    have hj0 : j ≠ 0 := fun e => by subst e; simp at hlast
    have hy : y = xs.getD (j - 1) 0 := by
      rw [List.getLast?_eq_getElem?, List.length_take, Nat.min_eq_left (by omega), List.getElem?_take, if_pos (by omega)] at hlast
      rw [List.getD_eq_getElem?_getD, hlast]; rfl
    rw [h2]
    refine ⟨fun h => ?_, fun _ h => ⟨a, c, by rw [h, hy], ?_⟩⟩
    · rcases h with h | h
      · exact absurd h hj0
      · rw [rstep_new _ _ _ _ (fun e => h (by rw [← e, hy]))]; simp
    · rw [hy, ← h, rstep_same]
set_option maxHeartbeats 2000000 in
set_option maxRecDepth 100000 in
theorem runs_i (a : Option Addr) (c : Nat) (xs : List Int) (w : World) (hn : xs.length ≤ 1048576) (hr : Row w a xs) :
    Calls Try.prog 33 #[.slice a xs.length c] w (LbR (runsP xs) w) := by
  have HC := Lib.hid hr
  have HS := Lib.hid (fun j hj => runs_step xs j hj)
  have HE := Lib.hid (show runsP (xs.take xs.length) = runsP xs by rw [List.take_length])
  have HL := Lib.hid (fun j => runsP_len xs j)
  have HPOS := Lib.hid (fun j r hr => runsP_cnt xs j r hr)
  clear hr
  unfold Row at HC
  generalize runsP xs = RS at *
  generalize hN : xs.length = N at *
  clear hN
  go_enter Try.func33, Try.ntmps33
  go_wp2
  go_loopw [3, 4, 5, 8] (fun v _ _ i wr => ∃ j : Nat, j ≤ N ∧ i = .int .i64 j ∧ Hid (OwnR wr w.heap.size v (runsP (xs.take j))) ∧ Hid (Below w.heap.size w wr)) (fun _ _ _ i _ => N - (intOf i).toNat)
  case atStart => exact ⟨0, Nat.zero_le _, rfl, OwnR.nil _ _, Below.refl _ _⟩
  case round =>
    obtain ⟨j, hj, rfl, ho, hb⟩ := hrel
    by_cases hlt : j < N
    · obtain ⟨b, off, rfl, hc, hbl⟩ := HC.out j hlt
      have hcj := (hb.out.cell (p := ⟨b, off + j, none⟩) hbl).trans hc
      clear hc
      have hlen := HL.out j
      obtain ⟨hnew, hsame⟩ := HS.out j hlt
      have HNEW := Lib.hid hnew
      have HSAME := Lib.hid hsame
      clear hnew hsame
      generalize hx : xs.getD j 0 = x at *
      clear hx
      by_cases hj0 : j = 0
      · subst hj0
        have e1 := HNEW.out (.inl rfl)
        rw [Nat.add_zero] at hcj
        have ho0 := ho.out
        have hsz := hb.out.size
        have HB := Lib.hid hb
        generalize runsP (xs.take 0) = rs at *
        clear HNEW HSAME ho
        have hq : rs.length + 1 ≤ 1000000000 := by omega
        go_wp2_with (at_builtin; refine wpList_appR _ rfl _ _ rfl w.heap.size _ rs _ ?_ ?_ ho0 hq hsz ?_; rfl; rfl)
        intro v' w2 ho2 hb2
        obtain ⟨g, cap, hv⟩ := ho2.form (by simp)
        have hl1 : (rs ++ [(x, 0)]).length = rs.length + 1 := by simp
        rw [hl1] at hv
        subst hv
        obtain ⟨hg1, hg2, hcell, hfr, hown⟩ := ho2.last
        have HOWN := Lib.hid hown
        have HB2 := Lib.hid (hb.out.trans hb2)
        clear hown ho0 ho2 hb2 hl1
        generalize rs.length = M at *
        go_wp2
        go_roundw
        case rel => exact ⟨0 + 1, by omega, rfl, (by rw [e1]; exact HOWN.out), HB2.out.setCell (p := ⟨g, _, none⟩) hg1 _⟩
        case measure => simp [intOf]; omega
      · obtain ⟨b', off', eb, hcp, hbp⟩ := HC.out (j - 1) (by omega)
        injection eb with eb
        injection eb with eb1 eb2
        subst eb1 eb2
        have hcq := (hb.out.cell (p := ⟨b, off + (j - 1), none⟩) hbp).trans hcp
        clear hcp
        generalize hxp : xs.getD (j - 1) 0 = y at *
        clear hxp
        have hsz := hb.out.size
        have hj1 : ¬ (j : Int) = 0 := by omega
        by_cases hxy : x = y
        · obtain ⟨rs, q, e1, e2⟩ := HSAME.out hj0 hxy
          rw [e1] at ho hlen
          subst hxy
          clear HNEW HSAME
          obtain ⟨g, cap, hv⟩ := OwnR.form ho.out (by simp)
          have hl1 : (rs ++ [(x, q)]).length = rs.length + 1 := by simp
          rw [hl1] at hv hlen
          subst hv
          have hq := HPOS.out j
          rw [e1] at hq
          have hq2 : q ≤ 1048576 := by have := hq (x, q) (by simp); omega
          obtain ⟨hg1, hg2, hcell, hfr, hown⟩ := OwnR.last ho.out
          have HOWN := Lib.hid hown
          have HB2 := Lib.hid hb.out
          clear hown ho hl1 hq e1
          generalize rs.length = M at *
          go_wp2
          go_roundw
          case rel => exact ⟨j + 1, by omega, by go_num, (by rw [e2]; exact HOWN.out), HB2.out.setCell (p := ⟨g, _, none⟩) hg1 _⟩
          case measure => simp [intOf]; omega
        · have e1 := HNEW.out (.inr hxy)
          have ho0 := ho.out
          generalize runsP (xs.take j) = rs at *
          clear HNEW HSAME ho
          have hq : rs.length + 1 ≤ 1000000000 := by omega
          have hne : (x != y) = true := bne_iff_ne.2 hxy
          go_wp2_with (at_builtin; refine wpList_appR _ rfl _ _ rfl w.heap.size _ rs _ ?_ ?_ ho0 hq hsz ?_; rfl; rfl)
          intro v' w2 ho2 hb2
          obtain ⟨g, cap, hv⟩ := ho2.form (by simp)
          have hl1 : (rs ++ [(x, 0)]).length = rs.length + 1 := by simp
          rw [hl1] at hv
          subst hv
          obtain ⟨hg1, hg2, hcell, hfr, hown⟩ := ho2.last
          have HOWN := Lib.hid hown
          have HB2 := Lib.hid (hb.out.trans hb2)
          clear hown ho0 ho2 hb2 hl1
          generalize rs.length = M at *
          go_wp2
          go_roundw
          case rel => exact ⟨j + 1, by omega, by go_num, (by rw [e1]; exact HOWN.out), HB2.out.setCell (p := ⟨g, _, none⟩) hg1 _⟩
          case measure => simp [intOf]; omega
    · have e : j = N := by omega
      subst e
      go_wp2
      go_ret
      exact ⟨_, rfl, by rw [← HE.out]; exact ho.out, hb.out⟩
end Go.Proofs.Ytonplmnopfmnmaa.Tr
