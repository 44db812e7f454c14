/- Copies of slices: slices.Clone at rows of structures, at int64 and at tables. -/
import Derived.Test.YtifjkjcgpghmhaaDoorCspc
import Derived.WideShapes
namespace Go.Proofs.YtifjkjcgpghmhaaDoor.Sp
open Go.RowKit
theorem flatEn {w : World} {ad : Addr} {rs : List En.R} (h : En.RdR w (some ad) rs) : ∀ j u, (En.cl rs)[j]? = some u → w.cell? (ad.add j) = some u := fun j u hu => by
  have hj : j < (En.cl rs).length := (List.getElem?_eq_some_iff.1 hu).1
  rw [En.cl_length] at hj
  have hi : j / 4 < rs.length := by omega
  have hd : j = j / 4 * 4 + j % 4 := by omega
  obtain ⟨b, off, ha, c0, c1, c2, c3, _⟩ := h (j / 4) hi
  obtain ⟨e0, e1, e2, e3⟩ := En.cl_get rs (j / 4) hi
  injection ha with ha
  subst ha
  rw [Go.WideShapes.add_plain]
  generalize j / 4 = i at *
  have h3 : j % 4 = 0 ∨ j % 4 = 1 ∨ j % 4 = 2 ∨ j % 4 = 3 := by omega
  rcases h3 with h | h | h | h
  · have e : j = i * 4 := by omega
    subst e
    rw [e0] at hu
    injection hu with hu
    rw [← hu]
    exact c0
  · have e : j = i * 4 + 1 := by omega
    subst e
    rw [e1] at hu
    injection hu with hu
    rw [← hu, ← Nat.add_assoc]
    exact c1
  · have e : j = i * 4 + 2 := by omega
    subst e
    rw [e2] at hu
    injection hu with hu
    rw [← hu, ← Nat.add_assoc]
    exact c2
  · have e : j = i * 4 + 3 := by omega
    subst e
    rw [e3] at hu
    injection hu with hu
    rw [← hu, ← Nat.add_assoc]
    exact c3
theorem oneEn (rs : List En.R) : ∀ u ∈ En.cl rs, u.oneCell' = true := by
  induction rs with
  | nil => intro u hu; simp [En.cl] at hu
  | cons r rs ih =>
    intro u hu
    simp only [En.cl, List.mem_cons] at hu
    rcases hu with rfl | rfl | rfl | rfl | hu
    · rfl
    · rfl
    · rfl
    · rfl
    · exact ih u hu
def CloEn (rs : List En.R) (w : World) (e : Ending) (w' : World) : Prop := ∃ v, e = .returned v ∧ En.OwnR w' w.heap.size v rs ∧ Below w.heap.size w w'
theorem flatCh {w : World} {ad : Addr} {rs : List Ch.R} (h : Ch.RdR w (some ad) rs) : ∀ j u, (Ch.cl rs)[j]? = some u → w.cell? (ad.add j) = some u := fun j u hu => by
  have hj : j < (Ch.cl rs).length := (List.getElem?_eq_some_iff.1 hu).1
  rw [Ch.cl_length] at hj
  have hi : j / 3 < rs.length := by omega
  have hd : j = j / 3 * 3 + j % 3 := by omega
  obtain ⟨b, off, ha, c0, c1, c2, _⟩ := h (j / 3) hi
  obtain ⟨e0, e1, e2⟩ := Ch.cl_get rs (j / 3) hi
  injection ha with ha
  subst ha
  rw [Go.WideShapes.add_plain]
  generalize j / 3 = i at *
  have h3 : j % 3 = 0 ∨ j % 3 = 1 ∨ j % 3 = 2 := by omega
  rcases h3 with h | h | h
  · have e : j = i * 3 := by omega
    subst e
    rw [e0] at hu
    injection hu with hu
    rw [← hu]
    exact c0
  · have e : j = i * 3 + 1 := by omega
    subst e
    rw [e1] at hu
    injection hu with hu
    rw [← hu, ← Nat.add_assoc]
    exact c1
  · have e : j = i * 3 + 2 := by omega
    subst e
    rw [e2] at hu
    injection hu with hu
    rw [← hu, ← Nat.add_assoc]
    exact c2
theorem oneCh (rs : List Ch.R) : ∀ u ∈ Ch.cl rs, u.oneCell' = true := by
  induction rs with
  | nil => intro u hu; simp [Ch.cl] at hu
  | cons r rs ih =>
    intro u hu
    simp only [Ch.cl, List.mem_cons] at hu
    rcases hu with rfl | rfl | rfl | hu
    · rfl
    · rfl
    · rfl
    · exact ih u hu
def CloCh (rs : List Ch.R) (w : World) (e : Ending) (w' : World) : Prop := ∃ v, e = .returned v ∧ Ch.OwnR w' w.heap.size v rs ∧ Below w.heap.size w w'
set_option maxRecDepth 100000 in
set_option maxHeartbeats 1000000 in
theorem cloneCh (a : Option Addr) (c : Nat) (rs : List Ch.R) (w : World) (hr : Ch.RdR w a rs) (hz : a = none → rs.length = 0) (hn : rs.length ≤ 1048576) :
    Calls Tryd.prog 60 #[.slice a rs.length c] w (CloCh rs w) := by
  rcases a with _ | ad
  · have h0 := hz rfl
    rw [h0]
    have hnil := List.eq_nil_of_length_eq_zero h0
    subst hnil
    have hnl : ∀ w : World, (binOp .eql 30 (.slice none 0 c) (.slice none 0 0)).run Tryd.prog w = .ok (.bool true) w := fun _ => rfl
    clear hr hz h0 hn
    go_enter Tryd.func60, Tryd.ntmps60
    go_wp2
    go_ret
    exact ⟨_, rfl, Ch.OwnR.nil _ _, Below.refl _ _⟩
  obtain ⟨i0, hi, hz0, hz1, hz2⟩ := info_parts Ch.infoA
  have HC := Lib.hid (fun j u (hx : (Ch.cl rs)[j]? = some u) => (show (w.alloc (.cells #[] 53)).cell? (ad.add j) = some u from by
    have h1 := flatCh hr j u hx
    rw [World.cell?_alloc_lt _ _ _ (World.block_lt_of_cell? w _ h1)]
    exact h1))
  have HO := Lib.hid (show (w.alloc (.cells #[] 53)).ownsRow w.heap.size 53 3 (.slice (some ⟨w.heap.size, 0, none⟩) 0 0) 0 [] from
    ⟨rfl, .inr ⟨w.heap.size, 0, #[], rfl, Nat.le_refl _, heap_alloc_new w _, Nat.le_refl _, by decide, rfl, rfl⟩⟩)
  have HL := Lib.hid (fun (v' : Value) (w' : World) (hg : Below w.heap.size w w') (hown' : w'.ownsRow w.heap.size 53 3 v' rs.length (Ch.cl rs)) => (show CloCh rs w (.returned v') w' from ⟨_, rfl, hown', hg⟩))
  have H1 := Lib.hid (oneCh rs)
  have hsz : (w.alloc (.cells #[] 53)).heap.size = w.heap.size + 1 := Array.size_push _
  have HB := Lib.hid ((Below.refl w.heap.size w).alloc (Nat.le_refl _) (.cells #[] 53))
  clear hr hz
  have hnl : ∀ (n : Nat) (w : World), (binOp .eql 30 (.slice (some ad) n c) (.slice none 0 0)).run Tryd.prog w = .ok (.bool false) w := fun _ _ => rfl
  generalize hN : rs.length = N at *
  have Hl := Lib.hid (show (Ch.cl rs).length = N * 3 from hN ▸ (Ch.cl_length rs))
  clear hN
  go_enter Tryd.func60, Tryd.ntmps60
  go_wp2_with (at_builtin; refine wpList_append_own _ rfl _ _ 30 rfl w.heap.size 53 i0 (.agg #[.int .i64 0, .int .i64 0, .bool false]) 3 24 Tryd.underlying30 hi hz0 hz1 hz2 rfl (by decide) (.slice (some ⟨w.heap.size, 0, none⟩) 0 0) 0 [] rfl HO.out ad N c (Ch.cl rs) rfl Hl.out HC.out H1.out (by unfold maxLen; omega) (by omega) (by omega) ?_)
  intro v' w' hown' hgrow _
  have hown' : w'.ownsRow w.heap.size 53 3 v' N (Ch.cl rs) := by first | exact hown' | simpa using hown'
  have hb := Lib.hid (HB.out.grown hgrow (by omega) (fun k hk => by injection hk with hk; have hk : w.heap.size = k := hk; omega))
  have ho := Lib.hid (HL.out v' w' hb.out hown')
  clear hown' hgrow
  go_wp2
  go_ret
  exact ho.out
theorem flatI {w : World} {ad : Addr} {rs : List Int} (h : Row w (some ad) rs) : ∀ j u, (rs.map (Value.int .i64))[j]? = some u → w.cell? (ad.add j) = some u := fun j u hu => by
  have hj : j < rs.length := by have := (List.getElem?_eq_some_iff.1 hu).1; simpa using this
  obtain ⟨b, off, ha, c0, _⟩ := h j hj
  injection ha with ha
  subst ha
  rw [Go.WideShapes.add_plain, c0]
  rw [List.getElem?_map, List.getElem?_eq_getElem hj] at hu
  rw [List.getD_eq_getElem?_getD, List.getElem?_eq_getElem hj]
  exact hu
def CloI (rs : List Int) (w : World) (e : Ending) (w' : World) : Prop := ∃ v, e = .returned v ∧ Own w' w.heap.size v rs ∧ Below w.heap.size w w'
set_option maxRecDepth 100000 in
set_option maxHeartbeats 1000000 in
theorem cloneI (a : Option Addr) (c : Nat) (rs : List Int) (w : World) (hr : Row w a rs) (hz : a = none → rs.length = 0) (hn : rs.length ≤ 1048576) :
    Calls Tryd.prog 61 #[.slice a rs.length c] w (CloI rs w) := by
  rcases a with _ | ad
  · have h0 := hz rfl
    rw [h0]
    have hnil := List.eq_nil_of_length_eq_zero h0
    subst hnil
    have hnl : ∀ w : World, (binOp .eql 22 (.slice none 0 c) (.slice none 0 0)).run Tryd.prog w = .ok (.bool true) w := fun _ => rfl
    clear hr hz h0 hn
    go_enter Tryd.func61, Tryd.ntmps61
    go_wp2
    go_ret
    exact ⟨_, rfl, Own.nil _ _, Below.refl _ _⟩
  obtain ⟨i0, hi, hz0, hz1, hz2⟩ := info_parts infoI
  have HC := Lib.hid (fun j u (hx : (rs.map (Value.int .i64))[j]? = some u) => (show (w.alloc (.cells #[] 2)).cell? (ad.add j) = some u from by
    have h1 := flatI hr j u hx
    rw [World.cell?_alloc_lt _ _ _ (World.block_lt_of_cell? w _ h1)]
    exact h1))
  have HO := Lib.hid (show (w.alloc (.cells #[] 2)).ownsRow w.heap.size 2 1 (.slice (some ⟨w.heap.size, 0, none⟩) 0 0) 0 [] from
    ⟨rfl, .inr ⟨w.heap.size, 0, #[], rfl, Nat.le_refl _, heap_alloc_new w _, Nat.le_refl _, by decide, rfl, rfl⟩⟩)
  have HL := Lib.hid (fun (v' : Value) (w' : World) (hg : Below w.heap.size w w') (hown' : w'.ownsRow w.heap.size 2 1 v' rs.length (rs.map (Value.int .i64))) => (show CloI rs w (.returned v') w' from ⟨_, rfl, hown', hg⟩))
  have H1 := Lib.hid (show ∀ u ∈ rs.map (Value.int .i64), u.oneCell' = true from fun u hu => by obtain ⟨y, _, rfl⟩ := List.mem_map.1 hu; rfl)
  have hsz : (w.alloc (.cells #[] 2)).heap.size = w.heap.size + 1 := Array.size_push _
  have HB := Lib.hid ((Below.refl w.heap.size w).alloc (Nat.le_refl _) (.cells #[] 2))
  clear hr hz
  have hnl : ∀ (n : Nat) (w : World), (binOp .eql 22 (.slice (some ad) n c) (.slice none 0 0)).run Tryd.prog w = .ok (.bool false) w := fun _ _ => rfl
  generalize hN : rs.length = N at *
  have Hl := Lib.hid (show (rs.map (Value.int .i64)).length = N * 1 from hN ▸ (show (rs.map (Value.int .i64)).length = rs.length * 1 by simp))
  clear hN
  go_enter Tryd.func61, Tryd.ntmps61
  go_wp2_with (at_builtin; refine wpList_append_own _ rfl _ _ 22 rfl w.heap.size 2 i0 (.int .i64 0) 1 8 Tryd.underlying22 hi hz0 hz1 hz2 rfl (by decide) (.slice (some ⟨w.heap.size, 0, none⟩) 0 0) 0 [] rfl HO.out ad N c (rs.map (Value.int .i64)) rfl Hl.out HC.out H1.out (by unfold maxLen; omega) (by omega) (by omega) ?_)
  intro v' w' hown' hgrow _
  have hown' : w'.ownsRow w.heap.size 2 1 v' N (rs.map (Value.int .i64)) := by first | exact hown' | simpa using hown'
  have hb := Lib.hid (HB.out.grown hgrow (by omega) (fun k hk => by injection hk with hk; have hk : w.heap.size = k := hk; omega))
  have ho := Lib.hid (HL.out v' w' hb.out hown')
  clear hown' hgrow
  go_wp2
  go_ret
  exact ho.out
/-- The slices that the rows of tables are. -/
def SlT (w : World) (vs : List Value) (tss : List (List RE)) : Prop := vs.length = tss.length ∧ ∀ i, i < tss.length → ∃ A C, vs[i]? = some (.slice A (tss.getD i []).length C) ∧ En.RdR w A (tss.getD i []) ∧ (tss.getD i []).length ≤ 9223372036854775807
theorem SlT.below {w w' : World} {vs : List Value} {tss : List (List RE)} (h : SlT w vs tss) (hb : Below w.heap.size w w') : SlT w' vs tss :=
  ⟨h.1, fun i hi => by obtain ⟨A, C, e, h1, h2⟩ := h.2 i hi; exact ⟨A, C, e, h1.below hb, h2⟩⟩
theorem RdT.slices {w : World} {a : Option Addr} {tss : List (List RE)} (h : En.RdT w a tss) : ∃ vs, SlT w vs tss ∧ ∀ i, i < tss.length → ∃ b off, a = some ⟨b, off, none⟩ ∧ w.cell? ⟨b, off + i, none⟩ = vs[i]? := by
  have hex : ∀ i, ∃ v : Value, i < tss.length → ∃ b off A C, a = some ⟨b, off, none⟩ ∧ w.cell? ⟨b, off + i, none⟩ = some v ∧ v = .slice A (tss.getD i []).length C ∧ En.RdR w A (tss.getD i []) ∧ (tss.getD i []).length ≤ 9223372036854775807 := fun i => by
    by_cases hi : i < tss.length
    · obtain ⟨b, off, A, C, e1, e2, e3, e4, _⟩ := h.2 i hi
      exact ⟨_, fun _ => ⟨b, off, A, C, e1, e2, rfl, e3, e4⟩⟩
    · exact ⟨.slice none 0 0, fun hh => absurd hh hi⟩
  refine ⟨(List.range tss.length).map fun i => Classical.choose (hex i), ⟨by simp, fun i hi => ?_⟩, fun i hi => ?_⟩
  · obtain ⟨b, off, A, C, e1, e2, e3, e4, e5⟩ := Classical.choose_spec (hex i) hi
    exact ⟨A, C, by rw [List.getElem?_map, List.getElem?_range hi]; exact congrArg some e3, e4, e5⟩
  · obtain ⟨b, off, A, C, e1, e2, _⟩ := Classical.choose_spec (hex i) hi
    exact ⟨b, off, e1, by rw [e2, List.getElem?_map, List.getElem?_range hi]; rfl⟩
theorem flatT {w : World} {ad : Addr} {vs : List Value} {n : Nat} (hn : vs.length = n) (h : ∀ i, i < n → ∃ b off, some ad = some (⟨b, off, none⟩ : Addr) ∧ w.cell? ⟨b, off + i, none⟩ = vs[i]?) : ∀ j u, vs[j]? = some u → w.cell? (ad.add j) = some u := fun j u hu => by
  obtain ⟨b, off, ha, e⟩ := h j (by have := (List.getElem?_eq_some_iff.1 hu).1; omega)
  injection ha with ha
  subst ha
  rw [Go.WideShapes.add_plain, e]
  exact hu
def CloT (vs : List Value) (w : World) (e : Ending) (w' : World) : Prop := ∃ v, e = .returned v ∧ w'.ownsRow w.heap.size 79 1 v vs.length vs ∧ Below w.heap.size w w'
set_option maxRecDepth 100000 in
set_option maxHeartbeats 1000000 in
theorem cloneT (a : Option Addr) (c : Nat) (rs : List Value) (w : World) (hr : (∀ i, i < rs.length → ∃ b off, a = some (⟨b, off, none⟩ : Addr) ∧ w.cell? ⟨b, off + i, none⟩ = rs[i]?) ∧ ∀ u ∈ rs, u.oneCell' = true) (hz : a = none → rs.length = 0) (hn : rs.length ≤ 1048576) :
    Calls Tryd.prog 62 #[.slice a rs.length c] w (CloT rs w) := by
  rcases a with _ | ad
  · have h0 := hz rfl
    rw [h0]
    have hnil := List.eq_nil_of_length_eq_zero h0
    subst hnil
    have hnl : ∀ w : World, (binOp .eql 29 (.slice none 0 c) (.slice none 0 0)).run Tryd.prog w = .ok (.bool true) w := fun _ => rfl
    clear hr hz h0 hn
    go_enter Tryd.func62, Tryd.ntmps62
    go_wp2
    go_ret
    exact ⟨_, rfl, World.ownsRow_nil _ _ _ _, Below.refl _ _⟩
  obtain ⟨i0, hi, hz0, hz1, hz2⟩ := info_parts En.infoT
  have HC := Lib.hid (fun j u (hx : (rs)[j]? = some u) => (show (w.alloc (.cells #[] 79)).cell? (ad.add j) = some u from by
    have h1 := flatT rfl hr.1 j u hx
    rw [World.cell?_alloc_lt _ _ _ (World.block_lt_of_cell? w _ h1)]
    exact h1))
  have HO := Lib.hid (show (w.alloc (.cells #[] 79)).ownsRow w.heap.size 79 1 (.slice (some ⟨w.heap.size, 0, none⟩) 0 0) 0 [] from
    ⟨rfl, .inr ⟨w.heap.size, 0, #[], rfl, Nat.le_refl _, heap_alloc_new w _, Nat.le_refl _, by decide, rfl, rfl⟩⟩)
  have HL := Lib.hid (fun (v' : Value) (w' : World) (hg : Below w.heap.size w w') (hown' : w'.ownsRow w.heap.size 79 1 v' rs.length (rs)) => (show CloT rs w (.returned v') w' from ⟨_, rfl, hown', hg⟩))
  have H1 := Lib.hid (hr.2)
  have hsz : (w.alloc (.cells #[] 79)).heap.size = w.heap.size + 1 := Array.size_push _
  have HB := Lib.hid ((Below.refl w.heap.size w).alloc (Nat.le_refl _) (.cells #[] 79))
  clear hr hz
  have hnl : ∀ (n : Nat) (w : World), (binOp .eql 29 (.slice (some ad) n c) (.slice none 0 0)).run Tryd.prog w = .ok (.bool false) w := fun _ _ => rfl
  generalize hN : rs.length = N at *
  have Hl := Lib.hid (show (rs).length = N * 1 from hN ▸ (show rs.length = rs.length * 1 by simp))
  clear hN
  go_enter Tryd.func62, Tryd.ntmps62
  go_wp2_with (at_builtin; refine wpList_append_own _ rfl _ _ 29 rfl w.heap.size 79 i0 (.slice none 0 0) 1 24 Tryd.underlying29 hi hz0 hz1 hz2 rfl (by decide) (.slice (some ⟨w.heap.size, 0, none⟩) 0 0) 0 [] rfl HO.out ad N c (rs) rfl Hl.out HC.out H1.out (by unfold maxLen; omega) (by omega) (by omega) ?_)
  intro v' w' hown' hgrow _
  have hown' : w'.ownsRow w.heap.size 79 1 v' N (rs) := by first | exact hown' | simpa using hown'
  have hb := Lib.hid (HB.out.grown hgrow (by omega) (fun k hk => by injection hk with hk; have hk : w.heap.size = k := hk; omega))
  have ho := Lib.hid (HL.out v' w' hb.out hown')
  clear hown' hgrow
  go_wp2
  go_ret
  exact ho.out
end Go.Proofs.YtifjkjcgpghmhaaDoor.Sp
