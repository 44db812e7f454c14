/- FnExactValidLitmus: the Go function laws.FnExactValidLitmus returns true at every input of its parameters' types, leaves its arguments as they were, and ends.
   No condition but the statement's own. The shell round the walk is the guide's; the walk is in YtmmjdmgnmlhjeaaWFnExactValidLitmus. -/
import Derived.Test.YtmmjdmgnmlhjeaaRows
import Derived.Test.YtmmjdmgnmlhjeaaWFnExactValidLitmus
import Derived.WalkKit
import Derived.ProofKit
import Derived.OpenShut
import Derived.ShutString
import Derived.ChangeOld
import Derived.Below
import Derived.Lib.SmallJoins
import Derived.Deep.Slices
namespace Go.Proofs.Ytmmjdmgnmlhjeaa.fnExactValidLitmus
open Go.ChangeShapes Go.WideShapes Go.ChangeAt Go.RowKit
open Go.ChangeMaps (open_string shut_string)
set_option linter.unusedVariables false

theorem own : ownKnob Try.prog.godebug = none := by kernel_rfl
theorem laidOut : laidOutB Try.prog = true := by kernel_rfl

theorem fieldsSq : Try.prog.underlying 103 = some (.struct #[⟨"Kind", 2, 0, false, "", "", 0⟩, ⟨"Place", 2, 1, false, "", "", 8⟩, ⟨"Value", 2, 2, false, "", "", 16⟩]) ∧ True := ⟨by kernel_rfl, trivial⟩
theorem cellsSq : Try.prog.cellsOf 103 = 3 := by kernel_rfl
theorem cellsISq : Try.prog.cellsOf 2 = 1 := by kernel_rfl
theorem cellsBSq : Try.prog.cellsOf 4 = 1 := by kernel_rfl
open Go.Deep in
set_option maxRecDepth 100000 in
theorem openedSq {H : Type} {enc : TypeId × Value → H} {W : World} {fuel : Nat} {a0 : Option Addr} {len0 cap0 : Nat} {x : DataW H × List MemPlace}
    (hf : DataW.trod enc Try.prog W 0 (fun _ => true) true fuel 92 [Value.slice a0 len0 cap0] = some x) : len0 ≤ 9223372036854775807 ∧ ∃ xs : List Sq.R, xs.length = len0 ∧ Sq.RdR W a0 xs := by
  rcases open_slice (e := 103) (by kernel_rfl) hf with ⟨hcs, _⟩ | ⟨a, len, cap, m, n, D, Pl, hcs, _, hlc, hcm, hmm, _, hx⟩
  · simp at hcs
    obtain ⟨rfl, rfl, rfl⟩ := hcs
    exact ⟨by omega, [], rfl, fun i hi => by simp at hi⟩
  · simp at hcs
    obtain ⟨rfl, rfl, rfl⟩ := hcs
    have hlm : len0 ≤ m := by rw [hmm]; split <;> omega
    have hex : ∀ i, i < len0 → ∃ q : Sq.R, W.cell? (a.add (i * 3)) = some (.int .i64 q.1) ∧ W.cell? (a.add (i * 3 + 1)) = some (.int .i64 q.2.1) ∧ W.cell? (a.add (i * 3 + 2)) = some (.int .i64 q.2.2) := fun i hi => by
      obtain ⟨cs', h1, h2⟩ := hx i (by omega)
      rw [cellsSq] at h1
      obtain ⟨_, hlen, hcell⟩ := World.cells?_some h1
      obtain ⟨xs, k, hk, hxy, _, hxl, hfl⟩ := DataW.trod_struct fieldsSq.1 h2
      match xs, hxl, cs', hlen with
      | [y0, y1, y2], _, [v0, v1, v2], _ =>
        have g0 := hfl 0 _ rfl
        simp [cellsISq, cellsBSq] at g0
        have g1 := hfl 1 _ rfl
        simp [cellsISq, cellsBSq] at g1
        have g2 := hfl 2 _ rfl
        simp [cellsISq, cellsBSq] at g2
        obtain ⟨u0, hu0, _⟩ := DataW.trod_int (k := .i64) Try.underlying2 g0
        simp at hu0
        subst hu0
        have e0 := hcell 0 (by omega)
        rw [add_add] at e0
        obtain ⟨u1, hu1, _⟩ := DataW.trod_int (k := .i64) Try.underlying2 g1
        simp at hu1
        subst hu1
        have e1 := hcell 1 (by omega)
        rw [add_add] at e1
        obtain ⟨u2, hu2, _⟩ := DataW.trod_int (k := .i64) Try.underlying2 g2
        simp at hu2
        subst hu2
        have e2 := hcell 2 (by omega)
        rw [add_add] at e2
        exact ⟨(u0, u1, u2), by simpa using e0, by simpa using e1, by simpa using e2⟩
    refine ⟨by unfold maxLen at hcm; omega, (List.range len0).map (fun i => if h : i < len0 then Classical.choose (hex i h) else Sq.dR), by simp, fun i hi => ?_⟩
    have hi' : i < len0 := by simpa using hi
    obtain ⟨c0, c1, c2⟩ := Classical.choose_spec (hex i hi')
    have e : ((List.range len0).map (fun i => if h : i < len0 then Classical.choose (hex i h) else Sq.dR)).getD i Sq.dR = Classical.choose (hex i hi') := by
      rw [List.getD_eq_getElem?_getD, List.getElem?_eq_getElem hi]
      simp [hi']
    rw [e]
    clear e
    generalize Classical.choose (hex i hi') = q at c0 c1 c2 ⊢
    obtain ⟨q0, d1, _⟩ := hex 0 (by omega)
    clear hi hex hx
    obtain ⟨b, off, spot⟩ := a
    have hspot : spot = none := by simpa [Addr.add] using World.cell?_spot d1
    subst hspot
    rw [Go.WideShapes.add_plain] at c0 c1 c2
    exact ⟨b, off, rfl, c0, c1, c2, World.block_lt_of_cell? W _ c0⟩

open Go.Deep in
theorem openedQ {H : Type} {enc : TypeId × Value → H} {W : World} {fuel : Nat} {a0 : Option Addr} {len0 cap0 : Nat} {x : DataW H × List MemPlace}
    (hf : DataW.trod enc Try.prog W 0 (fun _ => true) true fuel 53 [Value.slice a0 len0 cap0] = some x) : ∃ xss : List (List Sq.R), xss.length = len0 ∧ Sq.RdT W a0 xss := by
  rcases open_slice1 (e := 92) (by kernel_rfl) (by kernel_rfl) hf with ⟨hcs, _⟩ | ⟨a, len, cap, m, n, V, D, Pl, hcs, _, hlc, hcm, hmm, _, hx⟩
  · simp at hcs
    obtain ⟨rfl, rfl, rfl⟩ := hcs
    exact ⟨[], rfl, by simp, fun i hi => by simp at hi⟩
  · simp at hcs
    obtain ⟨rfl, rfl, rfl⟩ := hcs
    have hlm : len0 ≤ m := by rw [hmm]; split <;> omega
    have hex : ∀ i, i < len0 → ∃ q : List Sq.R, ∃ A C, W.cell? (a.add i) = some (.slice A q.length C) ∧ Sq.RdR W A q ∧ q.length ≤ 9223372036854775807 := fun i hi => by
      obtain ⟨h1, h2⟩ := hx i (by omega)
      obtain ⟨A, L, C, e⟩ : ∃ A L C, V i = Value.slice A L C := by simpa using Go.Joins.slice_form (show Try.prog.underlying 92 = some (.slice 103) by kernel_rfl) h2
      rw [e] at h1 h2
      obtain ⟨hL, q, hq, hr⟩ := openedSq h2
      exact ⟨q, A, C, by rw [hq]; exact h1, hr, by omega⟩
    refine ⟨(List.range len0).map (fun i => if h : i < len0 then Classical.choose (hex i h) else []), by simp, by simp; unfold maxLen at hcm; omega, fun i hi => ?_⟩
    have hi' : i < len0 := by simpa using hi
    obtain ⟨A, C, c0, c1, c2⟩ := Classical.choose_spec (hex i hi')
    have e : ((List.range len0).map (fun i => if h : i < len0 then Classical.choose (hex i h) else [])).getD i [] = Classical.choose (hex i hi') := by
      rw [List.getD_eq_getElem?_getD, List.getElem?_eq_getElem hi]
      simp [hi']
    rw [e]
    clear e
    generalize Classical.choose (hex i hi') = q at c0 c1 c2 ⊢
    obtain ⟨q0, A0, C0, d1, _⟩ := hex 0 (by omega)
    clear hi hex hx
    obtain ⟨b, off, spot⟩ := a
    have hspot : spot = none := by simpa [Addr.add] using World.cell?_spot d1
    subst hspot
    rw [Go.WideShapes.add_plain] at c0
    exact ⟨b, off, A, C, rfl, c0, c1, c2, World.block_lt_of_cell? W _ c0⟩

/-! ### THE ROW's STEP -/
set_option maxRecDepth 100000 in
theorem lifted (os : Os) (started : os.Started) (H : Type) (enc : TypeId × Value → H) :
    ReturnsInHanded {} Try.checked os 8 .any (Rows.fnExactValidLitmusSpec.pre6 enc Try.prog Try.f8 Rows.fnExactValidLitmusRow.domain false) (Rows.fnExactValidLitmusSpec.post enc Try.prog Try.f8 false true false false) := by
  refine returnsInHanded_of_change (C := Try.checked) own started (by kernel_rfl) Try.func8
    (ChangeSpec.witness6 (enc := enc) (C := Try.checked) false ⟨#[], #[.slice none 0 0], []⟩ 8 (by kernel_rfl) (by kernel_rfl) (by kernel_rfl) (by kernel_rfl)) ?_
  intro W base args ds gs before hval0 hW hcnd _
  have hval : ∀ (j : Nat) t v, Try.f8.params[j]? = some t → args[j]? = some v → Value.okWide Try.prog W .any base t v := hval0
  have hW' := hW
  obtain ⟨p, q, hA0, hV, rfl, hfz, hnd⟩ := hW
  have hA : DataW.TrodAll enc Try.prog W 0 (fun _ => true) true Try.f8.params.toList args.toList ds p := hA0
  rw [Try.params8] at hA hval
  obtain ⟨v0, vs0, d0, ds0, p0, q0, hargs, rfl, rfl, h0, r0⟩ := trodAll_cons hA
  obtain ⟨rfl, rfl, rfl⟩ := trodAll_nil r0
  obtain rfl : args = #[v0] := by cases args; simp_all
  obtain ⟨rfl, rfl⟩ := trodVars_none hV
  obtain ⟨a0, len0, cap0, rfl⟩ := okWide_slice Try.underlying53 (hval 0 53 v0 rfl rfl)
  have k0 := h0
  have lt0 : ∀ x ∈ p0, x.block < W.heap.size := by obtain ⟨m, hm⟩ := k0; exact DataW.trod_lt m _ _ _ hm
  obtain ⟨xs0, hx0, w0⟩ : ∃ xss : List (List Sq.R), xss.length = len0 ∧ Sq.RdT W a0 xss := by
    obtain ⟨fuel, hf⟩ := h0
    exact openedQ hf
  subst hx0
  clear hA0 hval0
  refine (walk a0 cap0 xs0 W w0).mono fun e W' ⟨he, bel⟩ => ?_
  subst he
  exact ⟨_, rfl, _, _, _, [], _, [], hW', trodAll_mk1 (shut_bool Try.underlying4 _), (trodAll_cons_mk (Below.trod laidOut (by kernel_rfl) (of_decide_eq_true (by kernel_rfl)) k0 bel lt0) trodAll_mk0), rfl, bel.frame _, fun h => by cases h⟩

theorem over : Rows.fnExactValidLitmusRow.holds Try.pinned (OpenSpec.ofChange Rows.fnExactValidLitmusSpec) :=
  OpenClaim.holds_of_wide 8 Try.f8 rfl rfl rfl rfl rfl rfl rfl ⟨rfl, rfl, rfl, rfl, rfl⟩ rfl rfl rfl rfl rfl (by kernel_rfl) Try.func8 (by kernel_rfl)
    (of_decide_eq_true (by kernel_rfl)) (by unfold Func.isWrapper; first | (rw [if_pos (by decide +kernel)]; kernel_rfl) | (rw [if_neg (by decide +kernel)]; exact ⟨rfl, rfl⟩))
    (fun os started H enc _ => lifted os started H enc)

/-- ████ THE STATEMENT ████ -/
theorem proved : Rows.FnExactValidLitmusSaid := over
#print axioms proved
end Go.Proofs.Ytmmjdmgnmlhjeaa.fnExactValidLitmus
