/- FnExactValidProtocol: the Go function laws.FnExactValidProtocol returns true at every input of its parameters' types, leaves its arguments as they were, and ends.
   No condition but the statement's own. The shell round the walk is the guide's; the walk is in YtmmjdmgnmlhjeaaWFnExactValidProtocol. -/
import Derived.Test.YtmmjdmgnmlhjeaaRows
import Derived.Test.YtmmjdmgnmlhjeaaWFnExactValidProtocol
import Derived.WalkKit
import Derived.ProofKit
import Derived.OpenShut
import Derived.ShutString
import Derived.ChangeOld
import Derived.Below
import Derived.Lib.SmallJoins
import Derived.Deep.Slices
namespace Go.Proofs.Ytmmjdmgnmlhjeaa.fnExactValidProtocol
open Go.ChangeShapes Go.WideShapes Go.ChangeAt Go.RowKit
open Go.ChangeMaps (open_string shut_string)
set_option linter.unusedVariables false

theorem own : ownKnob Try.prog.godebug = none := by kernel_rfl
theorem laidOut : laidOutB Try.prog = true := by kernel_rfl

theorem fieldsRu : Try.prog.underlying 37 = some (.struct #[⟨"Next", 2, 0, false, "", "", 0⟩, ⟨"Shared", 2, 1, false, "", "", 8⟩, ⟨"Back", 4, 2, false, "", "", 16⟩]) ∧ True := ⟨by kernel_rfl, trivial⟩
theorem cellsRu : Try.prog.cellsOf 37 = 3 := by kernel_rfl
theorem cellsIRu : Try.prog.cellsOf 2 = 1 := by kernel_rfl
theorem cellsBRu : Try.prog.cellsOf 4 = 1 := by kernel_rfl
open Go.Deep in
set_option maxRecDepth 100000 in
theorem openedRu {H : Type} {enc : TypeId × Value → H} {W : World} {fuel : Nat} {a0 : Option Addr} {len0 cap0 : Nat} {x : DataW H × List MemPlace}
    (hf : DataW.trod enc Try.prog W 0 (fun _ => true) true fuel 29 [Value.slice a0 len0 cap0] = some x) : len0 ≤ 9223372036854775807 ∧ ∃ xs : List Ru.R, xs.length = len0 ∧ Ru.RdR W a0 xs := by
  rcases open_slice (e := 37) (by kernel_rfl) hf with ⟨hcs, _⟩ | ⟨a, len, cap, m, n, D, Pl, hcs, _, hlc, hcm, hmm, _, hx⟩
  · simp at hcs
    obtain ⟨rfl, rfl, rfl⟩ := hcs
    exact ⟨by omega, [], rfl, fun i hi => by simp at hi⟩
  · simp at hcs
    obtain ⟨rfl, rfl, rfl⟩ := hcs
    have hlm : len0 ≤ m := by rw [hmm]; split <;> omega
    have hex : ∀ i, i < len0 → ∃ q : Ru.R, W.cell? (a.add (i * 3)) = some (.int .i64 q.1) ∧ W.cell? (a.add (i * 3 + 1)) = some (.int .i64 q.2.1) ∧ W.cell? (a.add (i * 3 + 2)) = some (.bool q.2.2) := fun i hi => by
      obtain ⟨cs', h1, h2⟩ := hx i (by omega)
      rw [cellsRu] at h1
      obtain ⟨_, hlen, hcell⟩ := World.cells?_some h1
      obtain ⟨xs, k, hk, hxy, _, hxl, hfl⟩ := DataW.trod_struct fieldsRu.1 h2
      match xs, hxl, cs', hlen with
      | [y0, y1, y2], _, [v0, v1, v2], _ =>
        have g0 := hfl 0 _ rfl
        simp [cellsIRu, cellsBRu] at g0
        have g1 := hfl 1 _ rfl
        simp [cellsIRu, cellsBRu] at g1
        have g2 := hfl 2 _ rfl
        simp [cellsIRu, cellsBRu] at g2
        obtain ⟨u0, hu0, _⟩ := DataW.trod_int (k := .i64) Try.underlying2 g0
        simp at hu0
        subst hu0
        have e0 := hcell 0 (by omega)
        rw [add_add] at e0
        obtain ⟨u1, hu1, _⟩ := DataW.trod_int (k := .i64) Try.underlying2 g1
        simp at hu1
        subst hu1
        have e1 := hcell 1 (by omega)
        rw [add_add] at e1
        obtain ⟨u2, hu2, _⟩ := DataW.trod_bool Try.underlying4 g2
        simp at hu2
        subst hu2
        have e2 := hcell 2 (by omega)
        rw [add_add] at e2
        exact ⟨(u0, u1, u2), by simpa using e0, by simpa using e1, by simpa using e2⟩
    refine ⟨by unfold maxLen at hcm; omega, (List.range len0).map (fun i => if h : i < len0 then Classical.choose (hex i h) else Ru.dR), by simp, fun i hi => ?_⟩
    have hi' : i < len0 := by simpa using hi
    obtain ⟨c0, c1, c2⟩ := Classical.choose_spec (hex i hi')
    have e : ((List.range len0).map (fun i => if h : i < len0 then Classical.choose (hex i h) else Ru.dR)).getD i Ru.dR = Classical.choose (hex i hi') := by
      rw [List.getD_eq_getElem?_getD, List.getElem?_eq_getElem hi]
      simp [hi']
    rw [e]
    clear e
    generalize Classical.choose (hex i hi') = q at c0 c1 c2 ⊢
    obtain ⟨q0, d1, _⟩ := hex 0 (by omega)
    clear hi hex hx
    obtain ⟨b, off, spot⟩ := a
    have hspot : spot = none := by simpa [Addr.add] using World.cell?_spot d1
    subst hspot
    rw [Go.WideShapes.add_plain] at c0 c1 c2
    exact ⟨b, off, rfl, c0, c1, c2, World.block_lt_of_cell? W _ c0⟩

theorem fieldsT : Try.prog.underlying 31 = some (.struct #[⟨"Read", 29, 0, false, "", "", 0⟩, ⟨"Write", 29, 1, false, "", "", 24⟩, ⟨"Evict", 29, 2, false, "", "", 48⟩, ⟨"SeeRead", 29, 3, false, "", "", 72⟩, ⟨"SeeWrite", 29, 4, false, "", "", 96⟩]) ∧ True := ⟨by kernel_rfl, trivial⟩
theorem cellsT : Try.prog.cellsOf 31 = 5 := by kernel_rfl
theorem cellsT1 : Try.prog.cellsOf 29 = 1 := by kernel_rfl
theorem array5 {α : Type} {cs : Array α} (h : cs.size = 5) : ∃ c0 c1 c2 c3 c4, cs = #[c0, c1, c2, c3, c4] := by
  obtain ⟨l⟩ := cs
  match l, h with
  | [c0, c1, c2, c3, c4], _ => exact ⟨c0, c1, c2, c3, c4, rfl⟩

set_option maxRecDepth 100000 in
theorem openedT {H : Type} {enc : TypeId × Value → H} {W : World} {v : Value} {d : DataW H} {p : List MemPlace} {base : Nat}
    (hv : Value.okWide Try.prog W .any base 31 v) (h : DataW.Trod enc Try.prog W 0 (fun _ => true) true 31 v d p) :
    ∃ a0 n0 k0 a1 n1 k1 a2 n2 k2 a3 n3 k3 a4 n4 k4, v = .agg #[.slice a0 n0 k0, .slice a1 n1 k1, .slice a2 n2 k2, .slice a3 n3 k3, .slice a4 n4 k4] ∧ (n0 ≤ 9223372036854775807 ∧ ∃ xs : List Ru.R, xs.length = n0 ∧ Ru.RdR W a0 xs) ∧ (n1 ≤ 9223372036854775807 ∧ ∃ xs : List Ru.R, xs.length = n1 ∧ Ru.RdR W a1 xs) ∧ (n2 ≤ 9223372036854775807 ∧ ∃ xs : List Ru.R, xs.length = n2 ∧ Ru.RdR W a2 xs) ∧ (n3 ≤ 9223372036854775807 ∧ ∃ xs : List Ru.R, xs.length = n3 ∧ Ru.RdR W a3 xs) ∧ (n4 ≤ 9223372036854775807 ∧ ∃ xs : List Ru.R, xs.length = n4 ∧ Ru.RdR W a4 xs) := by
  obtain ⟨cs, rfl, hsz⟩ := okWide_struct fieldsT.1 hv
  obtain ⟨c0, c1, c2, c3, c4, rfl⟩ := array5 (hsz.trans cellsT)
  obtain ⟨fuel, hf⟩ := h
  obtain ⟨xs, n, _, _, _, hlen, hfld⟩ := DataW.trod_struct fieldsT.1 hf
  match xs, hlen with
  | [y0, y1, y2, y3, y4], _ =>
    have h0 : DataW.trod enc Try.prog W 0 (fun _ => true) true n 29 [c0] = some y0 := by simpa [cellsT1, Value.cells] using hfld 0 _ rfl
    obtain ⟨a0, n0, k0, e0⟩ : ∃ a len cap, c0 = Value.slice a len cap := by simpa using Go.Joins.slice_form (show Try.prog.underlying 29 = some (.slice 37) by kernel_rfl) h0
    have h1 : DataW.trod enc Try.prog W 0 (fun _ => true) true n 29 [c1] = some y1 := by simpa [cellsT1, Value.cells] using hfld 1 _ rfl
    obtain ⟨a1, n1, k1, e1⟩ : ∃ a len cap, c1 = Value.slice a len cap := by simpa using Go.Joins.slice_form (show Try.prog.underlying 29 = some (.slice 37) by kernel_rfl) h1
    have h2 : DataW.trod enc Try.prog W 0 (fun _ => true) true n 29 [c2] = some y2 := by simpa [cellsT1, Value.cells] using hfld 2 _ rfl
    obtain ⟨a2, n2, k2, e2⟩ : ∃ a len cap, c2 = Value.slice a len cap := by simpa using Go.Joins.slice_form (show Try.prog.underlying 29 = some (.slice 37) by kernel_rfl) h2
    have h3 : DataW.trod enc Try.prog W 0 (fun _ => true) true n 29 [c3] = some y3 := by simpa [cellsT1, Value.cells] using hfld 3 _ rfl
    obtain ⟨a3, n3, k3, e3⟩ : ∃ a len cap, c3 = Value.slice a len cap := by simpa using Go.Joins.slice_form (show Try.prog.underlying 29 = some (.slice 37) by kernel_rfl) h3
    have h4 : DataW.trod enc Try.prog W 0 (fun _ => true) true n 29 [c4] = some y4 := by simpa [cellsT1, Value.cells] using hfld 4 _ rfl
    obtain ⟨a4, n4, k4, e4⟩ : ∃ a len cap, c4 = Value.slice a len cap := by simpa using Go.Joins.slice_form (show Try.prog.underlying 29 = some (.slice 37) by kernel_rfl) h4
    subst e0 e1 e2 e3 e4
    exact ⟨a0, n0, k0, a1, n1, k1, a2, n2, k2, a3, n3, k3, a4, n4, k4, rfl, openedRu h0, openedRu h1, openedRu h2, openedRu h3, openedRu h4⟩

/-! ### THE ROW's STEP -/
set_option maxRecDepth 100000 in
theorem lifted (os : Os) (started : os.Started) (H : Type) (enc : TypeId × Value → H) :
    ReturnsInHanded {} Try.checked os 5 .any (Rows.fnExactValidProtocolSpec.pre6 enc Try.prog Try.f5 Rows.fnExactValidProtocolRow.domain false) (Rows.fnExactValidProtocolSpec.post enc Try.prog Try.f5 false true false false) := by
  refine returnsInHanded_of_change (C := Try.checked) own started (by kernel_rfl) Try.func5
    (ChangeSpec.witness6 (enc := enc) (C := Try.checked) false ⟨#[], #[.agg #[.slice none 0 0, .slice none 0 0, .slice none 0 0, .slice none 0 0, .slice none 0 0]], []⟩ 8 (by kernel_rfl) (by kernel_rfl) (by kernel_rfl) (by kernel_rfl)) ?_
  intro W base args ds gs before hval0 hW hcnd _
  have hval : ∀ (j : Nat) t v, Try.f5.params[j]? = some t → args[j]? = some v → Value.okWide Try.prog W .any base t v := hval0
  have hW' := hW
  obtain ⟨p, q, hA0, hV, rfl, hfz, hnd⟩ := hW
  have hA : DataW.TrodAll enc Try.prog W 0 (fun _ => true) true Try.f5.params.toList args.toList ds p := hA0
  rw [Try.params5] at hA hval
  obtain ⟨v0, vs0, d0, ds0, p0, q0, hargs, rfl, rfl, h0, r0⟩ := trodAll_cons hA
  obtain ⟨rfl, rfl, rfl⟩ := trodAll_nil r0
  obtain rfl : args = #[v0] := by cases args; simp_all
  obtain ⟨rfl, rfl⟩ := trodVars_none hV
  have k0 := h0
  have lt0 : ∀ x ∈ p0, x.block < W.heap.size := by obtain ⟨m, hm⟩ := k0; exact DataW.trod_lt m _ _ _ hm
  obtain ⟨a0q0, n0q0, k0q0, a0q1, n0q1, k0q1, a0q2, n0q2, k0q2, a0q3, n0q3, k0q3, a0q4, n0q4, k0q4, rfl, ⟨g0q0, x0q0, e0q0, w0q0⟩, ⟨g0q1, x0q1, e0q1, w0q1⟩, ⟨g0q2, x0q2, e0q2, w0q2⟩, ⟨g0q3, x0q3, e0q3, w0q3⟩, ⟨g0q4, x0q4, e0q4, w0q4⟩⟩ := openedT (hval 0 31 v0 rfl rfl) h0
  subst e0q0 e0q1 e0q2 e0q3 e0q4
  clear hA0 hval0
  refine (walk a0q0 k0q0 x0q0 a0q1 k0q1 x0q1 a0q2 k0q2 x0q2 a0q3 k0q3 x0q3 a0q4 k0q4 x0q4 W w0q0 g0q0 w0q1 g0q1 w0q2 g0q2 w0q3 g0q3 w0q4 g0q4).mono fun e W' ⟨he, bel⟩ => ?_
  subst he
  exact ⟨_, rfl, _, _, _, [], _, [], hW', trodAll_mk1 (shut_bool Try.underlying4 _), (trodAll_cons_mk (Below.trod laidOut (by kernel_rfl) (of_decide_eq_true (by kernel_rfl)) k0 bel lt0) trodAll_mk0), rfl, bel.frame _, fun h => by cases h⟩

theorem over : Rows.fnExactValidProtocolRow.holds Try.pinned (OpenSpec.ofChange Rows.fnExactValidProtocolSpec) :=
  OpenClaim.holds_of_wide 5 Try.f5 rfl rfl rfl rfl rfl rfl rfl ⟨rfl, rfl, rfl, rfl, rfl⟩ rfl rfl rfl rfl rfl (by kernel_rfl) Try.func5 (by kernel_rfl)
    (of_decide_eq_true (by kernel_rfl)) (by unfold Func.isWrapper; first | (rw [if_pos (by decide +kernel)]; kernel_rfl) | (rw [if_neg (by decide +kernel)]; exact ⟨rfl, rfl⟩))
    (fun os started H enc _ => lifted os started H enc)

/-- ████ THE STATEMENT ████ -/
theorem proved : Rows.FnExactValidProtocolSaid := over
#print axioms proved
end Go.Proofs.Ytmmjdmgnmlhjeaa.fnExactValidProtocol
