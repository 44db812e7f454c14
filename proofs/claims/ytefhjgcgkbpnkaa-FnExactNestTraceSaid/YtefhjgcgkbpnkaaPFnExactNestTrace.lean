/- FnExactNestTrace: the Go function laws.FnExactNestTrace returns true at every input of its parameters' types, leaves its arguments as they were, and ends.
   No condition but the statement's own. The shell round the walk is the guide's; the walk is in YtefhjgcgkbpnkaaWFnExactNestTrace. -/
import Derived.Test.YtefhjgcgkbpnkaaRows
import Derived.Test.YtefhjgcgkbpnkaaWFnExactNestTrace
import Derived.WalkKit
import Derived.ProofKit
import Derived.OpenShut
import Derived.ShutString
import Derived.ChangeOld
import Derived.Below
import Derived.Lib.SmallJoins
namespace Go.Proofs.Ytefhjgcgkbpnkaa.fnExactNestTrace
open Go.ChangeShapes Go.WideShapes Go.ChangeAt Go.RowKit
open Go.ChangeMaps (open_string shut_string)
set_option linter.unusedVariables false

theorem own : ownKnob Try.prog.godebug = none := by kernel_rfl
theorem laidOut : laidOutB Try.prog = true := by kernel_rfl

theorem openedI {H : Type} {enc : TypeId × Value → H} {W : World} {fuel : Nat} {a0 : Option Addr} {len0 cap0 : Nat} {x : DataW H × List MemPlace}
    (hf : DataW.trod enc Try.prog W 0 (fun _ => true) true fuel 22 [Value.slice a0 len0 cap0] = some x) : ∃ zs, IsRow .i64 W a0 len0 cap0 zs := by
  rcases open_ints Try.underlying22 Try.underlying2 (by kernel_rfl) hf with ⟨hcs, _⟩ | ⟨x, l, c, zs, hcs, _, hl, hm, hz, _, hcell, hwz⟩
  · simp at hcs
    obtain ⟨rfl, rfl, rfl⟩ := hcs
    exact ⟨[], .inl ⟨rfl, rfl, rfl, rfl⟩⟩
  · simp at hcs
    obtain ⟨rfl, rfl, rfl⟩ := hcs
    exact ⟨zs, .inr ⟨_, rfl, hl, hm, by simpa using hz, hcell, hwz⟩⟩

theorem fieldsN : Try.prog.underlying 24 = some (.struct #[⟨"Kind", 2, 0, false, "", "", 0⟩, ⟨"Base", 2, 1, false, "", "", 8⟩, ⟨"Counts", 22, 2, false, "", "", 16⟩, ⟨"Strides", 22, 3, false, "", "", 40⟩]) ∧ True := ⟨by kernel_rfl, trivial⟩
theorem cellsN : Try.prog.cellsOf 24 = 4 := by kernel_rfl
set_option maxRecDepth 100000 in
theorem openedN {H : Type} {enc : TypeId × Value → H} {W : World} {v : Value} {d : DataW H} {p : List MemPlace} {base : Nat}
    (hv : Value.okWide Try.prog W .any base 24 v) (h : DataW.Trod enc Try.prog W 0 (fun _ => true) true 24 v d p) :
    ∃ k b a len cap zs a' len' cap' zs', v = .agg #[.int .i64 k, .int .i64 b, .slice a len cap, .slice a' len' cap'] ∧ (Lit.int .i64 k).wf = true ∧ (Lit.int .i64 b).wf = true ∧ IsRow .i64 W a len cap zs ∧ IsRow .i64 W a' len' cap' zs' := by
  obtain ⟨c0, c1, c2, c3, y0, y1, y2, y3, m, rfl, rfl, rfl, hy0, hy1, hy2, hy3⟩ := Go.Joins.open_agg4 fieldsN.1 (by kernel_rfl) cellsN hv h
  obtain ⟨k, e0, _, w0⟩ := DataW.trod_int (k := .i64) Try.underlying2 hy0
  obtain ⟨b, e1, _, w1⟩ := DataW.trod_int (k := .i64) Try.underlying2 hy1
  simp at e0 e1
  subst e0 e1
  obtain ⟨a, len, cap, e2⟩ : ∃ a len cap, c2 = Value.slice a len cap := by simpa using Go.Joins.slice_form Try.underlying22 hy2
  obtain ⟨a', len', cap', e3⟩ : ∃ a len cap, c3 = Value.slice a len cap := by simpa using Go.Joins.slice_form Try.underlying22 hy3
  subst e2 e3
  obtain ⟨zs, hI⟩ := openedI hy2
  obtain ⟨zs', hJ⟩ := openedI hy3
  exact ⟨k, b, a, len, cap, zs, a', len', cap', zs', rfl, w0, w1, hI, hJ⟩

/-! ### THE ROW's STEP -/
set_option maxRecDepth 100000 in
theorem lifted (os : Os) (started : os.Started) (H : Type) (enc : TypeId × Value → H) :
    ReturnsInHanded {} Try.checked os 3 .any (Rows.fnExactNestTraceSpec.pre6 enc Try.prog Try.f3 Rows.fnExactNestTraceRow.domain false) (Rows.fnExactNestTraceSpec.post enc Try.prog Try.f3 false true false false) := by
  refine returnsInHanded_of_change (C := Try.checked) own started (by kernel_rfl) Try.func3
    (ChangeSpec.witness6 (enc := enc) (C := Try.checked) false ⟨#[], #[.agg #[.int .i64 0, .int .i64 0, .slice none 0 0, .slice none 0 0]], []⟩ 8 (by kernel_rfl) (by kernel_rfl) (by kernel_rfl) (by kernel_rfl)) ?_
  intro W base args ds gs before hval0 hW hcnd _
  have hval : ∀ (j : Nat) t v, Try.f3.params[j]? = some t → args[j]? = some v → Value.okWide Try.prog W .any base t v := hval0
  have hW' := hW
  obtain ⟨p, q, hA0, hV, rfl, hfz, hnd⟩ := hW
  have hA : DataW.TrodAll enc Try.prog W 0 (fun _ => true) true Try.f3.params.toList args.toList ds p := hA0
  rw [Try.params3] at hA hval
  obtain ⟨v0, vs0, d0, ds0, p0, q0, hargs, rfl, rfl, h0, r0⟩ := trodAll_cons hA
  obtain ⟨rfl, rfl, rfl⟩ := trodAll_nil r0
  obtain rfl : args = #[v0] := by cases args; simp_all
  obtain ⟨rfl, rfl⟩ := trodVars_none hV
  have k0 := h0
  have lt0 : ∀ x ∈ p0, x.block < W.heap.size := by obtain ⟨m, hm⟩ := k0; exact DataW.trod_lt m _ _ _ hm
  obtain ⟨m0, s0, a0, len0, cap0, z0, b0, lem0, cam0, y0, rfl, wk0, wb0, w0, u0⟩ := openedN (hval 0 24 v0 rfl rfl) h0
  clear hA0 hval0
  refine (walk m0 s0 a0 len0 cap0 z0 b0 lem0 cam0 y0 W wk0 wb0 w0 u0).mono fun e W' ⟨he, bel⟩ => ?_
  subst he
  exact ⟨_, rfl, _, _, _, [], _, [], hW', trodAll_mk1 (shut_bool Try.underlying4 _), (trodAll_cons_mk (Below.trod laidOut (by kernel_rfl) (of_decide_eq_true (by kernel_rfl)) k0 bel lt0) trodAll_mk0), rfl, bel.frame _, fun h => by cases h⟩

theorem over : Rows.fnExactNestTraceRow.holds Try.pinned (OpenSpec.ofChange Rows.fnExactNestTraceSpec) :=
  OpenClaim.holds_of_wide 3 Try.f3 rfl rfl rfl rfl rfl rfl rfl ⟨rfl, rfl, rfl, rfl, rfl⟩ rfl rfl rfl rfl rfl (by kernel_rfl) Try.func3 (by kernel_rfl)
    (of_decide_eq_true (by kernel_rfl)) (by unfold Func.isWrapper; first | (rw [if_pos (by decide +kernel)]; kernel_rfl) | (rw [if_neg (by decide +kernel)]; exact ⟨rfl, rfl⟩))
    (fun os started H enc _ => lifted os started H enc)

/-- ████ THE STATEMENT ████ -/
theorem proved : Rows.FnExactNestTraceSaid := over
#print axioms proved
end Go.Proofs.Ytefhjgcgkbpnkaa.fnExactNestTrace
