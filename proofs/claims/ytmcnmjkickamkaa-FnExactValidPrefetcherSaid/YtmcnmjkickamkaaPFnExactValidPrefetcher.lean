/- FnExactValidPrefetcher: the Go function laws.FnExactValidPrefetcher returns true at every input of its parameters' types, leaves its arguments as they were, and ends.
   No condition but the statement's own. The shell round the walk is the guide's; the walk is in YtmcnmjkickamkaaWFnExactValidPrefetcher. -/
import Derived.Test.YtmcnmjkickamkaaRows
import Derived.Test.YtmcnmjkickamkaaWFnExactValidPrefetcher
import Derived.WalkKit
import Derived.ProofKit
import Derived.OpenShut
import Derived.ShutString
import Derived.ChangeOld
import Derived.Below
import Derived.Lib.SmallJoins
namespace Go.Proofs.Ytmcnmjkickamkaa.fnExactValidPrefetcher
open Go.ChangeShapes Go.WideShapes Go.ChangeAt Go.RowKit
open Go.ChangeMaps (open_string shut_string)
set_option linter.unusedVariables false

theorem own : ownKnob Try.prog.godebug = none := by kernel_rfl
theorem laidOut : laidOutB Try.prog = true := by kernel_rfl

theorem fieldsF : Try.prog.underlying 30 = some (.struct #[⟨"Kind", 2, 0, false, "", "", 0⟩, ⟨"Degree", 2, 1, false, "", "", 8⟩, ⟨"Delay", 2, 2, false, "", "", 16⟩, ⟨"Ways", 2, 3, false, "", "", 24⟩]) ∧ True := ⟨by kernel_rfl, trivial⟩
theorem cellsF : Try.prog.cellsOf 30 = 4 := by kernel_rfl
set_option maxRecDepth 100000 in
theorem openedF {H : Type} {enc : TypeId × Value → H} {W : World} {v : Value} {d : DataW H} {p : List MemPlace} {base : Nat}
    (hv : Value.okWide Try.prog W .any base 30 v) (h : DataW.Trod enc Try.prog W 0 (fun _ => true) true 30 v d p) :
    ∃ k d y n, v = .agg #[.int .i64 k, .int .i64 d, .int .i64 y, .int .i64 n] := by
  obtain ⟨c0, c1, c2, c3, y0, y1, y2, y3, m, rfl, rfl, rfl, hy0, hy1, hy2, hy3⟩ := Go.Joins.open_agg4 fieldsF.1 (by kernel_rfl) cellsF hv h
  obtain ⟨k, e0, _⟩ := DataW.trod_int (k := .i64) Try.underlying2 hy0
  obtain ⟨d, e1, _⟩ := DataW.trod_int (k := .i64) Try.underlying2 hy1
  obtain ⟨y, e2, _⟩ := DataW.trod_int (k := .i64) Try.underlying2 hy2
  obtain ⟨n, e3, _⟩ := DataW.trod_int (k := .i64) Try.underlying2 hy3
  simp at e0 e1 e2 e3
  subst e0 e1 e2 e3
  exact ⟨k, d, y, n, rfl⟩

/-! ### THE ROW's STEP -/
set_option maxRecDepth 100000 in
theorem lifted (os : Os) (started : os.Started) (H : Type) (enc : TypeId × Value → H) :
    ReturnsInHanded {} Try.checked os 4 .any (Rows.fnExactValidPrefetcherSpec.pre6 enc Try.prog Try.f4 Rows.fnExactValidPrefetcherRow.domain false) (Rows.fnExactValidPrefetcherSpec.post enc Try.prog Try.f4 false true false false) := by
  refine returnsInHanded_of_change (C := Try.checked) own started (by kernel_rfl) Try.func4
    (ChangeSpec.witness6 (enc := enc) (C := Try.checked) false ⟨#[], #[.agg #[.int .i64 0, .int .i64 0, .int .i64 0, .int .i64 0]], []⟩ 8 (by kernel_rfl) (by kernel_rfl) (by kernel_rfl) (by kernel_rfl)) ?_
  intro W base args ds gs before hval0 hW hcnd _
  have hval : ∀ (j : Nat) t v, Try.f4.params[j]? = some t → args[j]? = some v → Value.okWide Try.prog W .any base t v := hval0
  have hW' := hW
  obtain ⟨p, q, hA0, hV, rfl, hfz, hnd⟩ := hW
  have hA : DataW.TrodAll enc Try.prog W 0 (fun _ => true) true Try.f4.params.toList args.toList ds p := hA0
  rw [Try.params4] at hA hval
  obtain ⟨v0, vs0, d0, ds0, p0, q0, hargs, rfl, rfl, h0, r0⟩ := trodAll_cons hA
  obtain ⟨rfl, rfl, rfl⟩ := trodAll_nil r0
  obtain rfl : args = #[v0] := by cases args; simp_all
  obtain ⟨rfl, rfl⟩ := trodVars_none hV
  have k0 := h0
  have lt0 : ∀ x ∈ p0, x.block < W.heap.size := by obtain ⟨m, hm⟩ := k0; exact DataW.trod_lt m _ _ _ hm
  obtain ⟨k0a, k0b, k0c, k0d, rfl⟩ := openedF (hval 0 30 v0 rfl rfl) h0
  clear hA0 hval0
  refine (walk k0a k0b k0c k0d W).mono fun e W' ⟨he, bel⟩ => ?_
  subst he
  exact ⟨_, rfl, _, _, _, [], _, [], hW', trodAll_mk1 (shut_bool Try.underlying4 _), (trodAll_cons_mk (Below.trod laidOut (by kernel_rfl) (of_decide_eq_true (by kernel_rfl)) k0 bel lt0) trodAll_mk0), rfl, bel.frame _, fun h => by cases h⟩

theorem over : Rows.fnExactValidPrefetcherRow.holds Try.pinned (OpenSpec.ofChange Rows.fnExactValidPrefetcherSpec) :=
  OpenClaim.holds_of_wide 4 Try.f4 rfl rfl rfl rfl rfl rfl rfl ⟨rfl, rfl, rfl, rfl, rfl⟩ rfl rfl rfl rfl rfl (by kernel_rfl) Try.func4 (by kernel_rfl)
    (of_decide_eq_true (by kernel_rfl)) (by unfold Func.isWrapper; first | (rw [if_pos (by decide +kernel)]; kernel_rfl) | (rw [if_neg (by decide +kernel)]; exact ⟨rfl, rfl⟩))
    (fun os started H enc _ => lifted os started H enc)

/-- ████ THE STATEMENT ████ -/
theorem proved : Rows.FnExactValidPrefetcherSaid := over
#print axioms proved
end Go.Proofs.Ytmcnmjkickamkaa.fnExactValidPrefetcher
