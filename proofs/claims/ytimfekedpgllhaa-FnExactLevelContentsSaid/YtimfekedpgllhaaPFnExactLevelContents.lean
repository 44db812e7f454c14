/- FnExactLevelContents: the Go function laws.FnExactLevelContents returns true at every input of its parameters' types, leaves its arguments as they were, and ends.
   No condition but the statement's own. The shell round the walk is the guide's; the walk is in YtimfekedpgllhaaWFnExactLevelContents. -/
import Derived.Test.YtimfekedpgllhaaRows
import Derived.Test.YtimfekedpgllhaaWFnExactLevelContents
import Derived.WalkKit
import Derived.ProofKit
import Derived.OpenShut
import Derived.ShutString
import Derived.ChangeOld
import Derived.Below
import Derived.Deep.Matrix
import Derived.Lib.SmallJoins
namespace Go.Proofs.Ytimfekedpgllhaa.fnExactLevelContents
open Go.ChangeShapes Go.WideShapes Go.ChangeAt Go.RowKit
open Go.ChangeMaps (open_string shut_string)
set_option linter.unusedVariables false

theorem own : ownKnob Try.prog.godebug = none := by kernel_rfl
theorem laidOut : laidOutB Try.prog = true := by kernel_rfl

theorem openedI {H : Type} {enc : TypeId × Value → H} {W : World} {fuel : Nat} {a0 : Option Addr} {len0 cap0 : Nat} {x : DataW H × List MemPlace}
    (hf : DataW.trod enc Try.prog W 0 (fun _ => true) true fuel 23 [Value.slice a0 len0 cap0] = some x) : ∃ zs, IsRow .i64 W a0 len0 cap0 zs := by
  rcases open_ints Try.underlying23 Try.underlying2 (by kernel_rfl) hf with ⟨hcs, _⟩ | ⟨x, l, c, zs, hcs, _, hl, hm, hz, _, hcell, hwz⟩
  · simp at hcs
    obtain ⟨rfl, rfl, rfl⟩ := hcs
    exact ⟨[], .inl ⟨rfl, rfl, rfl, rfl⟩⟩
  · simp at hcs
    obtain ⟨rfl, rfl, rfl⟩ := hcs
    exact ⟨zs, .inr ⟨_, rfl, hl, hm, by simpa using hz, hcell, hwz⟩⟩

open Go.Deep in
theorem openedM {H : Type} {enc : TypeId × Value → H} {W : World} {fuel : Nat} {a0 : Option Addr} {len0 cap0 : Nat} {x : DataW H × List MemPlace}
    (hf : DataW.trod enc Try.prog W 0 (fun _ => true) true fuel 22 [Value.slice a0 len0 cap0] = some x) : IsMat W a0 len0 := by
  rcases open_int_rows Try.underlying22 Try.underlying23 Try.underlying2 (by kernel_rfl) (by kernel_rfl) hf with ⟨hcs, _⟩ | ⟨a, len, cap, A, L, C, Z, hcs, _, hl, hm, _, hx⟩
  · simp at hcs
    obtain ⟨rfl, rfl, rfl⟩ := hcs
    exact ⟨by omega, fun i hi => by omega⟩
  · simp at hcs
    obtain ⟨rfl, rfl, rfl⟩ := hcs
    refine ⟨by unfold maxLen at hm; omega, fun i hi => ?_⟩
    obtain ⟨h1, h2, h3, h4, h5, h6, h7⟩ := hx i (by omega)
    have hr : IsRow .i64 W (A i) (L i) (C i) (Z i) := by
      cases e : A i with
      | none => exact .inl ⟨rfl, by have := h6 e; omega, h6 e, List.eq_nil_of_length_eq_zero (by have := h6 e; omega)⟩
      | some a' => exact .inr ⟨a', rfl, h2, h3, h4, fun c hc => (h7 a' e).2 c (by omega), h5⟩
    have d1 := (hx 0 (by omega)).1
    obtain ⟨b, off, spot⟩ := a
    have hspot : spot = none := by simpa [Addr.add] using World.cell?_spot d1
    subst hspot
    rw [Go.WideShapes.add_plain] at h1
    exact ⟨b, off, _, _, _, _, rfl, h1, hr⟩

theorem fieldsP : Try.prog.underlying 25 = some (.struct #[⟨"Hit", 22, 0, false, "", "", 0⟩, ⟨"Miss", 23, 1, false, "", "", 24⟩]) ∧ True := ⟨by kernel_rfl, trivial⟩
theorem cellsP : Try.prog.cellsOf 25 = 2 := by kernel_rfl
theorem cellsM : Try.prog.cellsOf 22 = 1 := by kernel_rfl
theorem cellsI : Try.prog.cellsOf 23 = 1 := by kernel_rfl
set_option maxRecDepth 100000 in
theorem openedPL {H : Type} {enc : TypeId × Value → H} {W : World} {fuel : Nat} {c0 c1 : Value} {x : DataW H × List MemPlace}
    (hf : DataW.trod enc Try.prog W 0 (fun _ => true) true fuel 25 [c0, c1] = some x) :
    ∃ a len cap a' len' cap' zs', c0 = .slice a len cap ∧ c1 = .slice a' len' cap' ∧ IsMat W a len ∧ IsRow .i64 W a' len' cap' zs' := by
  obtain ⟨xs, n, _, _, _, hlen, hfld⟩ := DataW.trod_struct fieldsP.1 hf
  match xs, hlen with
  | [y0, y1], _ =>
    have hy0 : DataW.trod enc Try.prog W 0 (fun _ => true) true n 22 [c0] = some y0 := by simpa [cellsM] using hfld 0 _ rfl
    have hy1 : DataW.trod enc Try.prog W 0 (fun _ => true) true n 23 [c1] = some y1 := by simpa [cellsI] using hfld 1 _ rfl
    obtain ⟨a, len, cap, e0⟩ : ∃ a len cap, c0 = Value.slice a len cap := by simpa using Go.Joins.slice_form Try.underlying22 hy0
    obtain ⟨a', len', cap', e1⟩ : ∃ a len cap, c1 = Value.slice a len cap := by simpa using Go.Joins.slice_form Try.underlying23 hy1
    subst e0 e1
    have hM := openedM hy0
    obtain ⟨zs, hI⟩ := openedI hy1
    exact ⟨a, len, cap, a', len', cap', zs, rfl, rfl, hM, hI⟩

theorem fieldsL : Try.prog.underlying 27 = some (.struct #[⟨"First", 25, 0, false, "", "", 0⟩, ⟨"Second", 25, 2, false, "", "", 48⟩, ⟨"Mode", 2, 4, false, "", "", 96⟩]) ∧ True := ⟨by kernel_rfl, trivial⟩
theorem cellsL : Try.prog.cellsOf 27 = 5 := by kernel_rfl
theorem cellsN : Try.prog.cellsOf 2 = 1 := by kernel_rfl
theorem array5 {α : Type} {cs : Array α} (h : cs.size = 5) : ∃ c0 c1 c2 c3 c4, cs = #[c0, c1, c2, c3, c4] := by
  obtain ⟨l⟩ := cs
  match l, h with
  | [c0, c1, c2, c3, c4], _ => exact ⟨c0, c1, c2, c3, c4, rfl⟩
set_option maxRecDepth 100000 in
theorem openedL {H : Type} {enc : TypeId × Value → H} {W : World} {v : Value} {d : DataW H} {p : List MemPlace} {base : Nat}
    (hv : Value.okWide Try.prog W .any base 27 v) (h : DataW.Trod enc Try.prog W 0 (fun _ => true) true 27 v d p) :
    ∃ a len cap a' len' cap' zs' b m d' b' m' d'' zq k, v = .agg #[.slice a len cap, .slice a' len' cap', .slice b m d', .slice b' m' d'', .int .i64 k] ∧ IsMat W a len ∧ IsRow .i64 W a' len' cap' zs' ∧ IsMat W b m ∧ IsRow .i64 W b' m' d'' zq ∧ (Lit.int .i64 k).wf = true := by
  obtain ⟨cs, rfl, hsz⟩ := okWide_struct fieldsL.1 hv
  obtain ⟨c0, c1, c2, c3, c4, rfl⟩ := array5 (hsz.trans cellsL)
  obtain ⟨fuel, hf⟩ := h
  obtain ⟨xs, n, _, _, _, hlen, hfld⟩ := DataW.trod_struct fieldsL.1 hf
  match xs, hlen with
  | [y0, y1, y2], _ =>
    have hy0 : DataW.trod enc Try.prog W 0 (fun _ => true) true n 25 [c0, c1] = some y0 := by simpa [cellsP, Value.cells] using hfld 0 _ rfl
    have hy1 : DataW.trod enc Try.prog W 0 (fun _ => true) true n 25 [c2, c3] = some y1 := by simpa [cellsP, Value.cells] using hfld 1 _ rfl
    have hy2 : DataW.trod enc Try.prog W 0 (fun _ => true) true n 2 [c4] = some y2 := by simpa [cellsN, Value.cells] using hfld 2 _ rfl
    obtain ⟨k, e2, _, wk⟩ := DataW.trod_int (k := .i64) Try.underlying2 hy2
    simp at e2
    subst e2
    obtain ⟨a, len, cap, a', len', cap', zs, rfl, rfl, hM, hI⟩ := openedPL hy0
    obtain ⟨b, m, d', b', m', d'', zq, rfl, rfl, hM2, hI2⟩ := openedPL hy1
    exact ⟨a, len, cap, a', len', cap', zs, b, m, d', b', m', d'', zq, k, rfl, hM, hI, hM2, hI2, wk⟩

/-! ### THE ROW's STEP -/
set_option maxRecDepth 100000 in
theorem lifted (os : Os) (started : os.Started) (H : Type) (enc : TypeId × Value → H) :
    ReturnsInHanded {} Try.checked os 5 .any (Rows.fnExactLevelContentsSpec.pre6 enc Try.prog Try.f5 Rows.fnExactLevelContentsRow.domain false) (Rows.fnExactLevelContentsSpec.post enc Try.prog Try.f5 false true false false) := by
  refine returnsInHanded_of_change (C := Try.checked) own started (by kernel_rfl) Try.func5
    (ChangeSpec.witness6 (enc := enc) (C := Try.checked) false ⟨#[], #[.agg #[.slice none 0 0, .slice none 0 0, .slice none 0 0, .slice none 0 0, .int .i64 0], .slice none 0 0], []⟩ 8 (by kernel_rfl) (by kernel_rfl) (by kernel_rfl) (by kernel_rfl)) ?_
  intro W base args ds gs before hval0 hW hcnd _
  have hval : ∀ (j : Nat) t v, Try.f5.params[j]? = some t → args[j]? = some v → Value.okWide Try.prog W .any base t v := hval0
  have hW' := hW
  obtain ⟨p, q, hA0, hV, rfl, hfz, hnd⟩ := hW
  have hA : DataW.TrodAll enc Try.prog W 0 (fun _ => true) true Try.f5.params.toList args.toList ds p := hA0
  rw [Try.params5] at hA hval
  obtain ⟨v0, vs0, d0, ds0, p0, q0, hargs, rfl, rfl, h0, r0⟩ := trodAll_cons hA
  obtain ⟨v1, vs1, d1, ds1, p1, q1, rfl, rfl, rfl, h1, r1⟩ := trodAll_cons r0
  obtain ⟨rfl, rfl, rfl⟩ := trodAll_nil r1
  obtain rfl : args = #[v0, v1] := by cases args; simp_all
  obtain ⟨rfl, rfl⟩ := trodVars_none hV
  have k0 := h0
  have lt0 : ∀ x ∈ p0, x.block < W.heap.size := by obtain ⟨m, hm⟩ := k0; exact DataW.trod_lt m _ _ _ hm
  obtain ⟨a0, len0, cap0, b0, lem0, cam0, z0, e0, lee0, cae0, f0, lef0, caf0, y0, m0, rfl, w0, u0, x0, t0, wk0⟩ := openedL (hval 0 27 v0 rfl rfl) h0
  obtain ⟨a1, len1, cap1, rfl⟩ := okWide_slice Try.underlying23 (hval 1 23 v1 rfl rfl)
  have k1 := h1
  have lt1 : ∀ x ∈ p1, x.block < W.heap.size := by obtain ⟨m, hm⟩ := k1; exact DataW.trod_lt m _ _ _ hm
  obtain ⟨z1, w1⟩ : ∃ zs, IsRow .i64 W a1 len1 cap1 zs := by
    obtain ⟨fuel, hf⟩ := h1
    exact openedI hf
  clear hA0 hval0
  refine (walk a0 len0 cap0 b0 lem0 cam0 z0 e0 lee0 cae0 f0 lef0 caf0 y0 m0 a1 len1 cap1 z1 W w0 u0 x0 t0 wk0 w1).mono fun e W' ⟨he, bel⟩ => ?_
  subst he
  exact ⟨_, rfl, _, _, _, [], _, [], hW', trodAll_mk1 (shut_bool Try.underlying4 _), (trodAll_cons_mk (Below.trod laidOut (by kernel_rfl) (of_decide_eq_true (by kernel_rfl)) k0 bel lt0) (trodAll_cons_mk (Below.trod laidOut (by kernel_rfl) (of_decide_eq_true (by kernel_rfl)) k1 bel lt1) trodAll_mk0)), rfl, bel.frame _, fun h => by cases h⟩

theorem over : Rows.fnExactLevelContentsRow.holds Try.pinned (OpenSpec.ofChange Rows.fnExactLevelContentsSpec) :=
  OpenClaim.holds_of_wide 5 Try.f5 rfl rfl rfl rfl rfl rfl rfl ⟨rfl, rfl, rfl, rfl, rfl⟩ rfl rfl rfl rfl rfl (by kernel_rfl) Try.func5 (by kernel_rfl)
    (of_decide_eq_true (by kernel_rfl)) (by unfold Func.isWrapper; first | (rw [if_pos (by decide +kernel)]; kernel_rfl) | (rw [if_neg (by decide +kernel)]; exact ⟨rfl, rfl⟩))
    (fun os started H enc _ => lifted os started H enc)

/-- ████ THE STATEMENT ████ -/
theorem proved : Rows.FnExactLevelContentsSaid := over
#print axioms proved
end Go.Proofs.Ytimfekedpgllhaa.fnExactLevelContents
