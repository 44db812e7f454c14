/- FnExactValidSystem: the Go function laws.FnExactValidSystem returns true at every input of its parameters' types, leaves its arguments as they were, and ends.
   No condition but the statement's own. The shell round the walk is the guide's; the walk is in YtmmjdmgnmlhjeaaWFnExactValidSystem. -/
import Derived.Test.YtmmjdmgnmlhjeaaRows
import Derived.Test.YtmmjdmgnmlhjeaaWFnExactValidSystem
import Derived.WalkKit
import Derived.ProofKit
import Derived.OpenShut
import Derived.ShutString
import Derived.ChangeOld
import Derived.Below
import Derived.Lib.SmallJoins
import Derived.Deep.Slices
namespace Go.Proofs.Ytmmjdmgnmlhjeaa.fnExactValidSystem
open Go.ChangeShapes Go.WideShapes Go.ChangeAt Go.RowKit
open Go.ChangeMaps (open_string shut_string)
set_option linter.unusedVariables false

theorem own : ownKnob Try.prog.godebug = none := by kernel_rfl
theorem laidOut : laidOutB Try.prog = true := by kernel_rfl

theorem openedI {H : Type} {enc : TypeId × Value → H} {W : World} {fuel : Nat} {a0 : Option Addr} {len0 cap0 : Nat} {x : DataW H × List MemPlace}
    (hf : DataW.trod enc Try.prog W 0 (fun _ => true) true fuel 43 [Value.slice a0 len0 cap0] = some x) : ∃ zs, IsRow .i64 W a0 len0 cap0 zs := by
  rcases open_ints Try.underlying43 Try.underlying2 (by kernel_rfl) hf with ⟨hcs, _⟩ | ⟨x, l, c, zs, hcs, _, hl, hm, hz, _, hcell, hwz⟩
  · simp at hcs
    obtain ⟨rfl, rfl, rfl⟩ := hcs
    exact ⟨[], .inl ⟨rfl, rfl, rfl, rfl⟩⟩
  · simp at hcs
    obtain ⟨rfl, rfl, rfl⟩ := hcs
    exact ⟨zs, .inr ⟨_, rfl, hl, hm, by simpa using hz, hcell, hwz⟩⟩

theorem cellsBo : Try.prog.cellsOf 4 = 1 := by kernel_rfl
open Go.Deep in
set_option maxRecDepth 100000 in
theorem openedBo {H : Type} {enc : TypeId × Value → H} {W : World} {fuel : Nat} {a0 : Option Addr} {len0 cap0 : Nat} {x : DataW H × List MemPlace}
    (hf : DataW.trod enc Try.prog W 0 (fun _ => true) true fuel 44 [Value.slice a0 len0 cap0] = some x) : len0 ≤ 9223372036854775807 ∧ ∃ xs : List Bo.R, xs.length = len0 ∧ Bo.RdR W a0 xs := by
  rcases open_slice1 (e := 4) (by kernel_rfl) (by kernel_rfl) hf with ⟨hcs, _⟩ | ⟨a, len, cap, m, n, V, D, Pl, hcs, _, hlc, hcm, hmm, _, hx⟩
  · simp at hcs
    obtain ⟨rfl, rfl, rfl⟩ := hcs
    exact ⟨by omega, [], rfl, fun i hi => by simp at hi⟩
  · simp at hcs
    obtain ⟨rfl, rfl, rfl⟩ := hcs
    have hlm : len0 ≤ m := by rw [hmm]; split <;> omega
    have hex : ∀ i, i < len0 → ∃ q : Bo.R, W.cell? (a.add i) = some (.bool q) := fun i hi => by
      obtain ⟨h1, h2⟩ := hx i (by omega)
      obtain ⟨u, hu, _⟩ := DataW.trod_bool Try.underlying4 h2
      simp at hu
      exact ⟨u, by rw [h1, hu]⟩
    refine ⟨by unfold maxLen at hcm; omega, (List.range len0).map (fun i => if h : i < len0 then Classical.choose (hex i h) else Bo.dR), by simp, fun i hi => ?_⟩
    have hi' : i < len0 := by simpa using hi
    have c0 := Classical.choose_spec (hex i hi')
    have e : ((List.range len0).map (fun i => if h : i < len0 then Classical.choose (hex i h) else Bo.dR)).getD i Bo.dR = Classical.choose (hex i hi') := by
      rw [List.getD_eq_getElem?_getD, List.getElem?_eq_getElem hi]
      simp [hi']
    rw [e]
    clear e
    generalize Classical.choose (hex i hi') = q at c0 ⊢
    obtain ⟨q0, d1⟩ := hex 0 (by omega)
    clear hi hex hx
    obtain ⟨b, off, spot⟩ := a
    have hspot : spot = none := by simpa [Addr.add] using World.cell?_spot d1
    subst hspot
    rw [Go.WideShapes.add_plain] at c0
    exact ⟨b, off, rfl, c0, World.block_lt_of_cell? W _ c0⟩
theorem fieldsY : Try.prog.underlying 46 = some (.struct #[⟨"Copies", 43, 0, false, "", "", 0⟩, ⟨"Fresh", 44, 1, false, "", "", 24⟩, ⟨"Memory", 4, 2, false, "", "", 48⟩]) ∧ True := ⟨by kernel_rfl, trivial⟩
theorem cellsY : Try.prog.cellsOf 46 = 3 := by kernel_rfl
theorem cellsY0 : Try.prog.cellsOf 43 = 1 := by kernel_rfl
theorem cellsY1 : Try.prog.cellsOf 44 = 1 := by kernel_rfl
theorem array3 {α : Type} {cs : Array α} (h : cs.size = 3) : ∃ c0 c1 c2, cs = #[c0, c1, c2] := by
  obtain ⟨l⟩ := cs
  match l, h with
  | [c0, c1, c2], _ => exact ⟨c0, c1, c2, rfl⟩
set_option maxRecDepth 100000 in
theorem openedY {H : Type} {enc : TypeId × Value → H} {W : World} {v : Value} {d : DataW H} {p : List MemPlace} {base : Nat}
    (hv : Value.okWide Try.prog W .any base 46 v) (h : DataW.Trod enc Try.prog W 0 (fun _ => true) true 46 v d p) :
    ∃ a1 n1 k1 zs a2 n2 k2 m, v = .agg #[.slice a1 n1 k1, .slice a2 n2 k2, .bool m] ∧ IsRow .i64 W a1 n1 k1 zs ∧ (n2 ≤ 9223372036854775807 ∧ ∃ xs : List Bo.R, xs.length = n2 ∧ Bo.RdR W a2 xs) := by
  obtain ⟨cs, rfl, hsz⟩ := okWide_struct fieldsY.1 hv
  obtain ⟨c0, c1, c2, rfl⟩ := array3 (hsz.trans cellsY)
  obtain ⟨fuel, hf⟩ := h
  obtain ⟨xs, n, _, _, _, hlen, hfld⟩ := DataW.trod_struct fieldsY.1 hf
  match xs, hlen with
  | [y0, y1, y2], _ =>
    have h0 : DataW.trod enc Try.prog W 0 (fun _ => true) true n 43 [c0] = some y0 := by simpa [cellsY0, Value.cells] using hfld 0 _ rfl
    have h1 : DataW.trod enc Try.prog W 0 (fun _ => true) true n 44 [c1] = some y1 := by simpa [cellsY1, Value.cells] using hfld 1 _ rfl
    have h2 : DataW.trod enc Try.prog W 0 (fun _ => true) true n 4 [c2] = some y2 := by simpa [cellsBo, Value.cells] using hfld 2 _ rfl
    obtain ⟨a1, n1, k1, e0⟩ : ∃ a len cap, c0 = Value.slice a len cap := by simpa using Go.Joins.slice_form Try.underlying43 h0
    obtain ⟨a2, n2, k2, e1⟩ : ∃ a len cap, c1 = Value.slice a len cap := by simpa using Go.Joins.slice_form (show Try.prog.underlying 44 = some (.slice 4) by kernel_rfl) h1
    obtain ⟨m, e2, _⟩ := DataW.trod_bool Try.underlying4 h2
    simp at e2
    subst e0 e1 e2
    obtain ⟨zs, hI⟩ := openedI h0
    exact ⟨a1, n1, k1, zs, a2, n2, k2, m, rfl, hI, openedBo h1⟩

/-! ### THE ROW's STEP -/
set_option maxRecDepth 100000 in
theorem lifted (os : Os) (started : os.Started) (H : Type) (enc : TypeId × Value → H) :
    ReturnsInHanded {} Try.checked os 7 .any (Rows.fnExactValidSystemSpec.pre6 enc Try.prog Try.f7 Rows.fnExactValidSystemRow.domain false) (Rows.fnExactValidSystemSpec.post enc Try.prog Try.f7 false true false false) := by
  refine returnsInHanded_of_change (C := Try.checked) own started (by kernel_rfl) Try.func7
    (ChangeSpec.witness6 (enc := enc) (C := Try.checked) false ⟨#[], #[.agg #[.slice none 0 0, .slice none 0 0, .bool false]], []⟩ 8 (by kernel_rfl) (by kernel_rfl) (by kernel_rfl) (by kernel_rfl)) ?_
  intro W base args ds gs before hval0 hW hcnd _
  have hval : ∀ (j : Nat) t v, Try.f7.params[j]? = some t → args[j]? = some v → Value.okWide Try.prog W .any base t v := hval0
  have hW' := hW
  obtain ⟨p, q, hA0, hV, rfl, hfz, hnd⟩ := hW
  have hA : DataW.TrodAll enc Try.prog W 0 (fun _ => true) true Try.f7.params.toList args.toList ds p := hA0
  rw [Try.params7] at hA hval
  obtain ⟨v0, vs0, d0, ds0, p0, q0, hargs, rfl, rfl, h0, r0⟩ := trodAll_cons hA
  obtain ⟨rfl, rfl, rfl⟩ := trodAll_nil r0
  obtain rfl : args = #[v0] := by cases args; simp_all
  obtain ⟨rfl, rfl⟩ := trodVars_none hV
  have k0 := h0
  have lt0 : ∀ x ∈ p0, x.block < W.heap.size := by obtain ⟨m, hm⟩ := k0; exact DataW.trod_lt m _ _ _ hm
  obtain ⟨a0, len0, cap0, z0, b0, lem0, cam0, m0, rfl, w0, ⟨g0, x0, e0, u0⟩⟩ := openedY (hval 0 46 v0 rfl rfl) h0
  subst e0
  clear hA0 hval0
  refine (walk a0 len0 cap0 z0 b0 cam0 x0 m0 W w0 u0 g0).mono fun e W' ⟨he, bel⟩ => ?_
  subst he
  exact ⟨_, rfl, _, _, _, [], _, [], hW', trodAll_mk1 (shut_bool Try.underlying4 _), (trodAll_cons_mk (Below.trod laidOut (by kernel_rfl) (of_decide_eq_true (by kernel_rfl)) k0 bel lt0) trodAll_mk0), rfl, bel.frame _, fun h => by cases h⟩

theorem over : Rows.fnExactValidSystemRow.holds Try.pinned (OpenSpec.ofChange Rows.fnExactValidSystemSpec) :=
  OpenClaim.holds_of_wide 7 Try.f7 rfl rfl rfl rfl rfl rfl rfl ⟨rfl, rfl, rfl, rfl, rfl⟩ rfl rfl rfl rfl rfl (by kernel_rfl) Try.func7 (by kernel_rfl)
    (of_decide_eq_true (by kernel_rfl)) (by unfold Func.isWrapper; first | (rw [if_pos (by decide +kernel)]; kernel_rfl) | (rw [if_neg (by decide +kernel)]; exact ⟨rfl, rfl⟩))
    (fun os started H enc _ => lifted os started H enc)

/-- ████ THE STATEMENT ████ -/
theorem proved : Rows.FnExactValidSystemSaid := over
#print axioms proved
end Go.Proofs.Ytmmjdmgnmlhjeaa.fnExactValidSystem
