/- FnExactRunPebbling: the Go function laws.FnExactRunPebbling returns true at every input of its parameters' types, leaves its arguments as they were, and ends.
   No condition but the statement's own. The shell round the walk is the guide's; the walk is in YtepobkflahjldaaWFnExactRunPebbling. -/
import Derived.Test.YtepobkflahjldaaRows
import Derived.Test.YtepobkflahjldaaWFnExactRunPebbling
import Derived.WalkKit
import Derived.ProofKit
import Derived.OpenShut
import Derived.ShutString
import Derived.ChangeOld
import Derived.Below
import Derived.Deep.Matrix
import Derived.Lib.SmallJoins
import Derived.Deep.Slices
namespace Go.Proofs.Ytepobkflahjldaa.fnExactRunPebbling
open Go.ChangeShapes Go.WideShapes Go.ChangeAt Go.RowKit
open Go.ChangeMaps (open_string shut_string)
set_option linter.unusedVariables false

theorem own : ownKnob Try.prog.godebug = none := by kernel_rfl
theorem laidOut : laidOutB Try.prog = true := by kernel_rfl

theorem openedI {H : Type} {enc : TypeId × Value → H} {W : World} {fuel : Nat} {a0 : Option Addr} {len0 cap0 : Nat} {x : DataW H × List MemPlace}
    (hf : DataW.trod enc Try.prog W 0 (fun _ => true) true fuel 28 [Value.slice a0 len0 cap0] = some x) : ∃ zs, IsRow .i64 W a0 len0 cap0 zs := by
  rcases open_ints Try.underlying28 Try.underlying2 (by kernel_rfl) hf with ⟨hcs, _⟩ | ⟨x, l, c, zs, hcs, _, hl, hm, hz, _, hcell, hwz⟩
  · simp at hcs
    obtain ⟨rfl, rfl, rfl⟩ := hcs
    exact ⟨[], .inl ⟨rfl, rfl, rfl, rfl⟩⟩
  · simp at hcs
    obtain ⟨rfl, rfl, rfl⟩ := hcs
    exact ⟨zs, .inr ⟨_, rfl, hl, hm, by simpa using hz, hcell, hwz⟩⟩

open Go.Deep in
theorem openedM {H : Type} {enc : TypeId × Value → H} {W : World} {fuel : Nat} {a0 : Option Addr} {len0 cap0 : Nat} {x : DataW H × List MemPlace}
    (hf : DataW.trod enc Try.prog W 0 (fun _ => true) true fuel 22 [Value.slice a0 len0 cap0] = some x) : IsMat W a0 len0 := by
  rcases open_int_rows Try.underlying22 Try.underlying28 Try.underlying2 (by kernel_rfl) (by kernel_rfl) hf with ⟨hcs, _⟩ | ⟨a, len, cap, A, L, C, Z, hcs, _, hl, hm, _, hx⟩
  · simp at hcs
    obtain ⟨rfl, rfl, rfl⟩ := hcs
    exact ⟨by omega, fun i hi => by omega⟩
  · simp at hcs
    obtain ⟨rfl, rfl, rfl⟩ := hcs
    refine ⟨by unfold maxLen at hm; omega, fun i hi => ?_⟩
    obtain ⟨h1, h2, h3, h4, h5, h6, h7⟩ := hx i (by omega)
    have hr : IsRow .i64 W (A i) (L i) (C i) (Z i) := by
      cases e : A i with
      | none => exact .inl ⟨rfl, by have := h6 e; omega, h6 e, List.eq_nil_of_length_eq_zero (by have := h6 e; omega)⟩
      | some a' => exact .inr ⟨a', rfl, h2, h3, h4, fun c hc => (h7 a' e).2 c (by omega), h5⟩
    have d1 := (hx 0 (by omega)).1
    obtain ⟨b, off, spot⟩ := a
    have hspot : spot = none := by simpa [Addr.add] using World.cell?_spot d1
    subst hspot
    rw [Go.WideShapes.add_plain] at h1
    exact ⟨b, off, _, _, _, _, rfl, h1, hr⟩

theorem fieldsG : Try.prog.underlying 24 = some (.struct #[⟨"Before", 22, 0, false, "", "", 0⟩]) ∧ True := ⟨by kernel_rfl, trivial⟩
theorem cellsG : Try.prog.cellsOf 24 = 1 := by kernel_rfl
theorem cellsGS : Try.prog.cellsOf 22 = 1 := by kernel_rfl
theorem array1G {α : Type} {cs : Array α} (h : cs.size = 1) : ∃ c0, cs = #[c0] := by
  obtain ⟨l⟩ := cs
  match l, h with
  | [c0], _ => exact ⟨c0, rfl⟩
set_option maxRecDepth 100000 in
theorem openedG {H : Type} {enc : TypeId × Value → H} {W : World} {v : Value} {d : DataW H} {p : List MemPlace} {base : Nat}
    (hv : Value.okWide Try.prog W .any base 24 v) (h : DataW.Trod enc Try.prog W 0 (fun _ => true) true 24 v d p) :
    ∃ a len cap, v = .agg #[.slice a len cap] ∧ IsMat W a len := by
  obtain ⟨cs, rfl, hsz⟩ := okWide_struct fieldsG.1 hv
  obtain ⟨c0, rfl⟩ := array1G (hsz.trans cellsG)
  obtain ⟨fuel, hf⟩ := h
  obtain ⟨xs, n, _, _, _, hlen, hfld⟩ := DataW.trod_struct fieldsG.1 hf
  match xs, hlen with
  | [y0], _ =>
    have h0 : DataW.trod enc Try.prog W 0 (fun _ => true) true n 22 [c0] = some y0 := by simpa [cellsGS, Value.cells] using hfld 0 _ rfl
    obtain ⟨a, len, cap, e0⟩ : ∃ a len cap, c0 = Value.slice a len cap := by simpa using Go.Joins.slice_form Try.underlying22 h0
    subst e0
    exact ⟨a, len, cap, rfl, openedM h0⟩

theorem fieldsMo : Try.prog.underlying 54 = some (.struct #[⟨"Kind", 2, 0, false, "", "", 0⟩, ⟨"Node", 2, 1, false, "", "", 8⟩]) ∧ True := ⟨by kernel_rfl, trivial⟩
theorem cellsMo : Try.prog.cellsOf 54 = 2 := by kernel_rfl
theorem cellsIMo : Try.prog.cellsOf 2 = 1 := by kernel_rfl
theorem cellsBMo : Try.prog.cellsOf 4 = 1 := by kernel_rfl
open Go.Deep in
set_option maxRecDepth 100000 in
theorem openedMo {H : Type} {enc : TypeId × Value → H} {W : World} {fuel : Nat} {a0 : Option Addr} {len0 cap0 : Nat} {x : DataW H × List MemPlace}
    (hf : DataW.trod enc Try.prog W 0 (fun _ => true) true fuel 25 [Value.slice a0 len0 cap0] = some x) : len0 ≤ 9223372036854775807 ∧ ∃ xs : List Mo.R, xs.length = len0 ∧ Mo.RdR W a0 xs := by
  rcases open_slice (e := 54) (by kernel_rfl) hf with ⟨hcs, _⟩ | ⟨a, len, cap, m, n, D, Pl, hcs, _, hlc, hcm, hmm, _, hx⟩
  · simp at hcs
    obtain ⟨rfl, rfl, rfl⟩ := hcs
    exact ⟨by omega, [], rfl, fun i hi => by simp at hi⟩
  · simp at hcs
    obtain ⟨rfl, rfl, rfl⟩ := hcs
    have hlm : len0 ≤ m := by rw [hmm]; split <;> omega
    have hex : ∀ i, i < len0 → ∃ q : Mo.R, W.cell? (a.add (i * 2)) = some (.int .i64 q.1) ∧ W.cell? (a.add (i * 2 + 1)) = some (.int .i64 q.2) := fun i hi => by
      obtain ⟨cs', h1, h2⟩ := hx i (by omega)
      rw [cellsMo] at h1
      obtain ⟨_, hlen, hcell⟩ := World.cells?_some h1
      obtain ⟨xs, k, hk, hxy, _, hxl, hfl⟩ := DataW.trod_struct fieldsMo.1 h2
      match xs, hxl, cs', hlen with
      | [y0, y1], _, [v0, v1], _ =>
        have g0 := hfl 0 _ rfl
        simp [cellsIMo, cellsBMo] at g0
        have g1 := hfl 1 _ rfl
        simp [cellsIMo, cellsBMo] at g1
        obtain ⟨u0, hu0, _⟩ := DataW.trod_int (k := .i64) Try.underlying2 g0
        simp at hu0
        subst hu0
        have e0 := hcell 0 (by omega)
        rw [add_add] at e0
        obtain ⟨u1, hu1, _⟩ := DataW.trod_int (k := .i64) Try.underlying2 g1
        simp at hu1
        subst hu1
        have e1 := hcell 1 (by omega)
        rw [add_add] at e1
        exact ⟨(u0, u1), by simpa using e0, by simpa using e1⟩
    refine ⟨by unfold maxLen at hcm; omega, (List.range len0).map (fun i => if h : i < len0 then Classical.choose (hex i h) else Mo.dR), by simp, fun i hi => ?_⟩
    have hi' : i < len0 := by simpa using hi
    obtain ⟨c0, c1⟩ := Classical.choose_spec (hex i hi')
    have e : ((List.range len0).map (fun i => if h : i < len0 then Classical.choose (hex i h) else Mo.dR)).getD i Mo.dR = Classical.choose (hex i hi') := by
      rw [List.getD_eq_getElem?_getD, List.getElem?_eq_getElem hi]
      simp [hi']
    rw [e]
    clear e
    generalize Classical.choose (hex i hi') = q at c0 c1 ⊢
    obtain ⟨q0, d1, _⟩ := hex 0 (by omega)
    clear hi hex hx
    obtain ⟨b, off, spot⟩ := a
    have hspot : spot = none := by simpa [Addr.add] using World.cell?_spot d1
    subst hspot
    rw [Go.WideShapes.add_plain] at c0 c1
    exact ⟨b, off, rfl, c0, c1, World.block_lt_of_cell? W _ c0⟩

/-! ### THE ROW's STEP -/
set_option maxRecDepth 100000 in
theorem lifted (os : Os) (started : os.Started) (H : Type) (enc : TypeId × Value → H) :
    ReturnsInHanded {} Try.checked os 3 .any (Rows.fnExactRunPebblingSpec.pre6 enc Try.prog Try.f3 Rows.fnExactRunPebblingRow.domain false) (Rows.fnExactRunPebblingSpec.post enc Try.prog Try.f3 false true false false) := by
  refine returnsInHanded_of_change (C := Try.checked) own started (by kernel_rfl) Try.func3
    (ChangeSpec.witness6 (enc := enc) (C := Try.checked) false ⟨#[], #[.agg #[.slice none 0 0], .int .i64 0, .slice none 0 0], []⟩ 8 (by kernel_rfl) (by kernel_rfl) (by kernel_rfl) (by kernel_rfl)) ?_
  intro W base args ds gs before hval0 hW hcnd _
  have hval : ∀ (j : Nat) t v, Try.f3.params[j]? = some t → args[j]? = some v → Value.okWide Try.prog W .any base t v := hval0
  have hW' := hW
  obtain ⟨p, q, hA0, hV, rfl, hfz, hnd⟩ := hW
  have hA : DataW.TrodAll enc Try.prog W 0 (fun _ => true) true Try.f3.params.toList args.toList ds p := hA0
  rw [Try.params3] at hA hval
  obtain ⟨v0, vs0, d0, ds0, p0, q0, hargs, rfl, rfl, h0, r0⟩ := trodAll_cons hA
  obtain ⟨v1, vs1, d1, ds1, p1, q1, rfl, rfl, rfl, h1, r1⟩ := trodAll_cons r0
  obtain ⟨v2, vs2, d2, ds2, p2, q2, rfl, rfl, rfl, h2, r2⟩ := trodAll_cons r1
  obtain ⟨rfl, rfl, rfl⟩ := trodAll_nil r2
  obtain rfl : args = #[v0, v1, v2] := by cases args; simp_all
  obtain ⟨rfl, rfl⟩ := trodVars_none hV
  have k0 := h0
  have lt0 : ∀ x ∈ p0, x.block < W.heap.size := by obtain ⟨m, hm⟩ := k0; exact DataW.trod_lt m _ _ _ hm
  obtain ⟨a0, len0, cap0, rfl, w0⟩ := openedG (hval 0 24 v0 rfl rfl) h0
  obtain ⟨n1, rfl, rfl, rfl, w1⟩ := open_int Try.underlying2 (hval 1 2 v1 rfl rfl) h1
  obtain ⟨a2, len2, cap2, rfl⟩ := okWide_slice Try.underlying25 (hval 2 25 v2 rfl rfl)
  have k2 := h2
  have lt2 : ∀ x ∈ p2, x.block < W.heap.size := by obtain ⟨m, hm⟩ := k2; exact DataW.trod_lt m _ _ _ hm
  obtain ⟨hm2, xs2, hx2, w2⟩ : len2 ≤ 9223372036854775807 ∧ ∃ xs : List Mo.R, xs.length = len2 ∧ Mo.RdR W a2 xs := by
    obtain ⟨fuel, hf⟩ := h2
    exact openedMo hf
  subst hx2
  clear hA0 hval0
  refine (walk a0 len0 cap0 n1 a2 cap2 xs2 W w0 w1 w2 hm2).mono fun e W' ⟨he, bel⟩ => ?_
  subst he
  exact ⟨_, rfl, _, _, _, [], _, [], hW', trodAll_mk1 (shut_bool Try.underlying4 _), (trodAll_cons_mk (Below.trod laidOut (by kernel_rfl) (of_decide_eq_true (by kernel_rfl)) k0 bel lt0) (trodAll_cons_mk (shut_int Try.underlying2 w1) (trodAll_cons_mk (Below.trod laidOut (by kernel_rfl) (of_decide_eq_true (by kernel_rfl)) k2 bel lt2) trodAll_mk0))), rfl, bel.frame _, fun h => by cases h⟩

theorem over : Rows.fnExactRunPebblingRow.holds Try.pinned (OpenSpec.ofChange Rows.fnExactRunPebblingSpec) :=
  OpenClaim.holds_of_wide 3 Try.f3 rfl rfl rfl rfl rfl rfl rfl ⟨rfl, rfl, rfl, rfl, rfl⟩ rfl rfl rfl rfl rfl (by kernel_rfl) Try.func3 (by kernel_rfl)
    (of_decide_eq_true (by kernel_rfl)) (by unfold Func.isWrapper; first | (rw [if_pos (by decide +kernel)]; kernel_rfl) | (rw [if_neg (by decide +kernel)]; exact ⟨rfl, rfl⟩))
    (fun os started H enc _ => lifted os started H enc)

/-- ████ THE STATEMENT ████ -/
theorem proved : Rows.FnExactRunPebblingSaid := over
#print axioms proved
end Go.Proofs.Ytepobkflahjldaa.fnExactRunPebbling
