/- FnExactValidBench: the Go function laws.FnExactValidBench returns true at every input of its parameters' types, leaves its arguments as they were, and ends.
   No condition but the statement's own. The shell round the walk is the guide's; the walk is in YtakjkbjooongkaaWFnExactValidBench. -/
import Derived.Test.YtakjkbjooongkaaRows
import Derived.Test.YtakjkbjooongkaaWFnExactValidBench
import Derived.WalkKit
import Derived.ProofKit
import Derived.OpenShut
import Derived.ShutString
import Derived.ChangeOld
import Derived.Below
import Derived.Deep.SlicePairs
import Derived.Deep.Matrix
import Derived.Lib.SmallJoins
namespace Go.Proofs.Ytakjkbjooongkaa.fnExactValidBench
open Go.ChangeShapes Go.WideShapes Go.ChangeAt Go.RowKit
open Go.ChangeMaps (open_string shut_string)
set_option linter.unusedVariables false

theorem own : ownKnob Try.prog.godebug = none := by kernel_rfl
theorem laidOut : laidOutB Try.prog = true := by kernel_rfl

theorem fieldsA : Try.prog.underlying 55 = some (.struct #[⟨"Kind", 2, 0, false, "", "", 0⟩, ⟨"Address", 2, 1, false, "", "", 8⟩]) ∧ True := ⟨by kernel_rfl, trivial⟩
open Go.Deep in
theorem openedA {H : Type} {enc : TypeId × Value → H} {W : World} {spare : Nat → Bool} {held : Bool} {fuel : Nat} {a0 : Option Addr} {len0 cap0 : Nat} {x : DataW H × List MemPlace}
    (hf : DataW.trod enc Try.prog W 0 spare held fuel 22 (Value.slice a0 len0 cap0).cells.toList = some x) : len0 ≤ 9223372036854775807 ∧ ∃ xs : List (Int × Int), xs.length = len0 ∧ Ac.RowA W a0 xs := by
  rcases open_slice_pairs (e := 55) (by kernel_rfl) fieldsA.1 (by kernel_rfl) rfl rfl (by kernel_rfl) (by kernel_rfl) hf with ⟨hcs, _⟩ | ⟨a, len, cap, m, n, V0, V1, D0, D1, P0, P1, hcs, _, hlc, hcm, hmm, _, hx⟩
  · simp [Value.cells] at hcs
    obtain ⟨rfl, rfl, rfl⟩ := hcs
    exact ⟨by omega, [], rfl, fun i hi => by simp at hi⟩
  · simp [Value.cells] at hcs
    obtain ⟨rfl, rfl, rfl⟩ := hcs
    have hlm : len0 ≤ m := by rw [hmm]; split <;> omega
    have hex : ∀ i, i < len0 → ∃ q : Int × Int, W.cell? (a.add (i * 2)) = some (.int .i64 q.1) ∧ W.cell? (a.add (i * 2 + 1)) = some (.int .i64 q.2) := fun i hi => by
      obtain ⟨h1, h2, h3, h4⟩ := hx i (by omega)
      obtain ⟨u, hu, _⟩ := DataW.trod_int (k := .i64) (by kernel_rfl) h3
      obtain ⟨t, ht, _⟩ := DataW.trod_int (k := .i64) (by kernel_rfl) h4
      simp at hu ht
      exact ⟨(u, t), by rw [h1, hu], by rw [h2, ht]⟩
    refine ⟨by unfold maxLen at hcm; omega, (List.range len0).map (fun i => if h : i < len0 then Classical.choose (hex i h) else (0, 0)), by simp, fun i hi => ?_⟩
    have hi' : i < len0 := by simpa using hi
    obtain ⟨c1, c2⟩ := Classical.choose_spec (hex i hi')
    have e : ((List.range len0).map (fun i => if h : i < len0 then Classical.choose (hex i h) else (0, 0))).getD i (0, 0) = Classical.choose (hex i hi') := by
      rw [List.getD_eq_getElem?_getD, List.getElem?_eq_getElem hi]
      simp [hi']
    rw [e]
    clear e
    generalize Classical.choose (hex i hi') = q at c1 c2 ⊢
    obtain ⟨q0, d1, _⟩ := hex 0 (by omega)
    clear hi hex hx
    obtain ⟨b, off, spot⟩ := a
    have hspot : spot = none := by simpa [Addr.add] using World.cell?_spot d1
    subst hspot
    rw [Go.WideShapes.add_plain] at c1 c2
    exact ⟨b, off, rfl, c1, c2, World.block_lt_of_cell? W _ c1⟩

theorem openedI {H : Type} {enc : TypeId × Value → H} {W : World} {fuel : Nat} {a0 : Option Addr} {len0 cap0 : Nat} {x : DataW H × List MemPlace}
    (hf : DataW.trod enc Try.prog W 0 (fun _ => true) true fuel 24 [Value.slice a0 len0 cap0] = some x) : ∃ zs, IsRow .i64 W a0 len0 cap0 zs := by
  rcases open_ints Try.underlying24 Try.underlying2 (by kernel_rfl) hf with ⟨hcs, _⟩ | ⟨x, l, c, zs, hcs, _, hl, hm, hz, _, hcell, hwz⟩
  · simp at hcs
    obtain ⟨rfl, rfl, rfl⟩ := hcs
    exact ⟨[], .inl ⟨rfl, rfl, rfl, rfl⟩⟩
  · simp at hcs
    obtain ⟨rfl, rfl, rfl⟩ := hcs
    exact ⟨zs, .inr ⟨_, rfl, hl, hm, by simpa using hz, hcell, hwz⟩⟩

open Go.Deep in
theorem openedM {H : Type} {enc : TypeId × Value → H} {W : World} {fuel : Nat} {a0 : Option Addr} {len0 cap0 : Nat} {x : DataW H × List MemPlace}
    (hf : DataW.trod enc Try.prog W 0 (fun _ => true) true fuel 23 [Value.slice a0 len0 cap0] = some x) : IsMat W a0 len0 := by
  rcases open_int_rows Try.underlying23 Try.underlying24 Try.underlying2 (by kernel_rfl) (by kernel_rfl) hf with ⟨hcs, _⟩ | ⟨a, len, cap, A, L, C, Z, hcs, _, hl, hm, _, hx⟩
  · simp at hcs
    obtain ⟨rfl, rfl, rfl⟩ := hcs
    exact ⟨by omega, fun i hi => by omega⟩
  · simp at hcs
    obtain ⟨rfl, rfl, rfl⟩ := hcs
    refine ⟨by unfold maxLen at hm; omega, fun i hi => ?_⟩
    obtain ⟨h1, h2, h3, h4, h5, h6, h7⟩ := hx i (by omega)
    have hr : IsRow .i64 W (A i) (L i) (C i) (Z i) := by
      cases e : A i with
      | none => exact .inl ⟨rfl, by have := h6 e; omega, h6 e, List.eq_nil_of_length_eq_zero (by have := h6 e; omega)⟩
      | some a' => exact .inr ⟨a', rfl, h2, h3, h4, fun c hc => (h7 a' e).2 c (by omega), h5⟩
    have d1 := (hx 0 (by omega)).1
    obtain ⟨b, off, spot⟩ := a
    have hspot : spot = none := by simpa [Addr.add] using World.cell?_spot d1
    subst hspot
    rw [Go.WideShapes.add_plain] at h1
    exact ⟨b, off, _, _, _, _, rfl, h1, hr⟩

theorem fieldsP : Try.prog.underlying 26 = some (.struct #[⟨"Hit", 23, 0, false, "", "", 0⟩, ⟨"Miss", 24, 1, false, "", "", 24⟩]) ∧ True := ⟨by kernel_rfl, trivial⟩
theorem cellsP : Try.prog.cellsOf 26 = 2 := by kernel_rfl
theorem cellsM : Try.prog.cellsOf 23 = 1 := by kernel_rfl
theorem cellsI : Try.prog.cellsOf 24 = 1 := by kernel_rfl
set_option maxRecDepth 100000 in
theorem openedPL {H : Type} {enc : TypeId × Value → H} {W : World} {fuel : Nat} {c0 c1 : Value} {x : DataW H × List MemPlace}
    (hf : DataW.trod enc Try.prog W 0 (fun _ => true) true fuel 26 [c0, c1] = some x) :
    ∃ a len cap a' len' cap' zs', c0 = .slice a len cap ∧ c1 = .slice a' len' cap' ∧ IsMat W a len ∧ IsRow .i64 W a' len' cap' zs' := by
  obtain ⟨xs, n, _, _, _, hlen, hfld⟩ := DataW.trod_struct fieldsP.1 hf
  match xs, hlen with
  | [y0, y1], _ =>
    have hy0 : DataW.trod enc Try.prog W 0 (fun _ => true) true n 23 [c0] = some y0 := by simpa [cellsM] using hfld 0 _ rfl
    have hy1 : DataW.trod enc Try.prog W 0 (fun _ => true) true n 24 [c1] = some y1 := by simpa [cellsI] using hfld 1 _ rfl
    obtain ⟨a, len, cap, e0⟩ : ∃ a len cap, c0 = Value.slice a len cap := by simpa using Go.Joins.slice_form Try.underlying23 hy0
    obtain ⟨a', len', cap', e1⟩ : ∃ a len cap, c1 = Value.slice a len cap := by simpa using Go.Joins.slice_form Try.underlying24 hy1
    subst e0 e1
    have hM := openedM hy0
    obtain ⟨zs, hI⟩ := openedI hy1
    exact ⟨a, len, cap, a', len', cap', zs, rfl, rfl, hM, hI⟩

theorem fieldsE : Try.prog.underlying 28 = some (.struct #[⟨"Trace", 22, 0, false, "", "", 0⟩, ⟨"Policy", 26, 1, false, "", "", 24⟩]) ∧ True := ⟨by kernel_rfl, trivial⟩
theorem cellsE : Try.prog.cellsOf 28 = 3 := by kernel_rfl
theorem cellsET : Try.prog.cellsOf 22 = 1 := by kernel_rfl
theorem array3E {α : Type} {cs : Array α} (h : cs.size = 3) : ∃ c0 c1 c2, cs = #[c0, c1, c2] := by
  obtain ⟨l⟩ := cs
  match l, h with
  | [c0, c1, c2], _ => exact ⟨c0, c1, c2, rfl⟩
set_option maxRecDepth 100000 in
theorem openedE {H : Type} {enc : TypeId × Value → H} {W : World} {v : Value} {d : DataW H} {p : List MemPlace} {base : Nat}
    (hv : Value.okWide Try.prog W .any base 28 v) (h : DataW.Trod enc Try.prog W 0 (fun _ => true) true 28 v d p) :
    ∃ at_ ct xs a len cap a' len' cap' zs', v = .agg #[.slice at_ (List.length xs) ct, .slice a len cap, .slice a' len' cap'] ∧ Ac.RowA W at_ xs ∧ xs.length ≤ 9223372036854775807 ∧ IsMat W a len ∧ IsRow .i64 W a' len' cap' zs' := by
  obtain ⟨cs, rfl, hsz⟩ := okWide_struct fieldsE.1 hv
  obtain ⟨c0, c1, c2, rfl⟩ := array3E (hsz.trans cellsE)
  obtain ⟨fuel, hf⟩ := h
  obtain ⟨xs, n, _, _, _, hlen, hfld⟩ := DataW.trod_struct fieldsE.1 hf
  match xs, hlen with
  | [y0, y1], _ =>
    have hy0 : DataW.trod enc Try.prog W 0 (fun _ => true) true n 22 [c0] = some y0 := by simpa [cellsET, Value.cells] using hfld 0 _ rfl
    have hy1 : DataW.trod enc Try.prog W 0 (fun _ => true) true n 26 [c1, c2] = some y1 := by simpa [cellsP, Value.cells] using hfld 1 _ rfl
    obtain ⟨at_, lt, ct, e0⟩ : ∃ a len cap, c0 = Value.slice a len cap := by simpa using Go.Joins.slice_form Try.underlying22 hy0
    subst e0
    obtain ⟨hm, ys, hys, hrow⟩ := openedA hy0
    subst hys
    obtain ⟨a, len, cap, a', len', cap', zs, rfl, rfl, hM, hI⟩ := openedPL hy1
    exact ⟨at_, ct, ys, a, len, cap, a', len', cap', zs, rfl, hrow, hm, hM, hI⟩

/-! ### THE ROW's STEP -/
set_option maxRecDepth 100000 in
theorem lifted (os : Os) (started : os.Started) (H : Type) (enc : TypeId × Value → H) :
    ReturnsInHanded {} Try.checked os 3 .any (Rows.fnExactValidBenchSpec.pre6 enc Try.prog Try.f3 Rows.fnExactValidBenchRow.domain false) (Rows.fnExactValidBenchSpec.post enc Try.prog Try.f3 false true false false) := by
  refine returnsInHanded_of_change (C := Try.checked) own started (by kernel_rfl) Try.func3
    (ChangeSpec.witness6 (enc := enc) (C := Try.checked) false ⟨#[], #[.agg #[.slice none 0 0, .slice none 0 0, .slice none 0 0]], []⟩ 8 (by kernel_rfl) (by kernel_rfl) (by kernel_rfl) (by kernel_rfl)) ?_
  intro W base args ds gs before hval0 hW hcnd _
  have hval : ∀ (j : Nat) t v, Try.f3.params[j]? = some t → args[j]? = some v → Value.okWide Try.prog W .any base t v := hval0
  have hW' := hW
  obtain ⟨p, q, hA0, hV, rfl, hfz, hnd⟩ := hW
  have hA : DataW.TrodAll enc Try.prog W 0 (fun _ => true) true Try.f3.params.toList args.toList ds p := hA0
  rw [Try.params3] at hA hval
  obtain ⟨v0, vs0, d0, ds0, p0, q0, hargs, rfl, rfl, h0, r0⟩ := trodAll_cons hA
  obtain ⟨rfl, rfl, rfl⟩ := trodAll_nil r0
  obtain rfl : args = #[v0] := by cases args; simp_all
  obtain ⟨rfl, rfl⟩ := trodVars_none hV
  have k0 := h0
  have lt0 : ∀ x ∈ p0, x.block < W.heap.size := by obtain ⟨m, hm⟩ := k0; exact DataW.trod_lt m _ _ _ hm
  obtain ⟨at0, ct0, xs0, a0, len0, cap0, b0, lem0, cam0, z0, rfl, w0, hm0, u0, t0⟩ := openedE (hval 0 28 v0 rfl rfl) h0
  clear hA0 hval0
  refine (walk at0 ct0 xs0 a0 len0 cap0 b0 lem0 cam0 z0 W w0 hm0 u0 t0).mono fun e W' ⟨he, bel⟩ => ?_
  subst he
  exact ⟨_, rfl, _, _, _, [], _, [], hW', trodAll_mk1 (shut_bool Try.underlying4 _), (trodAll_cons_mk (Below.trod laidOut (by kernel_rfl) (of_decide_eq_true (by kernel_rfl)) k0 bel lt0) trodAll_mk0), rfl, bel.frame _, fun h => by cases h⟩

theorem over : Rows.fnExactValidBenchRow.holds Try.pinned (OpenSpec.ofChange Rows.fnExactValidBenchSpec) :=
  OpenClaim.holds_of_wide 3 Try.f3 rfl rfl rfl rfl rfl rfl rfl ⟨rfl, rfl, rfl, rfl, rfl⟩ rfl rfl rfl rfl rfl (by kernel_rfl) Try.func3 (by kernel_rfl)
    (of_decide_eq_true (by kernel_rfl)) (by unfold Func.isWrapper; first | (rw [if_pos (by decide +kernel)]; kernel_rfl) | (rw [if_neg (by decide +kernel)]; exact ⟨rfl, rfl⟩))
    (fun os started H enc _ => lifted os started H enc)

/-- ████ THE STATEMENT ████ -/
theorem proved : Rows.FnExactValidBenchSaid := over
#print axioms proved
end Go.Proofs.Ytakjkbjooongkaa.fnExactValidBench
