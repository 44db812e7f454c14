/- FnExactPairsOf: the Go function laws.FnExactPairsOf returns true at every input of its parameters' types, leaves its arguments as they were, and ends.
   No condition but the statement's own. The shell round the walk is the guide's; the walk is in YtmcnmjkickamkaaWFnExactPairsOf. -/
import Derived.Test.YtmcnmjkickamkaaRows
import Derived.Test.YtmcnmjkickamkaaWFnExactPairsOf
import Derived.WalkKit
import Derived.ProofKit
import Derived.OpenShut
import Derived.ShutString
import Derived.ChangeOld
import Derived.Below
import Derived.Deep.SlicePairs
namespace Go.Proofs.Ytmcnmjkickamkaa.fnExactPairsOf
open Go.ChangeShapes Go.WideShapes Go.ChangeAt Go.RowKit
open Go.ChangeMaps (open_string shut_string)
set_option linter.unusedVariables false

theorem own : ownKnob Try.prog.godebug = none := by kernel_rfl
theorem laidOut : laidOutB Try.prog = true := by kernel_rfl

theorem fieldsA : Try.prog.underlying 52 = some (.struct #[⟨"Stream", 2, 0, false, "", "", 0⟩, ⟨"Line", 2, 1, false, "", "", 8⟩]) ∧ True := ⟨by kernel_rfl, trivial⟩
open Go.Deep in
theorem openedA {H : Type} {enc : TypeId × Value → H} {W : World} {spare : Nat → Bool} {held : Bool} {fuel : Nat} {a0 : Option Addr} {len0 cap0 : Nat} {x : DataW H × List MemPlace}
    (hf : DataW.trod enc Try.prog W 0 spare held fuel 22 (Value.slice a0 len0 cap0).cells.toList = some x) : len0 ≤ 9223372036854775807 ∧ ∃ xs : List (Int × Int), xs.length = len0 ∧ Ld.RowA W a0 xs := by
  rcases open_slice_pairs (e := 52) (by kernel_rfl) fieldsA.1 (by kernel_rfl) rfl rfl (by kernel_rfl) (by kernel_rfl) hf with ⟨hcs, _⟩ | ⟨a, len, cap, m, n, V0, V1, D0, D1, P0, P1, hcs, _, hlc, hcm, hmm, _, hx⟩
  · simp [Value.cells] at hcs
    obtain ⟨rfl, rfl, rfl⟩ := hcs
    exact ⟨by omega, [], rfl, fun i hi => by simp at hi⟩
  · simp [Value.cells] at hcs
    obtain ⟨rfl, rfl, rfl⟩ := hcs
    have hlm : len0 ≤ m := by rw [hmm]; split <;> omega
    have hex : ∀ i, i < len0 → ∃ q : Int × Int, W.cell? (a.add (i * 2)) = some (.int .i64 q.1) ∧ W.cell? (a.add (i * 2 + 1)) = some (.int .i64 q.2) := fun i hi => by
      obtain ⟨h1, h2, h3, h4⟩ := hx i (by omega)
      obtain ⟨u, hu, _⟩ := DataW.trod_int (k := .i64) (by kernel_rfl) h3
      obtain ⟨t, ht, _⟩ := DataW.trod_int (k := .i64) (by kernel_rfl) h4
      simp at hu ht
      exact ⟨(u, t), by rw [h1, hu], by rw [h2, ht]⟩
    refine ⟨by unfold maxLen at hcm; omega, (List.range len0).map (fun i => if h : i < len0 then Classical.choose (hex i h) else (0, 0)), by simp, fun i hi => ?_⟩
    have hi' : i < len0 := by simpa using hi
    obtain ⟨c1, c2⟩ := Classical.choose_spec (hex i hi')
    have e : ((List.range len0).map (fun i => if h : i < len0 then Classical.choose (hex i h) else (0, 0))).getD i (0, 0) = Classical.choose (hex i hi') := by
      rw [List.getD_eq_getElem?_getD, List.getElem?_eq_getElem hi]
      simp [hi']
    rw [e]
    clear e
    generalize Classical.choose (hex i hi') = q at c1 c2 ⊢
    obtain ⟨q0, d1, _⟩ := hex 0 (by omega)
    clear hi hex hx
    obtain ⟨b, off, spot⟩ := a
    have hspot : spot = none := by simpa [Addr.add] using World.cell?_spot d1
    subst hspot
    rw [Go.WideShapes.add_plain] at c1 c2
    exact ⟨b, off, rfl, c1, c2, World.block_lt_of_cell? W _ c1⟩

/-! ### THE ROW's STEP -/
set_option maxRecDepth 100000 in
theorem lifted (os : Os) (started : os.Started) (H : Type) (enc : TypeId × Value → H) :
    ReturnsInHanded {} Try.checked os 6 .any (Rows.fnExactPairsOfSpec.pre6 enc Try.prog Try.f6 Rows.fnExactPairsOfRow.domain false) (Rows.fnExactPairsOfSpec.post enc Try.prog Try.f6 false true false false) := by
  refine returnsInHanded_of_change (C := Try.checked) own started (by kernel_rfl) Try.func6
    (ChangeSpec.witness6 (enc := enc) (C := Try.checked) false ⟨#[], #[.slice none 0 0, .int .i64 0], []⟩ 8 (by kernel_rfl) (by kernel_rfl) (by kernel_rfl) (by kernel_rfl)) ?_
  intro W base args ds gs before hval0 hW hcnd _
  have hval : ∀ (j : Nat) t v, Try.f6.params[j]? = some t → args[j]? = some v → Value.okWide Try.prog W .any base t v := hval0
  have hW' := hW
  obtain ⟨p, q, hA0, hV, rfl, hfz, hnd⟩ := hW
  have hA : DataW.TrodAll enc Try.prog W 0 (fun _ => true) true Try.f6.params.toList args.toList ds p := hA0
  rw [Try.params6] at hA hval
  obtain ⟨v0, vs0, d0, ds0, p0, q0, hargs, rfl, rfl, h0, r0⟩ := trodAll_cons hA
  obtain ⟨v1, vs1, d1, ds1, p1, q1, rfl, rfl, rfl, h1, r1⟩ := trodAll_cons r0
  obtain ⟨rfl, rfl, rfl⟩ := trodAll_nil r1
  obtain rfl : args = #[v0, v1] := by cases args; simp_all
  obtain ⟨rfl, rfl⟩ := trodVars_none hV
  obtain ⟨a0, len0, cap0, rfl⟩ := okWide_slice Try.underlying22 (hval 0 22 v0 rfl rfl)
  have k0 := h0
  have lt0 : ∀ x ∈ p0, x.block < W.heap.size := by obtain ⟨m, hm⟩ := k0; exact DataW.trod_lt m _ _ _ hm
  obtain ⟨hm0, xs0, hx0, w0⟩ : len0 ≤ 9223372036854775807 ∧ ∃ xs : List (Int × Int), xs.length = len0 ∧ Ld.RowA W a0 xs := by
    obtain ⟨fuel, hf⟩ := h0
    exact openedA hf
  subst hx0
  obtain ⟨n1, rfl, rfl, rfl, w1⟩ := open_int Try.underlying2 (hval 1 2 v1 rfl rfl) h1
  clear hA0 hval0
  refine (walk a0 cap0 xs0 n1 W w0 hm0 w1).mono fun e W' ⟨he, bel⟩ => ?_
  subst he
  exact ⟨_, rfl, _, _, _, [], _, [], hW', trodAll_mk1 (shut_bool Try.underlying4 _), (trodAll_cons_mk (Below.trod laidOut (by kernel_rfl) (of_decide_eq_true (by kernel_rfl)) k0 bel lt0) (trodAll_cons_mk (shut_int Try.underlying2 w1) trodAll_mk0)), rfl, bel.frame _, fun h => by cases h⟩

theorem over : Rows.fnExactPairsOfRow.holds Try.pinned (OpenSpec.ofChange Rows.fnExactPairsOfSpec) :=
  OpenClaim.holds_of_wide 6 Try.f6 rfl rfl rfl rfl rfl rfl rfl ⟨rfl, rfl, rfl, rfl, rfl⟩ rfl rfl rfl rfl rfl (by kernel_rfl) Try.func6 (by kernel_rfl)
    (of_decide_eq_true (by kernel_rfl)) (by unfold Func.isWrapper; first | (rw [if_pos (by decide +kernel)]; kernel_rfl) | (rw [if_neg (by decide +kernel)]; exact ⟨rfl, rfl⟩))
    (fun os started H enc _ => lifted os started H enc)

/-- ████ THE STATEMENT ████ -/
theorem proved : Rows.FnExactPairsOfSaid := over
#print axioms proved
end Go.Proofs.Ytmcnmjkickamkaa.fnExactPairsOf
