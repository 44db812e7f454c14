/- The map of the history of uses as data: what it holds between two uses, and while it is ranged over. -/
import Derived.Test.YtfdjjaogmnagaaaCmst
import Derived.Test.YtfdjjaogmnagaaaPlainHi
namespace Go.Proofs.Ytfdjjaogmnagaaa.Ix
open Go.RowKit Tr Bt
open Go.Maps (has IsMap atKey_put_same atKey_put_other has_put_same has_put_other)
def key (x : Int) : Lit := .int .i64 x
theorem key_lit (x : Int) : WideAt.IsKeyLit (.int .i64 x) := trivial
theorem key_ne {x y : Int} (h : x ≠ y) : (Lit.int .i64 x) ≠ .int .i64 y := fun e => by injection e with _ e; exact h e
/-- Between two uses. -/
def MapS (us : List Nat) (j : Nat) (D : DataW Unit) : Prop :=
  IsMap D ∧ (∀ x : Nat, has D (.int .i64 (x : Int)) = (snc us j x).isSome) ∧ (∀ x o : Nat, snc us j x = some o → ∀ z, D.atKey (.int .i64 (x : Int)) z = .lit (.int .u64 (o : Int))) ∧ ∀ x : Int, has D (.int .i64 x) = true → 0 ≤ x
/-- While it is ranged over, the address a being put to all that are past. -/
def MapM (us : List Nat) (j a : Nat) (left : Lit → Bool) (D : DataW Unit) : Prop :=
  IsMap D ∧ (∀ x : Nat, has D (.int .i64 (x : Int)) = (snc us j x).isSome) ∧ (∀ x o : Nat, snc us j x = some o → ∀ z, D.atKey (.int .i64 (x : Int)) z = .lit (.int .u64 ((if left (.int .i64 (x : Int)) = true then o else o ||| 2 ^ a : Nat) : Int))) ∧ ∀ x : Int, has D (.int .i64 x) = true → 0 ≤ x
theorem MapS.zero (us : List Nat) : MapS us 0 (.map []) := ⟨Go.Maps.isMap_empty, fun x => rfl, fun x o h => by simp [snc] at h, fun x h => by simp [has] at h⟩
theorem MapS.start {us : List Nat} {j : Nat} {D : DataW Unit} (h : MapS us j D) (a : Nat) : MapM us j a (has D) D :=
  ⟨h.1, h.2.1, fun x o he z => by rw [h.2.2.1 x o he z, h.2.1, he]; rfl, h.2.2.2⟩
theorem MapM.step {us : List Nat} {j a : Nat} {left : Lit → Bool} {D : DataW Unit} (h : MapM us j a left D) (y o : Nat) (hy : snc us j y = some o) :
    MapM us j a (fun z => left z && !z.sameKey (.int .i64 (y : Int))) (D.put (.int .i64 (y : Int)) (.lit (.int .u64 ((o ||| 2 ^ a : Nat) : Int)))) := by
  refine ⟨h.1.put _ _, fun x => ?_, fun x q hq z => ?_, fun x hx => ?_⟩
  · by_cases e : x = y
    · subst e; rw [has_put_same h.1 (key_lit _), hy]; rfl
    · rw [has_put_other (key_ne (by omega)), h.2.1]
  · by_cases e : x = y
    · subst e
      rw [hy] at hq
      injection hq with hq
      rw [atKey_put_same h.1 (key_lit _), hq]
      have e1 : (left (.int .i64 (x : Int)) && !(Lit.int .i64 (x : Int)).sameKey (.int .i64 (x : Int))) = false := by rw [WideAt.sameKey_self (key_lit _)]; simp
      show _ = DataW.lit (.int .u64 ((if (left (.int .i64 (x : Int)) && !(Lit.int .i64 (x : Int)).sameKey (.int .i64 (x : Int))) = true then q else q ||| 2 ^ a : Nat) : Int))
      rw [e1]; rfl
    · have hne : (x : Int) ≠ (y : Int) := by omega
      rw [atKey_put_other (key_ne hne), h.2.2.1 x q hq]
      have e1 : (left (.int .i64 (x : Int)) && !(Lit.int .i64 (x : Int)).sameKey (.int .i64 (y : Int))) = left (.int .i64 (x : Int)) := by rw [Go.Maps.sameKey_ne (key_ne hne)]; simp
      show _ = DataW.lit (.int .u64 ((if (left (.int .i64 (x : Int)) && !(Lit.int .i64 (x : Int)).sameKey (.int .i64 (y : Int))) = true then q else q ||| 2 ^ a : Nat) : Int))
      rw [e1]
  · by_cases e : x = (y : Int)
    · omega
    · rw [has_put_other (key_ne e)] at hx; exact h.2.2.2 x hx
theorem MapM.done {us : List Nat} {j : Nat} {left : Lit → Bool} {D : DataW Unit} (h : MapM us j (us.getD j 0) left D) (hl : ∀ kl, left kl = false) :
    MapS us (j + 1) (D.put (.int .i64 ((us.getD j 0 : Nat) : Int)) (.lit (.int .u64 0))) := by
  refine ⟨h.1.put _ _, fun x => ?_, fun x o ho z => ?_, fun x hx => ?_⟩
  · by_cases e : x = us.getD j 0
    · rw [e, has_put_same h.1 (key_lit _), snc, if_pos rfl]; rfl
    · rw [has_put_other (key_ne (by omega)), h.2.1, snc, if_neg e, Option.isSome_map]
  · by_cases e : x = us.getD j 0
    · rw [snc, if_pos e] at ho
      injection ho with ho
      rw [e, atKey_put_same h.1 (key_lit _), ← ho]; rfl
    · rw [snc, if_neg e] at ho
      cases hq : snc us j x with
      | none => rw [hq] at ho; cases ho
      | some q =>
        rw [hq] at ho
        injection ho with ho
        rw [atKey_put_other (key_ne (by omega)), h.2.2.1 x q hq, hl, ← ho]
        simp
  · by_cases e : x = ((us.getD j 0 : Nat) : Int)
    · omega
    · rw [has_put_other (key_ne e)] at hx; exact h.2.2.2 x hx
/-- A key that is still to come, while ranged over. -/
theorem MapM.at {us : List Nat} {j a : Nat} {left : Lit → Bool} {D : DataW Unit} (h : MapM us j a left D) (x : Int) (hx : left (.int .i64 x) = true) (hin : has D (.int .i64 x) = true) :
    ∃ y o : Nat, x = (y : Int) ∧ snc us j y = some o ∧ ∀ z, D.atKey (.int .i64 x) z = .lit (.int .u64 (o : Int)) := by
  obtain ⟨y, rfl⟩ := Int.eq_ofNat_of_zero_le (h.2.2.2 x hin)
  have h1 := h.2.1 y
  rw [hin] at h1
  obtain ⟨o, ho⟩ := Option.isSome_iff_exists.1 h1.symm
  refine ⟨y, o, rfl, ho, fun z => ?_⟩
  rw [h.2.2.1 y o ho z, if_pos hx]
end Go.Proofs.Ytfdjjaogmnagaaa.Ix
