/- The model's test of an order of ages. -/
import Derived.Test.YtepobkflahjldaaCrd
import Derived.Test.YtepobkflahjldaaCbt
import Derived.Test.YtepobkflahjldaaConlyS
import Derived.Test.YtepobkflahjldaaPlainPol
namespace Go.Proofs.Ytepobkflahjldaa.Pv
open Go.RowKit
theorem in_n (n : Nat) (x : Int) (hn : n ≤ 1000) (w : World) : Calls Try.prog 37 #[.int .i64 x, .int .i64 0, .int .i64 ((n : Int) - 1)] w (Bl (inN n x) w) := by
  unfold inN
  by_cases h : 0 ≤ x
  · go_enter Try.func37, Try.ntmps37
    go_wp2
    go_ret
    exact ⟨ret_bool (by simp [h]), rfl⟩
  · go_enter Try.func37, Try.ntmps37
    go_wp2
    go_ret
    exact ⟨ret_bool (by simp; omega), rfl⟩
theorem row_take {w : World} {a : Option Addr} {xs : List Int} (h : Row w a xs) (j : Nat) : Row w a (xs.take j) := fun i hi => by
  have hi' : i < j ∧ i < xs.length := by rw [List.length_take] at hi; omega
  obtain ⟨b, off, e, c, hb⟩ := h i hi'.2
  refine ⟨b, off, e, ?_, hb⟩
  rw [c, List.getD_eq_getElem?_getD, List.getD_eq_getElem?_getD, List.getElem?_take_of_lt hi'.1]
/-- What a test leaves that may draw. -/
def Dq (b : Bool) (w : World) (e : Ending) (w' : World) : Prop := e = .returned (.bool b) ∧ ∃ q, w' = w.drewN q
/-- A list of lists that is read, each with its room. -/
def RdR (w : World) (a : Option Addr) (hs : List (List Int)) : Prop :=
  ∀ i, i < hs.length → ∃ b off A C, a = some ⟨b, off, none⟩ ∧ w.cell? ⟨b, off + i, none⟩ = some (.slice A (hs.getD i []).length C) ∧ Row w A (hs.getD i []) ∧ b < w.heap.size ∧
    (hs.getD i []).length ≤ 1048576 ∧ (hs.getD i []).length ≤ C ∧ C ≤ 9223372036854775807 ∧ (A = none ∨ ∃ b off, A = some ⟨b, off, none⟩)
theorem isP_low {hs : List (List Int)} {ms : List Int} (h : ¬ 1 ≤ ms.length) : isP hs ms = false := by unfold isP; rw [decide_eq_false h]; rfl
theorem isP_high {hs : List (List Int)} {ms : List Int} (h : ¬ ms.length ≤ 6) : isP hs ms = false := by unfold isP; rw [decide_eq_false h]; simp
theorem isP_len {hs : List (List Int)} {ms : List Int} (h : ¬ hs.length = ms.length) : isP hs ms = false := by unfold isP; rw [decide_eq_false h]; simp
theorem isP_miss {hs : List (List Int)} {ms : List Int} (h : ordB ms.length ms = false) : isP hs ms = false := by unfold isP; rw [h]; simp
theorem isP_hit {hs : List (List Int)} {ms : List Int} (j : Nat) (hj : j < hs.length) (h : ordB ms.length (hs.getD j []) = false) : isP hs ms = false := by unfold isP; rw [all_no hs _ j hj h]; simp
theorem isP_yes {hs : List (List Int)} {ms : List Int} (h1 : 1 ≤ ms.length) (h2 : ms.length ≤ 6) (h3 : hs.length = ms.length) (h4 : ordB ms.length ms = true) (h5 : (hs.take hs.length).all (ordB ms.length) = true) : isP hs ms = true := by
  rw [List.take_length] at h5
  unfold isP
  rw [decide_eq_true h1, decide_eq_true h2, decide_eq_true h3, h4, h5]
  rfl
theorem isP_no_of {b : Bool} (h : b = false) (w : World) (e : Ending) (w' : World) (h2 : e = .returned (.bool false) ∧ ∃ q, w' = w.drewN q) : Dq b w e w' := by subst h; exact h2
end Go.Proofs.Ytepobkflahjldaa.Pv
