/- Contracts of the model's and the program's test of uses: at most 60 addresses. -/
import Derived.Test.YtakjkbjooongkaaCrd
import Derived.Test.YtakjkbjooongkaaPlainSets
namespace Go.Proofs.Ytakjkbjooongkaa.Tr
open Go.RowKit
theorem isA_yes {x : Int} (h0 : 0 ≤ x) (h1 : x ≤ 63) : isA x = true := by simp only [isA, decide_eq_true h0, decide_eq_true h1]; rfl
theorem isA_low {x : Int} (h0 : ¬ 0 ≤ x) : isA x = false := by simp only [isA, decide_eq_false h0]; rfl
theorem isA_high {x : Int} (h1 : ¬ x ≤ 63) : isA x = false := by simp only [isA, decide_eq_false h1, Bool.and_false]
theorem isA_of {x : Int} (h : isA x = true) : 0 ≤ x ∧ x ≤ 63 := by simpa [isA] using h
theorem all_step (xs : List Int) (j : Nat) (h : j < xs.length) : (xs.take (j + 1)).all isA = ((xs.take j).all isA && isA (xs.getD j 0)) := by
  rw [List.take_succ_eq_append_getElem h, List.all_append, List.getD_eq_getElem?_getD, List.getElem?_eq_getElem h]
  simp
theorem all_no (xs : List Int) (j : Nat) (h : j < xs.length) (hn : isA (xs.getD j 0) = false) : xs.all isA = false := by
  rw [List.all_eq_false]
  refine ⟨xs[j], List.getElem_mem h, ?_⟩
  rw [List.getD_eq_getElem?_getD, List.getElem?_eq_getElem h] at hn
  simpa using hn
theorem okU_no (xs : List Int) (j : Nat) (h : j < xs.length) (hn : isA (xs.getD j 0) = false) : okU xs = false := by
  unfold okU; rw [all_no xs j h hn, Bool.and_false]
theorem okU_end (xs : List Int) (h : (xs.take xs.length).all isA = true) : okU xs = decide (xs.length ≤ 60) := by
  unfold okU
  rw [List.take_length] at h
  rw [h, Bool.and_true]
theorem okU_len {xs : List Int} (h : okU xs = true) : xs.length ≤ 60 := by
  unfold okU at h; rw [Bool.and_eq_true] at h; exact of_decide_eq_true h.1
theorem okU_at {xs : List Int} (h : okU xs = true) (j : Nat) (hj : j < xs.length) : 0 ≤ xs.getD j 0 ∧ xs.getD j 0 ≤ 63 := by
  unfold okU at h
  rw [Bool.and_eq_true] at h
  have := List.all_eq_true.1 h.2 _ (List.getElem_mem hj)
  rw [List.getD_eq_getElem?_getD, List.getElem?_eq_getElem hj]
  exact isA_of this
theorem between_a (x : Int) (w : World) : Calls Try.prog 34 #[.int .i64 x, .int .i64 0, .int .i64 63] w (Bl (isA x) w) := by
  by_cases h0 : 0 ≤ x
  · by_cases h1 : x ≤ 63
    · rw [isA_yes h0 h1]
      go_enter Try.func34, Try.ntmps34
      go_wp2
      go_ret
      exact ⟨rfl, rfl⟩
    · rw [isA_high h1]
      go_enter Try.func34, Try.ntmps34
      go_wp2
      go_ret
      exact ⟨rfl, rfl⟩
  · rw [isA_low h0]
    go_enter Try.func34, Try.ntmps34
    go_wp2
    go_ret
    exact ⟨rfl, rfl⟩
theorem in_a (x : Int) (w : World) : Calls Try.prog 37 #[.int .i64 x, .int .i64 0, .int .i64 63] w (Bl (isA x) w) := by
  by_cases h0 : 0 ≤ x
  · by_cases h1 : x ≤ 63
    · rw [isA_yes h0 h1]
      go_enter Try.func37, Try.ntmps37
      go_wp2
      go_ret
      exact ⟨rfl, rfl⟩
    · rw [isA_high h1]
      go_enter Try.func37, Try.ntmps37
      go_wp2
      go_ret
      exact ⟨rfl, rfl⟩
  · rw [isA_low h0]
    go_enter Try.func37, Try.ntmps37
    go_wp2
    go_ret
    exact ⟨rfl, rfl⟩
theorem addr_i (x : Int) (w : World) : Calls Try.prog 26 #[.int .i64 x] w (Bl (isA x) w) := by
  have hI := Lib.hid (between_a x w)
  generalize isA x = b at *
  go_enter Try.func26, Try.ntmps26
  go_wp2_with (go_at_call 34; refine hI.out.mono ?_; rintro e w' ⟨rfl, rfl⟩)
  go_ret
  exact ⟨rfl, rfl⟩
theorem addr_s (x : Int) (w : World) : Calls Try.prog 32 #[.int .i64 x] w (Bl (isA x) w) := by
  have hI := Lib.hid (in_a x w)
  generalize isA x = b at *
  go_enter Try.func32, Try.ntmps32
  go_wp2_with (go_at_call 37; refine hI.out.mono ?_; rintro e w' ⟨rfl, rfl⟩)
  go_ret
  exact ⟨rfl, rfl⟩
end Go.Proofs.Ytakjkbjooongkaa.Tr
