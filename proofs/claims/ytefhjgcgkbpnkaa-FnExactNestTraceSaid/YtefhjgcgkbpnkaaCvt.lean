/- Both ValidTrace over a list of accesses. -/
import Derived.Test.YtefhjgcgkbpnkaaCacc
import Derived.Test.YtefhjgcgkbpnkaaCuses
namespace Go.Proofs.Ytefhjgcgkbpnkaa.Ac
open Go.RowKit Tr
def isK (x : Int) : Bool := decide (x = 0) || decide (x = 1)
def okE (r : Int × Int) : Bool := isK r.1 && isA r.2
def okT (xs : List (Int × Int)) : Bool := decide (xs.length ≤ 60) && xs.all okE
theorem tk_all (xs : List (Int × Int)) (j : Nat) (h : j < xs.length) : (xs.take (j + 1)).all okE = ((xs.take j).all okE && okE (xs.getD j (0, 0))) := by
  rw [List.take_succ_eq_append_getElem h, List.all_append, List.getD_eq_getElem?_getD, List.getElem?_eq_getElem h]
  simp
theorem okT_no (xs : List (Int × Int)) (j : Nat) (h : j < xs.length) (hn : okE (xs.getD j (0, 0)) = false) : okT xs = false := by
  have : xs.all okE = false := by
    rw [List.all_eq_false]
    refine ⟨xs[j], List.getElem_mem h, ?_⟩
    rw [List.getD_eq_getElem?_getD, List.getElem?_eq_getElem h] at hn
    simpa using hn
  unfold okT; rw [this, Bool.and_false]
theorem okT_end (xs : List (Int × Int)) (h : (xs.take xs.length).all okE = true) : okT xs = decide (xs.length ≤ 60) := by
  unfold okT
  rw [List.take_length] at h
  rw [h, Bool.and_true]
theorem okT_len {xs : List (Int × Int)} (h : okT xs = true) : xs.length ≤ 60 := by
  unfold okT at h; rw [Bool.and_eq_true] at h; exact of_decide_eq_true h.1
theorem isK_no {x : Int} (h0 : ¬ x = 0) (h1 : ¬ x = 1) : isK x = false := by simp [isK, h0, h1]
theorem kind_s (x : Int) (w : World) : Calls Try.prog 27 #[.int .i64 x] w (Bl (isK x) w) := by
  by_cases h0 : x = 0
  · subst h0
    go_enter Try.func27, Try.ntmps27
    go_wp2
    go_ret
    exact ⟨rfl, rfl⟩
  · by_cases h1 : x = 1
    · subst h1
      go_enter Try.func27, Try.ntmps27
      go_wp2
      go_ret
      exact ⟨rfl, rfl⟩
    · rw [isK_no h0 h1]
      have e0 : (x == 0) = false := by simp [h0]
      have e1 : (x == 1) = false := by simp [h1]
      go_enter Try.func27, Try.ntmps27
      go_wp2
      go_ret
      exact ⟨ret_bool (by simp [h0, h1]), rfl⟩
theorem kind_i (x : Int) (w : World) : Calls Try.prog 31 #[.int .i64 x] w (Bl (isK x) w) := by
  by_cases h0 : x = 0
  · subst h0
    go_enter Try.func31, Try.ntmps31
    go_wp2
    go_ret
    exact ⟨rfl, rfl⟩
  · by_cases h1 : x = 1
    · subst h1
      go_enter Try.func31, Try.ntmps31
      go_wp2
      go_ret
      exact ⟨rfl, rfl⟩
    · rw [isK_no h0 h1]
      have e0 : (x == 0) = false := by simp [h0]
      have e1 : (x == 1) = false := by simp [h1]
      go_enter Try.func31, Try.ntmps31
      go_wp2
      go_ret
      exact ⟨ret_bool (by simp [h0, h1]), rfl⟩
theorem addr_ii (x : Int) (w : World) : Calls Try.prog 32 #[.int .i64 x] w (Bl (isA x) w) := by
  have hI := Lib.hid (between_a x w)
  generalize isA x = b at *
  go_enter Try.func32, Try.ntmps32
  go_wp2_with (go_at_call 33; refine hI.out.mono ?_; rintro e w' ⟨rfl, rfl⟩)
  go_ret
  exact ⟨rfl, rfl⟩
end Go.Proofs.Ytefhjgcgkbpnkaa.Ac
