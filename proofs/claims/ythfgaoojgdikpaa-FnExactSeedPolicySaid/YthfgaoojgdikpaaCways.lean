/- Numbers of ways; the variable of a result that is a policy. -/
import Derived.Test.YthfgaoojgdikpaaCtree
namespace Go.Proofs.Ythfgaoojgdikpaa
open Go.RowKit
def isW (n : Int) : Bool := decide (1 ≤ n) && decide (n ≤ 6)
theorem in_w (n : Int) (w : World) : Calls Try.prog 52 #[.int .i64 n, .int .i64 1, .int .i64 6] w (Bl (isW n) w) := by
  unfold isW
  by_cases h : 1 ≤ n
  · go_enter Try.func52, Try.ntmps52
    go_wp2
    go_ret
    exact ⟨ret_bool (by simp [h]), rfl⟩
  · go_enter Try.func52, Try.ntmps52
    go_wp2
    go_ret
    exact ⟨ret_bool (by simp; omega), rfl⟩
theorem between_w (n : Int) (w : World) : Calls Try.prog 56 #[.int .i64 n, .int .i64 1, .int .i64 6] w (Bl (isW n) w) := by
  unfold isW
  by_cases h : 1 ≤ n
  · go_enter Try.func56, Try.ntmps56
    go_wp2
    go_ret
    exact ⟨ret_bool (by simp [h]), rfl⟩
  · go_enter Try.func56, Try.ntmps56
    go_wp2
    go_ret
    exact ⟨ret_bool (by simp; omega), rfl⟩
theorem ways_s (n : Int) (w : World) : Calls Try.prog 35 #[.int .i64 n] w (Bl (isW n) w) := by
  have hI := Lib.hid (in_w n w)
  generalize isW n = b at *
  go_enter Try.func35, Try.ntmps35
  go_wp2_with (go_at_call 52; refine hI.out.mono ?_; rintro e w' ⟨rfl, rfl⟩)
  go_ret
  exact ⟨rfl, rfl⟩
theorem ways_i (n : Int) (w : World) : Calls Try.prog 37 #[.int .i64 n] w (Bl (isW n) w) := by
  have hI := Lib.hid (between_w n w)
  generalize isW n = b at *
  go_enter Try.func37, Try.ntmps37
  go_wp2_with (go_at_call 56; refine hI.out.mono ?_; rintro e w' ⟨rfl, rfl⟩)
  go_ret
  exact ⟨rfl, rfl⟩
theorem isW_nat {n : Int} (h : isW n = true) : ∃ k : Nat, n = (k : Nat) ∧ 1 ≤ k ∧ k ≤ 6 := by
  unfold isW at h
  simp only [Bool.and_eq_true, decide_eq_true_eq] at h
  exact ⟨n.toNat, by omega, by omega, by omega⟩
theorem resP {w w1 : World} (b1 : Below (w.alloc (.cells #[.slice none 0 0, .slice none 0 0] 25)).heap.size (w.alloc (.cells #[.slice none 0 0, .slice none 0 0] 25)) w1) :
    w1.cell? ⟨w.heap.size, 0, none⟩ = some (.slice none 0 0) ∧ w1.cell? ⟨w.heap.size, 1, none⟩ = some (.slice none 0 0) ∧ w1.frozen? ⟨w.heap.size, 0, none⟩ = false ∧ w1.frozen? ⟨w.heap.size, 1, none⟩ = false :=
  PolInv.res rfl (b1.mono (by simp)) (Below.refl _ _)
theorem belP {w w1 : World} (b1 : Below (w.alloc (.cells #[.slice none 0 0, .slice none 0 0] 25)).heap.size (w.alloc (.cells #[.slice none 0 0, .slice none 0 0] 25)) w1) (u u' : Value) :
    Below w.heap.size w ((w1.setCell ⟨w.heap.size, 0, none⟩ u).setCell ⟨w.heap.size, 1, none⟩ u') :=
  ((((Below.refl w.heap.size w).alloc (Nat.le_refl _) _).trans (b1.mono (by simp))).setCell (p := ⟨w.heap.size, 0, none⟩) (Nat.le_refl _) u).setCell (p := ⟨w.heap.size, 1, none⟩) (Nat.le_refl _) u'
theorem outP {w w1 : World} {v : Value} {hs : List (List Int)} {ms : List Int} (h : OwnP w1 (w.alloc (.cells #[.slice none 0 0, .slice none 0 0] 25)).heap.size w1.heap.size v hs ms) (u u' : Value) :
    OwnP ((w1.setCell ⟨w.heap.size, 0, none⟩ u).setCell ⟨w.heap.size, 1, none⟩ u') w.heap.size ((w1.setCell ⟨w.heap.size, 0, none⟩ u).setCell ⟨w.heap.size, 1, none⟩ u').heap.size v hs ms := by
  have e : ((w1.setCell ⟨w.heap.size, 0, none⟩ u).setCell ⟨w.heap.size, 1, none⟩ u').heap.size = w1.heap.size := by simp [World.setCell]
  rw [e]
  exact ret_pol w.heap.size w1 w1.heap.size v hs ms (h.mono (by simp)) u u'
theorem polP_sum (n : Nat) (o : Nat → Nat → Int) : ∀ j, ((polP n o j).map List.length).sum = j * n
  | 0 => by simp [polP]
  | j + 1 => by
    rw [polP_succ, List.map_append, List.sum_append, polP_sum n o j]
    simp [rowL_len, Nat.add_mul]
theorem pol_bd (n : Nat) (h6 : n ≤ 6) (o : Nat → Nat → Int) (m : Nat → Int) : ((polP n o n).map List.length).sum ≤ 1000 ∧ (rowL n m).length ≤ 1000 := by
  rw [polP_sum, rowL_len]
  have : n = 0 ∨ n = 1 ∨ n = 2 ∨ n = 3 ∨ n = 4 ∨ n = 5 ∨ n = 6 := by omega
  refine ⟨?_, by omega⟩
  rcases this with rfl | rfl | rfl | rfl | rfl | rfl | rfl <;> decide
end Go.Proofs.Ythfgaoojgdikpaa
