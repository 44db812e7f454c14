/- Prefetchers: copies, and both ValidPrefetcher. -/
import Derived.Test.YtmcnmjkickamkaaCblk
import Derived.Test.YtmcnmjkickamkaaCbtg
namespace Go.Proofs.Ytmcnmjkickamkaa.Pf
open Go.RowKit
def inB (lo hi x : Int) : Bool := decide (lo ≤ x) && decide (x ≤ hi)
/-- A prefetcher is valid. -/
def okF (k d y n : Int) : Bool := inB 0 2 k && inB 0 4 d && inB 0 8 y && inB 1 6 n
def CopF (k d y n : Int) (w : World) (e : Ending) (w' : World) : Prop := e = .returned (.agg #[.int .i64 k, .int .i64 d, .int .i64 y, .int .i64 n]) ∧ Below w.heap.size w w'
set_option maxHeartbeats 2000000 in
theorem toF (k d y n : Int) (w : World) : Calls Try.prog 14 #[.agg #[.int .i64 k, .int .i64 d, .int .i64 y, .int .i64 n]] w (CopF k d y n w) := by
  go_enter Try.func14, Try.ntmps14
  go_wp2
  refine bodyPost_ret (v := .agg #[.int .i64 k, .int .i64 d, .int .i64 y, .int .i64 n]) (by simp [results, Try.results14, go_sem]) rfl ?_
  refine ⟨rfl, ?_⟩
  repeat' (first | exact Below.refl _ _ | refine Below.setCell ?_ ?_ _ | refine Below.alloc ?_ ?_ _)
  all_goals (first | (simp; done) | (simp; omega))
theorem inW (n : Int) (w : World) : Calls Try.prog 51 #[.int .i64 n] w (Bl (inB 1 6 n) w) := by
  have hI := Lib.hid (show Calls Try.prog 50 #[.int .i64 n, .int .i64 1, .int .i64 6] w (Bl (inB 1 6 n) w) from Tr.in_g n 1 6 w)
  generalize inB 1 6 n = b at *
  go_enter Try.func51, Try.ntmps51
  go_wp2_with (go_at_call 50; refine hI.out.mono ?_; rintro e w' ⟨rfl, rfl⟩)
  go_ret
  exact ⟨rfl, rfl⟩
theorem btW (n : Int) (w : World) : Calls Try.prog 52 #[.int .i64 n] w (Bl (inB 1 6 n) w) := by
  have hI := Lib.hid (show Calls Try.prog 49 #[.int .i64 n, .int .i64 1, .int .i64 6] w (Bl (inB 1 6 n) w) from Tr.btw_g n 1 6 w)
  generalize inB 1 6 n = b at *
  go_enter Try.func52, Try.ntmps52
  go_wp2_with (go_at_call 49; refine hI.out.mono ?_; rintro e w' ⟨rfl, rfl⟩)
  go_ret
  exact ⟨rfl, rfl⟩
set_option maxHeartbeats 4000000 in
theorem isF_s (g : Nat) (k d y n : Int) (w : World) (hg : g < w.heap.size) (k0 : w.cell? ⟨g, 0, none⟩ = some (.int .i64 k)) (k1 : w.cell? ⟨g, 1, none⟩ = some (.int .i64 d)) (k2 : w.cell? ⟨g, 2, none⟩ = some (.int .i64 y)) (k3 : w.cell? ⟨g, 3, none⟩ = some (.int .i64 n)) :
    Calls Try.prog 34 #[.pointer (some ⟨g, 0, none⟩)] w (Bl (okF k d y n) w) := by
  have h0 := Lib.hid (fun w => (show Calls Try.prog 50 #[.int .i64 k, .int .i64 0, .int .i64 2] w (Bl (inB 0 2 k) w) from Tr.in_g k 0 2 w))
  have h1 := Lib.hid (fun w => (show Calls Try.prog 50 #[.int .i64 d, .int .i64 0, .int .i64 4] w (Bl (inB 0 4 d) w) from Tr.in_g d 0 4 w))
  have h2 := Lib.hid (fun w => (show Calls Try.prog 50 #[.int .i64 y, .int .i64 0, .int .i64 8] w (Bl (inB 0 8 y) w) from Tr.in_g y 0 8 w))
  have h3 := Lib.hid (fun w => inW n w)
  unfold okF
  generalize inB 0 2 k = b0 at *
  generalize inB 0 4 d = b1 at *
  generalize inB 0 8 y = b2 at *
  generalize inB 1 6 n = b3 at *
  cases b0 <;> cases b1 <;> cases b2
  all_goals
    go_enter Try.func34, Try.ntmps34
    go_wp2_with (first | (go_at_call 51; refine (h3.out _).mono ?_; rintro e w' ⟨rfl, rfl⟩) | (go_at_call 50; (first | with_reducible refine (h0.out _).mono ?_ | with_reducible refine (h1.out _).mono ?_ | with_reducible refine (h2.out _).mono ?_); rintro e w' ⟨rfl, rfl⟩))
    go_ret
    exact ⟨rfl, rfl⟩
def IsGs (b : Nat) (w' : World) : Prop := Blk w' b [.int .i64 0, .func (.func 56) #[] #[], .int .i64 1, .func (.func 57) #[] #[], .int .i64 2, .func (.func 58) #[] #[]] 59
theorem gs_i (w : World) : Calls Try.prog 53 #[] w fun e w' => e = .returned (.slice (some ⟨w.heap.size, 0, none⟩) 3 3) ∧ IsGs w.heap.size w' ∧ Below w.heap.size w w' := by
  go_enter Try.func53, Try.ntmps53
  go_wp2
  go_ret
  exact ⟨rfl, by unfold IsGs; exact Blk.newAt w _ _ _ rfl, (Below.refl w.heap.size w).alloc (Nat.le_refl _) _⟩
end Go.Proofs.Ytmcnmjkickamkaa.Pf
