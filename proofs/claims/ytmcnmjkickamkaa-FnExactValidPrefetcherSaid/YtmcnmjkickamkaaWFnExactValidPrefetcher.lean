/- The walk of laws.FnExactValidPrefetcher: the call returns true and writes nothing that was there. -/
import Derived.Test.YtmcnmjkickamkaaCpfg
namespace Go.Proofs.Ytmcnmjkickamkaa.fnExactValidPrefetcher
open Go.RowKit Pf
theorem walk (k d y n : Int) (w : World) : Calls Try.prog 4 #[.agg #[.int .i64 k, .int .i64 d, .int .i64 y, .int .i64 n]] w fun e w' => e = .returned (.bool true) ∧ Below w.heap.size w w' := by
  obtain ⟨W0, hW0⟩ : ∃ W0, W0 = w.alloc (.cells #[.int .i64 k, .int .i64 d, .int .i64 y, .int .i64 n] 30) := ⟨_, rfl⟩
  have b0 : Below w.heap.size w W0 := by rw [hW0]; exact (Below.refl _ _).alloc (Nat.le_refl _) _
  have kf : Blk W0 w.heap.size [.int .i64 k, .int .i64 d, .int .i64 y, .int .i64 n] 30 := by rw [hW0]; exact Blk.newAt w _ _ _ rfl
  have HK := Lib.hid (fun (w' : World) (bb : Below W0.heap.size W0 w') => (show w'.cell? ⟨w.heap.size, 0, none⟩ = some (.int .i64 k) ∧ w'.cell? ⟨w.heap.size, 1, none⟩ = some (.int .i64 d) ∧ w'.cell? ⟨w.heap.size, 2, none⟩ = some (.int .i64 y) ∧ w'.cell? ⟨w.heap.size, 3, none⟩ = some (.int .i64 n) from
    ⟨(kf.below bb kf.lt).cell 0, (kf.below bb kf.lt).cell 1, (kf.below bb kf.lt).cell 2, (kf.below bb kf.lt).cell 3⟩))
  have HT := Lib.hid (fun w => toF k d y n w)
  have HS := Lib.hid (fun w => validF_s k d y n w)
  have HI := Lib.hid (fun w => validF_i k d y n w)
  have B0 := Lib.hid b0
  obtain ⟨f0, f1, f2, f3⟩ := HK.out W0 (Below.refl _ _)
  clear kf b0
  generalize okF k d y n = r at *
  go_enter Try.func4, Try.ntmps4
  go_wp2_with fail
  rw [← hW0]
  clear hW0
  go_wp2_with fail
  refine (HT.out _).mono ?_; rintro e w1 ⟨rfl, b1⟩
  go_wp2_with fail
  refine (HS.out _).mono ?_; rintro e w2 ⟨rfl, b2⟩
  have C2 := Lib.hid (bt b1 b2)
  clear b1 b2 f0 f1 f2 f3
  obtain ⟨f0, f1, f2, f3⟩ := HK.out w2 C2.out
  go_wp2_with fail
  refine (HT.out _).mono ?_; rintro e w3 ⟨rfl, b3⟩
  go_wp2_with fail
  refine (HI.out _).mono ?_; rintro e w4 ⟨rfl, b4⟩
  have C4 := Lib.hid (bt B0.out (bt (bt C2.out b3) b4))
  clear b3 b4 f0 f1 f2 f3
  cases r
  all_goals
    go_wp2
    go_ret
    exact ⟨rfl, C4.out⟩
end Go.Proofs.Ytmcnmjkickamkaa.fnExactValidPrefetcher
