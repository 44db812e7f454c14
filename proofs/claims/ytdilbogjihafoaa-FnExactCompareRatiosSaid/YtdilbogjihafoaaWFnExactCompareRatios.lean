/- The walk of laws.FnExactCompareRatios: the call returns true and writes nothing that was there. -/
import Derived.Test.YtdilbogjihafoaaCBase
namespace Go.Proofs.Ytdilbogjihafoaa.fnExactCompareRatios
open Go.RowKit
theorem prod (a d : Int) (h1 : 0 ≤ a) (h2 : a ≤ 1000000000) (h3 : 1 ≤ d) (h4 : d ≤ 1000000000) : 0 ≤ a * d ∧ a * d ≤ 1000000000000000000 := by
  constructor
  · exact Int.mul_nonneg h1 (by omega)
  · have := Int.mul_le_mul h2 h4 (by omega) (by omega : (0:Int) ≤ 1000000000)
    omega
set_option maxHeartbeats 1000000 in
theorem walk (a0 : Int) (a1 : Int) (a2 : Int) (a3 : Int) (_w0 : (Lit.int .i64 a0).wf = true) (_w1 : (Lit.int .i64 a1).wf = true) (_w2 : (Lit.int .i64 a2).wf = true) (_w3 : (Lit.int .i64 a3).wf = true) (w : World) :
    Calls Try.prog 7 #[.int .i64 a0, .int .i64 a1, .int .i64 a2, .int .i64 a3] w fun e w' => e = .returned (.bool true) ∧ Below w.heap.size w w' := by
  by_cases h : 0 ≤ a0 ∧ a0 ≤ 1000000000 ∧ 1 ≤ a1 ∧ a1 ≤ 1000000000 ∧ 0 ≤ a2 ∧ a2 ≤ 1000000000 ∧ 1 ≤ a3 ∧ a3 ≤ 1000000000
  · obtain ⟨h0, h1, h2, h3, h4, h5, h6, h7⟩ := h
    obtain ⟨p1, p2⟩ := prod a0 a3 h0 h1 h6 h7
    obtain ⟨p3, p4⟩ := prod a2 a1 h4 h5 h2 h3
    by_cases hl : a0 * a3 < a2 * a1
    · go_enter Try.func7, Try.ntmps7
      go_wp2
      go_ret
      exact ⟨rfl, Below.refl _ _⟩
    · by_cases hg : a2 * a1 < a0 * a3
      · go_enter Try.func7, Try.ntmps7
        go_wp2
        go_ret
        exact ⟨rfl, Below.refl _ _⟩
      · go_enter Try.func7, Try.ntmps7
        go_wp2
        go_ret
        exact ⟨rfl, Below.refl _ _⟩
  · by_cases h0 : 0 ≤ a0 ∧ a0 ≤ 1000000000 ∧ 1 ≤ a1 ∧ a1 ≤ 1000000000
    · obtain ⟨g0, g1, g2, g3⟩ := h0
      by_cases h4 : 0 ≤ a2
      · by_cases h5 : a2 ≤ 1000000000
        · by_cases h6 : 1 ≤ a3
          · have h7 : ¬ a3 ≤ 1000000000 := by omega
            clear h
            go_enter Try.func7, Try.ntmps7
            go_wp2
            go_ret
            exact ⟨rfl, Below.refl _ _⟩
          · clear h
            go_enter Try.func7, Try.ntmps7
            go_wp2
            go_ret
            exact ⟨rfl, Below.refl _ _⟩
        · clear h
          go_enter Try.func7, Try.ntmps7
          go_wp2
          go_ret
          exact ⟨rfl, Below.refl _ _⟩
      · clear h
        go_enter Try.func7, Try.ntmps7
        go_wp2
        go_ret
        exact ⟨rfl, Below.refl _ _⟩
    · clear h
      by_cases h4 : 0 ≤ a0
      · by_cases h5 : a0 ≤ 1000000000
        · by_cases h6 : 1 ≤ a1
          · have h7 : ¬ a1 ≤ 1000000000 := by omega
            clear h0
            go_enter Try.func7, Try.ntmps7
            go_wp2
            go_ret
            exact ⟨rfl, Below.refl _ _⟩
          · clear h0
            go_enter Try.func7, Try.ntmps7
            go_wp2
            go_ret
            exact ⟨rfl, Below.refl _ _⟩
        · clear h0
          go_enter Try.func7, Try.ntmps7
          go_wp2
          go_ret
          exact ⟨rfl, Below.refl _ _⟩
      · clear h0
        go_enter Try.func7, Try.ntmps7
        go_wp2
        go_ret
        exact ⟨rfl, Below.refl _ _⟩
end Go.Proofs.Ytdilbogjihafoaa.fnExactCompareRatios
