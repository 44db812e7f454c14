/- The contracts of both WorkingSet and WorkingSizes. -/
import Derived.Test.YtdjkmffekfbbcaaClastI
import Derived.Test.YtdjkmffekfbbcaaCtell
import Derived.Test.YtdjkmffekfbbcaaCphase
namespace Go.Proofs.Ytdjkmffekfbbcaa.Tr
open Go.RowKit
/-- The working set at a use. -/
def wsL (xs : List Int) (q i : Nat) : List Int := setP ((xs.take (i + 1)).drop (i + 1 - q))
theorem wsL_length (xs : List Int) (q i : Nat) : (wsL xs q i).length ≤ i + 1 := by
  have h1 := setP_length ((xs.take (i + 1)).drop (i + 1 - q))
  have h2 : ((xs.take (i + 1)).drop (i + 1 - q)).length ≤ i + 1 := by simp; omega
  unfold wsL; omega
/-- The program's set of the last uses. -/
theorem work_i (a : Option Addr) (c i q : Nat) (xs : List Int) (hl : xs.length ≤ 60) (hi : i < xs.length) (hq1 : 1 ≤ q) (hq : q ≤ 60) (w : World) (hr : Row w a xs) :
    Calls Try.prog 46 #[lastV w] (w3 w a xs.length c i q) fun e w' => Lb (wsL xs q i) w e w' := by
  refine (last_set a c i q xs hl hi hq1 hq w hr).mono ?_
  rintro e w' ⟨v, he, ho, hb⟩
  have hb3 := w3_below w a xs.length c i q
  exact ⟨v, he, ho.mono hb3.size, hb3.trans (hb.mono hb3.size)⟩
theorem max_s (x y r : Int) (w : World) (h : r = max x y) : Calls Try.prog 59 #[.int .i64 x, .int .i64 y] w (fun e w' => e = .returned (.int .i64 r) ∧ w = w') := by
  by_cases hxy : y < x
  · have e : r = x := by omega
    clear h
    subst e
    go_enter Try.func59, Try.ntmps59
    go_wp2
    go_ret
    exact ⟨rfl, rfl⟩
  · have e : r = y := by omega
    clear h
    subst e
    go_enter Try.func59, Try.ntmps59
    go_wp2
    go_ret
    exact ⟨rfl, rfl⟩
set_option maxHeartbeats 1000000 in
theorem work_s (a : Option Addr) (c i q : Nat) (xs : List Int) (hl : xs.length ≤ 60) (hcc : xs.length ≤ c) (hcm : c ≤ 9223372036854775807) (hi : i < xs.length) (hq1 : 1 ≤ q) (hq : q ≤ 60) (w : World) (hr : Row w a xs) :
    Calls Try.prog 38 #[.slice a xs.length c, .int .i64 (i : Int), .int .i64 (q : Int)] w (Lb (wsL xs q i) w) := by
  obtain ⟨b, off, rfl, _, _⟩ := hr i hi
  obtain ⟨lo, hlo⟩ : ∃ lo, i + 1 - q = lo := ⟨_, rfl⟩
  have hlo2 : lo ≤ i := by omega
  have hM := Lib.hid (fun (w' : World) => max_s 0 ((i : Int) - q + 1) lo w' (by omega))
  have hlen : ((xs.take (i + 1)).drop lo).length = i + 1 - lo := by simp; omega
  have hS := set_s (some ⟨b, off + lo, none⟩) (c - lo) ((xs.take (i + 1)).drop lo) w (by rw [hlen]; omega) (hr.sub lo (i + 1) (by omega) (by omega))
  rw [hlen] at hS
  have HS := Lib.hid hS
  unfold wsL
  rw [hlo]
  clear hS hlen hr
  generalize setP ((xs.take (i + 1)).drop lo) = ys at *
  generalize xs.length = N at *
  have e1 : (0 : Int) ≤ (lo : Int) := by omega
  have e2 : (lo : Int) ≤ (i : Int) + 1 := by omega
  have e3 : (i : Int) + 1 ≤ (c : Int) := by omega
  have e4 : ((i : Int) + 1).toNat = i + 1 := by omega
  have e5 : ¬ c = lo := by omega
  go_enter Try.func38, Try.ntmps38
  go_wp2_with (first | (go_at_call 59; refine (hM.out _).mono ?_; rintro e w' ⟨rfl, rfl⟩) | (go_at_call 58; refine HS.out.mono ?_; rintro e w1 ⟨v1, rfl, ho, hb⟩))
  go_ret
  exact ⟨_, rfl, ho, hb⟩
end Go.Proofs.Ytdjkmffekfbbcaa.Tr
