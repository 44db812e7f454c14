/- The model's l06Since: which addresses were used since the last use of the same address. -/
import Derived.Test.YtfdjjaogmnagaaaCgaps
import Derived.Test.YtfdjjaogmnagaaaCput
import Derived.Test.YtfdjjaogmnagaaaCappg
import Derived.Test.YtfdjjaogmnagaaaCrd
namespace Go.Proofs.Ytfdjjaogmnagaaa.Ix
open Go.RowKit Tr
def sinP (xs : List Int) (i : Nat) : List Int := if 0 ≤ lastAt xs (xs.getD i 0) i then setP ((xs.take i).drop (lastAt xs (xs.getD i 0) i + 1).toNat) else []
set_option maxHeartbeats 1000000 in
theorem since_s (a : Option Addr) (c : Nat) (xs : List Int) (i : Nat) (w : World) (hn : xs.length ≤ 1000) (hi : i < xs.length) (hc1 : xs.length ≤ c) (hc2 : c ≤ 9223372036854775807) (hr : Row w a xs) :
    Calls Try.prog 30 #[.slice a xs.length c, .int .i64 i] w (fun e w' => ∃ v, e = .returned (.tuple #[v, .bool (decide (0 ≤ lastAt xs (xs.getD i 0) i))]) ∧ Own w' w.heap.size v (sinP xs i) ∧ Below w.heap.size w w') := by
  obtain ⟨b, off, rfl, c0, hb⟩ := hr i hi
  have HL := Lib.hid (last_s (some ⟨b, off, none⟩) c xs (xs.getD i 0) i w (by omega) (by omega) hr)
  have hrg := lastAt_rng xs (xs.getD i 0) i
  have HSP := Lib.hid (show sinP xs i = if 0 ≤ lastAt xs (xs.getD i 0) i then setP ((xs.take i).drop (lastAt xs (xs.getD i 0) i + 1).toNat) else [] from rfl)
  have HSET := Lib.hid (fun (l : Nat) (hl : l < i) => (show Calls Try.prog 18 #[.slice (some ⟨b, off + (l + 1), none⟩) (i - (l + 1)) (c - (l + 1))] w (Lb (setP ((xs.take i).drop (l + 1))) w) from by
    have hs := Row.sub hr (l + 1) i (by omega) (by omega)
    have e : ((xs.take i).drop (l + 1)).length = i - (l + 1) := by simp; omega
    have h := set_s (some ⟨b, off + (l + 1), none⟩) (c - (l + 1)) ((xs.take i).drop (l + 1)) w (by omega) hs
    rw [e] at h
    exact h))
  clear hr
  generalize lastAt xs (xs.getD i 0) i = L at *
  generalize xs.getD i 0 = x at *
  generalize sinP xs i = S at *
  generalize xs.length = N at *
  by_cases hL : 0 ≤ L
  · obtain ⟨l, rfl⟩ := Int.eq_ofNat_of_zero_le hL
    have hl : l < i := by omega
    have e1 := HSP.out
    rw [if_pos hL, show ((l : Int) + 1).toNat = l + 1 by omega] at e1
    subst e1
    have HS := Lib.hid (HSET.out l hl)
    rw [decide_eq_true hL]
    clear HSP HSET
    generalize setP ((xs.take i).drop (l + 1)) = S at *
    go_enter Try.func30, Try.ntmps30
    go_wp2_with (first | (go_at_call 40; refine HL.out.mono ?_; rintro e w' ⟨rfl, rfl⟩) | (go_at_call 18; refine HS.out.mono ?_; rintro e w3 ⟨v3, rfl, ho3, hb3⟩))
    go_ret2
    exact ⟨_, rfl, ho3, hb3⟩
  · have e1 := HSP.out
    rw [if_neg hL] at e1
    subst e1
    rw [decide_eq_false hL]
    clear HSP HSET
    go_enter Try.func30, Try.ntmps30
    go_wp2_with (first | (go_at_call 40; refine HL.out.mono ?_; rintro e w' ⟨rfl, rfl⟩))
    go_ret2
    exact ⟨_, rfl, Own.lit0 _, (Below.refl _ w).alloc (Nat.le_refl _) _⟩
end Go.Proofs.Ytfdjjaogmnagaaa.Ix
