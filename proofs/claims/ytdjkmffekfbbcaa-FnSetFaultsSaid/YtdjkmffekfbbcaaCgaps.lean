/- Contracts of the uses before and behind a use: the model's and the program's. -/
import Derived.Test.YtdjkmffekfbbcaaCuses
import Derived.Test.YtdjkmffekfbbcaaCapp
namespace Go.Proofs.Ytdjkmffekfbbcaa.Tr
open Go.RowKit
/-- What a function leaves that reads alone and returns a number. -/
def Nw (n : Int) (w : World) (e : Ending) (w' : World) : Prop := e = .returned (.int .i64 n) ∧ w = w'
theorem lastAt_succ (xs : List Int) (x : Int) (m : Nat) : lastAt xs x (m + 1) = if xs.getD m 0 = x then (m : Int) else lastAt xs x m := rfl
theorem lastAt_rng (xs : List Int) (x : Int) (m : Nat) : -1 ≤ lastAt xs x m ∧ lastAt xs x m < m := by
  induction m with
  | zero => simp [lastAt]
  | succ m ih => rw [lastAt_succ]; split <;> omega
theorem nextFrom_succ (xs : List Int) (x : Int) (k m : Nat) : nextFrom xs x k (m + 1) = if xs.getD k 0 = x then (k : Int) else nextFrom xs x (k + 1) m := rfl
theorem nextFrom_rng (xs : List Int) (x : Int) (k m : Nat) : -1 ≤ nextFrom xs x k m ∧ nextFrom xs x k m < k + m := by
  induction m generalizing k with
  | zero => simp only [nextFrom]; omega
  | succ m ih => rw [nextFrom_succ]; have := ih (k + 1); split <;> omega
set_option maxHeartbeats 1000000 in
theorem gap_i (a : Option Addr) (c : Nat) (xs : List Int) (n : Nat) (w : World) (hn : xs.length ≤ 1048576) (hnx : n < xs.length) (hr : Row w a xs) :
    Calls Try.prog 39 #[.slice a xs.length c, .int .i64 n] w (Nb (gapAt xs n) w) := by
  have HC := Lib.hid hr
  obtain ⟨b0, off, rfl, c0, hb0⟩ := hr n hnx
  have HS := Lib.hid (lastAt_succ xs (xs.getD n 0))
  clear hr
  unfold Row at HC
  obtain ⟨r, hr⟩ : ∃ r, lastAt xs (xs.getD n 0) n = r := ⟨_, rfl⟩
  have HG := Lib.hid (show gapAt xs n = if r < 0 then 0 else (n : Int) - r by unfold gapAt; rw [hr])
  have HR := Lib.hid hr
  clear hr
  have H0 := Lib.hid (show lastAt xs (xs.getD n 0) 0 = -1 from rfl)
  generalize gapAt xs n = g at *
  generalize hx : xs.getD n 0 = x at *
  have HX := Lib.hid hx
  clear hx
  generalize hN : xs.length = N at *
  go_enter Try.func39, Try.ntmps39
  go_wp2
  go_loopw [5] (fun k wr => ∃ m q : Nat, m ≤ n ∧ k = .int .i64 ((m : Int) - 1) ∧ Hid (lastAt xs x m = r) ∧ wr = w.drewN q) (fun k _ => (intOf k + 1).toNat)
  case atStart => exact ⟨n, 0, Nat.le_refl _, rfl, HR, rfl⟩
  case round =>
    obtain ⟨m, q, hm, rfl, hx, rfl⟩ := hrel
    cases m with
    | zero =>
      have e : r = -1 := hx.out.symm.trans H0.out
      clear hx HR
      subst e
      have eg : g = 0 := HG.out
      clear HG
      subst eg
      go_wp2
      go_ret
      exact ⟨rfl, by first | exact below_drewN _ (Below.refl _ _) | exact below_drewN _ (below_drewN _ (Below.refl _ _))⟩
    | succ m =>
      obtain ⟨b1, off1, hab, c1, _⟩ := HC.out m (by omega)
      injection hab with hab
      injection hab with e1 e2
      subst e1 e2
      have hs := Lib.hid ((HS.out m).symm.trans hx.out)
      have em : ((m + 1 : Nat) : Int) - 1 = (m : Int) := by omega
      rw [em]
      clear hx em
      generalize xs.getD m 0 = u at *
      by_cases hu : u = x
      · have e : (m : Int) = r := by have := hs.out; rwa [if_pos hu] at this
        clear hs HR
        subst e
        subst hu
        have eg : g = (n : Int) - m := by rw [HG.out, if_neg (by omega)]
        clear HG
        subst eg
        go_wp2
        go_quiet (fail)
        go_wp2
        go_ret
        exact ⟨rfl, by first | exact below_drewN _ (Below.refl _ _) | exact below_drewN _ (below_drewN _ (Below.refl _ _))⟩
      · have e : Hid (lastAt xs x m = r) := by have := hs.out; rw [if_neg hu] at this; exact this
        clear hs
        go_wp2
        go_quiet (fail)
        go_wp2
        go_roundw
        case rel => exact ⟨m, _, by omega, rfl, e, rfl⟩
        case measure => simp [intOf] <;> omega
end Go.Proofs.Ytdjkmffekfbbcaa.Tr
