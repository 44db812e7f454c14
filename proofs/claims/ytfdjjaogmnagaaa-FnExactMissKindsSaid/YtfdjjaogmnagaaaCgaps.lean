/- Contracts of the uses before and behind a use: the model's and the program's. -/
import Derived.Test.YtfdjjaogmnagaaaCuses
import Derived.Test.YtfdjjaogmnagaaaCapp
namespace Go.Proofs.Ytfdjjaogmnagaaa.Tr
open Go.RowKit
/-- What a function leaves that reads alone and returns a number. -/
def Nw (n : Int) (w : World) (e : Ending) (w' : World) : Prop := e = .returned (.int .i64 n) ∧ w = w'
theorem lastAt_succ (xs : List Int) (x : Int) (m : Nat) : lastAt xs x (m + 1) = if xs.getD m 0 = x then (m : Int) else lastAt xs x m := rfl
theorem lastAt_rng (xs : List Int) (x : Int) (m : Nat) : -1 ≤ lastAt xs x m ∧ lastAt xs x m < m := by
  induction m with
  | zero => simp [lastAt]
  | succ m ih => rw [lastAt_succ]; split <;> omega
theorem nextFrom_succ (xs : List Int) (x : Int) (k m : Nat) : nextFrom xs x k (m + 1) = if xs.getD k 0 = x then (k : Int) else nextFrom xs x (k + 1) m := rfl
theorem nextFrom_rng (xs : List Int) (x : Int) (k m : Nat) : -1 ≤ nextFrom xs x k m ∧ nextFrom xs x k m < k + m := by
  induction m generalizing k with
  | zero => simp only [nextFrom]; omega
  | succ m ih => rw [nextFrom_succ]; have := ih (k + 1); split <;> omega
set_option maxHeartbeats 1000000 in
theorem last_s (a : Option Addr) (c : Nat) (xs : List Int) (x : Int) (n : Nat) (w : World) (hn : xs.length ≤ 1048576) (hnx : n ≤ xs.length) (hr : Row w a xs) :
    Calls Try.prog 40 #[.slice a xs.length c, .int .i64 x, .int .i64 n] w (Nw (lastAt xs x n) w) := by
  have HC := Lib.hid hr
  have HS := Lib.hid (lastAt_succ xs x)
  clear hr
  unfold Row at HC
  obtain ⟨r, hr⟩ : ∃ r, lastAt xs x n = r := ⟨_, rfl⟩
  rw [hr]
  have HR := Lib.hid hr
  clear hr
  have H0 := Lib.hid (show lastAt xs x 0 = -1 from rfl)
  generalize hN : xs.length = N at *
  go_enter Try.func40, Try.ntmps40
  go_wp2
  go_loop [7] (fun k => ∃ m : Nat, m ≤ n ∧ k = .int .i64 ((m : Int) - 1) ∧ Hid (lastAt xs x m = r)) (fun k => (intOf k + 1).toNat)
  case atStart => exact ⟨n, Nat.le_refl _, rfl, HR⟩
  case round =>
    obtain ⟨m, hm, rfl, hx⟩ := hrel
    cases m with
    | zero =>
      have e : r = -1 := hx.out.symm.trans H0.out
      clear hx HR
      subst e
      go_wp2
      go_ret
      exact ⟨rfl, rfl⟩
    | succ m =>
      obtain ⟨b0, off, rfl, c1, hb0⟩ := HC.out m (by omega)
      have hs := Lib.hid ((HS.out m).symm.trans hx.out)
      have em : ((m + 1 : Nat) : Int) - 1 = (m : Int) := by omega
      rw [em]
      clear hx em
      generalize xs.getD m 0 = u at *
      by_cases hu : u = x
      · have e : (m : Int) = r := by have := hs.out; rwa [if_pos hu] at this
        clear hs HR
        subst e
        subst hu
        go_wp2
        go_ret
        exact ⟨rfl, rfl⟩
      · have e : Hid (lastAt xs x m = r) := by have := hs.out; rw [if_neg hu] at this; exact this
        clear hs
        go_wp2
        go_round
        case rel => exact ⟨m, by omega, rfl, e⟩
        case measure => simp [intOf]
end Go.Proofs.Ytfdjjaogmnagaaa.Tr
