/- The law's reading of its marks in a list of lists. -/
import Derived.Test.YtmcnmjkickamkaaCss
import Derived.Test.YtmcnmjkickamkaaCmark1
namespace Go.Proofs.Ytmcnmjkickamkaa
open Go.RowKit
/-- The marks from k on in lists so long. -/
def mk2 : Nat → List Nat → List (List Int)
  | _, [] => []
  | k, n :: ns => marks k n :: mk2 (k + n) ns
theorem mk2_length : ∀ (k : Nat) (ns : List Nat), (mk2 k ns).length = ns.length
  | _, [] => rfl
  | k, n :: ns => by rw [mk2, List.length_cons, List.length_cons, mk2_length]
theorem mk2_get : ∀ (k : Nat) (ns : List Nat) (j : Nat), j < ns.length → (mk2 k ns).getD j [] = marks (k + (ns.take j).sum) (ns.getD j 0)
  | k, [], j, h => by simp at h
  | k, n :: ns, 0, h => by simp [mk2]
  | k, n :: ns, j + 1, h => by
    have := mk2_get (k + n) ns j (by simpa using h)
    rw [mk2, List.getD_cons_succ, this]
    simp [Nat.add_assoc]
theorem sum_step (ns : List Nat) (j : Nat) (h : j < ns.length) : (ns.take (j + 1)).sum = (ns.take j).sum + ns.getD j 0 := by
  rw [List.take_succ_eq_append_getElem h, List.sum_append, List.getD_eq_getElem?_getD, List.getElem?_eq_getElem h]
  simp
theorem sum_take_le : ∀ (ns : List Nat) (j : Nat), (ns.take j).sum ≤ ns.sum
  | [], j => by simp
  | n :: ns, 0 => by simp
  | n :: ns, j + 1 => by
    have := sum_take_le ns j
    simp; omega
theorem held2_zero (a : Option Addr) (c : Nat) (k : Int) (w : World) : Calls Try.prog 26 #[.slice a 0 c, .int .i64 k] w (Count k w) := by
  go_enter Try.func26, Try.ntmps26
  go_wp2
  refine wp_loop_rounds 1 ?_
  rw [rounds_succ]
  go_wp2
  go_ret
  exact ⟨rfl, rfl⟩
set_option maxHeartbeats 400000 in
theorem held2_cells (b c k N : Nat) (vs : List Value) (ns : List Nat) (w : World) (hN : ns.length = N) (hn : N ≤ 9223372036854775807) (hk : k + ns.sum ≤ 9223372036854775807)
    (h1 : ∀ i, i < N → w.cell? ⟨b, i, none⟩ = some (vs.getD i s0))
    (he : ∀ i, i < N → Calls Try.prog 21 #[vs.getD i s0, .int .i64 ((k + (ns.take i).sum : Nat) : Int)] w (Count ((k + (ns.take i).sum : Nat) + (ns.getD i 0 : Nat)) w)) :
    Calls Try.prog 26 #[.slice (some ⟨b, 0, none⟩) N c, .int .i64 k] w (Count ((k + ns.sum : Nat) : Int) w) := by
  have H1 := Lib.hid h1
  have HE := Lib.hid he
  have HS := Lib.hid (fun j (h : j < N) => sum_step ns j (by omega))
  have HT := Lib.hid (fun j => sum_take_le ns j)
  have HA := Lib.hid (show (ns.take N).sum = ns.sum by rw [List.take_of_length_le (by omega)])
  clear h1 he hN
  generalize ns.sum = T at *
  go_enter Try.func26, Try.ntmps26
  go_wp2
  go_loop [1, 5] (fun m i => ∃ j r : Nat, j ≤ N ∧ i = .int .i64 j ∧ m = .int .i64 ((k + r : Nat) : Int) ∧ Hid (r = (ns.take j).sum)) (fun _ i => N - (intOf i).toNat)
  case atStart => exact ⟨0, 0, Nat.zero_le _, rfl, rfl, Lib.hid (by simp)⟩
  case round =>
    obtain ⟨j, r, hj, rfl, rfl, hr⟩ := hrel
    by_cases hlt : j < N
    · have g1 := H1.out j hlt
      have ge := Lib.hid (HE.out j hlt)
      have hs := HS.out j hlt
      have hb := HT.out (j + 1)
      rw [← hr.out] at ge hs
      generalize vs.getD j s0 = u1 at *
      generalize ns.getD j 0 = d at *
      go_wp2_with (go_at_call 21; refine ge.out.mono ?_; rintro e w' ⟨rfl, rfl⟩)
      go_round
      case rel => exact ⟨j + 1, r + d, by omega, by go_num, by rw [← Nat.add_assoc]; rfl, Lib.hid hs.symm⟩
      case measure => simp [intOf]; omega
    · have ej : j = N := by omega
      subst ej
      have hx := HA.out
      rw [← hr.out] at hx
      subst hx
      go_wp2
      go_ret
      exact ⟨rfl, rfl⟩
theorem held2_own {w : World} {B : Nat} {v : Value} {vs : List Value} (k : Nat) (ns : List Nat) (h : Own2 w B v vs (mk2 k ns)) (hn : k + ns.sum ≤ 9223372036854775807) :
    Calls Try.prog 26 #[v, .int .i64 k] w (Count ((k + ns.sum : Nat) : Int) w) := by
  have hl := mk2_length k ns
  rcases h.cases with ⟨rfl, hx⟩ | ⟨g, c, rfl, _, _, hm, hc, _⟩
  · have e : ns = [] := by rw [hx] at hl; exact List.eq_nil_of_length_eq_zero hl.symm
    subst e
    exact held2_zero none 0 k w
  · refine held2_cells g c k _ vs ns w hl.symm hm hn hc fun i hi => ?_
    have hi' : i < ns.length := by omega
    have h3 := h.2.2.1 i hi
    rw [mk2_get k ns i hi'] at h3
    have h4 := sum_step ns i hi'
    have h5 := sum_take_le ns (i + 1)
    exact held_own _ _ h3 (by omega)
end Go.Proofs.Ytmcnmjkickamkaa
