/- Contents without addresses: the contracts of both EmptyContents. -/
import Derived.Test.YtimfekedpgllhaaCvp
import Derived.Test.YtimfekedpgllhaaCpof
import Derived.Test.YtimfekedpgllhaaCappg
import Derived.Deep.RegionHeld3
namespace Go.Proofs.Ytimfekedpgllhaa.Pv
open Go.RowKit
def emptyL (n : Nat) : List Int := List.replicate n (-1)
theorem emptyL_len (n : Nat) : (emptyL n).length = n := by simp [emptyL]
def empV (b : Bool) (n : Nat) : List Int := if b then emptyL n else []
theorem empV_len (b : Bool) (n : Nat) : (empV b n).length ≤ n := by cases b <;> simp [empV, emptyL]
theorem emptyL_succ (n : Nat) : emptyL (n + 1) = emptyL n ++ [-1] := by simp [emptyL, List.replicate_succ']
set_option maxHeartbeats 1000000 in
set_option maxRecDepth 100000 in
theorem empty6_i (w : World) : Calls Try.prog 54 #[] w (RetB (six (-1) (-1) (-1) (-1) (-1) (-1)) w) := by
  go_enter Try.func54, Try.ntmps54
  go_wp2
  refine wp_loop_rounds 7 ?_
  rw [rounds_succ]
  go_wp2
  rw [rounds_succ]
  go_wp2
  rw [rounds_succ]
  go_wp2
  rw [rounds_succ]
  go_wp2
  rw [rounds_succ]
  go_wp2
  rw [rounds_succ]
  go_wp2
  rw [rounds_succ]
  go_wp2
  refine bodyPost_ret (v := six (-1) (-1) (-1) (-1) (-1) (-1)) (by simp [six, results, Try.results54, go_sem]) rfl ⟨rfl, ?_⟩
  go_grown
/-- What a function leaves that returns a list of its own in a block of whatever type, and whether it succeeded. -/
def ResW (xs : List Int) (ok : Bool) (w : World) (e : Ending) (w' : World) : Prop := ∃ v, e = .returned (.tuple #[v, .bool ok]) ∧ OwnW w' w.heap.size v xs ∧ Below w.heap.size w w'
set_option maxHeartbeats 1000000 in
theorem l03Empty_s (g M c' : Nat) (a' : Option Addr) (w : World) (hg : g < w.heap.size) (h1 : w.cell? ⟨g, 1, none⟩ = some (.slice a' M c')) (hM : M ≤ 1000) :
    Calls Try.prog 42 #[.pointer (some ⟨g, 0, none⟩)] w (Lb (emptyL M) w) := by
  have H0 := Lib.hid (Own.lit0 w)
  go_enter Try.func42, Try.ntmps42
  go_wp2
  go_loopw [3, 4] (fun v i wr => ∃ j : Nat, j ≤ M ∧ i = .int .i64 (j : Nat) ∧ Hid (Own wr w.heap.size v (emptyL j)) ∧ Hid (Below w.heap.size w wr)) (fun _ i _ => M - (intOf i).toNat)
  case atStart => exact ⟨0, Nat.zero_le _, rfl, H0, (Below.refl _ _).alloc (Nat.le_refl _) _⟩
  case round =>
    obtain ⟨j, hj, rfl, hO, hb⟩ := hrel
    have c1 : wr.cell? ⟨g, 1, none⟩ = some (.slice a' M c') := (hb.out.cell (p := ⟨g, 1, none⟩) hg).trans h1
    by_cases hlt : j < M
    · have ho := hO.out
      have hsz := hb.out.size
      have hq1 : (emptyL j).length + 1 ≤ 1000000000 := by rw [emptyL_len]; omega
      have HE := Lib.hid (emptyL_succ j)
      generalize emptyL j = L at *
      go_wp2_with (at_builtin; refine wpList_app _ rfl _ _ rfl w.heap.size _ L _ ?_ ?_ ho hq1 hsz ?_; rfl; rfl)
      intro v1 w1 ho1 hb1
      go_wp2
      go_roundw
      case rel => exact ⟨j + 1, by omega, by go_num, (by rw [HE.out]; exact ho1), hb.out.trans hb1⟩
      case measure => simp [intOf]; omega
    · have e : j = M := by omega
      subst e
      go_wp2
      go_ret
      exact ⟨_, rfl, hO.out, hb.out⟩
theorem rowL_empty (n : Nat) : rowL n (fun _ => -1) = emptyL n := by
  unfold rowL emptyL
  rw [List.map_const', List.length_range]
theorem rulC_ways (n : Nat) (hs : List (List Int)) (ms : List Int) : (rulC true n hs ms)[0]? = some (.int .i64 n) := rfl
end Go.Proofs.Ytimfekedpgllhaa.Pv
