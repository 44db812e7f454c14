/- The walk of laws.FnExactFifoPolicy: the call returns true and writes nothing that was there. -/
import Derived.Test.YthfgaoojgdikpaaCspol2
import Derived.Test.YthfgaoojgdikpaaCways
import Derived.Test.YthfgaoojgdikpaaCpofstay
import Derived.Test.YthfgaoojgdikpaaKFifoPolicy
namespace Go.Proofs.Ythfgaoojgdikpaa.fnExactFifoPolicy
open Go.RowKit
set_option maxHeartbeats 1000000 in
set_option maxRecDepth 100000 in
theorem s_yes (n : Nat) (h1 : 1 ≤ n) (h6 : n ≤ 6) (hw : isW (n : Int) = true) (w : World) : Calls Try.prog 16 #[.int .i64 (n : Nat)] w (ResP (polP n (fun _ => sameO) n) (rowL n (yng (n - 1))) true w) := by
  have HT := Lib.hid (fun w => fifo_s n h1 h6 w)
  have HW := Lib.hid (fun w => ways_s (n : Int) w)
  rw [hw] at HW
  clear hw
  go_enter Try.func16, Try.ntmps16
  go_wp2_with (go_at_call 35; refine (HW.out _).mono ?_; rintro e w' ⟨rfl, rfl⟩)
  refine (HT.out _).mono ?_
  rintro e w1 ⟨v, rfl, ov, b1⟩
  obtain ⟨a1, n1, c1, a2, n2, c2, fv⟩ := ov.form
  subst fv
  obtain ⟨r0, r1, q0, q1⟩ := resP b1
  have HB := Lib.hid (fun u u' => belP b1 u u')
  have HO := Lib.hid (fun u u' => outP ov u u')
  clear ov b1
  go_wp2
  refine bodyPost_ret (v := .tuple #[.agg #[.slice a1 n1 c1, .slice a2 n2 c2], .bool true]) (by simp [results, Try.results16, go_sem, r0, r1, q0, q1]) rfl ⟨_, rfl, HO.out _ _, HB.out _ _⟩
theorem pol_y (n : Nat) (h1 : 1 ≤ n) (h6 : n ≤ 6) (w : World) : Calls Try.prog 32 #[.int .i64 (n : Nat), .func (.func 40) #[] #[], sixf (yng (n - 1))] w (RetP (polP n (fun _ => sameO) n) (rowL n (yng (n - 1))) w) :=
  policyOf_stay n h1 h6 (fun _ => sameO) _ _ _ _ _ _ (fun age ha w' => stay_i age w') (rowL n (yng (n - 1))) (fun w' => first_row n h6 (yng (n - 1)) w' _) w
set_option maxHeartbeats 1000000 in
set_option maxRecDepth 100000 in
theorem i_yes (n : Nat) (h1 : 1 ≤ n) (h6 : n ≤ 6) (hw : isW (n : Int) = true) (w : World) : Calls Try.prog 17 #[.int .i64 (n : Nat)] w (ResP (polP n (fun _ => sameO) n) (rowL n (yng (n - 1))) true w) := by
  have HT := Lib.hid (fun w => young_i (n - 1) (by omega) w)
  have HP := Lib.hid (fun w => pol_y n h1 h6 w)
  have HW := Lib.hid (fun w => ways_i (n : Int) w)
  have e1 : ((n - 1 : Nat) : Int) = (n : Int) - 1 := by omega
  rw [hw] at HW
  rw [e1] at HT
  have hn1 : (1 : Int) ≤ (n : Int) := by omega
  have hn6 : (n : Int) ≤ 6 := by omega
  clear hw e1
  unfold sixf six at HT HP
  go_enter Try.func17, Try.ntmps17
  go_wp2_with (go_at_call 37; refine (HW.out _).mono ?_; rintro e w' ⟨rfl, rfl⟩)
  refine (HT.out _).mono ?_
  rintro e w0 ⟨rfl, b0⟩
  go_wp2_with fail
  refine (HP.out _).mono ?_
  rintro e w1 ⟨v, rfl, ov, b01⟩
  have b1 := bt b0 b01
  have ov := ov.mono (B' := (w.alloc (.cells #[.slice none 0 0, .slice none 0 0] 25)).heap.size) b0.size
  clear b0 b01
  obtain ⟨a1, n1, c1, a2, n2, c2, fv⟩ := ov.form
  subst fv
  obtain ⟨r0, r1, q0, q1⟩ := resP b1
  have HB := Lib.hid (fun u u' => belP b1 u u')
  have HO := Lib.hid (fun u u' => outP ov u u')
  clear ov b1
  go_wp2
  refine bodyPost_ret (v := .tuple #[.agg #[.slice a1 n1 c1, .slice a2 n2 c2], .bool true]) (by simp [results, Try.results17, go_sem, r0, r1, q0, q1]) rfl ⟨_, rfl, HO.out _ _, HB.out _ _⟩

set_option maxHeartbeats 1000000 in
theorem s_no (n : Int) (hw : isW n = false) (w : World) : Calls Try.prog 16 #[.int .i64 n] w (ResP [] [] false w) := by
  have HW := Lib.hid (fun w => ways_s n w)
  rw [hw] at HW
  clear hw
  go_enter Try.func16, Try.ntmps16
  go_wp2_with (go_at_call 35; refine (HW.out _).mono ?_; rintro e w' ⟨rfl, rfl⟩)
  refine bodyPost_ret (v := .tuple #[.agg #[.slice none 0 0, .slice none 0 0], .bool false]) (by simp [results, Try.results16, go_sem]) rfl ⟨_, rfl, OwnP.nil _ _ _, ?_⟩
  go_grown
set_option maxHeartbeats 1000000 in
theorem i_no (n : Int) (hw : isW n = false) (w : World) : Calls Try.prog 17 #[.int .i64 n] w (ResP [] [] false w) := by
  have HW := Lib.hid (fun w => ways_i n w)
  rw [hw] at HW
  clear hw
  go_enter Try.func17, Try.ntmps17
  go_wp2_with (go_at_call 37; refine (HW.out _).mono ?_; rintro e w' ⟨rfl, rfl⟩)
  refine bodyPost_ret (v := .tuple #[.agg #[.slice none 0 0, .slice none 0 0], .bool false]) (by simp [results, Try.results17, go_sem]) rfl ⟨_, rfl, OwnP.nil _ _ _, ?_⟩
  go_grown
theorem walk (n0 : Int) (w : World) (_ : (Lit.int .i64 n0).wf = true) : Calls Try.prog 5 #[.int .i64 n0] w fun e w' => e = .returned (.bool true) ∧ Below w.heap.size w w' := by
  cases hw : isW n0
  · exact core n0 [] [] false (by decide) (by decide) (s_no n0 hw) (i_no n0 hw) w
  · obtain ⟨n, rfl, h1, h6⟩ := isW_nat hw
    exact core n _ _ true (pol_bd n h6 _ sameO).1 (pol_bd n h6 (fun _ => sameO) _).2 (s_yes n h1 h6 hw) (i_yes n h1 h6 hw) w
end Go.Proofs.Ythfgaoojgdikpaa.fnExactFifoPolicy
