/- The walk of laws.FnExactMruPolicy: the call returns true and writes nothing that was there. -/
import Derived.Test.YthfgaoojgdikpaaCspol3
import Derived.Test.YthfgaoojgdikpaaCways
import Derived.Test.YthfgaoojgdikpaaCpofold
import Derived.Test.YthfgaoojgdikpaaKMruPolicy
namespace Go.Proofs.Ythfgaoojgdikpaa.fnExactMruPolicy
open Go.RowKit
set_option maxHeartbeats 1000000 in
set_option maxRecDepth 100000 in
theorem s_yes (n : Nat) (h1 : 1 ≤ n) (h6 : n ≤ 6) (hw : isW (n : Int) = true) (w : World) : Calls Try.prog 18 #[.int .i64 (n : Nat)] w (ResP (polP n (oldO n) n) (rowL n sameO) true w) := by
  have HT := Lib.hid (fun w => mru_s n h1 h6 w)
  have HW := Lib.hid (fun w => ways_s (n : Int) w)
  rw [hw] at HW
  clear hw
  go_enter Try.func18, Try.ntmps18
  go_wp2_with (go_at_call 35; refine (HW.out _).mono ?_; rintro e w' ⟨rfl, rfl⟩)
  refine (HT.out _).mono ?_
  rintro e w1 ⟨v, rfl, ov, b1⟩
  obtain ⟨a1, n1, c1, a2, n2, c2, fv⟩ := ov.form
  subst fv
  obtain ⟨r0, r1, q0, q1⟩ := resP b1
  have HB := Lib.hid (fun u u' => belP b1 u u')
  have HO := Lib.hid (fun u u' => outP ov u u')
  clear ov b1
  go_wp2
  refine bodyPost_ret (v := .tuple #[.agg #[.slice a1 n1 c1, .slice a2 n2 c2], .bool true]) (by simp [results, Try.results18, go_sem, r0, r1, q0, q1]) rfl ⟨_, rfl, HO.out _ _, HB.out _ _⟩
theorem pol_y (n : Nat) (h1 : 1 ≤ n) (h6 : n ≤ 6) (pb : Nat) (w : World) (hc : w.cell? ⟨pb, 0, none⟩ = some (.int .i64 (n : Nat))) : Calls Try.prog 32 #[.int .i64 (n : Nat), .func (.func 43) #[] #[.pointer (some ⟨pb, 0, none⟩)], six 0 1 2 3 4 5] w (RetP (polP n (oldO n) n) (rowL n sameO) w) :=
  policyOf_old n h1 h6 (oldO n) 0 1 2 3 4 5 pb w (fun age ha w' hb => mru1_i n age pb h6 ha w' ((hb.cell (p := ⟨pb, 0, none⟩) (World.block_lt_of_cell? w _ hc)).trans hc)) (rowL n sameO) (fun w' => first_row n h6 sameO w' _)
theorem drewB' {w w' : World} (h : Below w.drew.heap.size w.drew w') : Below w.heap.size w w' := (Below.refl _ w).drew.trans h
set_option maxHeartbeats 2000000 in
set_option maxRecDepth 100000 in
theorem i_yes (n : Nat) (h1 : 1 ≤ n) (h6 : n ≤ 6) (hw : isW (n : Int) = true) (w : World) : Calls Try.prog 19 #[.int .i64 (n : Nat)] w (ResP (polP n (oldO n) n) (rowL n sameO) true w) := by
  have HT := Lib.hid (fun w => same_i w)
  have HP := Lib.hid (fun (w' : World) (hc : w'.cell? ⟨w.heap.size, 0, none⟩ = some (.int .i64 (n : Nat))) => pol_y n h1 h6 w.heap.size w' hc)
  have HW := Lib.hid (fun w => ways_i (n : Int) w)
  rw [hw] at HW
  clear hw
  have hsz : (w.alloc (.cells #[.int .i64 (n : Int)] 2)).heap.size = w.heap.size + 1 := Array.size_push _
  have hsz2 : ((w.alloc (.cells #[.int .i64 (n : Int)] 2)).alloc (.cells #[.slice none 0 0, .slice none 0 0] 25)).heap.size = w.heap.size + 2 := by simp
  have HC := Lib.hid (fun (w0 : World) (b0 : Below ((w.alloc (.cells #[.int .i64 (n : Int)] 2)).alloc (.cells #[.slice none 0 0, .slice none 0 0] 25)).heap.size ((w.alloc (.cells #[.int .i64 (n : Int)] 2)).alloc (.cells #[.slice none 0 0, .slice none 0 0] 25)) w0) => (show w0.cell? ⟨w.heap.size, 0, none⟩ = some (.int .i64 (n : Int)) from
    (b0.cell (p := ⟨w.heap.size, 0, none⟩) (by show w.heap.size < _; omega)).trans (by simp [go_sem])))
  have HR := Lib.hid (fun (w1 : World) (b1 : Below ((w.alloc (.cells #[.int .i64 (n : Int)] 2)).alloc (.cells #[.slice none 0 0, .slice none 0 0] 25)).heap.size ((w.alloc (.cells #[.int .i64 (n : Int)] 2)).alloc (.cells #[.slice none 0 0, .slice none 0 0] 25)) w1) => (show w1.cell? ⟨w.heap.size + 1, 0, none⟩ = some (.slice none 0 0) ∧ w1.cell? ⟨w.heap.size + 1, 1, none⟩ = some (.slice none 0 0) ∧ w1.frozen? ⟨w.heap.size + 1, 0, none⟩ = false ∧ w1.frozen? ⟨w.heap.size + 1, 1, none⟩ = false by
    have h := resP b1
    rw [hsz] at h
    exact h))
  have HB := Lib.hid (fun (w1 : World) (b1 : Below ((w.alloc (.cells #[.int .i64 (n : Int)] 2)).alloc (.cells #[.slice none 0 0, .slice none 0 0] 25)).heap.size ((w.alloc (.cells #[.int .i64 (n : Int)] 2)).alloc (.cells #[.slice none 0 0, .slice none 0 0] 25)) w1) (u u' : Value) => (show Below w.heap.size w ((w1.setCell ⟨w.heap.size + 1, 0, none⟩ u).setCell ⟨w.heap.size + 1, 1, none⟩ u') by
    have h := belP b1 u u'
    rw [hsz] at h
    exact ((Below.refl w.heap.size w).alloc (Nat.le_refl _) _).trans (h.mono (by omega))))
  have HO := Lib.hid (fun (w1 : World) (v : Value) (ov : OwnP w1 ((w.alloc (.cells #[.int .i64 (n : Int)] 2)).alloc (.cells #[.slice none 0 0, .slice none 0 0] 25)).heap.size w1.heap.size v (polP n (oldO n) n) (rowL n sameO)) (u u' : Value) => (show OwnP ((w1.setCell ⟨w.heap.size + 1, 0, none⟩ u).setCell ⟨w.heap.size + 1, 1, none⟩ u') w.heap.size ((w1.setCell ⟨w.heap.size + 1, 0, none⟩ u).setCell ⟨w.heap.size + 1, 1, none⟩ u').heap.size v (polP n (oldO n) n) (rowL n sameO) by
    have h := outP ov u u'
    rw [hsz] at h
    exact h.mono (by omega)))
  clear hsz hsz2
  unfold six at HT HP
  go_enter Try.func19, Try.ntmps19
  go_wp2_with (go_at_call 37; refine (HW.out _).mono ?_; rintro e w' ⟨rfl, rfl⟩)
  generalize hWW : (w.alloc (.cells #[.int .i64 (n : Int)] 2)).alloc (.cells #[.slice none 0 0, .slice none 0 0] 25) = W at *
  have hcW := HC.out W (Below.refl _ _)
  clear hWW
  go_region_law (first | (go_simp; go_at_call 41; (with_reducible refine (HT.out _).mono ?_); rintro e w0 ⟨rfl, b0⟩; have hc0 := HC.out w0 (drewB' b0)) | (go_simp; go_at_call 32; (with_reducible refine (HP.out w0 hc0).mono ?_); rintro e w1 ⟨v, rfl, ov, b01⟩; have b1 := bt (drewB' b0) b01; have ov2 := ov.mono (B' := W.heap.size) (drewB' b0).size; obtain ⟨a1, n1, c1, a2, n2, c2, fv⟩ := ov2.form; subst fv; obtain ⟨r0, r1, q0, q1⟩ := HR.out w1 b1; have HBB := Lib.hid (HB.out w1 b1); have HOO := Lib.hid (HO.out w1 _ ov2); clear ov ov2 b01))
  all_goals
    clear b0 b1
    go_wp2
    refine bodyPost_ret (v := .tuple #[.agg #[.slice a1 n1 c1, .slice a2 n2 c2], .bool true]) (by simp [results, Try.results19, go_sem, r0, r1, q0, q1]) rfl ⟨_, rfl, HOO.out _ _, HBB.out _ _⟩
set_option maxHeartbeats 1000000 in
theorem s_no (n : Int) (hw : isW n = false) (w : World) : Calls Try.prog 18 #[.int .i64 n] w (ResP [] [] false w) := by
  have HW := Lib.hid (fun w => ways_s n w)
  rw [hw] at HW
  clear hw
  go_enter Try.func18, Try.ntmps18
  go_wp2_with (go_at_call 35; refine (HW.out _).mono ?_; rintro e w' ⟨rfl, rfl⟩)
  refine bodyPost_ret (v := .tuple #[.agg #[.slice none 0 0, .slice none 0 0], .bool false]) (by simp [results, Try.results18, go_sem]) rfl ⟨_, rfl, OwnP.nil _ _ _, ?_⟩
  go_grown
set_option maxHeartbeats 1000000 in
theorem i_no (n : Int) (hw : isW n = false) (w : World) : Calls Try.prog 19 #[.int .i64 n] w (ResP [] [] false w) := by
  have HW := Lib.hid (fun w => ways_i n w)
  rw [hw] at HW
  clear hw
  go_enter Try.func19, Try.ntmps19
  go_wp2_with (go_at_call 37; refine (HW.out _).mono ?_; rintro e w' ⟨rfl, rfl⟩)
  refine bodyPost_ret (v := .tuple #[.agg #[.slice none 0 0, .slice none 0 0], .bool false]) (by simp [results, Try.results19, go_sem]) rfl ⟨_, rfl, OwnP.nil _ _ _, ?_⟩
  go_grown
theorem walk (n0 : Int) (w : World) (_ : (Lit.int .i64 n0).wf = true) : Calls Try.prog 6 #[.int .i64 n0] w fun e w' => e = .returned (.bool true) ∧ Below w.heap.size w w' := by
  cases hw : isW n0
  · exact core n0 [] [] false (by decide) (by decide) (s_no n0 hw) (i_no n0 hw) w
  · obtain ⟨n, rfl, h1, h6⟩ := isW_nat hw
    exact core n _ _ true (pol_bd n h6 _ sameO).1 (pol_bd n h6 (oldO n) sameO).2 (s_yes n h1 h6 hw) (i_yes n h1 h6 hw) w
end Go.Proofs.Ythfgaoojgdikpaa.fnExactMruPolicy
