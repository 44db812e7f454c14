/- The walk of laws.FnExactTreePolicy: the call returns true and writes nothing that was there. -/
import Derived.Test.YthfgaoojgdikpaaCtree
import Derived.Test.YthfgaoojgdikpaaKTreePolicy
namespace Go.Proofs.Ythfgaoojgdikpaa.fnExactTreePolicy
open Go.RowKit
theorem resP {w w1 : World} (b1 : Below (w.alloc (.cells #[.slice none 0 0, .slice none 0 0] 25)).heap.size (w.alloc (.cells #[.slice none 0 0, .slice none 0 0] 25)) w1) :
    w1.cell? ⟨w.heap.size, 0, none⟩ = some (.slice none 0 0) ∧ w1.cell? ⟨w.heap.size, 1, none⟩ = some (.slice none 0 0) ∧ w1.frozen? ⟨w.heap.size, 0, none⟩ = false ∧ w1.frozen? ⟨w.heap.size, 1, none⟩ = false :=
  PolInv.res rfl (b1.mono (by simp)) (Below.refl _ _)
theorem belP {w w1 : World} (b1 : Below (w.alloc (.cells #[.slice none 0 0, .slice none 0 0] 25)).heap.size (w.alloc (.cells #[.slice none 0 0, .slice none 0 0] 25)) w1) (u u' : Value) :
    Below w.heap.size w ((w1.setCell ⟨w.heap.size, 0, none⟩ u).setCell ⟨w.heap.size, 1, none⟩ u') :=
  ((((Below.refl w.heap.size w).alloc (Nat.le_refl _) _).trans (b1.mono (by simp))).setCell (p := ⟨w.heap.size, 0, none⟩) (Nat.le_refl _) u).setCell (p := ⟨w.heap.size, 1, none⟩) (Nat.le_refl _) u'
theorem outP {w w1 : World} {v : Value} {hs : List (List Int)} {ms : List Int} (h : OwnP w1 (w.alloc (.cells #[.slice none 0 0, .slice none 0 0] 25)).heap.size w1.heap.size v hs ms) (u u' : Value) :
    OwnP ((w1.setCell ⟨w.heap.size, 0, none⟩ u).setCell ⟨w.heap.size, 1, none⟩ u') w.heap.size ((w1.setCell ⟨w.heap.size, 0, none⟩ u).setCell ⟨w.heap.size, 1, none⟩ u').heap.size v hs ms := by
  have e : ((w1.setCell ⟨w.heap.size, 0, none⟩ u).setCell ⟨w.heap.size, 1, none⟩ u').heap.size = w1.heap.size := by simp [World.setCell]
  rw [e]
  exact ret_pol w.heap.size w1 w1.heap.size v hs ms (h.mono (by simp)) u u'

set_option maxHeartbeats 1000000 in
set_option maxRecDepth 100000 in
theorem s_2 (w : World) : Calls Try.prog 9 #[.int .i64 2] w (ResP (polP 2 treO 2) (rowL 2 (treO 1)) true w) := by
  have HT := Lib.hid (fun w => tree_s2 w)
  go_enter Try.func9, Try.ntmps9
  go_wp2_with fail
  refine (HT.out _).mono ?_
  rintro e w1 ⟨v, rfl, ov, b1⟩
  obtain ⟨a1, n1, c1, a2, n2, c2, fv⟩ := ov.form
  subst fv
  obtain ⟨r0, r1, q0, q1⟩ := resP b1
  have HB := Lib.hid (fun u u' => belP b1 u u')
  have HO := Lib.hid (fun u u' => outP ov u u')
  clear ov b1
  go_wp2
  refine bodyPost_ret (v := .tuple #[.agg #[.slice a1 n1 c1, .slice a2 n2 c2], .bool true]) (by simp [results, Try.results9, go_sem, r0, r1, q0, q1]) rfl ⟨_, rfl, HO.out _ _, HB.out _ _⟩

theorem pol_2 (w : World) : Calls Try.prog 32 #[.int .i64 2, .func (.func 33) #[] #[], sixf (treO 1)] w (RetP (polP 2 treO 2) (rowL 2 (treO 1)) w) :=
  policyOf_tree 2 (by omega) (by omega) treO _ _ _ _ _ _ (fun age ha w' => by
    have : age = 0 ∨ age = 1 := by omega
    rcases this with rfl | rfl
    · exact tree_0 w'
    · exact tree_1 w')
    (rowL 2 (treO 1)) (fun w' => first_row 2 (by omega) (treO 1) w' _) w
set_option maxHeartbeats 1000000 in
set_option maxRecDepth 100000 in
theorem i_2 (w : World) : Calls Try.prog 10 #[.int .i64 2] w (ResP (polP 2 treO 2) (rowL 2 (treO 1)) true w) := by
  have HT := Lib.hid (fun w => tree_1 w)
  have HP := Lib.hid (fun w => pol_2 w)
  unfold sixf six at HT HP
  go_enter Try.func10, Try.ntmps10
  go_wp2_with fail
  refine (HT.out _).mono ?_
  rintro e w0 ⟨rfl, b0⟩
  go_wp2_with fail
  refine (HP.out _).mono ?_
  rintro e w1 ⟨v, rfl, ov, b01⟩
  have b1 := bt b0 b01
  have ov := ov.mono (B' := (w.alloc (.cells #[.slice none 0 0, .slice none 0 0] 25)).heap.size) b0.size
  clear b0 b01
  obtain ⟨a1, n1, c1, a2, n2, c2, fv⟩ := ov.form
  subst fv
  obtain ⟨r0, r1, q0, q1⟩ := resP b1
  have HB := Lib.hid (fun u u' => belP b1 u u')
  have HO := Lib.hid (fun u u' => outP ov u u')
  clear ov b1
  go_wp2
  refine bodyPost_ret (v := .tuple #[.agg #[.slice a1 n1 c1, .slice a2 n2 c2], .bool true]) (by simp [results, Try.results10, go_sem, r0, r1, q0, q1]) rfl ⟨_, rfl, HO.out _ _, HB.out _ _⟩

set_option maxHeartbeats 1000000 in
set_option maxRecDepth 100000 in
theorem s_4 (w : World) : Calls Try.prog 9 #[.int .i64 4] w (ResP (polP 4 treO 4) (rowL 4 (treO 3)) true w) := by
  have HT := Lib.hid (fun w => tree_s4 w)
  go_enter Try.func9, Try.ntmps9
  go_wp2_with fail
  refine (HT.out _).mono ?_
  rintro e w1 ⟨v, rfl, ov, b1⟩
  obtain ⟨a1, n1, c1, a2, n2, c2, fv⟩ := ov.form
  subst fv
  obtain ⟨r0, r1, q0, q1⟩ := resP b1
  have HB := Lib.hid (fun u u' => belP b1 u u')
  have HO := Lib.hid (fun u u' => outP ov u u')
  clear ov b1
  go_wp2
  refine bodyPost_ret (v := .tuple #[.agg #[.slice a1 n1 c1, .slice a2 n2 c2], .bool true]) (by simp [results, Try.results9, go_sem, r0, r1, q0, q1]) rfl ⟨_, rfl, HO.out _ _, HB.out _ _⟩

theorem pol_4 (w : World) : Calls Try.prog 32 #[.int .i64 4, .func (.func 33) #[] #[], sixf (treO 3)] w (RetP (polP 4 treO 4) (rowL 4 (treO 3)) w) :=
  policyOf_tree 4 (by omega) (by omega) treO _ _ _ _ _ _ (fun age ha w' => by
    have : age = 0 ∨ age = 1 ∨ age = 2 ∨ age = 3 := by omega
    rcases this with rfl | rfl | rfl | rfl
    · exact tree_0 w'
    · exact tree_1 w'
    · exact tree_2 w'
    · exact tree_3 w')
    (rowL 4 (treO 3)) (fun w' => first_row 4 (by omega) (treO 3) w' _) w
set_option maxHeartbeats 1000000 in
set_option maxRecDepth 100000 in
theorem i_4 (w : World) : Calls Try.prog 10 #[.int .i64 4] w (ResP (polP 4 treO 4) (rowL 4 (treO 3)) true w) := by
  have HT := Lib.hid (fun w => tree_3 w)
  have HP := Lib.hid (fun w => pol_4 w)
  unfold sixf six at HT HP
  go_enter Try.func10, Try.ntmps10
  go_wp2_with fail
  refine (HT.out _).mono ?_
  rintro e w0 ⟨rfl, b0⟩
  go_wp2_with fail
  refine (HP.out _).mono ?_
  rintro e w1 ⟨v, rfl, ov, b01⟩
  have b1 := bt b0 b01
  have ov := ov.mono (B' := (w.alloc (.cells #[.slice none 0 0, .slice none 0 0] 25)).heap.size) b0.size
  clear b0 b01
  obtain ⟨a1, n1, c1, a2, n2, c2, fv⟩ := ov.form
  subst fv
  obtain ⟨r0, r1, q0, q1⟩ := resP b1
  have HB := Lib.hid (fun u u' => belP b1 u u')
  have HO := Lib.hid (fun u u' => outP ov u u')
  clear ov b1
  go_wp2
  refine bodyPost_ret (v := .tuple #[.agg #[.slice a1 n1 c1, .slice a2 n2 c2], .bool true]) (by simp [results, Try.results10, go_sem, r0, r1, q0, q1]) rfl ⟨_, rfl, HO.out _ _, HB.out _ _⟩

set_option maxHeartbeats 1000000 in
theorem s_no (n : Int) (h2 : n ≠ 2) (h4 : n ≠ 4) (w : World) : Calls Try.prog 9 #[.int .i64 n] w (ResP [] [] false w) := by
  have e2 : (n != 2) = true := bne_iff_ne.2 h2
  have e4 : (n != 4) = true := bne_iff_ne.2 h4
  clear h2 h4
  go_enter Try.func9, Try.ntmps9
  go_wp2
  refine bodyPost_ret (v := .tuple #[.agg #[.slice none 0 0, .slice none 0 0], .bool false]) (by simp [results, Try.results9, go_sem]) rfl ⟨_, rfl, OwnP.nil _ _ _, ?_⟩
  go_grown
set_option maxHeartbeats 1000000 in
theorem i_no (n : Int) (h2 : n ≠ 2) (h4 : n ≠ 4) (w : World) : Calls Try.prog 10 #[.int .i64 n] w (ResP [] [] false w) := by
  have e2 : (n != 2) = true := bne_iff_ne.2 h2
  have e4 : (n != 4) = true := bne_iff_ne.2 h4
  clear h2 h4
  go_enter Try.func10, Try.ntmps10
  go_wp2
  refine bodyPost_ret (v := .tuple #[.agg #[.slice none 0 0, .slice none 0 0], .bool false]) (by simp [results, Try.results10, go_sem]) rfl ⟨_, rfl, OwnP.nil _ _ _, ?_⟩
  go_grown
theorem walk (n0 : Int) (w : World) (_ : (Lit.int .i64 n0).wf = true) : Calls Try.prog 3 #[.int .i64 n0] w fun e w' => e = .returned (.bool true) ∧ Below w.heap.size w w' := by
  by_cases h2 : n0 = 2
  · subst h2
    exact core 2 _ _ true (by decide) (by decide) s_2 i_2 w
  · by_cases h4 : n0 = 4
    · subst h4
      exact core 4 _ _ true (by decide) (by decide) s_4 i_4 w
    · exact core n0 [] [] false (by decide) (by decide) (s_no n0 h2 h4) (i_no n0 h2 h4) w
end Go.Proofs.Ythfgaoojgdikpaa.fnExactTreePolicy
