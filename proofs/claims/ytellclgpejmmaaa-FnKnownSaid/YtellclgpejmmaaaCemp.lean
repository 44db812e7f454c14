/- Contents without addresses: the contracts of both EmptyContents. -/
import Derived.Test.YtellclgpejmmaaaCvp
import Derived.Test.YtellclgpejmmaaaCpof
import Derived.Test.YtellclgpejmmaaaCappg
import Derived.Deep.RegionHeld3
namespace Go.Proofs.Ytellclgpejmmaaa.Pv
open Go.RowKit
def emptyL (n : Nat) : List Int := List.replicate n (-1)
theorem emptyL_len (n : Nat) : (emptyL n).length = n := by simp [emptyL]
def empV (b : Bool) (n : Nat) : List Int := if b then emptyL n else []
theorem empV_len (b : Bool) (n : Nat) : (empV b n).length ≤ n := by cases b <;> simp [empV, emptyL]
theorem emptyL_succ (n : Nat) : emptyL (n + 1) = emptyL n ++ [-1] := by simp [emptyL, List.replicate_succ']
set_option maxHeartbeats 1000000 in
set_option maxRecDepth 100000 in
theorem empty6_i (w : World) : Calls Try.prog 34 #[] w (RetB (six (-1) (-1) (-1) (-1) (-1) (-1)) w) := by
  go_enter Try.func34, Try.ntmps34
  go_wp2
  refine wp_loop_rounds 7 ?_
  rw [rounds_succ]
  go_wp2
  rw [rounds_succ]
  go_wp2
  rw [rounds_succ]
  go_wp2
  rw [rounds_succ]
  go_wp2
  rw [rounds_succ]
  go_wp2
  rw [rounds_succ]
  go_wp2
  rw [rounds_succ]
  go_wp2
  refine bodyPost_ret (v := six (-1) (-1) (-1) (-1) (-1) (-1)) (by simp [six, results, Try.results34, go_sem]) rfl ⟨rfl, ?_⟩
  go_grown
/-- What a function leaves that returns a list of its own in a block of whatever type, and whether it succeeded. -/
def ResW (xs : List Int) (ok : Bool) (w : World) (e : Ending) (w' : World) : Prop := ∃ v, e = .returned (.tuple #[v, .bool ok]) ∧ OwnW w' w.heap.size v xs ∧ Below w.heap.size w w'
theorem rowL_empty (n : Nat) : rowL n (fun _ => -1) = emptyL n := by
  unfold rowL emptyL
  rw [List.map_const', List.length_range]
theorem rulC_ways (n : Nat) (hs : List (List Int)) (ms : List Int) : (rulC true n hs ms)[0]? = some (.int .i64 n) := rfl
set_option maxHeartbeats 2000000 in
set_option maxRecDepth 100000 in
theorem emp_i {v : Value} {hs : List (List Int)} {ms : List Int} {w : World} (h : RdP w v hs ms) : Calls Try.prog 16 #[v] w (ResW (empV (isP hs ms) ms.length) (isP hs ms) w) := by
  have h' := h
  obtain ⟨a, c, a', c', rfl, h1, h2, h3, h4, h5⟩ := h'
  have b0 := (Below.refl w.heap.size w).alloc (Nat.le_refl _) (.cells #[.slice a hs.length c, .slice a' ms.length c'] 29)
  have HR := Lib.hid (rules_any (w := w.alloc (.cells #[.slice a hs.length c, .slice a' ms.length c'] 29)) ⟨a, c, a', c', rfl, h1.below b0, h2, h3.below b0, h4, h5⟩)
  unfold RulR at HR
  have HL := Lib.hid (rulC_len (isP hs ms) ms.length hs ms)
  have H1 := Lib.hid (one_rulC (isP hs ms) ms.length hs ms)
  have HM := Lib.hid (fun h : isP hs ms = true => (show 1 ≤ ms.length ∧ ms.length ≤ 6 by unfold isP at h; simp only [Bool.and_eq_true, decide_eq_true_eq] at h; omega))
  have HC := Lib.hid (fun h : isP hs ms = true => (show (rulC (isP hs ms) ms.length hs ms)[0]? = some (.int .i64 ms.length) by rw [h]; exact rulC_ways _ _ _))
  have HE := Lib.hid (rowL_empty ms.length)
  clear h h1 h3 h5
  generalize rulC (isP hs ms) ms.length hs ms = rc at *
  generalize isP hs ms = r at *
  generalize hs.length = N at *
  generalize ms.length = M at *
  go_enter Try.func16, Try.ntmps16
  go_wp2_with fail
  refine HR.out.mono ?_; rintro e w1 ⟨rfl, b1⟩
  have B1 := Lib.hid (bt b0 b1)
  clear b0 b1
  go_wp2_with (with_reducible refine wpList_storeB rfl 60 (.tmp 4) (.tmp 9) rfl w1.heap.size 0 rc ?_ ?_ z43 60 ?_ ?_ ?_ ?_ ?_)
  · rfl
  · rfl
  · exact Blk.newAt _ _ _ _ rfl
  · rw [HL.out]; decide
  · rw [HL.out]; exact isz43
  · exact H1.out
  intro w2 hB2 hK
  rw [splice_all _ _ HL.out] at hB2
  have hb2 : Below w.heap.size w w2 := (B1.out.alloc (B1.out.size) _).trans (hK.out.below B1.out.size)
  have HB2 := Lib.hid hb2
  have hz2 := hb2.size
  clear hb2 hK HR B1
  cases r
  · go_wp2
    go_ret2
    exact ⟨_, rfl, OwnW.nil _ _, HB2.out⟩
  · obtain ⟨h1, h6⟩ := HM.out rfl
    have c0 : w2.cell? ⟨w1.heap.size, 0, none⟩ = some (.int .i64 M) := (hB2.out.cell 0).trans (HC.out rfl)
    have HCE := Lib.hid (empty6_i w2.drew)
    have HX := Lib.hid (fun (w' : World) (hb : Below w2.drew.heap.size w2.drew w') => (show w'.cell? ⟨w1.heap.size, 0, none⟩ = some (.int .i64 M) from (hb.cell (p := ⟨w1.heap.size, 0, none⟩) hB2.out.lt).trans c0))
    have HF := Lib.hid (fun (w' : World) => first_i M h1 h6 (-1) (-1) (-1) (-1) (-1) (-1) w')
    have HFR := Lib.hid (fun (w' : World) => first_row M h6 (fun _ => -1) w' 52)
    unfold six at HCE HF
    clear HL H1 HM HC hB2
    generalize w1.heap.size = X at *
    go_wp2
    go_region_held3 (fun w' => w'.cell? ⟨X, 0, none⟩ = some (.int .i64 M)) (first | exact c0 | exact HX.out _ b7 | exact HX.out _ (b7.alloc b7.size _)) (first | (go_at_call 34; (with_reducible refine HCE.out.mono ?_); rintro e w7 ⟨rfl, b7⟩) | (go_at_call 33; (with_reducible refine (HF.out _).mono ?_); rintro e w8 ⟨rfl, rfl⟩))
    all_goals
      have HRW := Lib.hid ((HFR.out w7).mono (B' := w.heap.size) (Nat.le_trans HB2.out.size b7.size))
      have HBE := Lib.hid (bt (bt HB2.out (drewB b7)) ((Below.refl w7.heap.size w7).alloc (Nat.le_refl _) (.cells (c6 (-1) (-1) (-1) (-1) (-1) (-1)) 52)))
      clear b7
      rw [HE.out] at HRW
      go_wp2
      go_ret2
      exact ⟨_, rfl, HRW.out, HBE.out⟩
end Go.Proofs.Ytellclgpejmmaaa.Pv
