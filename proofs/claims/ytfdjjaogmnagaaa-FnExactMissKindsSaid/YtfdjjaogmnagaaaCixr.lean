/- The program's rows of an index: rowsOf, rowArray.setOf; both ValidIndex, both SetOf. -/
import Derived.Test.YtfdjjaogmnagaaaCixs
import Derived.Test.YtfdjjaogmnagaaaCbtg
import Derived.Deep.RegionLaw
import Derived.Laws.CopyOwn
namespace Go.Proofs.Ytfdjjaogmnagaaa.Ix
open Go.RowKit Tr Bt
theorem iszx : (Try.prog.info? 2).map (·.size) = some 1 := by kernel_rfl
/-- The value of three rows. -/
def aggR (r : Nat → Nat) : Value := .agg #[.int .i64 ((r 0 : Nat) : Int), .int .i64 ((r 1 : Nat) : Int), .int .i64 ((r 2 : Nat) : Int)]
def RowsR (r : Nat → Nat) (ok : Bool) (w : World) (e : Ending) (w' : World) : Prop := e = .returned (.tuple #[aggR r, .bool ok]) ∧ Below w.heap.size w w'
theorem okX_long {xs : List Int} (h : ¬ xs.length ≤ 3) : okX xs = false := by unfold okX; rw [decide_eq_false h]; rfl
theorem okX_short {xs : List Int} (h : xs.length ≤ 3) : okX xs = xs.all isA := by unfold okX; rw [decide_eq_true h]; rfl
set_option maxHeartbeats 1000000 in
theorem rows_no {v : Value} {xs : List Int} {w : World} (h : RdX w v xs) (hok : okX xs = false) :
    Calls Try.prog 21 #[v] w (RowsR (fun _ => 0) false w) := by
  obtain ⟨a, c, rfl, hr, hn, _⟩ := h
  by_cases hl : xs.length ≤ 3
  · rw [okX_short hl] at hok
    have b0 : Below w.heap.size w ((w.alloc (.cells #[.slice a xs.length c] 28)).alloc (.cells #[.int .i64 0, .int .i64 0, .int .i64 0] 44)) := ((Below.refl _ w).alloc (Nat.le_refl _) _).alloc (by simp) _
    have HA := Lib.hid (are_i a c xs _ hn (hr.below b0))
    rw [hok] at HA
    have B0 := Lib.hid b0
    clear hr hok b0 hn
    generalize xs.length = N at *
    go_enter Try.func21, Try.ntmps21
    go_wp2_with (go_at_call 33; refine HA.out.mono ?_; rintro e w' ⟨rfl, rfl⟩)
    refine bodyPost_ret (v := .tuple #[.agg #[.int .i64 0, .int .i64 0, .int .i64 0], .bool false]) (by simp [results, Try.results21, go_sem]) rfl ⟨rfl, ?_⟩
    repeat (first | exact B0.out | refine Below.setCell ?_ (by simp) _)
  · have hl' : (3 : Int) < (xs.length : Int) := by omega
    have b0 : Below w.heap.size w ((w.alloc (.cells #[.slice a xs.length c] 28)).alloc (.cells #[.int .i64 0, .int .i64 0, .int .i64 0] 44)) := ((Below.refl _ w).alloc (Nat.le_refl _) _).alloc (by simp) _
    have B0 := Lib.hid b0
    clear hr hok b0 hn
    generalize xs.length = N at *
    go_enter Try.func21, Try.ntmps21
    go_wp2_with fail
    refine bodyPost_ret (v := .tuple #[.agg #[.int .i64 0, .int .i64 0, .int .i64 0], .bool false]) (by simp [results, Try.results21, go_sem]) rfl ⟨rfl, ?_⟩
    repeat (first | exact B0.out | refine Below.setCell ?_ (by simp) _)
theorem pad_at (ns : List Nat) (hn : ns.length ≤ 3) : splice [Value.int .i64 0, .int .i64 0, .int .i64 0] 0 ((castL ns).map (Value.int .i64)) = [.int .i64 ((pad ns 0 : Nat) : Int), .int .i64 ((pad ns 1 : Nat) : Int), .int .i64 ((pad ns 2 : Nat) : Int)] := by
  match ns, hn with
  | [], _ => rfl
  | [a], _ => rfl
  | [a, b], _ => rfl
  | [a, b, c], _ => rfl
set_option maxHeartbeats 200000 in
theorem rows_yes {v : Value} {ns : List Nat} {w : World} (h : RdX w v (castL ns)) (hn3 : ns.length ≤ 3) (hok : okX (castL ns) = true) :
    Calls Try.prog 21 #[v] w (RowsR (pad ns) true w) := by
  obtain ⟨a, c, rfl, hr, hn, hlc⟩ := h
  rw [okX_short (by rw [castL_len]; exact hn3)] at hok
  rw [castL_len] at hlc
  have b0 : Below w.heap.size w ((w.alloc (.cells #[.slice a (castL ns).length c] 28)).alloc (.cells #[.int .i64 0, .int .i64 0, .int .i64 0] 44)) := ((Below.refl _ w).alloc (Nat.le_refl _) _).alloc (by simp) _
  have b1 : Below w.heap.size w (((w.alloc (.cells #[.slice a (castL ns).length c] 28)).alloc (.cells #[.int .i64 0, .int .i64 0, .int .i64 0] 44)).alloc (.cells #[.int .i64 0, .int .i64 0, .int .i64 0] 44)) := (((Below.refl _ w).alloc (Nat.le_refl _) _).alloc (by simp) _).alloc (by simp; omega) _
  have HA := Lib.hid (are_i a c (castL ns) _ hn (hr.below b0))
  rw [hok] at HA
  have hz2 : ((w.alloc (.cells #[.slice a (castL ns).length c] 28)).alloc (.cells #[.int .i64 0, .int .i64 0, .int .i64 0] 44)).heap.size = w.heap.size + 1 + 1 := (Array.size_push _).trans (by rw [show (w.alloc (.cells #[.slice a (castL ns).length c] 28)).heap.size = w.heap.size + 1 from Array.size_push _])
  have xr := (Kb.new (w.alloc (.cells #[.slice a (castL ns).length c] 28)) (w.heap.size + 1) [.int .i64 0, .int .i64 0, .int .i64 0] 44 (by simp)).alloc (.cells #[.int .i64 0, .int .i64 0, .int .i64 0] 44)
  have xg := Kb.new ((w.alloc (.cells #[.slice a (castL ns).length c] 28)).alloc (.cells #[.int .i64 0, .int .i64 0, .int .i64 0] 44)) (w.heap.size + 1 + 1) [.int .i64 0, .int .i64 0, .int .i64 0] 44 hz2.symm
  have hr1 := hr.below b1
  have HSP := Lib.hid (pad_at ns hn3)
  have HLC := Lib.hid (show ((castL ns).map (Value.int .i64)).length = ns.length by rw [List.length_map, castL_len])
  have HCS := Lib.hid (fun (j : Nat) (v : Value) (hj : ((castL ns).map (Value.int .i64))[j]? = some v) => (show j < (castL ns).length ∧ v = .int .i64 ((castL ns).getD j 0) from by
    rw [List.getElem?_map] at hj
    cases hx : (castL ns)[j]? with
    | none => rw [hx] at hj; cases hj
    | some x =>
      rw [hx] at hj
      injection hj with hj
      exact ⟨(List.getElem?_eq_some_iff.1 hx).1, by rw [← hj, List.getD_eq_getElem?_getD, hx]; rfl⟩))
  have HPOS := Lib.hid (fun (h0 : 0 < ((castL ns).map (Value.int .i64)).length) => (show ∃ ad, a = some ad ∧ ∀ j v, ((castL ns).map (Value.int .i64))[j]? = some v → (((w.alloc (.cells #[.slice a (castL ns).length c] 28)).alloc (.cells #[.int .i64 0, .int .i64 0, .int .i64 0] 44)).alloc (.cells #[.int .i64 0, .int .i64 0, .int .i64 0] 44)).cell? (ad.add j) = some v from by
    obtain ⟨b, off, ha, _, _⟩ := hr1 0 (by rw [List.length_map] at h0; exact h0)
    refine ⟨⟨b, off, none⟩, ha, fun j v hj => ?_⟩
    obtain ⟨h1, rfl⟩ := HCS.out j v hj
    obtain ⟨b', off', ha', hc', _⟩ := hr1 j h1
    rw [ha] at ha'
    injection ha' with ha'
    injection ha' with e1 e2
    subst e1 e2
    rw [Go.WideShapes.add_plain]
    exact hc'))
  have HON := Lib.hid (show ∀ v ∈ (castL ns).map (Value.int .i64), v.oneCell' = true from fun v hv => by
    obtain ⟨x, _, rfl⟩ := List.mem_map.1 hv
    rfl)
  have HXR := Lib.hid xr
  have HXG := Lib.hid xg
  have B1 := Lib.hid b1
  have hNN := castL_len ns
  clear hr hok b0 b1 hn hz2 xr xg hr1 HCS
  generalize (castL ns).length = N' at *
  generalize ns.length = N at *
  subst hNN
  generalize (castL ns).map (Value.int .i64) = cs at *
  generalize hr0 : pad ns 0 = r0 at *
  generalize hr1 : pad ns 1 = r1 at *
  generalize hr2 : pad ns 2 = r2 at *
  have HP := Lib.hid (show aggR (pad ns) = .agg #[.int .i64 (r0 : Int), .int .i64 (r1 : Int), .int .i64 (r2 : Int)] by unfold aggR; rw [hr0, hr1, hr2])
  clear hr0 hr1 hr2
  unfold RowsR
  rw [HP.out]
  have hl' : ¬ (3 : Int) < (N' : Int) := by omega
  go_enter Try.func21, Try.ntmps21
  go_wp2_with (go_at_call 33; refine HA.out.mono ?_; rintro e w' ⟨rfl, rfl⟩)
  go_region_law (refine step_copy_splice rfl (.tmp 16) (.tmp 18) 22 22 rfl 2 Try.underlying22 iszx (some ⟨w.heap.size + 1 + 1, 0, none⟩) a 3 3 N' c (by simp [Act.eval, Act.put]) (by simp [Act.eval, Act.put]) (w.heap.size + 1 + 1) 0 [.int .i64 0, .int .i64 0, .int .i64 0] 44 HXG.out cs (by rw [HLC.out]; exact (Nat.min_eq_left (by omega)).symm) (fun h => ⟨rfl, HPOS.out h⟩) (by rw [HLC.out]; simp; omega) HON.out (w.heap.size + 1 + 1) _ (Below.refl _ _) (Nat.le_refl _) ?_; intro w4 hg4 hb4)
  have xg4 : Kb w4 (w.heap.size + 1 + 1) [.int .i64 (r0 : Int), .int .i64 (r1 : Int), .int .i64 (r2 : Int)] 44 := by
    have h := hg4.out
    rw [HSP.out] at h
    exact h
  have xr4 : Kb w4 (w.heap.size + 1) [.int .i64 0, .int .i64 0, .int .i64 0] 44 := (hb4.block (w.heap.size + 1) (by omega)).trans HXR.out
  have g0 : w4.cell? ⟨w.heap.size + 1 + 1, 0, none⟩ = some (.int .i64 (r0 : Int)) := xg4.cell 0
  have g1 : w4.cell? ⟨w.heap.size + 1 + 1, 1, none⟩ = some (.int .i64 (r1 : Int)) := xg4.cell 1
  have g2 : w4.cell? ⟨w.heap.size + 1 + 1, 2, none⟩ = some (.int .i64 (r2 : Int)) := xg4.cell 2
  have t0 : w4.cell? ⟨w.heap.size + 1, 0, none⟩ = some (.int .i64 0) := xr4.cell 0
  have t1 : w4.cell? ⟨w.heap.size + 1, 1, none⟩ = some (.int .i64 0) := xr4.cell 1
  have t2 : w4.cell? ⟨w.heap.size + 1, 2, none⟩ = some (.int .i64 0) := xr4.cell 2
  have f0 := xr4.froz 0
  have f1 := xr4.froz 1
  have f2 := xr4.froz 2
  have B4 := Lib.hid ((B1.out.drew).trans (hb4.mono (by omega)))
  clear xg4 xr4 hg4 hb4
  go_wp2
  refine bodyPost_ret (v := .tuple #[.agg #[.int .i64 (r0 : Int), .int .i64 (r1 : Int), .int .i64 (r2 : Int)], .bool true]) (by simp [results, Try.results21, go_sem, t0, t1, t2, f0, f1, f2]) rfl ⟨rfl, ?_⟩
  repeat (first | exact B4.out | refine Below.setCell ?_ (by simp) _)
theorem index3 (r : Nat → Nat) (j : Nat) (hj : j < 3) (w : World) : (Instr.index 44 (aggR r) (.int .i64 (j : Int))).run Try.prog w = .ok (.int .i64 ((r j : Nat) : Int)) w := by
  unfold aggR
  obtain rfl | rfl | rfl : j = 0 ∨ j = 1 ∨ j = 2 := by omega
  all_goals kernel_rfl
set_option maxHeartbeats 1000000 in
/-- rowArray.setOf: the set of an address. -/
theorem setof_i (r : Nat → Nat) (x : Nat) (w : World) (hr : ∀ i, i < 3 → r i < 64) (hx : x < 64) :
    Calls Try.prog 36 #[aggR r, .int .i64 x] w (Nb ((setF r x 3 : Nat) : Int) w) := by
  have b0 : Below w.heap.size w (w.alloc (.cells #[.int .i64 ((r 0 : Nat) : Int), .int .i64 ((r 1 : Nat) : Int), .int .i64 ((r 2 : Nat) : Int)] 44)) := (Below.refl _ w).alloc (Nat.le_refl _) _
  have B0 := Lib.hid b0
  have HST := Lib.hid (fun j hj p hp => set_step r x j hj p hp)
  have H0 := Lib.hid (show setF r x 0 = 0 from rfl)
  have HI := Lib.hid (fun j hj w9 => index3 r j hj w9)
  have HPI := Lib.hid (fun (j : Nat) (hj : j < 3) (w9 : World) => (show Calls Try.prog 44 #[.int .i64 x, .int .i64 ((r j : Nat) : Int)] w9 (fun e w' => e = .returned (.tuple #[.int .i64 ((par (r j &&& x) : Nat) : Int), .bool true]) ∧ w9 = w') from by
    have h := par_yes_i x (r j) w9 (by omega) (by have := hr j hj; omega)
    rw [Nat.and_comm] at h
    exact h))
  clear b0 hr
  unfold aggR at *
  generalize setF r x = S at *
  go_enter Try.func36, Try.ntmps36
  go_wp2
  go_loop [5, 11] (fun o i => ∃ j : Nat, j ≤ 3 ∧ i = .int .i64 j ∧ o = .int .i64 ((S j : Nat) : Int)) (fun _ i => 3 - (intOf i).toNat)
  case atStart => exact ⟨0, by omega, rfl, by rw [H0.out]; rfl⟩
  case round =>
    obtain ⟨j, hj, rfl, rfl⟩ := hrel
    by_cases hlt : j < 3
    · have hi := HI.out j hlt
      have hP := Lib.hid (HPI.out j hlt)
      obtain ⟨hp, hs4, hw, ho⟩ := HST.out j hlt _ rfl
      generalize hrj : r j = u at hi hP hp hs4 hw ho
      clear hrj
      generalize par (u &&& x) = p at *
      generalize S j = o at *
      generalize hq : p * 2 ^ j = q at *
      obtain ⟨o', ho'⟩ : ∃ o', S (j + 1) = o' := ⟨_, rfl⟩
      rw [ho'] at ho
      have HSJ := Lib.hid ho'
      clear hq ho'
      go_wp2_with (go_at_call 44; refine (hP.out _).mono ?_; rintro e w' ⟨rfl, rfl⟩)
      go_round
      case rel => exact ⟨j + 1, by omega, by go_num, by rw [HSJ.out]⟩
      case measure => simp [intOf]; omega
    · obtain rfl : j = 3 := by omega
      go_wp2
      go_ret
      exact ⟨rfl, B0.out⟩
/-- The value of SetOf. -/
def setV (xs : List Int) (x : Int) : Int := if okX xs && isA x then ((setF (fun i => (xs.getD i 0).toNat) x.toNat 3 : Nat) : Int) else 0
theorem setV_no {xs : List Int} {x : Int} (h : (okX xs && isA x) = false) : setV xs x = 0 := by unfold setV; rw [h]; rfl
theorem pad_fun (ns : List Nat) : (fun i => ((castL ns).getD i 0).toNat) = pad ns := funext fun i => by rw [castL_get]; rfl
theorem setV_yes {ns : List Nat} {x : Nat} (h : (okX (castL ns) && isA x) = true) : setV (castL ns) (x : Int) = ((setF (pad ns) x 3 : Nat) : Int) := by
  unfold setV; rw [h, pad_fun]; rfl
end Go.Proofs.Ytfdjjaogmnagaaa.Ix
