/- The program's rows of an index: rowsOf, rowArray.setOf; both ValidIndex, both SetOf. -/
import Derived.Test.YtgfablkdfablfaaCixs
import Derived.Test.YtgfablkdfablfaaCbtg
import Derived.Deep.RegionLaw
import Derived.Laws.CopyOwn
namespace Go.Proofs.Ytgfablkdfablfaa.Ix
open Go.RowKit Tr Bt
theorem iszx : (Try.prog.info? 2).map (·.size) = some 1 := by kernel_rfl
/-- The value of three rows. -/
def aggR (r : Nat → Nat) : Value := .agg #[.int .i64 ((r 0 : Nat) : Int), .int .i64 ((r 1 : Nat) : Int), .int .i64 ((r 2 : Nat) : Int)]
def RowsR (r : Nat → Nat) (ok : Bool) (w : World) (e : Ending) (w' : World) : Prop := e = .returned (.tuple #[aggR r, .bool ok]) ∧ Below w.heap.size w w'
theorem okX_long {xs : List Int} (h : ¬ xs.length ≤ 3) : okX xs = false := by unfold okX; rw [decide_eq_false h]; rfl
theorem okX_short {xs : List Int} (h : xs.length ≤ 3) : okX xs = xs.all isA := by unfold okX; rw [decide_eq_true h]; rfl
set_option maxHeartbeats 1000000 in
theorem rows_no {v : Value} {xs : List Int} {w : World} (h : RdX w v xs) (hok : okX xs = false) :
    Calls Try.prog 29 #[v] w (RowsR (fun _ => 0) false w) := by
  obtain ⟨a, c, rfl, hr, hn, _⟩ := h
  by_cases hl : xs.length ≤ 3
  · rw [okX_short hl] at hok
    have b0 : Below w.heap.size w ((w.alloc (.cells #[.slice a xs.length c] 27)).alloc (.cells #[.int .i64 0, .int .i64 0, .int .i64 0] 46)) := ((Below.refl _ w).alloc (Nat.le_refl _) _).alloc (by simp) _
    have HA := Lib.hid (are_i a c xs _ hn (hr.below b0))
    rw [hok] at HA
    have B0 := Lib.hid b0
    clear hr hok b0 hn
    generalize xs.length = N at *
    go_enter Try.func29, Try.ntmps29
    go_wp2_with (go_at_call 42; refine HA.out.mono ?_; rintro e w' ⟨rfl, rfl⟩)
    refine bodyPost_ret (v := .tuple #[.agg #[.int .i64 0, .int .i64 0, .int .i64 0], .bool false]) (by simp [results, Try.results29, go_sem]) rfl ⟨rfl, ?_⟩
    repeat (first | exact B0.out | refine Below.setCell ?_ (by simp) _)
  · have hl' : (3 : Int) < (xs.length : Int) := by omega
    have b0 : Below w.heap.size w ((w.alloc (.cells #[.slice a xs.length c] 27)).alloc (.cells #[.int .i64 0, .int .i64 0, .int .i64 0] 46)) := ((Below.refl _ w).alloc (Nat.le_refl _) _).alloc (by simp) _
    have B0 := Lib.hid b0
    clear hr hok b0 hn
    generalize xs.length = N at *
    go_enter Try.func29, Try.ntmps29
    go_wp2_with fail
    refine bodyPost_ret (v := .tuple #[.agg #[.int .i64 0, .int .i64 0, .int .i64 0], .bool false]) (by simp [results, Try.results29, go_sem]) rfl ⟨rfl, ?_⟩
    repeat (first | exact B0.out | refine Below.setCell ?_ (by simp) _)
theorem pad_at (ns : List Nat) (hn : ns.length ≤ 3) : splice [Value.int .i64 0, .int .i64 0, .int .i64 0] 0 ((castL ns).map (Value.int .i64)) = [.int .i64 ((pad ns 0 : Nat) : Int), .int .i64 ((pad ns 1 : Nat) : Int), .int .i64 ((pad ns 2 : Nat) : Int)] := by
  match ns, hn with
  | [], _ => rfl
  | [a], _ => rfl
  | [a, b], _ => rfl
  | [a, b, c], _ => rfl
set_option maxHeartbeats 200000 in
theorem rows_yes {v : Value} {ns : List Nat} {w : World} (h : RdX w v (castL ns)) (hn3 : ns.length ≤ 3) (hok : okX (castL ns) = true) :
    Calls Try.prog 29 #[v] w (RowsR (pad ns) true w) := by
  obtain ⟨a, c, rfl, hr, hn, hlc⟩ := h
  rw [okX_short (by rw [castL_len]; exact hn3)] at hok
  rw [castL_len] at hlc
  have b0 : Below w.heap.size w ((w.alloc (.cells #[.slice a (castL ns).length c] 27)).alloc (.cells #[.int .i64 0, .int .i64 0, .int .i64 0] 46)) := ((Below.refl _ w).alloc (Nat.le_refl _) _).alloc (by simp) _
  have b1 : Below w.heap.size w (((w.alloc (.cells #[.slice a (castL ns).length c] 27)).alloc (.cells #[.int .i64 0, .int .i64 0, .int .i64 0] 46)).alloc (.cells #[.int .i64 0, .int .i64 0, .int .i64 0] 46)) := (((Below.refl _ w).alloc (Nat.le_refl _) _).alloc (by simp) _).alloc (by simp; omega) _
  have HA := Lib.hid (are_i a c (castL ns) _ hn (hr.below b0))
  rw [hok] at HA
  have hz2 : ((w.alloc (.cells #[.slice a (castL ns).length c] 27)).alloc (.cells #[.int .i64 0, .int .i64 0, .int .i64 0] 46)).heap.size = w.heap.size + 1 + 1 := (Array.size_push _).trans (by rw [show (w.alloc (.cells #[.slice a (castL ns).length c] 27)).heap.size = w.heap.size + 1 from Array.size_push _])
  have xr := (Kb.new (w.alloc (.cells #[.slice a (castL ns).length c] 27)) (w.heap.size + 1) [.int .i64 0, .int .i64 0, .int .i64 0] 46 (by simp)).alloc (.cells #[.int .i64 0, .int .i64 0, .int .i64 0] 46)
  have xg := Kb.new ((w.alloc (.cells #[.slice a (castL ns).length c] 27)).alloc (.cells #[.int .i64 0, .int .i64 0, .int .i64 0] 46)) (w.heap.size + 1 + 1) [.int .i64 0, .int .i64 0, .int .i64 0] 46 hz2.symm
  have hr1 := hr.below b1
  have HSP := Lib.hid (pad_at ns hn3)
  have HLC := Lib.hid (show ((castL ns).map (Value.int .i64)).length = ns.length by rw [List.length_map, castL_len])
  have HCS := Lib.hid (fun (j : Nat) (v : Value) (hj : ((castL ns).map (Value.int .i64))[j]? = some v) => (show j < (castL ns).length ∧ v = .int .i64 ((castL ns).getD j 0) from by
    rw [List.getElem?_map] at hj
    cases hx : (castL ns)[j]? with
    | none => rw [hx] at hj; cases hj
    | some x =>
      rw [hx] at hj
      injection hj with hj
      exact ⟨(List.getElem?_eq_some_iff.1 hx).1, by rw [← hj, List.getD_eq_getElem?_getD, hx]; rfl⟩))
  have HPOS := Lib.hid (fun (h0 : 0 < ((castL ns).map (Value.int .i64)).length) => (show ∃ ad, a = some ad ∧ ∀ j v, ((castL ns).map (Value.int .i64))[j]? = some v → (((w.alloc (.cells #[.slice a (castL ns).length c] 27)).alloc (.cells #[.int .i64 0, .int .i64 0, .int .i64 0] 46)).alloc (.cells #[.int .i64 0, .int .i64 0, .int .i64 0] 46)).cell? (ad.add j) = some v from by
    obtain ⟨b, off, ha, _, _⟩ := hr1 0 (by rw [List.length_map] at h0; exact h0)
    refine ⟨⟨b, off, none⟩, ha, fun j v hj => ?_⟩
    obtain ⟨h1, rfl⟩ := HCS.out j v hj
    obtain ⟨b', off', ha', hc', _⟩ := hr1 j h1
    rw [ha] at ha'
    injection ha' with ha'
    injection ha' with e1 e2
    subst e1 e2
    rw [Go.WideShapes.add_plain]
    exact hc'))
  have HON := Lib.hid (show ∀ v ∈ (castL ns).map (Value.int .i64), v.oneCell' = true from fun v hv => by
    obtain ⟨x, _, rfl⟩ := List.mem_map.1 hv
    rfl)
  have HXR := Lib.hid xr
  have HXG := Lib.hid xg
  have B1 := Lib.hid b1
  have hNN := castL_len ns
  clear hr hok b0 b1 hn hz2 xr xg hr1 HCS
  generalize (castL ns).length = N' at *
  generalize ns.length = N at *
  subst hNN
  generalize (castL ns).map (Value.int .i64) = cs at *
  generalize hr0 : pad ns 0 = r0 at *
  generalize hr1 : pad ns 1 = r1 at *
  generalize hr2 : pad ns 2 = r2 at *
  have HP := Lib.hid (show aggR (pad ns) = .agg #[.int .i64 (r0 : Int), .int .i64 (r1 : Int), .int .i64 (r2 : Int)] by unfold aggR; rw [hr0, hr1, hr2])
  clear hr0 hr1 hr2
  unfold RowsR
  rw [HP.out]
  have hl' : ¬ (3 : Int) < (N' : Int) := by omega
  go_enter Try.func29, Try.ntmps29
  go_wp2_with (go_at_call 42; refine HA.out.mono ?_; rintro e w' ⟨rfl, rfl⟩)
  go_region_law (refine step_copy_splice rfl (.tmp 16) (.tmp 18) 22 22 rfl 2 Try.underlying22 iszx (some ⟨w.heap.size + 1 + 1, 0, none⟩) a 3 3 N' c (by simp [Act.eval, Act.put]) (by simp [Act.eval, Act.put]) (w.heap.size + 1 + 1) 0 [.int .i64 0, .int .i64 0, .int .i64 0] 46 HXG.out cs (by rw [HLC.out]; exact (Nat.min_eq_left (by omega)).symm) (fun h => ⟨rfl, HPOS.out h⟩) (by rw [HLC.out]; simp; omega) HON.out (w.heap.size + 1 + 1) _ (Below.refl _ _) (Nat.le_refl _) ?_; intro w4 hg4 hb4)
  have xg4 : Kb w4 (w.heap.size + 1 + 1) [.int .i64 (r0 : Int), .int .i64 (r1 : Int), .int .i64 (r2 : Int)] 46 := by
    have h := hg4.out
    rw [HSP.out] at h
    exact h
  have xr4 : Kb w4 (w.heap.size + 1) [.int .i64 0, .int .i64 0, .int .i64 0] 46 := (hb4.block (w.heap.size + 1) (by omega)).trans HXR.out
  have g0 : w4.cell? ⟨w.heap.size + 1 + 1, 0, none⟩ = some (.int .i64 (r0 : Int)) := xg4.cell 0
  have g1 : w4.cell? ⟨w.heap.size + 1 + 1, 1, none⟩ = some (.int .i64 (r1 : Int)) := xg4.cell 1
  have g2 : w4.cell? ⟨w.heap.size + 1 + 1, 2, none⟩ = some (.int .i64 (r2 : Int)) := xg4.cell 2
  have t0 : w4.cell? ⟨w.heap.size + 1, 0, none⟩ = some (.int .i64 0) := xr4.cell 0
  have t1 : w4.cell? ⟨w.heap.size + 1, 1, none⟩ = some (.int .i64 0) := xr4.cell 1
  have t2 : w4.cell? ⟨w.heap.size + 1, 2, none⟩ = some (.int .i64 0) := xr4.cell 2
  have f0 := xr4.froz 0
  have f1 := xr4.froz 1
  have f2 := xr4.froz 2
  have B4 := Lib.hid ((B1.out.drew).trans (hb4.mono (by omega)))
  clear xg4 xr4 hg4 hb4
  go_wp2
  refine bodyPost_ret (v := .tuple #[.agg #[.int .i64 (r0 : Int), .int .i64 (r1 : Int), .int .i64 (r2 : Int)], .bool true]) (by simp [results, Try.results29, go_sem, t0, t1, t2, f0, f1, f2]) rfl ⟨rfl, ?_⟩
  repeat (first | exact B4.out | refine Below.setCell ?_ (by simp) _)
theorem index3 (r : Nat → Nat) (j : Nat) (hj : j < 3) (w : World) : (Instr.index 46 (aggR r) (.int .i64 (j : Int))).run Try.prog w = .ok (.int .i64 ((r j : Nat) : Int)) w := by
  unfold aggR
  obtain rfl | rfl | rfl : j = 0 ∨ j = 1 ∨ j = 2 := by omega
  all_goals kernel_rfl
set_option maxHeartbeats 1000000 in
/-- rowArray.setOf: the set of an address. -/
theorem setof_i (r : Nat → Nat) (x : Nat) (w : World) (hr : ∀ i, i < 3 → r i < 64) (hx : x < 64) :
    Calls Try.prog 33 #[aggR r, .int .i64 x] w (Nb ((setF r x 3 : Nat) : Int) w) := by
  have b0 : Below w.heap.size w (w.alloc (.cells #[.int .i64 ((r 0 : Nat) : Int), .int .i64 ((r 1 : Nat) : Int), .int .i64 ((r 2 : Nat) : Int)] 46)) := (Below.refl _ w).alloc (Nat.le_refl _) _
  have B0 := Lib.hid b0
  have HST := Lib.hid (fun j hj p hp => set_step r x j hj p hp)
  have H0 := Lib.hid (show setF r x 0 = 0 from rfl)
  have HI := Lib.hid (fun j hj w9 => index3 r j hj w9)
  have HPI := Lib.hid (fun (j : Nat) (hj : j < 3) (w9 : World) => (show Calls Try.prog 46 #[.int .i64 x, .int .i64 ((r j : Nat) : Int)] w9 (fun e w' => e = .returned (.tuple #[.int .i64 ((par (r j &&& x) : Nat) : Int), .bool true]) ∧ w9 = w') from by
    have h := par_yes_i x (r j) w9 (by omega) (by have := hr j hj; omega)
    rw [Nat.and_comm] at h
    exact h))
  clear b0 hr
  unfold aggR at *
  generalize setF r x = S at *
  go_enter Try.func33, Try.ntmps33
  go_wp2
  go_loop [5, 11] (fun o i => ∃ j : Nat, j ≤ 3 ∧ i = .int .i64 j ∧ o = .int .i64 ((S j : Nat) : Int)) (fun _ i => 3 - (intOf i).toNat)
  case atStart => exact ⟨0, by omega, rfl, by rw [H0.out]; rfl⟩
  case round =>
    obtain ⟨j, hj, rfl, rfl⟩ := hrel
    by_cases hlt : j < 3
    · have hi := HI.out j hlt
      have hP := Lib.hid (HPI.out j hlt)
      obtain ⟨hp, hs4, hw, ho⟩ := HST.out j hlt _ rfl
      generalize hrj : r j = u at hi hP hp hs4 hw ho
      clear hrj
      generalize par (u &&& x) = p at *
      generalize S j = o at *
      generalize hq : p * 2 ^ j = q at *
      obtain ⟨o', ho'⟩ : ∃ o', S (j + 1) = o' := ⟨_, rfl⟩
      rw [ho'] at ho
      have HSJ := Lib.hid ho'
      clear hq ho'
      go_wp2_with (go_at_call 46; refine (hP.out _).mono ?_; rintro e w' ⟨rfl, rfl⟩)
      go_round
      case rel => exact ⟨j + 1, by omega, by go_num, by rw [HSJ.out]⟩
      case measure => simp [intOf]; omega
    · obtain rfl : j = 3 := by omega
      go_wp2
      go_ret
      exact ⟨rfl, B0.out⟩
theorem valid_s {v : Value} {xs : List Int} {w : World} (h : RdX w v xs) :
    Calls Try.prog 9 #[v] w (Bb (okX xs) w) := by
  obtain ⟨a, c, rfl, hr, hn, _⟩ := h
  have b0 : Below w.heap.size w (w.alloc (.cells #[.slice a xs.length c] 27)) := (Below.refl _ w).alloc (Nat.le_refl _) _
  have H := Lib.hid (is_s w.heap.size a c xs _ hn (by simp) (hr.below b0))
  have B0 := Lib.hid b0
  clear hr b0 hn
  generalize okX xs = ok at *
  generalize xs.length = N at *
  go_enter Try.func9, Try.ntmps9
  go_wp2_with (go_at_call 27; refine H.out.mono ?_; rintro e w' ⟨rfl, rfl⟩)
  go_ret
  exact ⟨rfl, B0.out⟩
theorem valid_i {v : Value} {xs : List Int} {w : World} (h : RdX w v xs) :
    Calls Try.prog 11 #[v] w (Bb (okX xs) w) := by
  have HR := Lib.hid (show ∃ r, ∀ w9, Below w.heap.size w w9 → Calls Try.prog 29 #[v] w9 (RowsR r (okX xs) w9) from by
    cases hok : okX xs
    · exact ⟨_, fun w9 hb => rows_no (h.below hb) hok⟩
    · obtain ⟨ns, rfl, hl, h64⟩ := okX_nat hok
      exact ⟨_, fun w9 hb => rows_yes (h.below hb) hl hok⟩)
  obtain ⟨a, c, rfl, hr, hn, _⟩ := h
  have b0 : Below w.heap.size w (w.alloc (.cells #[.slice a xs.length c] 27)) := (Below.refl _ w).alloc (Nat.le_refl _) _
  obtain ⟨r, hR⟩ := HR.out
  have H := Lib.hid (hR _ b0)
  unfold RowsR aggR at H
  have B0 := Lib.hid b0
  clear hr b0 hn HR hR
  generalize okX xs = ok at *
  generalize xs.length = N at *
  go_enter Try.func11, Try.ntmps11
  go_wp2_with (go_at_call 29; refine H.out.mono ?_; rintro e w1 ⟨rfl, b1⟩)
  go_ret
  exact ⟨rfl, (bt B0.out b1).alloc (by have := B0.out.size; have := b1.size; omega) _⟩
/-- The value of SetOf. -/
def setV (xs : List Int) (x : Int) : Int := if okX xs && isA x then ((setF (fun i => (xs.getD i 0).toNat) x.toNat 3 : Nat) : Int) else 0
theorem setV_no {xs : List Int} {x : Int} (h : (okX xs && isA x) = false) : setV xs x = 0 := by unfold setV; rw [h]; rfl
theorem pad_fun (ns : List Nat) : (fun i => ((castL ns).getD i 0).toNat) = pad ns := funext fun i => by rw [castL_get]; rfl
theorem setV_yes {ns : List Nat} {x : Nat} (h : (okX (castL ns) && isA x) = true) : setV (castL ns) (x : Int) = ((setF (pad ns) x 3 : Nat) : Int) := by
  unfold setV; rw [h, pad_fun]; rfl
theorem setof_sL {v : Value} {xs : List Int} {w : World} (h : RdX w v xs) (x : Int) :
    Calls Try.prog 13 #[v, .int .i64 x] w (IbX (setV xs x) (okX xs && isA x) w) := by
  cases hb : (okX xs && isA x)
  · rw [setV_no hb]
    obtain ⟨a, c, rfl, hr, hn, _⟩ := h
    have b0 : Below w.heap.size w (w.alloc (.cells #[.slice a xs.length c] 27)) := (Below.refl _ w).alloc (Nat.le_refl _) _
    have H := Lib.hid (is_s w.heap.size a c xs _ hn (by simp) (hr.below b0))
    have HA := Lib.hid (fun w9 => addr_s x w9)
    have B0 := Lib.hid b0
    clear hr b0 hn
    generalize xs.length = N at *
    cases ho : okX xs
    · rw [ho] at H
      clear ho hb
      go_enter Try.func13, Try.ntmps13
      go_wp2_with (go_at_call 27; refine H.out.mono ?_; rintro e w' ⟨rfl, rfl⟩)
      go_ret2
      exact ⟨rfl, B0.out⟩
    · rw [ho] at H
      rw [ho, Bool.true_and] at hb
      rw [hb] at HA
      clear ho hb
      go_enter Try.func13, Try.ntmps13
      go_wp2_with (first | (go_at_call 27; refine H.out.mono ?_; rintro e w' ⟨rfl, rfl⟩) | (go_at_call 30; refine (HA.out _).mono ?_; rintro e w' ⟨rfl, rfl⟩))
      go_ret2
      exact ⟨rfl, B0.out⟩
  · have hb' := hb
    rw [Bool.and_eq_true] at hb'
    obtain ⟨ns, rfl, hl, h64⟩ := okX_nat hb'.1
    obtain ⟨hx0, hx1⟩ := isA_of hb'.2
    obtain ⟨y, rfl⟩ := Int.eq_ofNat_of_zero_le hx0
    rw [setV_yes hb, ← setF_pad ns y hl]
    obtain ⟨a, c, rfl, hr, hn, _⟩ := h
    have b0 : Below w.heap.size w (w.alloc (.cells #[.slice a (castL ns).length c] 27)) := (Below.refl _ w).alloc (Nat.le_refl _) _
    have H := Lib.hid (is_s w.heap.size a c (castL ns) _ hn (by simp) (hr.below b0))
    have HA := Lib.hid (fun w9 => addr_s (y : Int) w9)
    have HS := Lib.hid (set_s a c ns y _ hl h64 (by omega) (hr.below b0))
    rw [hb'.1] at H
    rw [hb'.2] at HA
    have B0 := Lib.hid b0
    have hNN := castL_len ns
    clear hr b0 hn hb hb' h64 hx0 hx1
    generalize (castL ns).length = N' at *
    generalize setF (pad ns) y ns.length = q at *
    generalize ns.length = N at *
    subst hNN
    go_enter Try.func13, Try.ntmps13
    go_wp2_with (first | (go_at_call 27; refine H.out.mono ?_; rintro e w' ⟨rfl, rfl⟩) | (go_at_call 30; refine (HA.out _).mono ?_; rintro e w' ⟨rfl, rfl⟩) | (go_at_call 31; refine HS.out.mono ?_; rintro e w' ⟨rfl, rfl⟩))
    go_ret2
    exact ⟨rfl, B0.out⟩
theorem setof_iL {v : Value} {xs : List Int} {w : World} (h : RdX w v xs) (x : Int) :
    Calls Try.prog 14 #[v, .int .i64 x] w (IbX (setV xs x) (okX xs && isA x) w) := by
  have HAA := Lib.hid (fun w9 => addr_i x w9)
  cases ho : okX xs
  · have hno : (okX xs && isA x) = false := by rw [ho]; rfl
    rw [setV_no hno]
    have HR := Lib.hid (fun w9 (hb : Below w.heap.size w w9) => rows_no (h.below hb) ho)
    obtain ⟨a, c, rfl, _, _, _⟩ := h
    have b0 : Below w.heap.size w (w.alloc (.cells #[.slice a xs.length c] 27)) := (Below.refl _ w).alloc (Nat.le_refl _) _
    have H := Lib.hid (HR.out _ b0)
    unfold RowsR aggR at H
    have B0 := Lib.hid b0
    clear b0 HR ho hno
    generalize xs.length = N at *
    go_enter Try.func14, Try.ntmps14
    go_wp2_with (go_at_call 29; refine H.out.mono ?_; rintro e w1 ⟨rfl, b1⟩)
    go_ret2
    exact ⟨rfl, (bt B0.out b1).alloc (by have := B0.out.size; have := b1.size; omega) _⟩
  · obtain ⟨ns, rfl, hl, h64⟩ := okX_nat ho
    have HR := Lib.hid (fun w9 (hb : Below w.heap.size w w9) => rows_yes (h.below hb) hl ho)
    obtain ⟨a, c, rfl, _, _, _⟩ := h
    have b0 : Below w.heap.size w (w.alloc (.cells #[.slice a (castL ns).length c] 27)) := (Below.refl _ w).alloc (Nat.le_refl _) _
    have H := Lib.hid (HR.out _ b0)
    have B0 := Lib.hid b0
    clear b0 HR
    cases hx : isA x
    · have hno : (okX (castL ns) && isA x) = false := by rw [hx, Bool.and_false]
      rw [setV_no hno]
      rw [hx] at HAA
      unfold RowsR aggR at H
      clear ho hx hno h64 hl
      generalize pad ns 0 = r0 at *
      generalize pad ns 1 = r1 at *
      generalize pad ns 2 = r2 at *
      generalize (castL ns).length = N at *
      go_enter Try.func14, Try.ntmps14
      go_wp2_with (first | (go_at_call 29; refine H.out.mono ?_; rintro e w1 ⟨rfl, b1⟩) | (go_at_call 32; refine (HAA.out _).mono ?_; rintro e w' ⟨rfl, rfl⟩))
      go_ret2
      exact ⟨rfl, (bt B0.out b1).alloc (by have := B0.out.size; have := b1.size; omega) _⟩
    · have hyes : (okX (castL ns) && isA x) = true := by rw [ho, hx]; rfl
      obtain ⟨hx0, hx1⟩ := isA_of hx
      obtain ⟨y, rfl⟩ := Int.eq_ofNat_of_zero_le hx0
      rw [setV_yes hyes]
      rw [hx] at HAA
      have HSO := Lib.hid (fun w9 => setof_i (pad ns) y w9 (fun i _ => h64 i) (by omega))
      unfold RowsR aggR at H
      unfold aggR at HSO
      clear ho hx hyes h64 hl hx0 hx1
      generalize setF (pad ns) y 3 = q at *
      generalize pad ns 0 = r0 at *
      generalize pad ns 1 = r1 at *
      generalize pad ns 2 = r2 at *
      generalize (castL ns).length = N at *
      go_enter Try.func14, Try.ntmps14
      go_wp2_with (first | (go_at_call 29; refine H.out.mono ?_; rintro e w1 ⟨rfl, b1⟩) | (go_at_call 32; refine (HAA.out _).mono ?_; rintro e w' ⟨rfl, rfl⟩) | (go_at_call 33; refine (HSO.out _).mono ?_; rintro e w2 ⟨rfl, b2⟩))
      go_ret2
      exact ⟨rfl, bt ((bt B0.out b1).alloc (by have := B0.out.size; have := b1.size; omega) _) b2⟩
end Go.Proofs.Ytgfablkdfablfaa.Ix
