/- Both KernelOf and both SetMembers. -/
import Derived.Test.YtgfablkdfablfaaDoorCixm
import Derived.Deep.RegionHeld3
namespace Go.Proofs.YtgfablkdfablfaaDoor.Ix
open Go.RowKit Tr Bt
theorem memV_no {xs : List Int} {x : Int} (h : (okX xs && isA x) = false) : memV xs x = [] := by unfold memV; rw [h]; rfl
theorem memV_yes {ns : List Nat} {x : Nat} (h : (okX (castL ns) && isA (x : Int)) = true) : memV (castL ns) (x : Int) = castL (members (pad ns) (setF (pad ns) x 3)) := by
  unfold memV; rw [h, pad_fun]; rfl
set_option maxHeartbeats 1000000 in
theorem members_s (a : Option Addr) (c : Nat) (ns : List Nat) (x : Nat) (w : World) (hl : ns.length ≤ 3) (h64 : ∀ i, ns.getD i 0 < 64) (hx : x < 64) (hr : Row w a (castL ns)) :
    Calls Tryd.prog 18 #[.slice a ns.length c, .int .i64 x] w (Lb (castL (members (pad ns) (setF (pad ns) x 3))) w) := by
  have HS := Lib.hid (fun (j : Nat) (hj : j < 64) (w9 : World) (hb : Below w.heap.size w w9) => (show Calls Tryd.prog 27 #[.slice a ns.length c, .int .i64 j] w9 (fun e w' => e = .returned (.int .i64 ((setF (pad ns) j 3 : Nat) : Int)) ∧ w9 = w') from by
    have h := set_s a c ns j w9 hl h64 hj (hr.below hb)
    rw [setF_pad ns j hl] at h
    exact h))
  have HHIT := Lib.hid (fun j h => memK_hit (pad ns) (setF (pad ns) x 3) j h)
  have HMISS := Lib.hid (fun j h => memK_miss (pad ns) (setF (pad ns) x 3) j h)
  have HLEN := Lib.hid (fun j => (show (castL (memK (pad ns) (setF (pad ns) x 3) j)).length ≤ j from by rw [castL_len]; exact memK_len _ _ _))
  have HEND := Lib.hid (show castL (memK (pad ns) (setF (pad ns) x 3) 64) = castL (members (pad ns) (setF (pad ns) x 3)) from rfl)
  have H0 := Lib.hid (show castL (memK (pad ns) (setF (pad ns) x 3) 0) = [] from rfl)
  clear hr h64
  generalize castL (members (pad ns) (setF (pad ns) x 3)) = ys at *
  generalize hK : setF (pad ns) x 3 = k at *
  have HK := Lib.hid hK
  clear hK
  generalize hMM : memK (pad ns) k = M at *
  clear hMM
  generalize hFF : setF (pad ns) = F at *
  clear hFF
  generalize ns.length = N at *
  go_enter Tryd.func18, Tryd.ntmps18
  go_wp2
  go_loopw [5, 6] (fun v i wr => ∃ j : Nat, j ≤ 64 ∧ i = .int .i64 j ∧ Own wr w.heap.size v (castL (M j)) ∧ Below w.heap.size w wr) (fun _ i _ => 64 - (intOf i).toNat)
  case atStart => exact ⟨0, by omega, rfl, by rw [H0.out]; exact Own.lit0 w, (Below.refl _ w).alloc (Nat.le_refl _) _⟩
  case round =>
    obtain ⟨j, hj, rfl, hown, hb⟩ := hrel
    by_cases hlt : j < 64
    · have hS1 := Lib.hid (HS.out j hlt wr hb)
      have hS2 := Lib.hid (HS.out x hx wr hb)
      rw [HK.out] at hS2
      have hle := HLEN.out j
      have hsz := hb.size
      have HB := Lib.hid hb
      by_cases he : F j 3 = k
      · have hh := Lib.hid (HHIT.out j he)
        rw [he] at hS1
        have hq1 : (castL (M j)).length + 1 ≤ 1000000000 := by omega
        have hbeq : ((k : Int) == (k : Int)) = true := by simp
        clear hb he hle
        go_wp2_with fail
        refine hS1.out.mono ?_; rintro e w' ⟨rfl, rfl⟩
        go_wp2_with fail
        refine hS2.out.mono ?_; rintro e w' ⟨rfl, rfl⟩
        go_wp2_with (at_builtin; refine wpList_app _ rfl _ _ rfl w.heap.size _ (castL (M j)) _ ?_ ?_ hown hq1 hsz ?_; rfl; rfl)
        intro v' w' ho' hb'
        go_wp2
        go_roundw
        case rel => exact ⟨j + 1, by omega, by go_num, by rw [hh.out]; exact ho', HB.out.trans hb'⟩
        case measure => simp [intOf]; omega
      · have hm := Lib.hid (HMISS.out j he)
        have hne : ((F j 3 : Nat) : Int) ≠ (k : Int) := by omega
        have hbne : (((F j 3 : Nat) : Int) == (k : Int)) = false := by simpa using hne
        clear hb hle
        generalize F j 3 = f at *
        go_wp2_with fail
        refine hS1.out.mono ?_; rintro e w' ⟨rfl, rfl⟩
        go_wp2_with fail
        refine hS2.out.mono ?_; rintro e w' ⟨rfl, rfl⟩
        go_wp2
        go_roundw
        case rel => exact ⟨j + 1, by omega, by go_num, by rw [hm.out]; exact hown, HB.out⟩
        case measure => simp [intOf]; omega
    · obtain rfl : j = 64 := by omega
      rw [HEND.out] at hown
      go_wp2
      go_ret
      exact ⟨_, rfl, hown, hb⟩
theorem isA0 : isA 0 = true := rfl
theorem kern_sL {v : Value} {xs : List Int} {w : World} (h : RdX w v xs) :
    Calls Tryd.prog 6 #[v] w (Res (memV xs 0) (okX xs) w) := by
  cases ho : okX xs
  · rw [memV_no (by rw [ho]; rfl)]
    obtain ⟨a, c, rfl, hr, hn, _⟩ := h
    have b0 : Below w.heap.size w (w.alloc (.cells #[.slice a xs.length c] 28)) := (Below.refl _ w).alloc (Nat.le_refl _) _
    have H := Lib.hid (is_s w.heap.size a c xs _ hn (by simp) (hr.below b0))
    rw [ho] at H
    have B0 := Lib.hid b0
    clear hr b0 hn ho
    generalize xs.length = N at *
    go_enter Tryd.func6, Tryd.ntmps6
    go_wp2_with (go_at_call 17; refine H.out.mono ?_; rintro e w' ⟨rfl, rfl⟩)
    go_ret2
    exact ⟨_, rfl, Own.nil _ _, B0.out⟩
  · obtain ⟨ns, rfl, hl, h64⟩ := okX_nat ho
    have hv := memV_yes (ns := ns) (x := 0) (by rw [ho]; rfl)
    rw [show (((0 : Nat) : Int)) = 0 from rfl] at hv
    rw [hv]
    obtain ⟨a, c, rfl, hr, hn, _⟩ := h
    have b0 : Below w.heap.size w (w.alloc (.cells #[.slice a (castL ns).length c] 28)) := (Below.refl _ w).alloc (Nat.le_refl _) _
    have H := Lib.hid (is_s w.heap.size a c (castL ns) _ hn (by simp) (hr.below b0))
    have HS := Lib.hid (members_s a c ns 0 _ hl h64 (by omega) (hr.below b0))
    rw [show (((0 : Nat) : Int)) = 0 from rfl] at HS
    rw [ho] at H
    have B0 := Lib.hid b0
    have hNN := castL_len ns
    clear hr b0 hn ho h64 hv
    generalize (castL ns).length = N' at *
    generalize castL (members (pad ns) (setF (pad ns) 0 3)) = q at *
    generalize ns.length = N at *
    subst hNN
    go_enter Tryd.func6, Tryd.ntmps6
    go_wp2_with (first | (go_at_call 17; refine H.out.mono ?_; rintro e w' ⟨rfl, rfl⟩) | (go_at_call 18; refine HS.out.mono ?_; rintro e w3 ⟨v3, rfl, ho3, hb3⟩))
    go_ret2
    exact ⟨_, rfl, ho3.mono B0.out.size, bt B0.out hb3⟩
theorem smem_sL {v : Value} {xs : List Int} {w : World} (h : RdX w v xs) (x : Int) :
    Calls Tryd.prog 14 #[v, .int .i64 x] w (Res (memV xs x) (okX xs && isA x) w) := by
  cases hb : (okX xs && isA x)
  · rw [memV_no hb]
    obtain ⟨a, c, rfl, hr, hn, _⟩ := h
    have b0 : Below w.heap.size w (w.alloc (.cells #[.slice a xs.length c] 28)) := (Below.refl _ w).alloc (Nat.le_refl _) _
    have H := Lib.hid (is_s w.heap.size a c xs _ hn (by simp) (hr.below b0))
    have HA := Lib.hid (fun w9 => addr_s x w9)
    have B0 := Lib.hid b0
    clear hr b0 hn
    generalize xs.length = N at *
    cases ho : okX xs
    · rw [ho] at H
      clear ho hb
      go_enter Tryd.func14, Tryd.ntmps14
      go_wp2_with (go_at_call 17; refine H.out.mono ?_; rintro e w' ⟨rfl, rfl⟩)
      go_ret2
      exact ⟨_, rfl, Own.nil _ _, B0.out⟩
    · rw [ho] at H
      rw [ho, Bool.true_and] at hb
      rw [hb] at HA
      clear ho hb
      go_enter Tryd.func14, Tryd.ntmps14
      go_wp2_with (first | (go_at_call 17; refine H.out.mono ?_; rintro e w' ⟨rfl, rfl⟩) | (go_at_call 23; refine (HA.out _).mono ?_; rintro e w' ⟨rfl, rfl⟩))
      go_ret2
      exact ⟨_, rfl, Own.nil _ _, B0.out⟩
  · have hb' := hb
    rw [Bool.and_eq_true] at hb'
    obtain ⟨ns, rfl, hl, h64⟩ := okX_nat hb'.1
    obtain ⟨hx0, hx1⟩ := isA_of hb'.2
    obtain ⟨y, rfl⟩ := Int.eq_ofNat_of_zero_le hx0
    rw [memV_yes hb]
    obtain ⟨a, c, rfl, hr, hn, _⟩ := h
    have b0 : Below w.heap.size w (w.alloc (.cells #[.slice a (castL ns).length c] 28)) := (Below.refl _ w).alloc (Nat.le_refl _) _
    have H := Lib.hid (is_s w.heap.size a c (castL ns) _ hn (by simp) (hr.below b0))
    have HA := Lib.hid (fun w9 => addr_s (y : Int) w9)
    have HS := Lib.hid (members_s a c ns y _ hl h64 (by omega) (hr.below b0))
    rw [hb'.1] at H
    rw [hb'.2] at HA
    have B0 := Lib.hid b0
    have hNN := castL_len ns
    clear hr b0 hn hb hb' h64 hx0 hx1
    generalize (castL ns).length = N' at *
    generalize castL (members (pad ns) (setF (pad ns) y 3)) = q at *
    generalize ns.length = N at *
    subst hNN
    go_enter Tryd.func14, Tryd.ntmps14
    go_wp2_with (first | (go_at_call 17; refine H.out.mono ?_; rintro e w' ⟨rfl, rfl⟩) | (go_at_call 23; refine (HA.out _).mono ?_; rintro e w' ⟨rfl, rfl⟩) | (go_at_call 18; refine HS.out.mono ?_; rintro e w3 ⟨v3, rfl, ho3, hb3⟩))
    go_ret2
    exact ⟨_, rfl, ho3.mono B0.out.size, bt B0.out hb3⟩
theorem kern_iL {v : Value} {xs : List Int} {w : World} (h : RdX w v xs) (hT : Tz w) :
    Calls Tryd.prog 8 #[v] w (Res (memV xs 0) (okX xs) w) := by
  cases ho : okX xs
  · rw [memV_no (by rw [ho]; rfl)]
    have HR := Lib.hid (fun w9 (hb : Below w.heap.size w w9) => rows_no (h.below hb) ho)
    obtain ⟨a, c, rfl, _, _, _⟩ := h
    have b0 : Below w.heap.size w (w.alloc (.cells #[.slice a xs.length c] 28)) := (Below.refl _ w).alloc (Nat.le_refl _) _
    have H := Lib.hid (HR.out _ b0)
    unfold RowsR aggR at H
    have B0 := Lib.hid b0
    clear b0 HR ho hT
    generalize xs.length = N at *
    go_enter Tryd.func8, Tryd.ntmps8
    go_wp2_with (go_at_call 20; refine H.out.mono ?_; rintro e w1 ⟨rfl, b1⟩)
    go_ret2
    exact ⟨_, rfl, Own.nil _ _, (bt B0.out b1).alloc (by have := B0.out.size; have := b1.size; omega) _⟩
  · obtain ⟨ns, rfl, hl, h64⟩ := okX_nat ho
    have hv := memV_yes (ns := ns) (x := 0) (by rw [ho]; rfl)
    rw [show (((0 : Nat) : Int)) = 0 from rfl] at hv
    rw [hv]
    have HR := Lib.hid (fun w9 (hb : Below w.heap.size w w9) => rows_yes (h.below hb) hl ho)
    obtain ⟨a, c, rfl, _, _, _⟩ := h
    have b0 : Below w.heap.size w (w.alloc (.cells #[.slice a (castL ns).length c] 28)) := (Below.refl _ w).alloc (Nat.le_refl _) _
    have H := Lib.hid (HR.out _ b0)
    have HK := Lib.hid (fun w9 => kernel_i (pad ns) w9 (fun i _ => h64 i))
    have e0 : setF (pad ns) 0 3 = 0 := by
      unfold setF setF setF setF
      simp [par, pc_zero]
    have HB := Lib.hid (fun (w9 : World) (hb : Below w.heap.size w w9) => (show Calls Tryd.prog 22 #[.int .u64 ((setK (pad ns) 64 0 : Nat) : Int)] w9 (Lb (castL (members (pad ns) (setF (pad ns) 0 3))) w9) from by
      rw [e0, ← members_bits]; exact bits_list _ (setK_lt _ _ _ (by omega)) w9 (hT.below hb)))
    have B0 := Lib.hid b0
    clear b0 HR ho h64 hl hv e0 hT
    unfold RowsR at H
    unfold aggR at H HK
    generalize castL (members (pad ns) (setF (pad ns) 0 3)) = ys at *
    generalize setK (pad ns) 64 0 = s at *
    generalize (castL ns).length = N at *
    generalize pad ns 0 = r0 at *
    generalize pad ns 1 = r1 at *
    generalize pad ns 2 = r2 at *
    go_enter Tryd.func8, Tryd.ntmps8
    go_wp2_with fail
    refine H.out.mono ?_; rintro e w1 ⟨rfl, b1⟩
    have B1 := Lib.hid (bt B0.out b1)
    have hs1 := B1.out.size
    clear b1 H
    go_wp2_with fail
    have BA := Lib.hid (B1.out.alloc hs1 (.cells #[.int .i64 (r0 : Int), .int .i64 (r1 : Int), .int .i64 (r2 : Int)] 42))
    refine (HK.out _).mono ?_; rintro e w2 ⟨rfl, b2⟩
    have B2 := Lib.hid (bt BA.out b2)
    clear b2 HK
    go_wp2_with fail
    refine (HB.out _ B2.out).mono ?_; rintro e w3 ⟨v3, rfl, o3, b3⟩
    go_wp2
    go_ret2
    exact ⟨_, rfl, o3.mono B2.out.size, bt B2.out b3⟩
theorem drew_off {w w' : World} {B : Nat} (h : Below B w.drew w') : Below B w w' := (Below.refl _ w).drew.trans h
theorem smem_iL {v : Value} {xs : List Int} {w : World} (h : RdX w v xs) (x : Int) (hT : Tz w) :
    Calls Tryd.prog 15 #[v, .int .i64 x] w (Res (memV xs x) (okX xs && isA x) w) := by
  have HAA := Lib.hid (fun w9 => addr_i x w9)
  cases ho : okX xs
  · have hno : (okX xs && isA x) = false := by rw [ho]; rfl
    rw [memV_no hno]
    have HR := Lib.hid (fun w9 (hb : Below w.heap.size w w9) => rows_no (h.below hb) ho)
    obtain ⟨a, c, rfl, _, _, _⟩ := h
    have b0 : Below w.heap.size w (w.alloc (.cells #[.slice a xs.length c] 28)) := (Below.refl _ w).alloc (Nat.le_refl _) _
    have H := Lib.hid (HR.out _ b0)
    unfold RowsR aggR at H
    have B0 := Lib.hid b0
    clear b0 HR ho hno hT
    generalize xs.length = N at *
    go_enter Tryd.func15, Tryd.ntmps15
    go_wp2_with (go_at_call 20; refine H.out.mono ?_; rintro e w1 ⟨rfl, b1⟩)
    go_ret2
    exact ⟨_, rfl, Own.nil _ _, (bt B0.out b1).alloc (by have := B0.out.size; have := b1.size; omega) _⟩
  · obtain ⟨ns, rfl, hl, h64⟩ := okX_nat ho
    have HR := Lib.hid (fun w9 (hb : Below w.heap.size w w9) => rows_yes (h.below hb) hl ho)
    obtain ⟨a, c, rfl, _, _, _⟩ := h
    have b0 : Below w.heap.size w (w.alloc (.cells #[.slice a (castL ns).length c] 28)) := (Below.refl _ w).alloc (Nat.le_refl _) _
    have H := Lib.hid (HR.out _ b0)
    have B0 := Lib.hid b0
    clear b0 HR
    cases hx : isA x
    · have hno : (okX (castL ns) && isA x) = false := by rw [hx, Bool.and_false]
      rw [memV_no hno]
      rw [hx] at HAA
      unfold RowsR aggR at H
      clear ho hx hno h64 hl hT
      generalize pad ns 0 = r0 at *
      generalize pad ns 1 = r1 at *
      generalize pad ns 2 = r2 at *
      generalize (castL ns).length = N at *
      go_enter Tryd.func15, Tryd.ntmps15
      go_wp2_with (first | (go_at_call 20; refine H.out.mono ?_; rintro e w1 ⟨rfl, b1⟩) | (go_at_call 24; refine (HAA.out _).mono ?_; rintro e w' ⟨rfl, rfl⟩))
      go_ret2
      exact ⟨_, rfl, Own.nil _ _, (bt B0.out b1).alloc (by have := B0.out.size; have := b1.size; omega) _⟩
    · have hyes : (okX (castL ns) && isA x) = true := by rw [ho, hx]; rfl
      obtain ⟨hx0, hx1⟩ := isA_of hx
      obtain ⟨y, rfl⟩ := Int.eq_ofNat_of_zero_le hx0
      rw [memV_yes hyes]
      rw [hx] at HAA
      have HSO := Lib.hid (fun w9 => setof_i (pad ns) y w9 (fun i _ => h64 i) (by omega))
      have HSE := Lib.hid (fun w9 => sets_i (pad ns) w9 (fun i _ => h64 i))
      have H8 := Lib.hid (fun w9 => index8 (pad ns) (setF (pad ns) y 3) (setF_lt8 _ _) w9)
      have HBL := Lib.hid (fun (w9 : World) (hb : Below w.heap.size w w9) => (show Calls Tryd.prog 22 #[.int .u64 ((setK (pad ns) 64 (setF (pad ns) y 3) : Nat) : Int)] w9 (Lb (castL (members (pad ns) (setF (pad ns) y 3))) w9) from by
        rw [← members_bits]; exact bits_list _ (setK_lt _ _ _ (by omega)) w9 (hT.below hb)))
      unfold RowsR at H
      unfold aggR at H HSO HSE
      clear ho hx hyes h64 hl hx0 hx1 hT
      generalize castL (members (pad ns) (setF (pad ns) y 3)) = ys at *
      generalize setK (pad ns) 64 (setF (pad ns) y 3) = s at *
      generalize setF (pad ns) y 3 = q at *
      generalize aggS (pad ns) = S at *
      generalize pad ns 0 = r0 at *
      generalize pad ns 1 = r1 at *
      generalize pad ns 2 = r2 at *
      generalize (castL ns).length = N at *
      go_enter Tryd.func15, Tryd.ntmps15
      go_wp2_with fail
      refine H.out.mono ?_; rintro e w1 ⟨rfl, b1⟩
      have B1 := Lib.hid (bt B0.out b1)
      have hs1 := B1.out.size
      clear b1 H
      go_wp2_with fail
      refine (HAA.out _).mono ?_; rintro e w' ⟨rfl, rfl⟩
      have BA := Lib.hid (B1.out.alloc hs1 (.cells [.int .i64 (r0 : Int), .int .i64 (r1 : Int), .int .i64 (r2 : Int)].toArray 42))
      have XA := Lib.hid (Kb.new w1 w1.heap.size [.int .i64 (r0 : Int), .int .i64 (r1 : Int), .int .i64 (r2 : Int)] 42 rfl)
      have eA : (w1.alloc (.cells #[.int .i64 (r0 : Int), .int .i64 (r1 : Int), .int .i64 (r2 : Int)] 42)) = w1.alloc (.cells [.int .i64 (r0 : Int), .int .i64 (r1 : Int), .int .i64 (r2 : Int)].toArray 42) := rfl
      rw [eA]
      clear eA
      generalize w1.alloc (.cells [.int .i64 (r0 : Int), .int .i64 (r1 : Int), .int .i64 (r2 : Int)].toArray 42) = W1 at *
      have HX8 := Lib.hid (fun (w8 : World) (b8 : Below W1.drew.heap.size W1.drew w8) => (show w8.cell? ⟨w1.heap.size, 0, none⟩ = some (.int .i64 (r0 : Int)) ∧ w8.cell? ⟨w1.heap.size, 1, none⟩ = some (.int .i64 (r1 : Int)) ∧ w8.cell? ⟨w1.heap.size, 2, none⟩ = some (.int .i64 (r2 : Int)) from
        ⟨(XA.out.below (drew_off b8) XA.out.lt).cell 0, (XA.out.below (drew_off b8) XA.out.lt).cell 1, (XA.out.below (drew_off b8) XA.out.lt).cell 2⟩))
      obtain ⟨x0, x1, x2⟩ := HX8.out W1.drew (Below.refl _ _)
      have x0 : W1.cell? ⟨w1.heap.size, 0, none⟩ = some (.int .i64 (r0 : Int)) := x0
      have x1 : W1.cell? ⟨w1.heap.size, 1, none⟩ = some (.int .i64 (r1 : Int)) := x1
      have x2 : W1.cell? ⟨w1.heap.size, 2, none⟩ = some (.int .i64 (r2 : Int)) := x2
      have h8 := H8.out
      have HBL2 := Lib.hid (fun (w9 : World) (b : Below W1.drew.heap.size W1.drew w9) => HBL.out w9 (bt BA.out (drew_off b)))
      clear H8 HBL
      go_wp2
      go_region_held3 (fun w' => w'.cell? ⟨w1.heap.size, 0, none⟩ = some (.int .i64 (r0 : Int)) ∧ w'.cell? ⟨w1.heap.size, 1, none⟩ = some (.int .i64 (r1 : Int)) ∧ w'.cell? ⟨w1.heap.size, 2, none⟩ = some (.int .i64 (r2 : Int))) (first | exact ⟨x0, x1, x2⟩ | exact HX8.out _ b5 | exact HX8.out _ (bt b5 b6) | exact HX8.out _ (bt (bt b5 b6) b7)) (first | (go_at_call 25; (with_reducible refine (HSE.out _).mono ?_); rintro e w5 ⟨rfl, b5⟩) | (go_at_call 26; (with_reducible refine (HSO.out _).mono ?_); rintro e w6 ⟨rfl, b6⟩) | (go_at_call 22; (with_reducible refine (HBL2.out _ (bt b5 b6)).mono ?_); rintro e w7 ⟨v7, rfl, o7, b7⟩))
      have B6 := bt BA.out (drew_off (bt b5 b6))
      go_wp2
      go_ret2
      exact ⟨_, rfl, o7.mono B6.size, bt B6 b7⟩
end Go.Proofs.YtgfablkdfablfaaDoor.Ix
