/- The contracts of both RankStack and RankCurve. -/
import Derived.Test.YtamlbonkppajbaaCpushS
import Derived.Test.YtamlbonkppajbaaCdcntS
import Derived.Test.YtamlbonkppajbaaCbtw
namespace Go.Proofs.Ytamlbonkppajbaa.Tr
open Go.RowKit
/-- Where the addresses stood, with ranks. -/
def placesP (rs xs : List Int) : List Int := told (stoodAt (rkf rs) xs) xs.length
theorem placesP_len (rs xs : List Int) : (placesP rs xs).length = xs.length := told_length _ _
theorem stack_mem (f : Int → Int → Bool) (xs : List Int) (hok : okU xs = true) (j : Nat) (hj : j ≤ xs.length) : ∀ y ∈ stackK f xs j, 0 ≤ y ∧ y ≤ 63 := fun y hy => by
  rw [stackK_mem f xs j hj] at hy
  obtain ⟨i, hi, e⟩ := List.getElem_of_mem (List.mem_of_mem_take hy)
  have := okU_at hok i hi
  rw [getD_get' xs i hi, e] at this
  exact this
/-- The program's stack with its comparison. -/
theorem stk_ranks (ar : Option Addr) (cr : Nat) (rs : List Int) (h64 : rs.length = 64) (sl : Option Addr) (c : Nat) (xs : List Int) (w : World) (hok : okU xs = true) (hrr : Row w ar rs) (hr : Row w sl xs) :
    Calls Try.prog 39 #[.slice sl xs.length c, .func (.func 58) #[] #[.pointer (some ⟨w.heap.size, 0, none⟩)]] (w.alloc (.cells #[.slice ar 64 cr] 22)) (fun e w' => ∃ v1 v2, e = .returned (.tuple #[v1, v2]) ∧ Own w' w.heap.size v1 (stackK (rkf rs) xs xs.length) ∧ Own w' w.heap.size v2 (placesP rs xs) ∧ Below w.heap.size w w') := by
  have hb0 : Below w.heap.size w (w.alloc (.cells #[.slice ar 64 cr] 22)) := (Below.refl _ _).alloc (Nat.le_refl _) _
  have hz : (w.alloc (.cells #[.slice ar 64 cr] 22)).heap.size = w.heap.size + 1 := Array.size_push _
  refine (stack_R (rkf rs) w.heap.size sl c xs _ hok (hr.below hb0) (fun c t w' h1 h2 h3 => ?_)).mono ?_
  · refine least_i w.heap.size ar cr rs c t w' h64 ?_ (hrr.below (hb0.trans (h3.mono (by omega)))) h1 h2
    rw [h3.cell (p := ⟨w.heap.size, 0, none⟩) (by show w.heap.size < _; omega), cell_of_row _ w.heap.size 0 _ _ (0, 0) (heap_alloc_new w _)]; rfl
  · rintro e w' ⟨v1, v2, he, o1, o2, b1⟩
    exact ⟨v1, v2, he, o1.mono (by omega), o2.mono (by omega), hb0.trans (b1.mono (by omega))⟩
set_option maxHeartbeats 1000000 in
theorem rst_yes_i {v u : Value} {rs xs : List Int} {w : World} (hq : Rd w v rs) (h : Rd w u xs) (hrk : okRk rs = true) (hok : okU xs = true) :
    Calls Try.prog 26 #[v, u] w (Res (stackK (rkf rs) xs xs.length) true w) := by
  have hn := okU_len hok
  have h64 := okRk_at hrk
  have hR := Lib.hid (ranks_i hq (by omega))
  rw [hrk] at hR
  obtain ⟨ar, cr, rfl, _, _, hrr⟩ := hq
  obtain ⟨a, c, rfl, _, _, hr⟩ := h
  have hU := Lib.hid (fun (w1 : World) (hb : Below w.heap.size w w1) => show Calls Try.prog 38 #[.slice a xs.length c] w1 (Bl true w1) from hok ▸ uses_i a c xs w1 (by omega) (hr.below hb))
  rw [h64] at hR ⊢
  have hS := Lib.hid (fun (w1 : World) (hb : Below w.heap.size w w1) => stk_ranks ar cr rs h64 a c xs w1 hok (hrr.below hb) (hr.below hb))
  clear hok hrk hrr hr
  generalize stackK (rkf rs) xs xs.length = SK at *
  generalize placesP rs xs = DP at *
  generalize xs.length = N at *
  go_enter Try.func26, Try.ntmps26
  go_wp2_with (first | (go_at_call 13; (with_reducible refine hR.out.mono ?_); rintro e w1 ⟨rfl, hb1⟩) | (go_at_call 38; (with_reducible refine (hU.out _ hb1).mono ?_); rintro e w2 ⟨rfl, rfl⟩) | (go_at_call 48; (with_reducible refine (least_value _ _ _ _).mono ?_); rintro e w2 ⟨rfl, rfl⟩) | (go_at_call 39; (with_reducible refine (hS.out _ hb1).mono ?_); rintro e w3 ⟨v1, v2, rfl, o1, o2, b3⟩))
  go_ret2
  exact ⟨_, rfl, o1.mono hb1.size, hb1.trans (b3.mono hb1.size)⟩
set_option maxHeartbeats 1000000 in
theorem rcv_yes_i {v u : Value} {rs xs : List Int} {w : World} (m : Nat) (hm : m ≤ 60) (hq : Rd w v rs) (h : Rd w u xs) (hrk : okRk rs = true) (hok : okU xs = true) :
    Calls Try.prog 28 #[v, u, .int .i64 (m : Int)] w (Res (curveP (placesP rs xs) m) true w) := by
  have hn := okU_len hok
  have h64 := okRk_at hrk
  have hR := Lib.hid (ranks_i hq (by omega))
  rw [hrk] at hR
  obtain ⟨ar, cr, rfl, _, _, hrr⟩ := hq
  obtain ⟨a, c, rfl, _, _, hr⟩ := h
  have hU := Lib.hid (fun (w1 : World) (hb : Below w.heap.size w w1) => show Calls Try.prog 38 #[.slice a xs.length c] w1 (Bl true w1) from hok ▸ uses_i a c xs w1 (by omega) (hr.below hb))
  rw [h64] at hR ⊢
  have hS := Lib.hid (fun (w1 : World) (hb : Below w.heap.size w w1) => stk_ranks ar cr rs h64 a c xs w1 hok (hrr.below hb) (hr.below hb))
  have e : okS (m : Int) = true := decide_eq_true ⟨by omega, by omega⟩
  have hZ := Lib.hid (fun (w1 : World) => show Calls Try.prog 45 #[.int .i64 (m : Int)] w1 (Bl true w1) from e ▸ size_i (m : Int) w1)
  have hl := placesP_len rs xs
  have HB := Lib.hid (fun (w1 : World) (B : Nat) (v2 : Value) (o2 : Own w1 B v2 (placesP rs xs)) => show Calls Try.prog 46 #[v2, .int .i64 (m : Int)] w1 (Lb (curveP (placesP rs xs) m) w1) from by
    obtain ⟨a2, c2, rfl, _, _, hr2⟩ := o2.rd
    exact curve_i a2 c2 (placesP rs xs) m w1 hm (by omega) (stood_told (rkf rs) xs hn) hr2)
  clear hok hrk hrr hr e hl
  generalize curveP (placesP rs xs) m = CP at *
  generalize stackK (rkf rs) xs xs.length = SK at *
  generalize placesP rs xs = DP at *
  generalize xs.length = N at *
  go_enter Try.func28, Try.ntmps28
  go_wp2_with (first | (go_at_call 13; (with_reducible refine hR.out.mono ?_); rintro e w1 ⟨rfl, hb1⟩) | (go_at_call 38; (with_reducible refine (hU.out _ hb1).mono ?_); rintro e w2 ⟨rfl, rfl⟩) | (go_at_call 45; (with_reducible refine (hZ.out _).mono ?_); rintro e w2 ⟨rfl, rfl⟩) | (go_at_call 48; (with_reducible refine (least_value _ _ _ _).mono ?_); rintro e w2 ⟨rfl, rfl⟩) | (go_at_call 39; (with_reducible refine (hS.out _ hb1).mono ?_); rintro e w3 ⟨v1, v2, rfl, o1, o2, b3⟩) | (go_at_call 46; (with_reducible refine (HB.out _ _ _ o2).mono ?_); rintro e w4 ⟨v3, rfl, o3, b4⟩))
  go_ret2
  exact ⟨_, rfl, o3.mono (Nat.le_trans hb1.size b3.size), (hb1.trans (b3.mono hb1.size)).trans (b4.mono (Nat.le_trans hb1.size b3.size))⟩
set_option maxHeartbeats 2000000 in
theorem rst_yes_s {v u : Value} {rs xs : List Int} {w : World} (hq : Rd w v rs) (h : Rd w u xs) (hrk : okRk rs = true) (hok : okU xs = true) :
    Calls Try.prog 25 #[v, u] w (Res (stackK (rkf rs) xs xs.length) true w) := by
  have hn := okU_len hok
  have h64 := okRk_at hrk
  have hR := Lib.hid (ranks_s hq (by omega))
  rw [hrk] at hR
  obtain ⟨ar, cr, rfl, _, _, hrr⟩ := hq
  obtain ⟨a, c, rfl, _, _, hr⟩ := h
  have hU := Lib.hid (fun (w1 : World) (hb : Below w.heap.size w w1) => show Calls Try.prog 36 #[.slice a xs.length c] w1 (Bl true w1) from hok ▸ uses_s a c xs w1 (by omega) (hr.below hb))
  rw [h64] at hR ⊢
  have HC := Lib.hid hr
  have HSL := Lib.hid (fun j => stackK_len (rkf rs) xs j)
  have HA := Lib.hid (fun j (hj : j < xs.length) => okU_at hok j hj)
  have HM := Lib.hid (fun j (hj : j ≤ xs.length) => stack_mem (rkf rs) xs hok j hj)
  have HPU := Lib.hid (fun (w1 : World) (hb : Below w.heap.size w w1) (B : Nat) (vs : Value) (st : List Int) (a : Int) (ho : Own w1 B vs st) (hl : st.length ≤ 60) (hm : ∀ y ∈ st, 0 ≤ y ∧ y ≤ 63) (ha : 0 ≤ a ∧ a ≤ 63) => push_s ar cr rs h64 vs st a w1 (hrr.below hb) ho.rd hl hm ha)
  have HK := Lib.hid (fun j => show stackK (rkf rs) xs (j + 1) = (push (rkf rs) (stackK (rkf rs) xs j) (xs.getD j 0)).1 from rfl)
  have HK0 := Lib.hid (show stackK (rkf rs) xs 0 = [] from rfl)
  clear hok hrk hrr hr
  unfold Row at HC
  generalize hS : stackK (rkf rs) xs = SK at *
  clear hS
  generalize hN : xs.length = N at *
  clear hN
  go_enter Try.func25, Try.ntmps25
  go_wp2_with (first | (go_at_call 34; (with_reducible refine hR.out.mono ?_); rintro e w1 ⟨rfl, hb1⟩) | (go_at_call 36; (with_reducible refine (hU.out _ hb1).mono ?_); rintro e w2 ⟨rfl, rfl⟩))
  go_loopw [6, 7] (fun v i wr => ∃ j : Nat, j ≤ N ∧ i = .int .i64 j ∧ Own wr w.heap.size v (SK j) ∧ Below w.heap.size w wr) (fun _ i _ => N - (intOf i).toNat)
  case atStart => exact ⟨0, Nat.zero_le _, rfl, by rw [HK0.out]; exact (Own.lit0 w1).mono hb1.size, hb1.alloc hb1.size _⟩
  case round =>
    obtain ⟨j, hj, rfl, ho, hb⟩ := hrel
    have hsz := hb.size
    by_cases hlt : j < N
    · obtain ⟨b0, off, rfl, c1, hb0⟩ := HC.out j hlt
      have c2 : wr.cell? ⟨b0, off + j, none⟩ = some (.int .i64 (xs.getD j 0)) := (hb.cell (p := ⟨b0, off + j, none⟩) hb0).trans c1
      have hl : (SK j).length ≤ 60 := by have := HSL.out j; omega
      have HP := Lib.hid (HPU.out wr hb _ _ (SK j) (xs.getD j 0) ho hl (HM.out j (Nat.le_of_lt hlt)) (HA.out j hlt))
      have hk := Lib.hid (HK.out j)
      clear c1
      generalize push (rkf rs) (SK j) (xs.getD j 0) = PP at *
      generalize xs.getD j 0 = u at *
      obtain ⟨P1, P2⟩ := PP
      have hk2 : SK (j + 1) = P1 := hk.out
      go_wp2_with (go_at_call 47; (with_reducible refine HP.out.mono ?_); rintro e w2 ⟨v1, rfl, o1, b1⟩)
      go_roundw
      case rel => exact ⟨j + 1, by omega, by go_num, by rw [hk2]; exact o1.mono hsz, hb.trans (b1.mono hsz)⟩
      case measure => simp [intOf]; omega
    · have e : j = N := by omega
      subst e
      go_wp2
      go_ret2
      exact ⟨_, rfl, ho, hb⟩
set_option maxHeartbeats 2000000 in
theorem rcv_yes_s {v u : Value} {rs xs : List Int} {w : World} (m : Nat) (hm : m ≤ 60) (hq : Rd w v rs) (h : Rd w u xs) (hrk : okRk rs = true) (hok : okU xs = true) :
    Calls Try.prog 27 #[v, u, .int .i64 (m : Int)] w (Res (curveP (placesP rs xs) m) true w) := by
  have hn := okU_len hok
  have h64 := okRk_at hrk
  have hR := Lib.hid (ranks_s hq (by omega))
  rw [hrk] at hR
  obtain ⟨ar, cr, rfl, _, _, hrr⟩ := hq
  obtain ⟨a, c, rfl, _, _, hr⟩ := h
  have hU := Lib.hid (fun (w1 : World) (hb : Below w.heap.size w w1) => show Calls Try.prog 36 #[.slice a xs.length c] w1 (Bl true w1) from hok ▸ uses_s a c xs w1 (by omega) (hr.below hb))
  rw [h64] at hR ⊢
  have HC := Lib.hid hr
  have HSL := Lib.hid (fun j => stackK_len (rkf rs) xs j)
  have HA := Lib.hid (fun j (hj : j < xs.length) => okU_at hok j hj)
  have HM := Lib.hid (fun j (hj : j ≤ xs.length) => stack_mem (rkf rs) xs hok j hj)
  have HPU := Lib.hid (fun (w1 : World) (hb : Below w.heap.size w w1) (B : Nat) (vs : Value) (st : List Int) (a : Int) (ho : Own w1 B vs st) (hl : st.length ≤ 60) (hm : ∀ y ∈ st, 0 ≤ y ∧ y ≤ 63) (ha : 0 ≤ a ∧ a ≤ 63) => push_s ar cr rs h64 vs st a w1 (hrr.below hb) ho.rd hl hm ha)
  have HK := Lib.hid (fun j => show stackK (rkf rs) xs (j + 1) = (push (rkf rs) (stackK (rkf rs) xs j) (xs.getD j 0)).1 from rfl)
  have HK0 := Lib.hid (show stackK (rkf rs) xs 0 = [] from rfl)
  have e : okS (m : Int) = true := decide_eq_true ⟨by omega, by omega⟩
  have hZ := Lib.hid (fun (w1 : World) => show Calls Try.prog 43 #[.int .i64 (m : Int)] w1 (Bl true w1) from e ▸ size_s (m : Int) w1)
  have hl := placesP_len rs xs
  have HB := Lib.hid (fun (w1 : World) (B : Nat) (v2 : Value) (o2 : Own w1 B v2 (placesP rs xs)) => show Calls Try.prog 44 #[v2, .int .i64 (m : Int)] w1 (Lb (curveP (placesP rs xs) m) w1) from by
    obtain ⟨a2, c2, rfl, _, _, hr2⟩ := o2.rd
    exact curve_s a2 c2 (placesP rs xs) m w1 hm (by omega) hr2)
  have HPE := Lib.hid (show placesP rs xs = told (stoodAt (rkf rs) xs) xs.length from rfl)
  have HT := Lib.hid (fun j => told_succ (stoodAt (rkf rs) xs) j)
  have HTV := Lib.hid (fun j => show stoodAt (rkf rs) xs j = (push (rkf rs) (stackK (rkf rs) xs j) (xs.getD j 0)).2 from rfl)
  have HTL := Lib.hid (fun j => told_length (stoodAt (rkf rs) xs) j)
  have HT0 := Lib.hid (show told (stoodAt (rkf rs) xs) 0 = [] from rfl)
  clear hok hrk hrr hr e hl
  unfold Row at HC
  generalize curveP (placesP rs xs) m = CP at *
  generalize placesP rs xs = DP at *
  generalize hTD : told (stoodAt (rkf rs) xs) = TD at *
  generalize hSD : stoodAt (rkf rs) xs = SD at *
  generalize hS : stackK (rkf rs) xs = SK at *
  clear hS hTD hSD
  generalize hN : xs.length = N at *
  clear hN
  go_enter Try.func27, Try.ntmps27
  go_wp2_with (first | (go_at_call 34; (with_reducible refine hR.out.mono ?_); rintro e w1 ⟨rfl, hb1⟩) | (go_at_call 36; (with_reducible refine (hU.out _ hb1).mono ?_); rintro e w2 ⟨rfl, rfl⟩) | (go_at_call 43; (with_reducible refine (hZ.out _).mono ?_); rintro e w2 ⟨rfl, rfl⟩))
  go_loopw [8, 9, 10, 11, 12] (fun y v i _ _ wr => ∃ (j : Nat) (yv vv : Value), yv = y ∧ vv = v ∧ j ≤ N ∧ i = .int .i64 j ∧ Own wr w.heap.size yv (TD j) ∧ Own wr w.heap.size vv (SK j) ∧ Apart vv yv ∧ Below w.heap.size w wr) (fun _ _ i _ _ _ => N - (intOf i).toNat)
  case atStart =>
    have hz : (w1.alloc (.cells #[] 2)).heap.size = w1.heap.size + 1 := Array.size_push _
    have o1 := Own.lit0 w1
    have o2 := Own.lit0 (w1.alloc (.cells #[] 2))
    rw [hz] at o2
    refine ⟨0, _, _, rfl, rfl, Nat.zero_le _, rfl, ?_, ?_, ?_, (hb1.alloc hb1.size _).alloc (by rw [hz]; exact Nat.le_succ_of_le hb1.size) _⟩
    · rw [HT0.out]; exact World.ownsRow.alloc (o1.mono hb1.size) _
    · rw [HK0.out]; exact o2.mono (Nat.le_succ_of_le hb1.size)
    · intro k hk e
      injection hk with hk
      injection e with e
      have hk : w1.heap.size = k := hk
      have e : w1.heap.size + 1 = k := e
      omega
  case round =>
    obtain ⟨j, yv, vv, ey, ev, hj, rfl, hoy, ho, hap, hb⟩ := hrel
    subst ey ev
    have hsz := hb.size
    by_cases hlt : j < N
    · obtain ⟨b0, off, rfl, c1, hb0⟩ := HC.out j hlt
      have c2 : wr.cell? ⟨b0, off + j, none⟩ = some (.int .i64 (xs.getD j 0)) := (hb.cell (p := ⟨b0, off + j, none⟩) hb0).trans c1
      have hl : (SK j).length ≤ 60 := by have := HSL.out j; omega
      have HP := Lib.hid (HPU.out wr hb _ _ (SK j) (xs.getD j 0) ho hl (HM.out j (Nat.le_of_lt hlt)) (HA.out j hlt))
      have hk := Lib.hid (HK.out j)
      have ht := Lib.hid (HT.out j)
      rw [HTV.out j] at ht
      have hq2 : (TD j).length + 1 ≤ 1000000000 := by rw [HTL.out]; omega
      clear c1
      generalize push (rkf rs) (SK j) (xs.getD j 0) = PP at *
      generalize xs.getD j 0 = u at *
      obtain ⟨P1, P2⟩ := PP
      have hk2 : SK (j + 1) = P1 := hk.out
      have ht2 : TD (j + 1) = TD j ++ [P2] := ht.out
      have HX := Lib.hid (fun (w2 : World) (v1 : Value) (o1 : Own w2 wr.heap.size v1 P1) (b1 : Below wr.heap.size wr w2) => show Own w2 w.heap.size yv (TD j) ∧ Apart yv v1 ∧ w.heap.size ≤ w2.heap.size from
        ⟨hoy.below b1 (Nat.le_refl _), Apart.new hoy (fun k hk => (o1.block k hk).1) (Nat.le_refl _), Nat.le_trans hsz b1.size⟩)
      clear hk ht
      go_wp2_with (first | (go_at_call 47; (with_reducible refine HP.out.mono ?_); rintro e w2 ⟨v1, rfl, o1, b1⟩; obtain ⟨hoy1, hap1, hsz1⟩ := HX.out w2 v1 o1 b1) | (at_builtin; refine wpList_appG w2 rfl _ _ rfl w.heap.size yv (TD j) P2 ?_ ?_ hoy1 hq2 hsz1 ?_; rfl; rfl))
      intro y2 w3 ho3 hb3 hk3
      obtain ⟨o13, hap3⟩ := hk3 v1 wr.heap.size P1 o1 hap1
      go_wp2
      go_roundw
      case rel => exact ⟨j + 1, _, _, rfl, rfl, by omega, by go_num, by rw [ht2]; exact ho3, by rw [hk2]; exact o13.mono hsz, hap3.symm, (hb.trans (b1.mono hsz)).trans hb3⟩
      case measure => simp [intOf]; omega
    · have e : j = N := by omega
      subst e
      rw [← HPE.out] at hoy
      have ho := hoy
      go_wp2_with (go_at_call 44; (with_reducible refine (HB.out _ _ _ ho).mono ?_); rintro e w4 ⟨v3, rfl, o3, b4⟩)
      go_ret2
      exact ⟨_, rfl, o3.mono hsz, hb.trans (b4.mono hsz)⟩
theorem rst_no_i {v u : Value} {rs xs : List Int} {w : World} (hq : Rd w v rs) (h : Rd w u xs) (hn : rs.length ≤ 1048576) (hn2 : xs.length ≤ 1048576) (hno : ¬ (okRk rs = true ∧ okU xs = true)) :
    Calls Try.prog 26 #[v, u] w (Res [] false w) := by
  have hR := Lib.hid (ranks_i hq hn)
  cases hrk : okRk rs
  · rw [hrk] at hR
    clear hno hrk
    go_enter Try.func26, Try.ntmps26
    go_wp2_with (go_at_call 13; (with_reducible refine hR.out.mono ?_); rintro e w1 ⟨rfl, hb1⟩)
    go_ret2
    exact ⟨_, rfl, Own.nil _ _, hb1⟩
  · rw [hrk] at hR
    obtain ⟨a, c, rfl, _, _, hr⟩ := h
    have hU := Lib.hid (fun (w1 : World) (hb : Below w.heap.size w w1) => uses_i a c xs w1 hn2 (hr.below hb))
    cases hok : okU xs
    · rw [hok] at hU
      clear hno hrk hok hr
      generalize xs.length = N at *
      go_enter Try.func26, Try.ntmps26
      go_wp2_with (first | (go_at_call 13; (with_reducible refine hR.out.mono ?_); rintro e w1 ⟨rfl, hb1⟩) | (go_at_call 38; (with_reducible refine (hU.out _ hb1).mono ?_); rintro e w2 ⟨rfl, rfl⟩))
      go_ret2
      exact ⟨_, rfl, Own.nil _ _, hb1⟩
    · exact absurd ⟨hrk, hok⟩ hno
theorem rst_no_s {v u : Value} {rs xs : List Int} {w : World} (hq : Rd w v rs) (h : Rd w u xs) (hn : rs.length ≤ 1048576) (hn2 : xs.length ≤ 1048576) (hno : ¬ (okRk rs = true ∧ okU xs = true)) :
    Calls Try.prog 25 #[v, u] w (Res [] false w) := by
  have hR := Lib.hid (ranks_s hq hn)
  cases hrk : okRk rs
  · rw [hrk] at hR
    clear hno hrk
    go_enter Try.func25, Try.ntmps25
    go_wp2_with (go_at_call 34; (with_reducible refine hR.out.mono ?_); rintro e w1 ⟨rfl, hb1⟩)
    go_ret2
    exact ⟨_, rfl, Own.nil _ _, hb1⟩
  · rw [hrk] at hR
    obtain ⟨a, c, rfl, _, _, hr⟩ := h
    have hU := Lib.hid (fun (w1 : World) (hb : Below w.heap.size w w1) => uses_s a c xs w1 hn2 (hr.below hb))
    cases hok : okU xs
    · rw [hok] at hU
      clear hno hrk hok hr
      generalize xs.length = N at *
      go_enter Try.func25, Try.ntmps25
      go_wp2_with (first | (go_at_call 34; (with_reducible refine hR.out.mono ?_); rintro e w1 ⟨rfl, hb1⟩) | (go_at_call 36; (with_reducible refine (hU.out _ hb1).mono ?_); rintro e w2 ⟨rfl, rfl⟩))
      go_ret2
      exact ⟨_, rfl, Own.nil _ _, hb1⟩
    · exact absurd ⟨hrk, hok⟩ hno
theorem rcv_no_i {v u : Value} {rs xs : List Int} {w : World} (x : Int) (hq : Rd w v rs) (h : Rd w u xs) (hn : rs.length ≤ 1048576) (hn2 : xs.length ≤ 1048576) (hno : ¬ (okRk rs = true ∧ okU xs = true ∧ 0 ≤ x ∧ x ≤ 60)) :
    Calls Try.prog 28 #[v, u, .int .i64 x] w (Res [] false w) := by
  have hR := Lib.hid (ranks_i hq hn)
  cases hrk : okRk rs
  · rw [hrk] at hR
    clear hno hrk
    go_enter Try.func28, Try.ntmps28
    go_wp2_with (go_at_call 13; (with_reducible refine hR.out.mono ?_); rintro e w1 ⟨rfl, hb1⟩)
    go_ret2
    exact ⟨_, rfl, Own.nil _ _, hb1⟩
  · rw [hrk] at hR
    obtain ⟨a, c, rfl, _, _, hr⟩ := h
    have hU := Lib.hid (fun (w1 : World) (hb : Below w.heap.size w w1) => uses_i a c xs w1 hn2 (hr.below hb))
    cases hok : okU xs
    · rw [hok] at hU
      clear hno hrk hok hr
      generalize xs.length = N at *
      go_enter Try.func28, Try.ntmps28
      go_wp2_with (first | (go_at_call 13; (with_reducible refine hR.out.mono ?_); rintro e w1 ⟨rfl, hb1⟩) | (go_at_call 38; (with_reducible refine (hU.out _ hb1).mono ?_); rintro e w2 ⟨rfl, rfl⟩))
      go_ret2
      exact ⟨_, rfl, Own.nil _ _, hb1⟩
    · rw [hok] at hU
      have e : okS x = false := decide_eq_false (fun hx => hno ⟨hrk, hok, hx⟩)
      have hZ := Lib.hid (fun (w1 : World) => size_i x w1)
      rw [e] at hZ
      clear hno hrk hok hr e
      generalize xs.length = N at *
      go_enter Try.func28, Try.ntmps28
      go_wp2_with (first | (go_at_call 13; (with_reducible refine hR.out.mono ?_); rintro e w1 ⟨rfl, hb1⟩) | (go_at_call 38; (with_reducible refine (hU.out _ hb1).mono ?_); rintro e w2 ⟨rfl, rfl⟩) | (go_at_call 45; (with_reducible refine (hZ.out _).mono ?_); rintro e w2 ⟨rfl, rfl⟩))
      go_ret2
      exact ⟨_, rfl, Own.nil _ _, hb1⟩
theorem rcv_no_s {v u : Value} {rs xs : List Int} {w : World} (x : Int) (hq : Rd w v rs) (h : Rd w u xs) (hn : rs.length ≤ 1048576) (hn2 : xs.length ≤ 1048576) (hno : ¬ (okRk rs = true ∧ okU xs = true ∧ 0 ≤ x ∧ x ≤ 60)) :
    Calls Try.prog 27 #[v, u, .int .i64 x] w (Res [] false w) := by
  have hR := Lib.hid (ranks_s hq hn)
  cases hrk : okRk rs
  · rw [hrk] at hR
    clear hno hrk
    go_enter Try.func27, Try.ntmps27
    go_wp2_with (go_at_call 34; (with_reducible refine hR.out.mono ?_); rintro e w1 ⟨rfl, hb1⟩)
    go_ret2
    exact ⟨_, rfl, Own.nil _ _, hb1⟩
  · rw [hrk] at hR
    obtain ⟨a, c, rfl, _, _, hr⟩ := h
    have hU := Lib.hid (fun (w1 : World) (hb : Below w.heap.size w w1) => uses_s a c xs w1 hn2 (hr.below hb))
    cases hok : okU xs
    · rw [hok] at hU
      clear hno hrk hok hr
      generalize xs.length = N at *
      go_enter Try.func27, Try.ntmps27
      go_wp2_with (first | (go_at_call 34; (with_reducible refine hR.out.mono ?_); rintro e w1 ⟨rfl, hb1⟩) | (go_at_call 36; (with_reducible refine (hU.out _ hb1).mono ?_); rintro e w2 ⟨rfl, rfl⟩))
      go_ret2
      exact ⟨_, rfl, Own.nil _ _, hb1⟩
    · rw [hok] at hU
      have e : okS x = false := decide_eq_false (fun hx => hno ⟨hrk, hok, hx⟩)
      have hZ := Lib.hid (fun (w1 : World) => size_s x w1)
      rw [e] at hZ
      clear hno hrk hok hr e
      generalize xs.length = N at *
      go_enter Try.func27, Try.ntmps27
      go_wp2_with (first | (go_at_call 34; (with_reducible refine hR.out.mono ?_); rintro e w1 ⟨rfl, hb1⟩) | (go_at_call 36; (with_reducible refine (hU.out _ hb1).mono ?_); rintro e w2 ⟨rfl, rfl⟩) | (go_at_call 43; (with_reducible refine (hZ.out _).mono ?_); rintro e w2 ⟨rfl, rfl⟩))
      go_ret2
      exact ⟨_, rfl, Own.nil _ _, hb1⟩
end Go.Proofs.Ytamlbonkppajbaa.Tr
