/- A bound of transfers and the least number of places, by both sides. -/
import Derived.Test.YtplflbgopjmgdaaCgmf
namespace Go.Proofs.Ytplflbgopjmgdaa.Pb
open Go.RowKit Pv
def tbV (bs : List (List Int)) : Nat := cnt (srcV bs ^^^ outV bs)
theorem xor_lt (a b : Nat) (h : a < 64) (h2 : b < 64) : a ^^^ b < 64 := Nat.xor_lt_two_pow (n := 6) h h2
theorem tbV_no {bs : List (List Int)} (h : okG bs = false) : tbV bs = 0 := by unfold tbV srcV outV; rw [h]; show cnt (0 ^^^ 0) = 0; exact cnt_zero
/-- The most that a node among the first j needs. -/
def mx (bs : List (List Int)) : Nat → Nat
  | 0 => 0
  | j + 1 => max (mx bs j) (cnt (nd bs j))
theorem mx_le (bs : List (List Int)) : ∀ j, mx bs j ≤ 6
  | 0 => Nat.zero_le _
  | j + 1 => by have h1 := mx_le bs j; have h2 := cnt_le (nd bs j); unfold mx; omega
def lpV (bs : List (List Int)) : Nat := if okG bs then mx bs bs.length + 1 else 0
theorem lpV_no {bs : List (List Int)} (h : okG bs = false) : lpV bs = 0 := by unfold lpV; rw [h]; rfl
theorem lpV_yes {bs : List (List Int)} (h : okG bs = true) : lpV bs = mx bs bs.length + 1 := by unfold lpV; rw [h]; rfl
theorem cnt_or : ∀ m : Fin 64, ∀ b : Fin 6, m.val.testBit b.val = false → cnt (m.val ||| 2 ^ b.val) = cnt m.val + 1 := by decide +kernel
theorem rise_lt {i : Nat} {xs : List Int} (h : okRow i xs = true) : ∀ d k, k + d + 1 < xs.length → xs.getD k 0 < xs.getD (k + d + 1) 0
  | 0, k, hk => riseH_lt h k hk
  | d + 1, k, hk => by
    have h1 := rise_lt h d k (by omega)
    have h2 := riseH_lt h (k + d + 1) (by omega)
    have e : k + (d + 1) + 1 = k + d + 1 + 1 := by omega
    rw [e]
    omega
theorem cnt_take {i : Nat} {xs : List Int} (h : okRow i xs = true) (hi : i ≤ 6) : ∀ k, k ≤ xs.length → cnt (putL (xs.take k) 0) = k
  | 0, _ => by rw [List.take_zero]; exact cnt_zero
  | k + 1, hk => by
    have h1 := cnt_take h hi k (by omega)
    have hx := okRow_at h k hk
    have hlt : putL (xs.take k) 0 < 64 := putL_lt _ _ (by omega) fun b hb => row_six h hi b (List.mem_of_mem_take hb)
    have hb : (xs.getD k 0).toNat < 6 := by omega
    have ht : (putL (xs.take k) 0).testBit (xs.getD k 0).toNat = false := by
      rw [putL_bit]
      simp only [Nat.zero_testBit, Bool.false_or]
      rw [List.any_eq_false]
      intro b hb2
      obtain ⟨t, ht, rfl⟩ := List.getElem_of_mem hb2
      have ht' : t < k ∧ t < xs.length := by rw [List.length_take] at ht; omega
      have h2 := rise_lt h (k - t - 1) t (by omega)
      have e : t + (k - t - 1) + 1 = k := by omega
      rw [e] at h2
      have h3 := okRow_at h t ht'.2
      rw [List.getElem_take]
      have e2 : xs.getD t 0 = xs[t]'ht'.2 := by rw [List.getD_eq_getElem?_getD, List.getElem?_eq_getElem ht'.2]; rfl
      rw [e2] at h2 h3
      have h4 := hx.1
      simp only [decide_eq_true_eq]
      intro h5
      omega
    rw [putL_take _ _ _ hk]
    have := cnt_or ⟨_, hlt⟩ ⟨_, hb⟩ ht
    rw [this]
    exact congrArg (· + 1) h1
theorem cnt_nd {bs : List (List Int)} (h : okG bs = true) (j : Nat) (hj : j < bs.length) : cnt (nd bs j) = (bs.getD j []).length := by
  have h1 := cnt_take (okG_row h j hj) (by have := okG_len h; omega) _ (Nat.le_refl _)
  rw [List.take_length] at h1
  exact h1
theorem max_s (a b : Int) (w : World) : Calls Try.prog 35 #[.int .i64 a, .int .i64 b] w (NwG (max a b) w) := by
  by_cases h : b < a
  · have e : max a b = a := by omega
    rw [e]
    go_enter Try.func35, Try.ntmps35
    go_wp2
    go_ret
    exact ⟨rfl, rfl⟩
  · have e : max a b = b := by omega
    rw [e]
    go_enter Try.func35, Try.ntmps35
    go_wp2
    go_ret
    exact ⟨rfl, rfl⟩

set_option maxHeartbeats 2000000 in
theorem tb_s {v : Value} {bs : List (List Int)} {w : World} (h : RdG w v bs) : Calls Try.prog 23 #[v] w (IbG (tbV bs : Nat) (okG bs) w) := by
  obtain ⟨a, c, rfl, h1, hl⟩ := h
  obtain ⟨⟨b0, b1, b2⟩, bb⟩ := RdG.boxed (c := c) h1 27
  have HG := Lib.hid (isg_s w.heap.size a c bs _ b2 b0 b1 hl)
  have HR := Lib.hid (fun (w' : World) (hb : Below (w.alloc (.cells #[.slice a bs.length c] 27)).heap.size (w.alloc (.cells #[.slice a bs.length c] 27)) w') => And.intro ((hb.cell (p := ⟨w.heap.size, 0, none⟩) b2).trans b0) (RdR.below b1 hb))
  clear b0 b1 b2 h1
  cases hr : okG bs
  · rw [hr] at HG
    rw [tbV_no hr]
    clear HR hr hl
    generalize bs.length = N at *
    go_enter Try.func23, Try.ntmps23
    go_wp2_with (first | (go_at_call 26; (with_reducible refine HG.out.mono ?_); rintro e w1 ⟨rfl, b1⟩; have B1 := Lib.hid (bt bb b1); clear b1 bb))
    go_ret2
    exact ⟨rfl, B1.out⟩
  · rw [hr] at HG
    have hzs : srcV bs = src bs bs.length := by unfold srcV; rw [hr]; rfl
    have hzo : outV bs = out bs bs.length := by unfold outV; rw [hr]; rfl
    have hls := srcV_lt bs
    have hlo := outV_lt bs
    have hx := xor64 _ _ hls hlo
    have hlen := (okG_len hr).2
    have HXS := Lib.hid (fun (w' : World) (hb : Below (w.alloc (.cells #[.slice a bs.length c] 27)).heap.size (w.alloc (.cells #[.slice a bs.length c] 27)) w') => (show Calls Try.prog 31 #[.pointer (some ⟨w.heap.size, 0, none⟩)] w' (NwG ((srcV bs : Nat) : Int) w') from by
      obtain ⟨x1, x2⟩ := HR.out w' hb
      rw [hzs]
      exact src_s w.heap.size a c bs w' x1 x2 hlen))
    have HXO := Lib.hid (fun (w' : World) (hb : Below (w.alloc (.cells #[.slice a bs.length c] 27)).heap.size (w.alloc (.cells #[.slice a bs.length c] 27)) w') => (show Calls Try.prog 34 #[.pointer (some ⟨w.heap.size, 0, none⟩)] w' (NwG ((outV bs : Nat) : Int) w') from by
      obtain ⟨x1, x2⟩ := HR.out w' hb
      rw [hzo, ← out_same hr]
      exact out_s w.heap.size a c bs w' x1 x2 hlen fun j hj => okG_row hr j hj))
    have HT := Lib.hid (fun w9 => count_s _ (xor_lt _ _ hls hlo) w9)
    clear HR hr hzs hzo hlen hl
    unfold tbV
    generalize cnt (srcV bs ^^^ outV bs) = q at *
    generalize srcV bs ^^^ outV bs = x at *
    generalize srcV bs = s at *
    generalize outV bs = o at *
    generalize bs.length = N at *
    go_enter Try.func23, Try.ntmps23
    go_wp2_with (first | (go_at_call 26; (with_reducible refine HG.out.mono ?_); rintro e w1 ⟨rfl, b1⟩; have B1 := Lib.hid (bt bb b1); have HX1 := Lib.hid (HXS.out w1 b1); have HX2 := Lib.hid (HXO.out w1 b1); clear b1 bb HXS HXO) | (go_at_call 31; (with_reducible refine HX1.out.mono ?_); rintro e w2 ⟨rfl, rfl⟩) | (go_at_call 34; (with_reducible refine HX2.out.mono ?_); rintro e w2 ⟨rfl, rfl⟩) | (go_at_call 37; (with_reducible refine (HT.out _).mono ?_); rintro e w3 ⟨rfl, rfl⟩))
    go_ret2
    exact ⟨rfl, B1.out⟩
set_option maxHeartbeats 2000000 in
theorem lp_s {v : Value} {bs : List (List Int)} {w : World} (h : RdG w v bs) : Calls Try.prog 21 #[v] w (IbG (lpV bs : Nat) (okG bs) w) := by
  obtain ⟨a, c, rfl, h1, hl⟩ := h
  obtain ⟨⟨b0, b1, b2⟩, bb⟩ := RdG.boxed (c := c) h1 27
  have HG := Lib.hid (isg_s w.heap.size a c bs _ b2 b0 b1 hl)
  have HR := Lib.hid (fun (w' : World) (hb : Below (w.alloc (.cells #[.slice a bs.length c] 27)).heap.size (w.alloc (.cells #[.slice a bs.length c] 27)) w') => And.intro ((hb.cell (p := ⟨w.heap.size, 0, none⟩) b2).trans b0) (RdR.below b1 hb))
  clear b0 b1 b2 h1
  cases hr : okG bs
  · rw [hr] at HG
    rw [lpV_no hr]
    clear HR hr hl
    generalize bs.length = N at *
    go_enter Try.func21, Try.ntmps21
    go_wp2_with (first | (go_at_call 26; (with_reducible refine HG.out.mono ?_); rintro e w1 ⟨rfl, b1⟩; have B1 := Lib.hid (bt bb b1); clear b1 bb))
    go_ret2
    exact ⟨rfl, B1.out⟩
  · rw [hr] at HG
    rw [lpV_yes hr]
    have hlen := (okG_len hr).2
    have HC := Lib.hid (fun j hj => cnt_nd hr j hj)
    have HM := Lib.hid (fun j => mx_le bs j)
    have HS := Lib.hid (fun j => (show mx bs (j + 1) = max (mx bs j) (cnt (nd bs j)) from rfl))
    have HJ := Lib.hid (fun (w' : World) (hb : Below (w.alloc (.cells #[.slice a bs.length c] 27)).heap.size (w.alloc (.cells #[.slice a bs.length c] 27)) w') j (hj : j < bs.length) => (show ∃ b off A C, a = some ⟨b, off, none⟩ ∧ w'.cell? ⟨w.heap.size, 0, none⟩ = some (.slice a bs.length c) ∧ w'.cell? ⟨b, off + j, none⟩ = some (.slice A (bs.getD j []).length C) from by
      obtain ⟨x1, x2⟩ := HR.out w' hb
      obtain ⟨b, off, A, C, e1, e2, _⟩ := x2 j hj
      exact ⟨b, off, A, C, e1, x1, e2⟩))
    have HJ0 := Lib.hid (fun (w' : World) (hb : Below (w.alloc (.cells #[.slice a bs.length c] 27)).heap.size (w.alloc (.cells #[.slice a bs.length c] 27)) w') => (HR.out w' hb).1)
    have HMX := Lib.hid (fun x y w9 => max_s x y w9)
    clear HR hr hl
    generalize hN : bs.length = N at *
    clear hN
    go_enter Try.func21, Try.ntmps21
    go_wp2_with (first | (go_at_call 26; (with_reducible refine HG.out.mono ?_); rintro e w1 ⟨rfl, b1⟩; have B1 := Lib.hid (bt bb b1); have HJ1 := Lib.hid (HJ.out w1 b1); have x0 := HJ0.out w1 b1; clear b1 bb HJ HJ0))
    go_loop [4, 5] (fun o i => ∃ j : Nat, j ≤ N ∧ i = .int .i64 (j : Nat) ∧ o = .int .i64 ((mx bs j + 1 : Nat) : Int)) (fun _ i => N - (intOf i).toNat)
    case atStart => exact ⟨0, Nat.zero_le _, rfl, rfl⟩
    case round =>
      obtain ⟨j, hj, rfl, rfl⟩ := hrel
      by_cases hlt : j < N
      · obtain ⟨b, off, A, C, rfl, x1, c1⟩ := HJ1.out j hlt
        have hc := HC.out j hlt
        have hm := HM.out j
        have hs := HS.out j
        rw [hc] at hs
        have hl6 : (bs.getD j []).length ≤ 6 := by rw [← hc]; exact cnt_le _
        clear HC HM HS HJ1 hc
        generalize (bs.getD j []).length = L at *
        by_cases hz : L = 0
        · have e : Hid (mx bs (j + 1) = mx bs j) := by show _ = _; rw [hs, hz]; omega
          have d2 : ¬ 0 < L := by omega
          clear hs hz
          generalize mx bs j = m at *
          go_wp2
          go_round
          case rel => exact ⟨j + 1, by omega, by go_num, by rw [e.out]⟩
          case measure => simp [intOf]; omega
        · have e : Hid (((mx bs (j + 1) + 1 : Nat) : Int) = max ((mx bs j + 1 : Nat) : Int) ((L : Int) + 1)) := by show _ = _; rw [hs]; omega
          have d2 : 0 < L := by omega
          clear hs
          generalize mx bs j = m at *
          go_wp2_with (first | (go_at_call 35; (with_reducible refine (HMX.out _ _ _).mono ?_); rintro e9 w2 ⟨rfl, rfl⟩))
          go_round
          case rel => exact ⟨j + 1, by omega, by go_num, by rw [e.out]; first | rfl | (simp; done) | (simp; split <;> omega)⟩
          case measure => simp [intOf]; omega
      · have e : j = N := by omega
        subst e
        go_wp2
        go_ret2
        exact ⟨rfl, B1.out⟩
set_option maxHeartbeats 2000000 in
theorem tb_i {v : Value} {bs : List (List Int)} {w : World} (h : RdG w v bs) : Calls Try.prog 24 #[v] w (IbG (tbV bs : Nat) (okG bs) w) := by
  obtain ⟨a, c, rfl, h1, hl⟩ := h
  obtain ⟨⟨b0, b1, b2⟩, bb⟩ := RdG.boxed (c := c) h1 27
  obtain ⟨n, q, f, hn, hnf, HG0⟩ := game6 a c bs _ b1 hl
  have HG := Lib.hid HG0
  have hs := srcV_lt bs
  have ho := outV_lt bs
  clear HG0 b0 b1 b2 h1
  cases hr : okG bs
  · rw [hr] at HG
    rw [tbV_no hr]
    clear hnf hr
    generalize srcV bs = s at *
    generalize outV bs = o at *
    generalize bs.length = N at *
    go_enter Try.func24, Try.ntmps24
    go_wp2_with (first | (go_at_call 28; (with_reducible refine HG.out.mono ?_); rintro e w1 ⟨rfl, b1⟩; have B1 := Lib.hid (bt bb b1); clear b1 bb) | (with_reducible refine wpList_storeB rfl 46 (.tmp 4) (.tmp 9) rfl w1.heap.size 0 (gm n q f s o) ?_ ?_ (gm 0 0 (fun _ => 0) 0 0) 46 ?_ ?_ ?_ ?_ ?_))
    · rfl
    · rfl
    · exact Blk.newAt _ _ _ _ rfl
    · exact Nat.le_refl _
    · kernel_rfl
    · exact one_gm _ _ _ _ _
    intro w2 k2 q2
    rw [splice_all _ _ (by rfl)] at k2
    have B2 : Hid (Below w.heap.size w w2) := (B1.out.alloc B1.out.size _).trans (q2.out.below B1.out.size)
    clear k2 q2 HG
    go_wp2
    go_ret2
    exact ⟨rfl, B2.out⟩
  · rw [hr] at HG
    have hx := xor8 _ _ hs ho
    have HT := Lib.hid (fun w9 => cnt_i _ (xor_lt _ _ hs ho) w9)
    clear hnf hr
    unfold tbV
    generalize cnt (srcV bs ^^^ outV bs) = qq at *
    generalize srcV bs ^^^ outV bs = x at *
    generalize srcV bs = s at *
    generalize outV bs = o at *
    generalize bs.length = N at *
    go_enter Try.func24, Try.ntmps24
    go_wp2_with (first | (go_at_call 28; (with_reducible refine HG.out.mono ?_); rintro e w1 ⟨rfl, b1⟩; have B1 := Lib.hid (bt bb b1); clear b1 bb) | (with_reducible refine wpList_storeB rfl 46 (.tmp 4) (.tmp 9) rfl w1.heap.size 0 (gm n q f s o) ?_ ?_ (gm 0 0 (fun _ => 0) 0 0) 46 ?_ ?_ ?_ ?_ ?_))
    · rfl
    · rfl
    · exact Blk.newAt _ _ _ _ rfl
    · exact Nat.le_refl _
    · kernel_rfl
    · exact one_gm _ _ _ _ _
    intro w2 k2 q2
    rw [splice_all _ _ (by rfl)] at k2
    have B2 : Hid (Below w.heap.size w w2) := (B1.out.alloc B1.out.size _).trans (q2.out.below B1.out.size)
    have x8 : w2.cell? ⟨w1.heap.size, 8, none⟩ = some (.int .u8 (s : Int)) := k2.out.cell 8
    have x9 : w2.cell? ⟨w1.heap.size, 9, none⟩ = some (.int .u8 (o : Int)) := k2.out.cell 9
    clear k2 q2 HG
    go_wp2_with (first | (go_at_call 36; (with_reducible refine (HT.out _).mono ?_); rintro e w3 ⟨rfl, rfl⟩))
    go_ret2
    exact ⟨rfl, B2.out⟩
set_option maxHeartbeats 2000000 in
theorem lp_i {v : Value} {bs : List (List Int)} {w : World} (h : RdG w v bs) : Calls Try.prog 22 #[v] w (IbG (lpV bs : Nat) (okG bs) w) := by
  obtain ⟨a, c, rfl, h1, hl⟩ := h
  obtain ⟨⟨b0, b1, b2⟩, bb⟩ := RdG.boxed (c := c) h1 27
  obtain ⟨n, q, f, hn, hnf, HG0⟩ := game6 a c bs _ b1 hl
  have HG := Lib.hid HG0
  have hs := srcV_lt bs
  have ho := outV_lt bs
  clear HG0 b0 b1 b2 h1
  cases hr : okG bs
  · rw [hr] at HG
    rw [lpV_no hr]
    clear hnf hr
    generalize srcV bs = s at *
    generalize outV bs = o at *
    generalize bs.length = N at *
    go_enter Try.func22, Try.ntmps22
    go_wp2_with (first | (go_at_call 28; (with_reducible refine HG.out.mono ?_); rintro e w1 ⟨rfl, b1⟩; have B1 := Lib.hid (bt bb b1); clear b1 bb) | (with_reducible refine wpList_storeB rfl 46 (.tmp 4) (.tmp 12) rfl w1.heap.size 0 (gm n q f s o) ?_ ?_ (gm 0 0 (fun _ => 0) 0 0) 46 ?_ ?_ ?_ ?_ ?_))
    · rfl
    · rfl
    · exact Blk.newAt _ _ _ _ rfl
    · exact Nat.le_refl _
    · kernel_rfl
    · exact one_gm _ _ _ _ _
    intro w2 k2 q2
    rw [splice_all _ _ (by rfl)] at k2
    have B2 : Hid (Below w.heap.size w w2) := (B1.out.alloc B1.out.size _).trans (q2.out.below B1.out.size)
    clear k2 q2 HG
    go_wp2
    go_ret2
    exact ⟨rfl, B2.out⟩
  · rw [hr] at HG
    rw [lpV_yes hr]
    obtain ⟨hnl, hfn⟩ := hnf hr
    have HF := Lib.hid (fun j (hj : j < n) => (show f j = nd bs j from by rw [hfn]; unfold ndF; rw [if_pos (by omega)]))
    have HLT := Lib.hid (fun j (hj : j < n) => nd_lt (okG_row hr j (by omega)) (by omega : j ≤ 6))
    have HM := Lib.hid (fun j => mx_le bs j)
    have HS := Lib.hid (fun j => (show mx bs (j + 1) = max (mx bs j) (cnt (nd bs j)) from rfl))
    have HCT := Lib.hid (fun m hm w9 => cnt_i m hm w9)
    have HCL := Lib.hid (fun m => cnt_le m)
    rw [← hnl]
    have hn' : (n : Int) ≤ 6 := by omega
    have hn0 : (0 : Int) ≤ (n : Int) := by omega
    clear hnf hr hfn
    rw [← hnl] at hl HG bb
    clear hnl
    generalize srcV bs = s at *
    generalize outV bs = o at *
    go_enter Try.func22, Try.ntmps22
    go_wp2_with (first | (go_at_call 28; (with_reducible refine HG.out.mono ?_); rintro e w1 ⟨rfl, b1⟩; have B1 := Lib.hid (bt bb b1); clear b1 bb) | (with_reducible refine wpList_storeB rfl 46 (.tmp 4) (.tmp 12) rfl w1.heap.size 0 (gm n q f s o) ?_ ?_ (gm 0 0 (fun _ => 0) 0 0) 46 ?_ ?_ ?_ ?_ ?_))
    · rfl
    · rfl
    · exact Blk.newAt _ _ _ _ rfl
    · exact Nat.le_refl _
    · kernel_rfl
    · exact one_gm _ _ _ _ _
    intro w2 k2 q2
    rw [splice_all _ _ (by rfl)] at k2
    have B2 : Hid (Below w.heap.size w w2) := (B1.out.alloc B1.out.size _).trans (q2.out.below B1.out.size)
    have x0 : w2.cell? ⟨w1.heap.size, 0, none⟩ = some (.int .i64 (n : Int)) := k2.out.cell 0
    have HK := Lib.hid (fun j (hj : j < n) => (show w2.cell? ⟨w1.heap.size, 2 + j, none⟩ = some (.int .u8 ((nd bs j : Nat) : Int)) from by rw [k2.out.cell, gm_f _ _ _ _ _ j (by omega), HF.out j hj]))
    clear k2 q2 HG HF
    go_wp2
    go_loop [6, 8, 21] (fun m _ i => ∃ j : Nat, j ≤ n ∧ i = .int .i64 (j : Nat) ∧ m = .int .i64 ((mx bs j : Nat) : Int)) (fun _ _ i => n - (intOf i).toNat)
    case atStart => exact ⟨0, Nat.zero_le _, rfl, rfl⟩
    case round =>
      obtain ⟨j, hj, rfl, rfl⟩ := hrel
      by_cases hlt : j < n
      · have cj := HK.out j hlt
        have HC := Lib.hid (fun w9 => HCT.out (nd bs j) (HLT.out j hlt) w9)
        have hcl := HCL.out (nd bs j)
        have hs2 := HS.out j
        have hm := HM.out j
        have e : Hid (((mx bs (j + 1) : Nat) : Int) = max ((mx bs j : Nat) : Int) ((cnt (nd bs j) : Nat) : Int)) := by show _ = _; rw [hs2]; omega
        clear HCT HLT HCL HS HM HK hs2
        generalize cnt (nd bs j) = q2 at *
        generalize nd bs j = m2 at *
        generalize mx bs j = m at *
        go_wp2_with (first | (go_at_call 36; (with_reducible refine (HC.out _).mono ?_); rintro e w3 ⟨rfl, rfl⟩))
        go_round
        case rel => exact ⟨j + 1, by omega, by go_num, by rw [e.out]; first | rfl | (simp; done) | (simp; split <;> omega)⟩
        case measure => simp [intOf]; omega
      · have e : j = n := by omega
        subst e
        have hm := HM.out j
        go_wp2
        go_ret2
        exact ⟨rfl, B2.out⟩
end Go.Proofs.Ytplflbgopjmgdaa.Pb
