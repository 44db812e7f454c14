/- The model's first break of an inclusion: l04Inside, l04Break. -/
import Derived.Test.YtbjgfbhfmaddgaaCrunP
import Derived.Test.YtbjgfbhfmaddgaaCemp
namespace Go.Proofs.Ytbjgfbhfmaddgaa.Pv
open Go.RowKit
def insB (a b : List Int) : Bool := a.all fun x => !decide (0 ≤ x) || b.contains x
theorem ins_step (xs ys : List Int) (j : Nat) (h : j < xs.length) : insB (xs.take (j + 1)) ys = (insB (xs.take j) ys && (!decide (0 ≤ xs.getD j 0) || ys.contains (xs.getD j 0))) := by
  unfold insB
  rw [List.take_succ_eq_append_getElem h, List.all_append, Tr.getD_get' xs j h]
  simp
theorem ins_no (xs ys : List Int) (j : Nat) (h : j < xs.length) (hn : (!decide (0 ≤ xs.getD j 0) || ys.contains (xs.getD j 0)) = false) : insB xs ys = false := by
  unfold insB
  rw [List.all_eq_false]
  refine ⟨xs.getD j 0, by rw [Tr.getD_get' xs j h]; exact List.getElem_mem h, by rw [hn]; decide⟩
set_option maxHeartbeats 1000000 in
theorem inside_s (a a' : Option Addr) (c c' : Nat) (xs ys : List Int) (w : World) (hn : xs.length ≤ 1000) (hm : ys.length ≤ 1000) (hr : Row w a xs) (hr' : Row w a' ys) :
    Calls Try.prog 38 #[.slice a xs.length c, .slice a' ys.length c'] w (Bl (insB xs ys) w) := by
  have HC := Lib.hid hr
  have HH := Lib.hid (fun n => Tr.has_s a' c' ys n w (by omega) hr')
  have HS := Lib.hid (ins_step xs ys)
  have HE := Lib.hid (show insB (xs.take xs.length) ys = insB xs ys by rw [List.take_length])
  have HY := Lib.hid (ins_no xs ys)
  have H0 := Lib.hid (show insB (xs.take 0) ys = true from rfl)
  clear hr hr'
  unfold Row at HC
  generalize insB xs ys = r at *
  obtain ⟨I, hI⟩ : ∃ I : Nat → Bool, (fun j => insB (xs.take j) ys) = I := ⟨_, rfl⟩
  have HI : ∀ j, insB (xs.take j) ys = I j := fun j => congrFun hI j
  have HSI := Lib.hid (fun j (h : j < xs.length) => show I (j + 1) = (I j && (!decide (0 ≤ xs.getD j 0) || ys.contains (xs.getD j 0))) by rw [← HI, ← HI]; exact HS.out j h)
  have HEI := Lib.hid (show I xs.length = r by rw [← HI]; exact HE.out)
  have H0I := Lib.hid (show I 0 = true by rw [← HI]; exact H0.out)
  clear HS HE H0 HI hI
  generalize hN : xs.length = N at *
  generalize hM : ys.length = M at *
  clear hN hM
  go_enter Try.func38, Try.ntmps38
  go_wp2
  go_loop [5] (fun i => ∃ j : Nat, j ≤ N ∧ i = .int .i64 j ∧ Hid (I j = true)) (fun i => N - (intOf i).toNat)
  case atStart => exact ⟨0, Nat.zero_le _, rfl, H0I⟩
  case round =>
    obtain ⟨j, hj, rfl, hx⟩ := hrel
    by_cases hlt : j < N
    · obtain ⟨b, off, rfl, c1, hb⟩ := HC.out j hlt
      have hs := HSI.out j hlt
      have hy := Lib.hid (HY.out j hlt)
      have hh := Lib.hid (HH.out (xs.getD j 0))
      rw [hx.out] at hs
      generalize ys.contains (xs.getD j 0) = q at *
      generalize xs.getD j 0 = u at *
      by_cases hu : 0 ≤ u
      · cases q
        · have e : r = false := hy.out (by rw [decide_eq_true hu]; rfl)
          clear hs hy HEI HY HSI hx
          subst e
          go_wp2_with (go_at_call 50; (with_reducible refine hh.out.mono ?_); rintro e w1 ⟨rfl, rfl⟩)
          go_ret
          exact ⟨rfl, rfl⟩
        · have hnew : Hid (I (j + 1) = true) := by show _ = _; rw [hs, Bool.or_true]; rfl
          clear hs hy
          go_wp2_with (go_at_call 50; (with_reducible refine hh.out.mono ?_); rintro e w1 ⟨rfl, rfl⟩)
          go_round
          case rel => exact ⟨j + 1, by omega, by go_num, hnew⟩
          case measure => simp [intOf] <;> omega
      · have hnew : Hid (I (j + 1) = true) := by show _ = _; rw [hs, decide_eq_false hu]; rfl
        clear hs hy
        go_wp2
        go_round
        case rel => exact ⟨j + 1, by omega, by go_num, hnew⟩
        case measure => simp [intOf] <;> omega
    · have e : j = N := by omega
      subst e
      have e : r = true := HEI.out.symm.trans hx.out
      clear HEI HY HSI hx
      subst e
      go_wp2
      go_ret
      exact ⟨rfl, rfl⟩
theorem rd_rowB {w : World} {a : Option Addr} {n c : Nat} {xs : List Int} (h : Rd w (.slice a n c) xs) : Row w a xs := by
  obtain ⟨a', c', e, _, _, hr⟩ := h
  injection e with e1 e2 e3
  subst e1
  exact hr
/-- The first index at which something does not hold, or -1. -/
def fstB (f : Nat → Bool) : Nat → Nat → Int
  | _, 0 => -1
  | i, k + 1 => if f i then fstB f (i + 1) k else (i : Int)
/-- Whether one's contents behind i + 1 uses are in the other's. -/
def inAt (hs : List (List Int)) (ms : List Int) (hs' : List (List Int)) (ms' xs : List Int) (i : Nat) : Bool := insB (rowL ms.length (kK hs ms xs (i + 1))) (rowL ms'.length (kK hs' ms' xs (i + 1)))
theorem rowL_empty' (n : Nat) : rowL n (fun _ => -1) = emptyL n := by
  unfold rowL emptyL
  rw [List.map_const', List.length_range]
set_option maxHeartbeats 4000000 in
theorem break_s (g g' : Nat) (a a' b b' : Option Addr) (c c' d d' : Nat) (hs : List (List Int)) (ms : List Int) (hs' : List (List Int)) (ms' : List Int) (xs : List Int) (sl : Option Addr) (sc : Nat) (w : World) (hok : isP hs ms = true) (hok' : isP hs' ms' = true) (hl : xs.length ≤ 60)
    (hg : g < w.heap.size) (h0 : w.cell? ⟨g, 0, none⟩ = some (.slice a hs.length c)) (h1 : w.cell? ⟨g, 1, none⟩ = some (.slice a' ms.length c'))
    (hg' : g' < w.heap.size) (h0' : w.cell? ⟨g', 0, none⟩ = some (.slice b hs'.length d)) (h1' : w.cell? ⟨g', 1, none⟩ = some (.slice b' ms'.length d'))
    (hr : RdR w a hs) (hm : Row w a' ms) (hr' : RdR w b hs') (hm' : Row w b' ms') (hx : Row w sl xs) :
    Calls Try.prog 23 #[.pointer (some ⟨g, 0, none⟩), .pointer (some ⟨g', 0, none⟩), .slice sl xs.length sc] w (fun e w' => e = .returned (.int .i64 (fstB (inAt hs ms hs' ms' xs) 0 xs.length)) ∧ Below w.heap.size w w') := by
  obtain ⟨hp1, hp6⟩ : 1 ≤ ms.length ∧ ms.length ≤ 6 := by unfold isP at hok; simp only [Bool.and_eq_true, decide_eq_true_eq] at hok; omega
  obtain ⟨hq1, hq6⟩ : 1 ≤ ms'.length ∧ ms'.length ≤ 6 := by unfold isP at hok'; simp only [Bool.and_eq_true, decide_eq_true_eq] at hok'; omega
  have HST := Lib.hid (fun (k : Nat → Int) (x : Int) (v : Value) (w' : World) (hb : Below w.heap.size w w') (hv : Rd w' v (rowL ms.length k)) => step_s g a a' c c' hs ms k x v w' hok (Nat.lt_of_lt_of_le hg hb.size) ((hb.cell (p := ⟨g, 0, none⟩) hg).trans h0) ((hb.cell (p := ⟨g, 1, none⟩) hg).trans h1) (hr.below hb) (hm.below hb) hv)
  have HST' := Lib.hid (fun (k : Nat → Int) (x : Int) (v : Value) (w' : World) (hb : Below w.heap.size w w') (hv : Rd w' v (rowL ms'.length k)) => step_s g' b b' d d' hs' ms' k x v w' hok' (Nat.lt_of_lt_of_le hg' hb.size) ((hb.cell (p := ⟨g', 0, none⟩) hg').trans h0') ((hb.cell (p := ⟨g', 1, none⟩) hg').trans h1') (hr'.below hb) (hm'.below hb) hv)
  have HEM := Lib.hid (fun (w' : World) (hb : Below w.heap.size w w') => l03Empty_s g ms.length c' a' w' (Nat.lt_of_lt_of_le hg hb.size) ((hb.cell (p := ⟨g, 1, none⟩) hg).trans h1) (by omega))
  have HEM' := Lib.hid (fun (w' : World) (hb : Below w.heap.size w w') => l03Empty_s g' ms'.length d' b' w' (Nat.lt_of_lt_of_le hg' hb.size) ((hb.cell (p := ⟨g', 1, none⟩) hg').trans h1') (by omega))
  have HC := Lib.hid hx
  have HK0 := Lib.hid (show rowL ms.length (kK hs ms xs 0) = emptyL ms.length from rowL_empty' _)
  have HK0' := Lib.hid (show rowL ms'.length (kK hs' ms' xs 0) = emptyL ms'.length from rowL_empty' _)
  have HKS := Lib.hid (fun j => show kK hs ms xs (j + 1) = stN hs ms (kK hs ms xs j) (xs.getD j 0) from rfl)
  have HKS' := Lib.hid (fun j => show kK hs' ms' xs (j + 1) = stN hs' ms' (kK hs' ms' xs j) (xs.getD j 0) from rfl)
  have HIN := Lib.hid (fun j => show inAt hs ms hs' ms' xs j = insB (rowL ms.length (kK hs ms xs (j + 1))) (rowL ms'.length (kK hs' ms' xs (j + 1))) from rfl)
  clear hok hok' hg hg' h0 h1 h0' h1' hr hm hr' hm' hx
  unfold Row at HC
  generalize hKK : kK hs ms xs = KK at *
  generalize hKK' : kK hs' ms' xs = KK' at *
  generalize hF : inAt hs ms hs' ms' xs = F at *
  clear hKK hKK' hF
  generalize hMM : ms.length = M at *
  generalize hMM' : ms'.length = M' at *
  clear hMM hMM'
  generalize hN : xs.length = N at *
  clear hN
  go_enter Try.func23, Try.ntmps23
  go_wp2_with fail
  refine (HEM.out w (Below.refl _ _)).mono ?_; rintro e w1 ⟨v1, rfl, o1, b1⟩
  go_wp2_with fail
  refine (HEM'.out w1 b1).mono ?_; rintro e w2 ⟨v2, rfl, o2, b2⟩
  have R1 := Lib.hid (show Own w2 w.heap.size v1 (rowL M (KK 0)) from by rw [HK0.out]; exact o1.below b2 (Nat.le_refl _))
  have R2 := Lib.hid (show Own w2 w.heap.size v2 (rowL M' (KK' 0)) from by rw [HK0'.out]; exact o2.mono b1.size)
  have R3 := Lib.hid (bt b1 b2)
  clear o1 o2 b1 b2 HEM HEM' HK0 HK0'
  go_wp2
  go_loopw [7, 8, 9] (fun va vb i wr => ∃ (j : Nat) (ya yb : Value), ya = va ∧ yb = vb ∧ j ≤ N ∧ i = .int .i64 j ∧ Hid (Own wr w.heap.size ya (rowL M (KK j))) ∧ Hid (Own wr w.heap.size yb (rowL M' (KK' j))) ∧ Hid (Below w.heap.size w wr) ∧ Hid (fstB F j (N - j) = fstB F 0 N)) (fun _ _ i _ => N - (intOf i).toNat)
  case atStart => exact ⟨0, _, _, rfl, rfl, Nat.zero_le _, rfl, R1, R2, R3, Lib.hid rfl⟩
  case round =>
    obtain ⟨j, ya, yb, ea, eb, hj, rfl, hoa, hob, hB, hf⟩ := hrel
    subst ea eb
    clear R1 R2 R3
    by_cases hlt : j < N
    · obtain ⟨b9, off9, rfl, k1, k2⟩ := HC.out j hlt
      have hsz := hB.out.size
      have hSS := HST.out (KK j) (xs.getD j 0) ya wr hB.out hoa.out.rd
      rw [← HKS.out j] at hSS
      have HSS := Lib.hid hSS
      have HS2 := Lib.hid (fun (w2 : World) (b2 : Below wr.heap.size wr w2) => HST'.out (KK' j) (xs.getD j 0) yb w2 (hB.out.trans (b2.mono hsz)) (hob.out.below b2 (Nat.le_refl _)).rd)
      rw [← HKS'.out j] at HS2
      have k3 : wr.cell? ⟨b9, off9 + j, none⟩ = some (.int .i64 (xs.getD j 0)) := (hB.out.cell (p := ⟨b9, off9 + j, none⟩) k2).trans k1
      have hj1 : N - j = (N - (j + 1)) + 1 := by omega
      have hff := hf.out
      rw [hj1, fstB, HIN.out j] at hff
      have HFF := Lib.hid hff
      clear hSS hff hj1 hf k1
      have k4 := Lib.hid (fun (w2 : World) (b2 : Below wr.heap.size wr w2) => show w2.cell? ⟨b9, off9 + j, none⟩ = some (.int .i64 (xs.getD j 0)) from (b2.cell (p := ⟨b9, off9 + j, none⟩) (Nat.lt_of_lt_of_le k2 hsz)).trans k3)
      unfold Sh at HSS HS2
      generalize hitB M (KK j) (xs.getD j 0) = h1 at *
      generalize hitB M' (KK' j) (xs.getD j 0) = h2 at *
      generalize xs.getD j 0 = x at *
      go_wp2_with fail
      refine HSS.out.mono ?_; rintro e w3 ⟨v3, rfl, o3, b3⟩
      have k5 := k4.out w3 b3
      have HS3 := Lib.hid (HS2.out w3 b3)
      go_wp2_with fail
      refine HS3.out.mono ?_; rintro e w4 ⟨v4, rfl, o4, b4⟩
      have o34 := o3.below b4 (Nat.le_refl _)
      obtain ⟨ra, rc, e3⟩ := o34.form
      obtain ⟨ta, tc, e4⟩ := o4.form
      subst e3 e4
      have rr := rd_rowB o34.rd
      have tt := rd_rowB o4.rd
      have HI := Lib.hid (inside_s ra ta rc tc _ _ w4 (by rw [rowL_len]; omega) (by rw [rowL_len]; omega) rr tt)
      have Q1 := Lib.hid (o34.mono hsz)
      have Q2 := Lib.hid (o4.mono (Nat.le_trans hsz b3.size))
      have Q3 := Lib.hid (hB.out.trans ((bt b3 b4).mono hsz))
      clear o3 o34 o4 b3 b4 k5 HS3 rr tt
      generalize hX : rowL M (KK (j + 1)) = X at *
      generalize hY : rowL M' (KK' (j + 1)) = Y at *
      have HX := Lib.hid hX
      have HY := Lib.hid hY
      clear hX hY
      cases hins : insB X Y
      · rw [hins] at HI HFF
        have e9 := Lib.hid (show fstB F 0 N = (j : Int) from by have := HFF.out; rw [if_neg (by decide)] at this; exact this.symm)
        clear HFF hins
        go_wp2_with (go_at_call 38; (with_reducible refine HI.out.mono ?_); rintro e w5 ⟨rfl, rfl⟩)
        go_ret
        exact ⟨by rw [e9.out]; rfl, Q3.out⟩
      · rw [hins] at HI HFF
        have e9 := Lib.hid (show fstB F (j + 1) (N - (j + 1)) = fstB F 0 N from by have := HFF.out; rw [if_pos rfl] at this; exact this)
        clear HFF hins
        go_wp2_with (go_at_call 38; (with_reducible refine HI.out.mono ?_); rintro e w5 ⟨rfl, rfl⟩)
        go_roundw
        case rel => exact ⟨j + 1, _, _, rfl, rfl, by omega, by go_num, (by rw [HX.out]; exact Q1), (by rw [HY.out]; exact Q2), Q3, e9⟩
        case measure => simp [intOf] <;> omega
    · have e : j = N := by omega
      subst e
      have e9 := Lib.hid (show fstB F 0 j = -1 by rw [← hf.out, Nat.sub_self]; rfl)
      clear hf
      go_wp2
      go_ret
      exact ⟨by rw [e9.out]; rfl, hB.out⟩
end Go.Proofs.Ytbjgfbhfmaddgaa.Pv
