/- The model's runs: hits and contents, misses. -/
import Derived.Test.YtdclcdokdkeimaaCmisI
namespace Go.Proofs.Ytdclcdokdkeimaa.Pv
open Go.RowKit
def hitF (hs : List (List Int)) (ms xs : List Int) (i : Nat) : Int := if hitK hs ms xs i then 1 else 0
set_option maxHeartbeats 4000000 in
theorem run_s (g : Nat) (a a' : Option Addr) (c c' : Nat) (hs : List (List Int)) (ms xs : List Int) (sl : Option Addr) (sc : Nat) (w : World) (hok : isP hs ms = true) (hl : xs.length ≤ 60) (hg : g < w.heap.size) (h0 : w.cell? ⟨g, 0, none⟩ = some (.slice a hs.length c)) (h1 : w.cell? ⟨g, 1, none⟩ = some (.slice a' ms.length c'))
    (hr : RdR w a hs) (hm : Row w a' ms) (hx : Row w sl xs) :
    Calls Try.prog 44 #[.pointer (some ⟨g, 0, none⟩), .slice sl xs.length sc] w (fun e w' => ∃ v1 v2, e = .returned (.tuple #[v1, v2]) ∧ Own w' w.heap.size v1 (Tr.told (hitF hs ms xs) xs.length) ∧ Own w' w.heap.size v2 (rowL ms.length (kK hs ms xs xs.length)) ∧ Apart v2 v1 ∧ Below w.heap.size w w') := by
  obtain ⟨hp1, hp6⟩ : 1 ≤ ms.length ∧ ms.length ≤ 6 := by unfold isP at hok; simp only [Bool.and_eq_true, decide_eq_true_eq] at hok; omega
  have HST := Lib.hid (fun (k : Nat → Int) (x : Int) (v : Value) (w' : World) (hb : Below w.heap.size w w') (hv : Rd w' v (rowL ms.length k)) => step_s g a a' c c' hs ms k x v w' hok (Nat.lt_of_lt_of_le hg hb.size) ((hb.cell (p := ⟨g, 0, none⟩) hg).trans h0) ((hb.cell (p := ⟨g, 1, none⟩) hg).trans h1) (hr.below hb) (hm.below hb) hv)
  have HEM := Lib.hid (fun (w' : World) (hb : Below w.heap.size w w') => l03Empty_s g ms.length c' a' w' (Nat.lt_of_lt_of_le hg hb.size) ((hb.cell (p := ⟨g, 1, none⟩) hg).trans h1) (by omega))
  have HC := Lib.hid hx
  have HK0 := Lib.hid (show rowL ms.length (kK hs ms xs 0) = emptyL ms.length from rowL_empty _)
  have HKS := Lib.hid (fun j => show kK hs ms xs (j + 1) = stN hs ms (kK hs ms xs j) (xs.getD j 0) from rfl)
  have HHF := Lib.hid (fun j => show hitF hs ms xs j = if hitB ms.length (kK hs ms xs j) (xs.getD j 0) then 1 else 0 from rfl)
  have HT := Lib.hid (fun j => Tr.told_succ (hitF hs ms xs) j)
  have HTL := Lib.hid (fun j => Tr.told_length (hitF hs ms xs) j)
  have HT0 := Lib.hid (show Tr.told (hitF hs ms xs) 0 = [] from rfl)
  clear hok hg h0 h1 hr hm hx
  unfold Row at HC
  generalize hKK : kK hs ms xs = KK at *
  generalize hHF : hitF hs ms xs = HF at *
  clear hKK hHF
  generalize hMM : ms.length = M at *
  clear hMM
  generalize hN : xs.length = N at *
  clear hN
  have hz0 : (w.alloc (.cells #[] 2)).heap.size = w.heap.size + 1 := Array.size_push _
  have HB00 := Lib.hid ((Below.refl w.heap.size w).alloc (Nat.le_refl _) (.cells #[] 2))
  go_enter Try.func44, Try.ntmps44
  go_wp2_with fail
  refine (HEM.out _ HB00.out).mono ?_; rintro e w1 ⟨v1, rfl, o1, b1⟩
  have ho0 : Own w1 w.heap.size (.slice (some ⟨w.heap.size, 0, none⟩) 0 0) [] := (Own.lit0 w).below b1 (Nat.le_refl _)
  have ho1 := o1.mono (B' := w.heap.size) (by omega)
  have hap0 : Apart v1 (.slice (some ⟨w.heap.size, 0, none⟩) 0 0) := fun k hk e => by
    injection hk with hk
    have h2 := (o1.block k e).1
    have hk : w.heap.size = k := hk
    omega
  have hb1 := HB00.out.trans (b1.mono (by omega))
  clear o1 b1 HEM
  go_wp2
  go_loopw [6, 7, 8, 9, 10, 11] (fun y v i _ _ _ wr => ∃ (j : Nat) (yv vv : Value), yv = y ∧ vv = v ∧ j ≤ N ∧ i = .int .i64 j ∧ Hid (Own wr w.heap.size yv (Tr.told HF j)) ∧ Hid (Own wr w.heap.size vv (rowL M (KK j))) ∧ Hid (Apart vv yv) ∧ Hid (Below w.heap.size w wr)) (fun _ _ i _ _ _ _ => N - (intOf i).toNat)
  case atStart => exact ⟨0, _, _, rfl, rfl, Nat.zero_le _, rfl, Lib.hid (by rw [HT0.out]; exact ho0), Lib.hid (by rw [HK0.out]; exact ho1), Lib.hid hap0, Lib.hid hb1⟩
  case round =>
    obtain ⟨j, yv, vv, ey, ev, hj, rfl, hoy, hov, hap, hB⟩ := hrel
    subst ey ev
    clear ho0 ho1 hap0 hb1
    by_cases hlt : j < N
    · obtain ⟨b9, off9, rfl, k1, k2⟩ := HC.out j hlt
      have k3 : wr.cell? ⟨b9, off9 + j, none⟩ = some (.int .i64 (xs.getD j 0)) := (hB.out.cell (p := ⟨b9, off9 + j, none⟩) k2).trans k1
      have hks := Lib.hid (HKS.out j)
      have hhf := HHF.out j
      have ht := HT.out j
      rw [hhf] at ht
      have hq : (Tr.told HF j).length + 1 ≤ 1000000000 := by rw [HTL.out]; omega
      have hSS := Lib.hid (HST.out (KK j) (xs.getD j 0) vv wr hB.out hov.out.rd)
      have hsz := hB.out.size
      have HX := Lib.hid (fun (w2 : World) (v2 : Value) (o2 : Own w2 wr.heap.size v2 (rowL M (stN hs ms (KK j) (xs.getD j 0)))) (b2 : Below wr.heap.size wr w2) => show Own w2 w.heap.size yv (Tr.told HF j) ∧ Apart yv v2 ∧ w.heap.size ≤ w2.heap.size from
        ⟨hoy.out.below b2 (Nat.le_refl _), Apart.new hoy.out (fun k hk => (o2.block k hk).1) (Nat.le_refl _), Nat.le_trans hsz b2.size⟩)
      unfold Sh at hSS
      rw [← hks.out] at HX
      clear k1 HKS HHF HT hhf
      rw [← hks.out] at hSS
      generalize hitB M (KK j) (xs.getD j 0) = hb at *
      generalize xs.getD j 0 = x at *
      cases hb
      · have ht' : Tr.told HF (j + 1) = Tr.told HF j ++ [0] := ht
        clear ht
        go_wp2_with (first | (go_at_call 34; (with_reducible refine hSS.out.mono ?_); rintro e w2 ⟨v2, rfl, o2, b2⟩; obtain ⟨hoy1, hap1, hsz1⟩ := HX.out w2 v2 o2 b2) | (at_builtin; refine wpList_appG w2 rfl _ _ rfl w.heap.size yv (Tr.told HF j) 0 ?_ ?_ hoy1 hq hsz1 ?_; rfl; rfl))
        intro y2 w3 ho3 hb3 hk3
        obtain ⟨o23, hap3⟩ := hk3 v2 wr.heap.size _ o2 hap1
        have R1 := Lib.hid (show Own w3 w.heap.size y2 (Tr.told HF (j + 1)) from by rw [ht']; exact ho3)
        have R2 := Lib.hid (show Own w3 w.heap.size v2 (rowL M (KK (j + 1))) from o23.mono hsz)
        have R3 := Lib.hid hap3.symm
        have R4 := Lib.hid ((hB.out.trans (b2.mono hsz)).trans hb3)
        clear ho3 hb3 hk3 o23 hap3 o2 b2 hoy1 hap1
        go_wp2
        go_roundw
        case rel => exact ⟨j + 1, _, _, rfl, rfl, by omega, by go_num, R1, R2, R3, R4⟩
        case measure => simp [intOf]; omega
      · have ht' : Tr.told HF (j + 1) = Tr.told HF j ++ [1] := ht
        clear ht
        go_wp2_with (first | (go_at_call 34; (with_reducible refine hSS.out.mono ?_); rintro e w2 ⟨v2, rfl, o2, b2⟩; obtain ⟨hoy1, hap1, hsz1⟩ := HX.out w2 v2 o2 b2) | (at_builtin; refine wpList_appG w2 rfl _ _ rfl w.heap.size yv (Tr.told HF j) 1 ?_ ?_ hoy1 hq hsz1 ?_; rfl; rfl))
        intro y2 w3 ho3 hb3 hk3
        obtain ⟨o23, hap3⟩ := hk3 v2 wr.heap.size _ o2 hap1
        have R1 := Lib.hid (show Own w3 w.heap.size y2 (Tr.told HF (j + 1)) from by rw [ht']; exact ho3)
        have R2 := Lib.hid (show Own w3 w.heap.size v2 (rowL M (KK (j + 1))) from o23.mono hsz)
        have R3 := Lib.hid hap3.symm
        have R4 := Lib.hid ((hB.out.trans (b2.mono hsz)).trans hb3)
        clear ho3 hb3 hk3 o23 hap3 o2 b2 hoy1 hap1
        go_wp2
        go_roundw
        case rel => exact ⟨j + 1, _, _, rfl, rfl, by omega, by go_num, R1, R2, R3, R4⟩
        case measure => simp [intOf]; omega
    · have e : j = N := by omega
      subst e
      go_wp2
      go_ret2
      exact ⟨_, _, rfl, hoy.out, hov.out, hap.out, hB.out⟩
end Go.Proofs.Ytdclcdokdkeimaa.Pv
