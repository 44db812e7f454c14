/- The program's stack after a use, the one used last being first. All uses. -/
import Derived.Test.YtaeaffddmohjgaaCstkL
import Derived.Laws.EntriesVeiled
namespace Go.Proofs.Ytaeaffddmohjgaa.Tr
open Go.RowKit
theorem told_atL (f : Int → Int → Bool) (xs : List Int) (j : Nat) : told (stoodAt f xs) (j + 1) = told (stoodAt f xs) j ++ [(push f (stackK f xs j) (xs.getD j 0)).2] := told_succ _ _
set_option maxHeartbeats 2000000 in
set_option maxRecDepth 100000 in
theorem stack_L (f : Int → Int → Bool) (sl : Option Addr) (c : Nat) (xs : List Int) (w : World) (hok : okU xs = true) (hr : Row w sl xs)
    (hF : ∀ c t w', 0 ≤ c ∧ c ≤ 63 → 0 ≤ t ∧ t ≤ 63 → Below w.heap.size w w' → Calls Try.prog 47 #[.int .i64 c, .int .i64 t] w' (Bl (f c t) w')) :
    Calls Try.prog 46 #[.slice sl xs.length c, (.func (.func 47) #[] #[])] w (fun e w' => ∃ v1 v2, e = .returned (.tuple #[v1, v2]) ∧ Own w' w.heap.size v1 (stackK f xs xs.length) ∧ Own w' w.heap.size v2 (told (stoodAt f xs) xs.length) ∧ Below w.heap.size w w') := by
  have hn := okU_len hok
  have HA := Lib.hid (fun j (hj : j < xs.length) => okU_at hok j hj)
  have HM := Lib.hid (fun j (hj : j ≤ xs.length) => show ∀ y ∈ stackK f xs j, 0 ≤ y ∧ y ≤ 63 from fun y hy => by
    rw [stackK_mem f xs j hj] at hy
    obtain ⟨i, hi, e⟩ := List.getElem_of_mem (List.mem_of_mem_take hy)
    have := okU_at hok i hi
    rw [getD_get' xs i hi, e] at this
    exact this)
  have HC := Lib.hid hr
  have HF := Lib.hid hF
  have HSL := Lib.hid (fun j => stackK_len f xs j)
  have HT := Lib.hid (told_atL f xs)
  have HTL := Lib.hid (fun j => told_length (stoodAt f xs) j)
  have HK := Lib.hid (fun j => show stackK f xs (j + 1) = (push f (stackK f xs j) (xs.getD j 0)).1 from rfl)
  have HK0 := Lib.hid (show stackK f xs 0 = [] from rfl)
  have HT0 := Lib.hid (show told (stoodAt f xs) 0 = [] from rfl)
  clear hok hr hF
  unfold Row at HC
  generalize hSK : stackK f xs = SK at *
  generalize hTK : told (stoodAt f xs) = TK at *
  clear hSK hTK
  generalize hN : xs.length = N at *
  have HN := Lib.hid hN
  clear hN
  go_enter Try.func46, Try.ntmps46
  go_wp2_with (at_make; refine wpList_make0 _ rfl _ _ rfl N .i64 .i64 (N : Int) ?_ ?_ rfl ?_ ?_; rfl; rfl; omega)
  intro v0 w0 ho0 hb0 hsz0
  have hS0 : Stk w0 w.heap.size (.slice none 0 0) (.func (.func 47) #[] #[]) := by
    show w0.heap[w.heap.size]? = _
    rw [hb0.block _ (Nat.lt_succ_self _)]
    exact heap_alloc_new w _
  have hB0 : Below w.heap.size w w0 := ((Below.refl _ w).alloc (Nat.le_refl _) _).trans (hb0.mono (Nat.le_succ _))
  have hsepy : v0.ownBlock ≠ some w.heap.size := fun e => by have := (ho0.block _ e).1; omega
  have hoy0 : Own w0 w.heap.size v0 (TK 0) := by rw [HT0.out]; exact ho0.mono (Nat.le_succ _)
  have hov0 : Own w0 w.heap.size (.slice none 0 0) (SK 0) := by rw [HK0.out]; exact Own.nil _ _
  clear ho0 hb0 hsz0
  go_wp2
  go_loopw [7, 17] (fun yv0 i wr => ∃ (j : Nat) (v yv : Value), yv = yv0 ∧ j ≤ N ∧ i = .int .i64 j ∧ Stk wr w.heap.size v (.func (.func 47) #[] #[]) ∧ Hid (Own wr w.heap.size v (SK j)) ∧ Hid (Own wr w.heap.size yv (TK j)) ∧ Hid (v.ownBlock ≠ some w.heap.size) ∧ Hid (yv.ownBlock ≠ some w.heap.size) ∧ Hid (Apart v yv) ∧ Hid (Below w.heap.size w wr)) (fun _ i _ => N - (intOf i).toNat)
  case atStart => exact ⟨0, _, _, rfl, Nat.zero_le _, rfl, hS0, Lib.hid hov0, Lib.hid hoy0, Lib.hid (fun e => by cases e), Lib.hid hsepy, Lib.hid (Apart.nil _), Lib.hid hB0⟩
  case round =>
    obtain ⟨j, v, yv, eyv, hj, rfl, hsr, hov, hoy, hvp, hyp, hap, hB⟩ := hrel
    subst eyv
    obtain ⟨c0, c1, f0⟩ := hsr.cells
    have hpr := hsr.lt
    by_cases hlt : j < N
    · obtain ⟨b0, off, rfl, c2, hb0⟩ := HC.out j hlt
      have c3 : wr.cell? ⟨b0, off + j, none⟩ = some (.int .i64 (xs.getD j 0)) := (hB.out.cell (p := ⟨b0, off + j, none⟩) hb0).trans c2
      have hj60 : (SK j).length ≤ 60 := Nat.le_trans (HSL.out j) (by omega)
      have HUSE := Lib.hid (use_L f w.heap.size w.heap.size v (SK j) (xs.getD j 0) wr hsr hov.out (Nat.le_refl _) hvp.out hj60 (HM.out j (Nat.le_of_lt hlt)) (HA.out j hlt) (fun c t w' h1 h2 h3 => HF.out c t w' h1 h2 (hB.out.trans h3)))
      have hk := HK.out j
      have ht := HT.out j
      rw [← hk] at HUSE
      have HTJ := Lib.hid ht
      have hq : (TK j).length + 1 ≤ 1000000000 := by rw [HTL.out]; omega
      clear hk ht c2
      generalize (push f (SK j) (xs.getD j 0)).2 = pl at *
      generalize xs.getD j 0 = u at *
      have HX := Lib.hid (fun (w1 : World) (v' : Value) (hs1 : Stk w1 w.heap.size v' (.func (.func 47) #[] #[])) (hb1 : Below w.heap.size wr w1) (hk1 : ∀ k, k < wr.heap.size → k ≠ w.heap.size → v.ownBlock ≠ some k → w1.heap[k]? = wr.heap[k]?) (hv1 : ∀ k, v'.ownBlock = some k → v.ownBlock = some k ∨ wr.heap.size ≤ k) =>
        (show Own w1 w.heap.size yv (TK j) ∧ Apart v' yv ∧ v'.ownBlock ≠ some w.heap.size ∧ w.heap.size ≤ w1.heap.size ∧ w1.cell? ⟨w.heap.size, 0, none⟩ = some v' from by
          refine ⟨hoy.out.same fun k hk => hk1 k (hoy.out.block k hk).2 (fun e => hyp.out (by rw [hk, e])) (hap.out k hk), fun k hk e => ?_, fun e => ?_, Nat.le_trans hB.out.size hb1.size, hs1.cells.1⟩
          · rcases hv1 k e with h | h
            · exact hap.out k hk h
            · have := (hoy.out.block k hk).2; omega
          · rcases hv1 _ e with h | h
            · exact hvp.out h
            · omega))
      go_wp2_with (first | (go_at_call 62; (with_reducible refine HUSE.out.mono ?_); rintro e w1 ⟨rfl, v', hs1, ho1, hb1, hk1, hv1⟩; obtain ⟨hoy1, hap1, hv'p, hsz1, d0⟩ := HX.out w1 v' hs1 hb1 hk1 hv1) | (at_builtin; refine wpList_appB w1 rfl _ _ rfl w.heap.size _ (TK j) pl ?_ ?_ hoy1 hq hsz1 ?_; rfl; rfl))
      intro y' w2 ho2 hb2 hk2 hy2
      have hs2 : Stk w2 w.heap.size v' (.func (.func 47) #[] #[]) := hs1.same (hk2 _ hs1.lt hyp.out)
      have ho12 : Own w2 w.heap.size v' (SK (j + 1)) := ho1.same fun k hk => hk2 k (ho1.block k hk).2 (fun e => hap1 k e hk)
      have hap2 : Apart v' y' := fun k hk e => by
        rcases hy2 k hk with h | h
        · exact hap1 k h e
        · have := (ho1.block k e).2; omega
      have hyp2 : y'.ownBlock ≠ some w.heap.size := fun e => by
        rcases hy2 _ e with h | h
        · exact hyp.out h
        · have := hs1.lt; omega
      go_wp2
      go_roundw
      case rel => exact ⟨j + 1, v', _, rfl, by omega, by go_num, hs2, Lib.hid ho12, Lib.hid (by rw [HTJ.out]; exact ho2), Lib.hid hv'p, Lib.hid hyp2, Lib.hid hap2, Lib.hid ((hB.out.trans hb1).trans hb2)⟩
      case measure => simp [intOf]; omega
    · have e : j = N := by omega
      subst e
      go_wp2
      go_ret2
      exact ⟨_, _, rfl, hov.out, hoy.out, hB.out⟩
end Go.Proofs.Ytaeaffddmohjgaa.Tr
