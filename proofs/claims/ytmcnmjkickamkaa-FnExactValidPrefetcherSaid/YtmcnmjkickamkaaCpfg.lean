/- The program's guesser of a prefetcher; both ValidPrefetcher. -/
import Derived.Test.YtmcnmjkickamkaaCpfv
import Derived.WalkMore
import Derived.Deep.Upon
import Derived.Laws.Sem
namespace Go.Proofs.Ytmcnmjkickamkaa.Pf
open Go.RowKit
theorem stNil (P : Program) (w : World) (a : Addr) (m : Mode) : (store a .nilFunc m).run P w = stored P w a .nilFunc m := run_store P w a _ m rfl
theorem stFn (P : Program) (w : World) (a : Addr) (m : Mode) (fn : Fn) (first cap : Array Value) : (store a (.func fn first cap) m).run P w = stored P w a (.func fn first cap) m := run_store P w a _ m rfl
attribute [local go_sem] stNil stFn
abbrev zF : List Value := [.int .i64 0, .nilFunc]
theorem underG : Try.prog.underlying 59 = some (.struct (Try.prog.fieldsOf 59)) := by kernel_rfl
theorem infoG : (Try.prog.info? 59).map (·.size) = some 2 := by kernel_rfl
theorem load2 {w : World} {b : Nat} {cs : List Value} (hb : Blk w b cs 59) (hl : cs.length = 2) : (loadVar 59 ⟨b, 0, none⟩).run Try.prog w = .ok (.agg cs.toArray) w :=
  hb.loadVar 59 _ underG rfl (by rw [infoG, hl])
theorem spl2 (a b c d : Value) : Go.splice [a, b] 0 [c, d] = [c, d] := rfl
def gF (k : Int) : FuncId := if k = 0 then 56 else if k = 1 then 57 else 58
def gV (k : Int) : Value := .agg #[.int .i64 k, .func (.func (gF k)) #[] #[]]
def GuP (ok : Bool) (k : Int) (w : World) (e : Ending) (w' : World) : Prop := (∃ x f, e = .returned (.tuple #[.agg #[.int .i64 x, f], .bool ok]) ∧ (f = .nilFunc ∨ ∃ g, f = .func (.func g) #[] #[]) ∧ (ok = true → x = k ∧ f = .func (.func (gF k)) #[] #[])) ∧ Below w.heap.size w w'
theorem fF (k d y n : Int) : okF k d y n = (inB 0 4 d && inB 0 8 y && inB 1 6 n && inB 0 2 k) := by
  unfold okF
  cases inB 0 2 k <;> cases inB 0 4 d <;> cases inB 0 8 y <;> cases inB 1 6 n <;> rfl
theorem k3 {k : Int} (h : ∀ t : Nat, t < 3 → (t : Int) ≠ k) : inB 0 2 k = false := by
  have h0 := h 0 (by omega)
  have h1 := h 1 (by omega)
  have h2 := h 2 (by omega)
  unfold inB
  by_cases a : 0 ≤ k
  · by_cases b : k ≤ 2
    · omega
    · simp [b]
  · simp [a]

set_option maxRecDepth 100000 in
set_option maxHeartbeats 4000000 in
theorem guess_no (k d y n : Int) (w : World) (h : (inB 0 4 d && inB 0 8 y && inB 1 6 n) = false) : Calls Try.prog 35 #[.agg #[.int .i64 k, .int .i64 d, .int .i64 y, .int .i64 n]] w (GuP false k w) := by
  have h1 := Lib.hid (fun w => (show Calls Try.prog 49 #[.int .i64 d, .int .i64 0, .int .i64 4] w (Bl (inB 0 4 d) w) from Tr.btw_g d 0 4 w))
  have h2 := Lib.hid (fun w => (show Calls Try.prog 49 #[.int .i64 y, .int .i64 0, .int .i64 8] w (Bl (inB 0 8 y) w) from Tr.btw_g y 0 8 w))
  have h3 := Lib.hid (fun w => btW n w)
  obtain ⟨W0, hW0⟩ : ∃ W0, W0 = (w.alloc (.cells #[.int .i64 k, .int .i64 d, .int .i64 y, .int .i64 n] 32)).alloc (.cells #[.int .i64 0, .nilFunc] 59) := ⟨_, rfl⟩
  have b0 : Below w.heap.size w W0 := by rw [hW0]; exact ((Below.refl _ w).alloc (Nat.le_refl _) _).alloc (by simp) _
  have kf : Blk W0 w.heap.size [.int .i64 k, .int .i64 d, .int .i64 y, .int .i64 n] 32 := by rw [hW0]; exact Blk.alloc (Blk.newAt w _ _ _ rfl) _
  have kr : Blk W0 (w.heap.size + 1) zF 59 := by rw [hW0]; exact Blk.newAt _ _ _ _ (by simp)
  have k1 : W0.cell? ⟨w.heap.size, 1, none⟩ = some (.int .i64 d) := kf.cell 1
  have k2 : W0.cell? ⟨w.heap.size, 2, none⟩ = some (.int .i64 y) := kf.cell 2
  have k3' : W0.cell? ⟨w.heap.size, 3, none⟩ = some (.int .i64 n) := kf.cell 3
  have hz0 : W0.heap.size = w.heap.size + 2 := by rw [hW0]; simp
  have z0 : W0.cell? ⟨w.heap.size + 1, 0, none⟩ = some (.int .i64 0) := kr.cell 0
  have z1 : W0.cell? ⟨w.heap.size + 1, 1, none⟩ = some .nilFunc := kr.cell 1
  have y0 : W0.frozen? ⟨w.heap.size + 1, 0, none⟩ = false := kr.froz 0
  have y1 : W0.frozen? ⟨w.heap.size + 1, 1, none⟩ = false := kr.froz 1
  have KF := Lib.hid kf
  have KR := Lib.hid kr
  have B0 := Lib.hid b0
  have Z0 := Lib.hid hz0
  clear kf kr b0 hz0
  generalize inB 0 4 d = b1 at *
  generalize inB 0 8 y = b2 at *
  generalize inB 1 6 n = b3 at *
  cases b1 <;> cases b2 <;> cases b3
  all_goals first | (simp at h; done) | skip
  all_goals
    go_enter Try.func35, Try.ntmps35
    go_wp2_with fail
    rw [← hW0]
    clear hW0
    go_wp2_with (first | (go_at_call 52; refine (h3.out _).mono ?_; rintro e w' ⟨rfl, rfl⟩) | (go_at_call 49; (first | with_reducible refine (h1.out _).mono ?_ | with_reducible refine (h2.out _).mono ?_); rintro e w' ⟨rfl, rfl⟩))
    refine bodyPost_ret (v := .tuple #[.agg #[.int .i64 0, .nilFunc], .bool false]) (by simp [results, Try.results35, go_sem, z0, z1, y0, y1]) rfl ⟨⟨_, _, rfl, .inl rfl, fun e => by cases e⟩, ?_⟩
    exact (B0.out.setCell (by simp) _).setCell (by simp) _

set_option maxRecDepth 100000 in
set_option maxHeartbeats 8000000 in
theorem guess_yes (k d y n : Int) (w : World) (e1 : inB 0 4 d = true) (e2 : inB 0 8 y = true) (e3 : inB 1 6 n = true) : Calls Try.prog 35 #[.agg #[.int .i64 k, .int .i64 d, .int .i64 y, .int .i64 n]] w (GuP (inB 0 2 k) k w) := by
  have h1 := Lib.hid (fun w => (show Calls Try.prog 49 #[.int .i64 d, .int .i64 0, .int .i64 4] w (Bl (inB 0 4 d) w) from Tr.btw_g d 0 4 w))
  have h2 := Lib.hid (fun w => (show Calls Try.prog 49 #[.int .i64 y, .int .i64 0, .int .i64 8] w (Bl (inB 0 8 y) w) from Tr.btw_g y 0 8 w))
  have h3 := Lib.hid (fun w => btW n w)
  rw [e1] at h1
  rw [e2] at h2
  rw [e3] at h3
  clear e1 e2 e3
  have hG := Lib.hid (fun w => gs_i w)
  have HN := Lib.hid (fun (h : ∀ t : Nat, t < 3 → (t : Int) ≠ k) => k3 h)
  have H0 := Lib.hid (fun (h : (0 : Int) = k) => (show inB 0 2 k = true ∧ gF k = 56 by rw [← h]; exact ⟨by decide, rfl⟩))
  have H1 := Lib.hid (fun (h : (1 : Int) = k) => (show inB 0 2 k = true ∧ gF k = 57 by rw [← h]; exact ⟨by decide, rfl⟩))
  have H2 := Lib.hid (fun (h : (2 : Int) = k) => (show inB 0 2 k = true ∧ gF k = 58 by rw [← h]; exact ⟨by decide, rfl⟩))
  generalize inB 0 2 k = ok at *
  obtain ⟨W0, hW0⟩ : ∃ W0, W0 = (w.alloc (.cells #[.int .i64 k, .int .i64 d, .int .i64 y, .int .i64 n] 32)).alloc (.cells #[.int .i64 0, .nilFunc] 59) := ⟨_, rfl⟩
  have b0 : Below w.heap.size w W0 := by rw [hW0]; exact ((Below.refl _ w).alloc (Nat.le_refl _) _).alloc (by simp) _
  have kf : Blk W0 w.heap.size [.int .i64 k, .int .i64 d, .int .i64 y, .int .i64 n] 32 := by rw [hW0]; exact Blk.alloc (Blk.newAt w _ _ _ rfl) _
  have kr : Blk W0 (w.heap.size + 1) zF 59 := by rw [hW0]; exact Blk.newAt _ _ _ _ (by simp)
  have k1 : W0.cell? ⟨w.heap.size, 1, none⟩ = some (.int .i64 d) := kf.cell 1
  have k2 : W0.cell? ⟨w.heap.size, 2, none⟩ = some (.int .i64 y) := kf.cell 2
  have k3' : W0.cell? ⟨w.heap.size, 3, none⟩ = some (.int .i64 n) := kf.cell 3
  have hz0 : W0.heap.size = w.heap.size + 2 := by rw [hW0]; simp
  have z0 : W0.cell? ⟨w.heap.size + 1, 0, none⟩ = some (.int .i64 0) := kr.cell 0
  have z1 : W0.cell? ⟨w.heap.size + 1, 1, none⟩ = some .nilFunc := kr.cell 1
  have y0 : W0.frozen? ⟨w.heap.size + 1, 0, none⟩ = false := kr.froz 0
  have y1 : W0.frozen? ⟨w.heap.size + 1, 1, none⟩ = false := kr.froz 1
  have KF := Lib.hid kf
  have KR := Lib.hid kr
  have B0 := Lib.hid b0
  have Z0 := Lib.hid hz0
  clear kf kr b0 hz0
  go_enter Try.func35, Try.ntmps35
  go_wp2_with fail
  rw [← hW0]
  clear hW0
  go_wp2_with (first | (go_at_call 52; refine (h3.out _).mono ?_; rintro e w' ⟨rfl, rfl⟩) | (go_at_call 49; (first | with_reducible refine (h1.out _).mono ?_ | with_reducible refine (h2.out _).mono ?_); rintro e w' ⟨rfl, rfl⟩) | (go_at_call 53; (with_reducible refine (hG.out _).mono ?_); rintro e w1 ⟨rfl, g1, bb1⟩; have G1 := Lib.hid g1; have B1 := Lib.hid bb1; clear g1 bb1))
  have Z1 := Lib.hid (show W0.heap.size < w1.heap.size from G1.out.lt)
  go_loopw [5, 25] (fun _ i wr => ∃ j : Nat, j ≤ 3 ∧ i = .int .i64 (j : Nat) ∧ Hid (∀ t : Nat, t < j → (t : Int) ≠ k) ∧ Hid (Below w1.heap.size w1 wr)) (fun _ i _ => 3 - (intOf i).toNat)
  case atStart => exact ⟨0, by omega, rfl, Lib.hid (fun t h => by omega), Lib.hid (Below.refl _ _)⟩
  case round =>
    obtain ⟨j, hj, rfl, hne, hb⟩ := hrel
    have GR := Lib.hid (show IsGs W0.heap.size wr from G1.out.below hb.out Z1.out)
    have FR := Lib.hid (KF.out.below (B1.out.trans (hb.out.mono (Nat.le_of_lt Z1.out))) (by have := Z0.out; omega))
    have RR := Lib.hid (KR.out.below (B1.out.trans (hb.out.mono (Nat.le_of_lt Z1.out))) (by have := Z0.out; omega))
    have BR := Lib.hid ((B0.out).trans ((B1.out.trans (hb.out.mono (Nat.le_of_lt Z1.out))).mono B0.out.size))
    have f0 : wr.cell? ⟨w.heap.size, 0, none⟩ = some (.int .i64 k) := FR.out.cell 0
    have r0 : wr.cell? ⟨w.heap.size + 1, 0, none⟩ = some (.int .i64 0) := RR.out.cell 0
    have r1 : wr.cell? ⟨w.heap.size + 1, 1, none⟩ = some .nilFunc := RR.out.cell 1
    have x0 : wr.frozen? ⟨w.heap.size + 1, 0, none⟩ = false := RR.out.froz 0
    have x1 : wr.frozen? ⟨w.heap.size + 1, 1, none⟩ = false := RR.out.froz 1
    have hbw : w.heap.size + 1 < wr.heap.size := RR.out.lt
    have hbl : w.heap.size < wr.heap.size := by omega
    clear k1 k2 k3' z0 z1 y0 y1
    by_cases hlt : j < 3
    · have HS := Lib.hid (fun (e : (j : Int) ≠ k) => (show ∀ t : Nat, t < j + 1 → (t : Int) ≠ k from fun t ht => by
        by_cases e2 : t = j
        · rw [e2]; exact e
        · exact hne.out t (by omega)))
      rcases (show j = 0 ∨ j = 1 ∨ j = 2 by omega) with rfl | rfl | rfl
      · have q0 : wr.cell? ⟨W0.heap.size, 0, none⟩ = some (.int .i64 0) := GR.out.cell 0
        have q1 : wr.cell? ⟨W0.heap.size, 1, none⟩ = some (.func (.func 56) #[] #[]) := GR.out.cell 1
        by_cases he : (0 : Int) = k
        · obtain ⟨hok, hgf⟩ := H0.out he
          subst hok
          subst he
          clear HN H0 H1 H2 HS
          go_wp2_with fail
          refine bodyPost_ret (v := .tuple #[gV 0, .bool true]) (by unfold gV; rw [hgf]; simp [results, Try.results35, go_sem, r0, r1, x0, x1, hbw, hbl]) rfl ⟨⟨_, _, rfl, .inr ⟨_, rfl⟩, fun _ => ⟨rfl, rfl⟩⟩, ?_⟩
          exact ((BR.out.setCell (by simp) _).setCell (by simp) _).alloc (by have := BR.out.size; simp; omega) _
        · have hs' := Lib.hid (HS.out he)
          clear HN H0 H1 H2 HS
          go_wp2_with fail
          go_roundw
          case rel => exact ⟨1, by omega, by go_num, hs', Lib.hid (hb.out.trans ((Below.refl wr.heap.size wr).alloc (Nat.le_refl _) _ |>.mono hb.out.size))⟩
          case measure => simp [intOf]
      · have q0 : wr.cell? ⟨W0.heap.size, 2, none⟩ = some (.int .i64 1) := GR.out.cell 2
        have q1 : wr.cell? ⟨W0.heap.size, 3, none⟩ = some (.func (.func 57) #[] #[]) := GR.out.cell 3
        by_cases he : (1 : Int) = k
        · obtain ⟨hok, hgf⟩ := H1.out he
          subst hok
          subst he
          clear HN H0 H1 H2 HS
          go_wp2_with fail
          refine bodyPost_ret (v := .tuple #[gV 1, .bool true]) (by unfold gV; rw [hgf]; simp [results, Try.results35, go_sem, r0, r1, x0, x1, hbw, hbl]) rfl ⟨⟨_, _, rfl, .inr ⟨_, rfl⟩, fun _ => ⟨rfl, rfl⟩⟩, ?_⟩
          exact ((BR.out.setCell (by simp) _).setCell (by simp) _).alloc (by have := BR.out.size; simp; omega) _
        · have hs' := Lib.hid (HS.out he)
          clear HN H0 H1 H2 HS
          go_wp2_with fail
          go_roundw
          case rel => exact ⟨2, by omega, by go_num, hs', Lib.hid (hb.out.trans ((Below.refl wr.heap.size wr).alloc (Nat.le_refl _) _ |>.mono hb.out.size))⟩
          case measure => simp [intOf]
      · have q0 : wr.cell? ⟨W0.heap.size, 4, none⟩ = some (.int .i64 2) := GR.out.cell 4
        have q1 : wr.cell? ⟨W0.heap.size, 5, none⟩ = some (.func (.func 58) #[] #[]) := GR.out.cell 5
        by_cases he : (2 : Int) = k
        · obtain ⟨hok, hgf⟩ := H2.out he
          subst hok
          subst he
          clear HN H0 H1 H2 HS
          go_wp2_with fail
          refine bodyPost_ret (v := .tuple #[gV 2, .bool true]) (by unfold gV; rw [hgf]; simp [results, Try.results35, go_sem, r0, r1, x0, x1, hbw, hbl]) rfl ⟨⟨_, _, rfl, .inr ⟨_, rfl⟩, fun _ => ⟨rfl, rfl⟩⟩, ?_⟩
          exact ((BR.out.setCell (by simp) _).setCell (by simp) _).alloc (by have := BR.out.size; simp; omega) _
        · have hs' := Lib.hid (HS.out he)
          clear HN H0 H1 H2 HS
          go_wp2_with fail
          go_roundw
          case rel => exact ⟨3, by omega, by go_num, hs', Lib.hid (hb.out.trans ((Below.refl wr.heap.size wr).alloc (Nat.le_refl _) _ |>.mono hb.out.size))⟩
          case measure => simp [intOf]
    · have e : j = 3 := by omega
      subst e
      have hok := HN.out hne.out
      subst hok
      clear HN H0 H1 H2
      go_wp2_with fail
      refine bodyPost_ret (v := .tuple #[.agg #[.int .i64 0, .nilFunc], .bool false]) (by simp [results, Try.results35, go_sem, r0, r1, x0, x1]) rfl ⟨⟨_, _, rfl, .inl rfl, fun e => by cases e⟩, ?_⟩
      exact (BR.out.setCell (by simp) _).setCell (by simp) _
theorem guess_i (k d y n : Int) (w : World) : Calls Try.prog 35 #[.agg #[.int .i64 k, .int .i64 d, .int .i64 y, .int .i64 n]] w (GuP (okF k d y n) k w) := by
  rw [fF]
  cases h : (inB 0 4 d && inB 0 8 y && inB 1 6 n) with
  | false => exact guess_no k d y n w h
  | true =>
    simp only [Bool.and_eq_true] at h
    rw [Bool.true_and]
    exact guess_yes k d y n w h.1.1 h.1.2 h.2
theorem validF_s (k d y n : Int) (w : World) : Calls Try.prog 13 #[.agg #[.int .i64 k, .int .i64 d, .int .i64 y, .int .i64 n]] w (Bb (okF k d y n) w) := by
  have b0 := (Below.refl w.heap.size w).alloc (Nat.le_refl _) (.cells #[.int .i64 k, .int .i64 d, .int .i64 y, .int .i64 n] 32)
  have kf : Blk (w.alloc (.cells #[.int .i64 k, .int .i64 d, .int .i64 y, .int .i64 n] 32)) w.heap.size [.int .i64 k, .int .i64 d, .int .i64 y, .int .i64 n] 32 := Blk.newAt w _ _ _ rfl
  have HS := Lib.hid (isF_s w.heap.size k d y n _ kf.lt (kf.cell 0) (kf.cell 1) (kf.cell 2) (kf.cell 3))
  have B0 := Lib.hid b0
  clear kf b0
  generalize okF k d y n = r at *
  go_enter Try.func13, Try.ntmps13
  go_wp2_with fail
  refine HS.out.mono ?_; rintro e w' ⟨rfl, rfl⟩
  go_wp2
  go_ret
  exact ⟨rfl, B0.out⟩
set_option maxHeartbeats 2000000 in
theorem validF_i (k d y n : Int) (w : World) : Calls Try.prog 15 #[.agg #[.int .i64 k, .int .i64 d, .int .i64 y, .int .i64 n]] w (Bb (okF k d y n) w) := by
  obtain ⟨W0, hW0⟩ : ∃ W0, W0 = w.alloc (.cells #[.int .i64 k, .int .i64 d, .int .i64 y, .int .i64 n] 32) := ⟨_, rfl⟩
  have b0 : Below w.heap.size w W0 := by rw [hW0]; exact (Below.refl _ _).alloc (Nat.le_refl _) _
  have kf : Blk W0 w.heap.size [.int .i64 k, .int .i64 d, .int .i64 y, .int .i64 n] 32 := by rw [hW0]; exact Blk.newAt w _ _ _ rfl
  have f0 : W0.cell? ⟨w.heap.size, 0, none⟩ = some (.int .i64 k) := kf.cell 0
  have f1 : W0.cell? ⟨w.heap.size, 1, none⟩ = some (.int .i64 d) := kf.cell 1
  have f2 : W0.cell? ⟨w.heap.size, 2, none⟩ = some (.int .i64 y) := kf.cell 2
  have f3 : W0.cell? ⟨w.heap.size, 3, none⟩ = some (.int .i64 n) := kf.cell 3
  have HG := Lib.hid (guess_i k d y n W0)
  have B0 := Lib.hid b0
  clear kf b0
  generalize okF k d y n = r at *
  go_enter Try.func15, Try.ntmps15
  go_wp2_with fail
  rw [← hW0]
  clear hW0
  go_wp2_with fail
  refine HG.out.mono ?_; rintro e w1 ⟨⟨x, f, rfl, hf, _⟩, b1⟩
  have B1 := Lib.hid (bt B0.out b1)
  clear b1 HG
  rcases hf with rfl | ⟨g, rfl⟩
  all_goals
    go_wp2
    go_ret
    exact ⟨rfl, B1.out.alloc B1.out.size _⟩
end Go.Proofs.Ytmcnmjkickamkaa.Pf
