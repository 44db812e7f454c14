/- Valid systems: the model's test. -/
import Derived.Test.YtmmjdmgnmlhjeaaCsys
import Derived.Test.YtmmjdmgnmlhjeaaCbtg
namespace Go.Proofs.Ytmmjdmgnmlhjeaa.Sy
open Go.RowKit
def isC (n : Int) : Bool := decide (0 ≤ n) && decide (n ≤ 3)
theorem isC_iff (n : Int) : isC n = true ↔ 0 ≤ n ∧ n ≤ 3 := by simp [isC]
theorem copy_s (n : Int) (w : World) : Calls Try.prog 44 #[.int .i64 n] w (Bl (isC n) w) := by
  have HI := Lib.hid (fun w => Tr.in_g n 0 3 w)
  have HC : Hid (isC n = (decide (0 ≤ n) && decide (n ≤ 3))) := rfl
  rw [HC.out]
  generalize (decide (0 ≤ n) && decide (n ≤ 3)) = b at *
  clear HC
  go_enter Try.func44, Try.ntmps44
  go_wp2_with fail
  refine (HI.out _).mono ?_; rintro e w' ⟨rfl, rfl⟩
  go_wp2
  go_ret
  exact ⟨rfl, rfl⟩
theorem copy_i (n : Int) (w : World) : Calls Try.prog 48 #[.int .i64 n] w (Bl (isC n) w) := by
  have HI := Lib.hid (fun w => Tr.btw_g n 0 3 w)
  have HC : Hid (isC n = (decide (0 ≤ n) && decide (n ≤ 3))) := rfl
  rw [HC.out]
  generalize (decide (0 ≤ n) && decide (n ≤ 3)) = b at *
  clear HC
  go_enter Try.func48, Try.ntmps48
  go_wp2_with fail
  refine (HI.out _).mono ?_; rintro e w' ⟨rfl, rfl⟩
  go_wp2
  go_ret
  exact ⟨rfl, rfl⟩
def okC (c : Int) (f : Bool) : Prop := isC c = true ∧ ¬ (f = true ∧ c = 0)
def okS (cs : List Int) (fs : List Bool) : Prop := (1 ≤ cs.length ∧ cs.length ≤ 3) ∧ fs.length = cs.length ∧ ∀ i, i < cs.length → okC (cs.getD i 0) (fs.getD i false)
def Qb (b : Bool) (w : World) (e : Ending) (w' : World) : Prop := e = .returned (.bool b) ∧ ∃ q, w' = w.drewN q
theorem false_of {b : Bool} {P : Prop} (h : b = true ↔ P) (hn : ¬ P) : b = false := by cases b <;> simp_all
set_option maxHeartbeats 2000000 in
theorem sys_s (g : Nat) (a0 a1 : Option Addr) (c0 c1 : Nat) (cs : List Int) (fs : List Bool) (mm : Bool) (b : Bool) (hb : b = true ↔ okS cs fs) (w : World)
    (hB : Blk w g [.slice a0 cs.length c0, .slice a1 fs.length c1, .bool mm] 49) (h0 : Row w a0 cs) (h1 : Bo.RdR w a1 fs)
    (hm : cs.length ≤ 1048576 ∧ fs.length ≤ 1048576) :
    Calls Try.prog 52 #[.pointer (some ⟨g, 0, none⟩)] w (Qb b w) := by
  have x0 : w.cell? ⟨g, 0, none⟩ = some (.slice a0 cs.length c0) := hB.cell 0
  have x1 : w.cell? ⟨g, 1, none⟩ = some (.slice a1 fs.length c1) := hB.cell 1
  have hlt := hB.lt
  have H0 := Lib.hid h0
  have H1 := Lib.hid h1
  have HC := Lib.hid (fun (n : Int) (w : World) => copy_s n w)
  unfold Bo.RdR at H1
  unfold Row at H0
  obtain ⟨hm1, hm2⟩ := hm
  clear hB h0 h1
  by_cases hN : 1 ≤ cs.length ∧ cs.length ≤ 3
  · have HI := Lib.hid (fun m => (show Calls Try.prog 43 #[.int .i64 (cs.length : Int), .int .i64 1, .int .i64 3] (w.drewN m) (fun e w' => e = .returned (.bool true) ∧ ∃ m, w' = w.drewN m) from by
      have h := Tr.in_g (cs.length : Int) 1 3 (w.drewN m)
      have e : (decide ((1 : Int) ≤ cs.length) && decide ((cs.length : Int) ≤ 3)) = true := by simp; omega
      rw [e] at h
      exact h.mono fun e w' ⟨he, hw⟩ => ⟨he, m, hw.symm⟩))
    by_cases hM : fs.length = cs.length
    · have HF := Lib.hid (fun (j : Nat) (hj : j < cs.length) (hx : ¬ okC (cs.getD j 0) (fs.getD j false)) => (show b = false from false_of hb (fun h => hx (h.2.2 j hj))))
      have HT := Lib.hid (fun (hx : ∀ i, i < cs.length → okC (cs.getD i 0) (fs.getD i false)) => (show b = true from hb.2 ⟨hN, hM, hx⟩))
      rw [hM] at x1 H1
      clear hb hM
      have hne : ((cs.length : Int) != (cs.length : Int)) = false := by simp
      have hg1 : cs.length ≤ 3 := hN.2
      generalize cs.length = N at *
      clear hN
      go_enter Try.func52, Try.ntmps52
      go_wp2
      go_quiet (exact HI.out _)
      go_wp2
      go_loop [3] (fun i => ∃ j : Nat, j ≤ N ∧ i = .int .i64 j ∧ Hid (∀ i, i < j → okC (cs.getD i 0) (fs.getD i false))) (fun i => N - (intOf i).toNat)
      case atStart => exact ⟨0, Nat.zero_le _, rfl, fun i h => by omega⟩
      case round =>
        obtain ⟨j, hj, rfl, hk⟩ := hrel
        by_cases hlt2 : j < N
        · obtain ⟨p, o, rfl, y0, _⟩ := H0.out j hlt2
          obtain ⟨p', o', rfl, y1, _⟩ := H1.out j hlt2
          have HJ := Lib.hid (HF.out j hlt2)
          have HS := Lib.hid (fun (h : okC (cs.getD j 0) (fs.getD j false)) => (show ∀ i, i < j + 1 → okC (cs.getD i 0) (fs.getD i false) from fun i hi => by
            by_cases e : i = j
            · subst e; exact h
            · exact hk.out i (by omega)))
          generalize cs.getD j 0 = u at *
          generalize fs.getD j false = f at *
          have HCu := Lib.hid (HC.out u)
          cases hc : isC u
          · have e := HJ.out (fun h => by have := h.1; rw [hc] at this; cases this)
            rw [hc] at HCu
            clear HJ HS hc
            subst e
            go_wp2_with (go_at_call 44; refine (HCu.out _).mono ?_; rintro e w' ⟨rfl, rfl⟩)
            go_ret
            exact ⟨rfl, _, rfl⟩
          · rw [hc] at HCu
            by_cases hz : f = true ∧ u = 0
            · have e := HJ.out (fun h => h.2 hz)
              obtain ⟨rfl, rfl⟩ := hz
              clear HJ HS hc
              subst e
              go_wp2_with (go_at_call 44; refine (HCu.out _).mono ?_; rintro e w' ⟨rfl, rfl⟩)
              go_ret
              exact ⟨rfl, _, rfl⟩
            · have HS2 := Lib.hid (HS.out ⟨hc, hz⟩)
              clear HJ HS hc
              cases f
              · clear hz
                go_wp2_with (go_at_call 44; refine (HCu.out _).mono ?_; rintro e w' ⟨rfl, rfl⟩)
                go_round
                case rel => exact ⟨j + 1, by omega, by go_num, HS2⟩
                case measure => simp [intOf]; omega
              · have hu : ¬ u = 0 := fun e => hz ⟨rfl, e⟩
                clear hz
                go_wp2_with (go_at_call 44; refine (HCu.out _).mono ?_; rintro e w' ⟨rfl, rfl⟩)
                go_round
                case rel => exact ⟨j + 1, by omega, by go_num, HS2⟩
                case measure => simp [intOf]; omega
        · have e : j = N := by omega
          subst e
          have e := HT.out hk.out
          clear HT HF
          subst e
          go_wp2
          go_ret
          exact ⟨rfl, _, rfl⟩
    · have e := false_of hb (fun h => hM h.2.1)
      have hne : ((fs.length : Int) != (cs.length : Int)) = true := by simp; omega
      clear hb
      generalize cs.length = N at *
      generalize fs.length = M at *
      subst e
      go_enter Try.func52, Try.ntmps52
      go_wp2
      go_quiet (exact HI.out _)
      go_wp2
      go_ret
      exact ⟨rfl, _, rfl⟩
  · have HI := Lib.hid (fun m => (show Calls Try.prog 43 #[.int .i64 (cs.length : Int), .int .i64 1, .int .i64 3] (w.drewN m) (fun e w' => e = .returned (.bool false) ∧ ∃ m, w' = w.drewN m) from by
      have h := Tr.in_g (cs.length : Int) 1 3 (w.drewN m)
      have e : (decide ((1 : Int) ≤ cs.length) && decide ((cs.length : Int) ≤ 3)) = false := by simp; omega
      rw [e] at h
      exact h.mono fun e w' ⟨he, hw⟩ => ⟨he, m, hw.symm⟩))
    have e := false_of hb (fun h => hN h.1)
    clear hb hN
    generalize cs.length = N at *
    generalize fs.length = M at *
    subst e
    go_enter Try.func52, Try.ntmps52
    go_wp2
    go_quiet (exact HI.out _)
    go_wp2
    go_ret
    exact ⟨rfl, _, rfl⟩
end Go.Proofs.Ytmmjdmgnmlhjeaa.Sy
