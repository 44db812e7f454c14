/- Contracts of both PhasesOf. -/
import Derived.Test.YtepgbnhmobhmfaaCappg
import Derived.Test.YtepgbnhmobhmfaaCwide
import Derived.Test.YtepgbnhmobhmfaaPlainUses
namespace Go.Proofs.Ytepgbnhmobhmfaa.Tr
open Go.RowKit
theorem phK_succ (xs : List Int) (k : Int) (j : Nat) (st se : List Int) (h : phK xs k j = (st, se)) :
    phK xs k (j + 1) = if j = 0 ∨ k < ((put se (xs.getD j 0)).length : Nat) then (st ++ [(j : Int)], [xs.getD j 0]) else (st, put se (xs.getD j 0)) := by
  simp only [phK, h]
def Ph (xs : List Int) (k : Int) (B : Nat) (j : Nat) (v y : Value) (wr : World) : Prop :=
  ∃ st se, phK xs k j = (st, se) ∧ Own wr B v st ∧ Own wr B y se ∧ Apart v y
theorem btw_yes (x lo hi : Int) (w : World) (h1 : lo ≤ x) (h2 : x ≤ hi) : Calls Try.prog 30 #[.int .i64 x, .int .i64 lo, .int .i64 hi] w (Bl true w) := by
  go_enter Try.func30, Try.ntmps30
  go_wp2
  go_ret
  exact ⟨rfl, rfl⟩
theorem btw_no (x lo hi : Int) (w : World) (h : ¬ (lo ≤ x ∧ x ≤ hi)) : Calls Try.prog 30 #[.int .i64 x, .int .i64 lo, .int .i64 hi] w (Bl false w) := by
  by_cases h1 : lo ≤ x
  · have h2 : ¬ x ≤ hi := fun h2 => h ⟨h1, h2⟩
    clear h
    go_enter Try.func30, Try.ntmps30
    go_wp2
    go_ret
    exact ⟨rfl, rfl⟩
  · clear h
    go_enter Try.func30, Try.ntmps30
    go_wp2
    go_ret
    exact ⟨rfl, rfl⟩
set_option maxHeartbeats 2000000 in
theorem phases_i (a : Option Addr) (c : Nat) (xs : List Int) (k : Int) (w : World) (hn : xs.length ≤ 60) (hok : okU xs = true) (hk1 : 1 ≤ k) (hk2 : k ≤ 64) (hr : Row w a xs) :
    Calls Try.prog 15 #[.slice a xs.length c, .int .i64 k] w (Res (phK xs k xs.length).1 true w) := by
  have hU := Lib.hid (uses_i a c xs w (by omega) hr)
  rw [hok] at hU
  have hK := Lib.hid (btw_yes k 1 64 w hk1 hk2)
  have HC := Lib.hid hr
  have HS := Lib.hid (phK_succ xs k)
  have HU := Lib.hid (phK_up xs k)
  clear hr
  unfold Row at HC
  generalize hN : xs.length = N at *
  go_enter Try.func15, Try.ntmps15
  go_wp2_with (first | (go_at_call 29; refine hU.out.mono ?_; rintro e w' ⟨rfl, rfl⟩) | (go_at_call 30; refine hK.out.mono ?_; rintro e w' ⟨rfl, rfl⟩))
  go_loopw [6, 7, 21] (fun v y i wr => ∃ j : Nat, j ≤ N ∧ i = .int .i64 j ∧ Hid (Ph xs k w.heap.size j v y wr) ∧ Below w.heap.size w wr) (fun _ _ i _ => N - (intOf i).toNat)
  case atStart => exact ⟨0, Nat.zero_le _, rfl, ⟨[], [], rfl, Own.nil _ _, Own.nil _ _, Apart.nil _⟩, Below.refl _ _⟩
  case round =>
    obtain ⟨j, hj, rfl, hph, hb⟩ := hrel
    obtain ⟨st, se, hp, hov, hoy, hap⟩ := hph.out
    have hsz := hb.size
    have hup := HU.out j
    rw [hp] at hup
    have hst : st.length + 1 ≤ 1000000000 := by have := hup.2.1; simp only at this; omega
    have hse : se.length ≤ 1000 := by have := hup.2.2; simp only at this; omega
    have hus : Up se := hup.1
    have hP := Lib.hid hp
    clear hph hup hp
    by_cases hlt : j < N
    · obtain ⟨b0, off, rfl, c1, hb0⟩ := HC.out j hlt
      have c2 : wr.cell? ⟨b0, off + j, none⟩ = some (.int .i64 (xs.getD j 0)) := (hb.cell (p := ⟨b0, off + j, none⟩) hb0).trans c1
      have hs := Lib.hid (HS.out j st se hP.out)
      have hput := put_length se (xs.getD j 0)
      clear c1 hP
      generalize xs.getD j 0 = u at *
      have hw := Lib.hid (wide_R u hoy.rd hus hse)
      obtain ⟨pp, hpp⟩ : ∃ pp, put se u = pp := ⟨_, rfl⟩
      rw [hpp] at hs hw hput
      clear hpp hus
      by_cases hc : j = 0 ∨ k < (pp.length : Nat)
      · have hs2 := Lib.hid (show phK xs k (j + 1) = (st ++ [(j : Int)], [u]) by rw [hs.out, if_pos hc])
        clear hs
        by_cases hj0 : j = 0
        · subst hj0
          have c4 : wr.cell? ⟨b0, off, none⟩ = some (.int .i64 u) := c2
          clear c2 hc
          go_wp2_with (first | (go_at_call 31; refine hw.out.mono ?_; rintro e w1 ⟨vp, rfl, hop, hb1⟩; obtain ⟨ap, cp, hvp⟩ := hop.form; subst hvp; have hov1 := hov.below hb1 (Nat.le_refl _); have hsz1 : w.heap.size ≤ w1.heap.size := Nat.le_trans hsz hb1.size) | (at_builtin; refine wpList_appG _ rfl _ _ rfl w.heap.size _ st _ ?_ ?_ hov1 hst hsz1 ?_; rfl; rfl))
          intro v' w2 hov2 hb2 hother
          go_wp2
          go_roundw
          case rel => exact ⟨0 + 1, by omega, by go_num, ⟨st ++ [((0 : Nat) : Int)], [u], hs2.out, (World.ownsRow.alloc hov2 _), (Own.lit w2 u).mono (Nat.le_trans hsz1 hb2.size), Apart.new hov2 (fun q hq => by have := (Own.lit w2 u).block q hq; omega) (Nat.le_refl _)⟩, ((hb.trans (hb1.mono hsz)).trans hb2).alloc (Nat.le_trans hsz1 hb2.size) _⟩
          case measure => simp [intOf] <;> omega
        · have hk : k < (pp.length : Nat) := by rcases hc with h | h; exact absurd h hj0; exact h
          have hj0' : ¬ ((j : Int) = 0) := by omega
          clear hc
          go_wp2_with (first | (go_at_call 31; refine hw.out.mono ?_; rintro e w1 ⟨vp, rfl, hop, hb1⟩; obtain ⟨ap, cp, hvp⟩ := hop.form; subst hvp; have hov1 := hov.below hb1 (Nat.le_refl _); have hsz1 : w.heap.size ≤ w1.heap.size := Nat.le_trans hsz hb1.size) | (at_builtin; refine wpList_appG _ rfl _ _ rfl w.heap.size _ st _ ?_ ?_ hov1 hst hsz1 ?_; rfl; rfl))
          intro v' w2 hov2 hb2 hother
          go_wp2
          go_roundw
          case rel => exact ⟨j + 1, by omega, by go_num, ⟨st ++ [(j : Int)], [u], hs2.out, (World.ownsRow.alloc hov2 _), (Own.lit w2 u).mono (Nat.le_trans hsz1 hb2.size), Apart.new hov2 (fun q hq => by have := (Own.lit w2 u).block q hq; omega) (Nat.le_refl _)⟩, ((hb.trans (hb1.mono hsz)).trans hb2).alloc (Nat.le_trans hsz1 hb2.size) _⟩
          case measure => simp [intOf] <;> omega
      · have hs2 := Lib.hid (show phK xs k (j + 1) = (st, pp) by rw [hs.out, if_neg hc])
        clear hs
        have hj0 : ¬ ((j : Int) = 0) := fun h => hc (.inl (by omega))
        have hk0 : ¬ k < (pp.length : Nat) := fun h => hc (.inr h)
        have hk : ((pp.length : Nat) : Int) ≤ k := by omega
        have hk2 : decide (k < ((pp.length : Nat) : Int)) = false := decide_eq_false hk0
        have hj2 : ((j : Int) == 0) = false := by simpa using hj0
        clear hk0
        clear hc
        go_wp2_with (go_at_call 31; refine hw.out.mono ?_; rintro e w1 ⟨vp, rfl, hop, hb1⟩; obtain ⟨ap, cp, hvp⟩ := hop.form; subst hvp)
        go_roundw
        case rel => exact ⟨j + 1, by omega, by go_num, ⟨st, pp, hs2.out, hov.below hb1 (Nat.le_refl _), hop.mono hsz, Apart.new hov (fun q hq => (hop.block q hq).1) (Nat.le_refl _)⟩, hb.trans (hb1.mono hsz)⟩
        case measure => simp [intOf] <;> omega
    · have e : j = N := by omega
      subst e
      go_wp2
      go_ret2
      exact ⟨_, rfl, by rw [hP.out]; exact hov, hb⟩
theorem phases_no_i {v : Value} {xs : List Int} {w : World} (k : Int) (h : Rd w v xs) (hn : xs.length ≤ 1048576) (hno : ¬ (okU xs = true ∧ 1 ≤ k ∧ k ≤ 64)) :
    Calls Try.prog 15 #[v, .int .i64 k] w (Res [] false w) := by
  have hU := Lib.hid (uses_iR h hn)
  cases hok : okU xs
  · rw [hok] at hU
    clear hno
    go_enter Try.func15, Try.ntmps15
    go_wp2_with (go_at_call 29; refine hU.out.mono ?_; rintro e w' ⟨rfl, rfl⟩)
    go_ret2
    exact ⟨_, rfl, Own.nil _ _, Below.refl _ _⟩
  · rw [hok] at hU
    have hK := Lib.hid (btw_no k 1 64 w (fun h2 => hno ⟨hok, h2⟩))
    clear hno
    go_enter Try.func15, Try.ntmps15
    go_wp2_with (first | (go_at_call 29; refine hU.out.mono ?_; rintro e w' ⟨rfl, rfl⟩) | (go_at_call 30; refine hK.out.mono ?_; rintro e w' ⟨rfl, rfl⟩))
    go_ret2
    exact ⟨_, rfl, Own.nil _ _, Below.refl _ _⟩
theorem phases_yes_i {v : Value} {xs : List Int} {w : World} (k : Int) (h : Rd w v xs) (hok : okU xs = true) (hk1 : 1 ≤ k) (hk2 : k ≤ 64) :
    Calls Try.prog 15 #[v, .int .i64 k] w (Res (phK xs k xs.length).1 true w) := by
  obtain ⟨a, c, rfl, _, _, hr⟩ := h
  exact phases_i a c xs k w (okU_len hok) hok hk1 hk2 hr
end Go.Proofs.Ytepgbnhmobhmfaa.Tr
