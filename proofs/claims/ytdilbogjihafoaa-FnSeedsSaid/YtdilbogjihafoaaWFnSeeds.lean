/- The walk of laws.FnSeeds: the call returns true and writes nothing that was there. -/
import Derived.Test.YtdilbogjihafoaaCb10
import Derived.Test.YtdilbogjihafoaaCorder
namespace Go.Proofs.Ytdilbogjihafoaa.fnSeeds
open Go.RowKit
theorem sl_get (s b n j : Nat) (h : j < n) : (Sd.sl s b n).getD j 0 = ((Sd.at_ s (j + 1) : Nat) : Int) % (b : Int) := by
  induction n with
  | zero => omega
  | succ n ih =>
    rw [Sd.sl, List.getD_eq_getElem?_getD]
    by_cases hp : j < n
    · rw [List.getElem?_append_left (by rw [Sd.sl_length]; exact hp), ← List.getD_eq_getElem?_getD, ih hp]
    · have e : j = n := by omega
      subst e
      rw [List.getElem?_append_right (by rw [Sd.sl_length]; exact Nat.le_refl _), Sd.sl_length]
      simp
def Rel (s n b g : Nat) (w0 : World) (wr : World) : Prop := (∀ j, j < n → wr.cell? ⟨g, j, none⟩ = some (.int .i64 (((Sd.at_ s (j + 1) : Nat) : Int) % (b : Int)))) ∧ Below w0.heap.size w0 wr
theorem Rel.drewN {s n b g : Nat} {w0 wr : World} (h : Rel s n b g w0 wr) (k : Nat) : Rel s n b g w0 (wr.drewN k) := ⟨h.1, below_drewN k h.2⟩
/-- The same from the own list. -/
theorem rel_of {s n b g cap : Nat} {B : Nat} {w0 wr : World} (h : Sd.OwnAt wr B g cap n (Sd.sl s b n)) (hb : Below w0.heap.size w0 wr) : Rel s n b g w0 wr :=
  ⟨fun j hj => by rw [h.cell (Sd.sl_length s b n) j hj, sl_get s b n j hj], hb⟩
set_option maxHeartbeats 2000000 in
theorem walk (a0 : Option Addr) (len0 cap0 : Nat) (z0 : List Int) (a1 : Option Addr) (len1 cap1 : Nat) (z1 : List Int) (w : World) (w0 : IsRow .u8 w a0 len0 cap0 z0) (w1 : IsRow .u8 w a1 len1 cap1 z1) :
    Calls Try.prog 3 #[.slice a0 len0 cap0, .slice a1 len1 cap1] w fun e w' => e = .returned (.bool true) ∧ Below w.heap.size w w' := by
  by_cases hl : 1048576 < len0 ∨ 1048576 < len1
  · go_enter Try.func3, Try.ntmps3
    go_wp2_with (go_at_call 15; refine (B10.long_yes _ _ _ _ _ _ _ hl).mono ?_; rintro e w' ⟨rfl, rfl⟩)
    go_ret
    exact ⟨rfl, Below.refl _ _⟩
  · have l0 : len0 ≤ 1048576 := by omega
    have l1 : len1 ≤ 1048576 := by omega
    clear hl
    go_enter Try.func3, Try.ntmps3
    go_wp2_with (go_at_call 15; refine (B10.long_no _ _ _ _ _ _ _ l0 l1).mono ?_; rintro e w' ⟨rfl, rfl⟩)
    refine (B10.at_any a0 len0 cap0 z0 w w0 _ _ (by omega) (by omega) (by omega) (by omega)).mono ?_; rintro e w' ⟨r0, r0a, r0b, rfl, rfl⟩
    obtain ⟨x0, rfl⟩ := Int.eq_ofNat_of_zero_le r0a
    go_wp2_with fail
    refine (B10.at_any a0 len0 cap0 z0 w w0 _ _ (by omega) (by omega) (by omega) (by omega)).mono ?_; rintro e w' ⟨r1, r1a, r1b, rfl, rfl⟩
    obtain ⟨x1, rfl⟩ := Int.eq_ofNat_of_zero_le r1a
    go_wp2_with fail
    refine (B10.at_any a0 len0 cap0 z0 w w0 _ _ (by omega) (by omega) (by omega) (by omega)).mono ?_; rintro e w' ⟨r2, r2a, r2b, rfl, rfl⟩
    obtain ⟨x2, rfl⟩ := Int.eq_ofNat_of_zero_le r2a
    go_wp2_with fail
    obtain ⟨s, hs⟩ : ∃ s : Nat, (1 : Int) + 65536 * (x0 : Int) + 256 * (x1 : Int) + (x2 : Int) = (s : Int) := ⟨1 + 65536 * x0 + 256 * x1 + x2, by simp⟩
    rw [hs]
    have s1 : 1 ≤ s := by omega
    have s2 : s ≤ 2147483646 := by omega
    clear hs r0a r1a r2a
    refine (B10.at_any a1 len1 cap1 z1 w w1 _ _ (by omega) (by omega) (by omega) (by omega)).mono ?_; rintro e w' ⟨r3, r3a, r3b, rfl, rfl⟩
    obtain ⟨n, rfl⟩ := Int.eq_ofNat_of_zero_le r3a
    have n1 : n ≤ 80 := by omega
    go_wp2_with fail
    refine (B10.at_any a1 len1 cap1 z1 w w1 _ _ (by omega) (by omega) (by omega) (by omega)).mono ?_; rintro e w' ⟨r4, r4a, r4b, rfl, rfl⟩
    obtain ⟨x4, rfl⟩ := Int.eq_ofNat_of_zero_le r4a
    go_wp2_with fail
    obtain ⟨b, hb⟩ : ∃ b : Nat, (1 : Int) + (x4 : Int) = (b : Int) := ⟨1 + x4, by simp⟩
    rw [hb]
    have b1 : 1 ≤ b := by omega
    have b2 : b ≤ 1000000000 := by omega
    clear hb r4a w0 w1 r3a
    refine (Sd.list_yes_i s n b w s1 s2 n1 b1 b2).mono ?_; rintro e w1 ⟨v, rfl, ov, bv⟩
    go_wp2_with fail
    refine (Sd.order_yes_i s n w1 s1 s2 n1).mono ?_; rintro e w2 ⟨vo, rfl, oo, bo⟩
    have ov2 := ov.below bo (Nat.le_refl _)
    have B2 : Below w.heap.size w w2 := bv.trans (bo.mono bv.size)
    clear ov bv bo
    have hord := Lib.hid (Sd.once_ord s n)
    have n2 : n ≤ 1000000 := by omega
    have hslL := Lib.hid (Sd.sl_length s b n)
    rcases ov2.cases with ⟨rfl, hx⟩ | ⟨g, cap, rfl, _, _, _, hc, _⟩
    · have hn : n = 0 := by rw [← hslL.out, hx]; rfl
      subst hn
      go_wp2_with (go_at_call 19; refine (Sd.bOrder_own oo n2 hord.out).mono ?_; rintro e w3 ⟨k, rfl, rfl⟩)
      refine wp_loop_rounds 1 ?_
      rw [rounds_succ]
      go_wp2_with (go_at_call 20; refine (Sd.nextSeed_yes s _ s1 s2).mono ?_; rintro e w4 ⟨rfl, rfl⟩)
      go_ret
      exact ⟨rfl, below_drewN _ B2⟩
    · have hR : Rel s n b g w w2 := ⟨fun j hj => by rw [hc j (by rw [hslL.out]; exact hj), sl_get s b n j hj], B2⟩
      clear hc ov2 B2
      rw [hslL.out]
      go_wp2_with (go_at_call 19; refine (Sd.bOrder_own oo n2 hord.out).mono ?_; rintro e w3 ⟨k, rfl, rfl⟩)
      go_loopw [12, 13, 14, 15] (fun now i _ _ wr => ∃ j : Nat, j ≤ n ∧ now = .int .i64 (Sd.at_ s j : Nat) ∧ i = .int .i64 j ∧ Rel s n b g w wr) (fun _ i _ _ _ => n - (intOf i).toNat)
      case atStart => exact ⟨0, Nat.zero_le _, rfl, rfl, hR.drewN k⟩
      case round =>
        obtain ⟨j, hj, rfl, rfl, hr⟩ := hrel
        obtain ⟨p1, p2⟩ := Sd.at_pos s j s1 s2
        by_cases hlt : j < n
        · have c1 := hr.1 j hlt
          obtain ⟨q1, q2⟩ := Sd.at_pos s (j + 1) s1 s2
          have d1 : decide (((Sd.at_ s (j + 1) : Nat) : Int) < 1) = false := by simp; omega
          have d2 : decide ((2147483647 : Int) ≤ ((Sd.at_ s (j + 1) : Nat) : Int)) = false := by simp; omega
          have hnx : Sd.nx (Sd.at_ s j) = Sd.at_ s (j + 1) := rfl
          have hnc := Sd.nextSeed_yes (Sd.at_ s j) wr p1 p2
          rw [hnx] at hnc
          have HNC := Lib.hid hnc
          clear hnc hnx
          generalize ha : Sd.at_ s (j + 1) = y at *
          have HA := Lib.hid ha
          clear ha
          go_wp2_with (go_at_call 20; refine HNC.out.mono ?_; rintro e w4 ⟨rfl, rfl⟩)
          go_quiet (fail)
          go_wp2
          go_roundw
          case rel => exact ⟨j + 1, by omega, by rw [HA.out], by go_num, hr.drewN _⟩
          case measure => simp [intOf]; omega
        · have hB := hr.2
          go_wp2_with (go_at_call 20; refine (Sd.nextSeed_yes _ _ p1 p2).mono ?_; rintro e w4 ⟨rfl, rfl⟩)
          go_ret
          exact ⟨rfl, hB⟩
end Go.Proofs.Ytdilbogjihafoaa.fnSeeds
