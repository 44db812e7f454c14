/- The walk of laws.FnRatios: the call returns true and writes nothing that was there. -/
import Derived.Test.YtdilbogjihafoaaDoorCb10
import Derived.Test.YtdilbogjihafoaaDoorCrtext
namespace Go.Proofs.YtdilbogjihafoaaDoor.fnRatios
open Go.RowKit
theorem prod (a d : Int) (h1 : 0 ≤ a) (h2 : a ≤ 1000000000) (h3 : 1 ≤ d) (h4 : d ≤ 1000000000) : 0 ≤ a * d ∧ a * d ≤ 1000000000000000000 := by
  constructor
  · exact Int.mul_nonneg h1 (by omega)
  · have := Int.mul_le_mul h2 h4 (by omega) (by omega : (0:Int) ≤ 1000000000)
    omega
def Cmp (n : Int) (w : World) (e : Ending) (w' : World) : Prop := e = .returned (.tuple #[.int .i64 n, .bool true]) ∧ w = w'
set_option maxHeartbeats 1000000 in
theorem cmp_any (a b c d n : Int) (w : World) (h0 : 0 ≤ a) (h1 : a ≤ 1000000000) (h2 : 1 ≤ b) (h3 : b ≤ 1000000000) (h4 : 0 ≤ c) (h5 : c ≤ 1000000000) (h6 : 1 ≤ d) (h7 : d ≤ 1000000000)
    (hn : (a * d < c * b ∧ n = -1) ∨ (a * d = c * b ∧ n = 0) ∨ (c * b < a * d ∧ n = 1)) :
    Calls Tryd.prog 13 #[.int .i64 a, .int .i64 b, .int .i64 c, .int .i64 d] w (Cmp n w) := by
  obtain ⟨p1, p2⟩ := prod a d h0 h1 h6 h7
  obtain ⟨p3, p4⟩ := prod c b h4 h5 h2 h3
  rcases hn with ⟨hl, rfl⟩ | ⟨he, rfl⟩ | ⟨hg, rfl⟩
  · go_enter Tryd.func13, Tryd.ntmps13
    go_wp2
    go_ret2
    exact ⟨rfl, rfl⟩
  · have g1 : ¬ a * d < c * b := by omega
    have g2 : ¬ c * b < a * d := by omega
    clear he
    go_enter Tryd.func13, Tryd.ntmps13
    go_wp2
    go_ret2
    exact ⟨rfl, rfl⟩
  · have g1 : ¬ a * d < c * b := by omega
    go_enter Tryd.func13, Tryd.ntmps13
    go_wp2
    go_ret2
    exact ⟨rfl, rfl⟩
/-- The ratio A / B in lowest terms: x / y. -/
structure Low (A B x y : Nat) : Prop where
  hx : (A : Int) / (Nat.gcd A B : Nat) = (x : Int)
  hy : (B : Int) / (Nat.gcd A B : Nat) = (y : Int)
  one : Nat.gcd x y = 1
  y1 : 1 ≤ y
  yB : y ≤ B
  xA : x ≤ A
  cross : x * B = A * y
theorem low_of (A B : Nat) (hB : 1 ≤ B) : ∃ x y, Low A B x y := by
  have hg : 0 < Nat.gcd A B := Nat.gcd_pos_of_pos_right _ (by omega)
  obtain ⟨x, hx⟩ := Nat.gcd_dvd_left A B
  obtain ⟨y, hy⟩ := Nat.gcd_dvd_right A B
  generalize hgg : Nat.gcd A B = g at *
  have h1 : Nat.gcd x y = 1 := by
    rw [hx, hy, Nat.gcd_mul_left] at hgg
    have h2 : g * Nat.gcd x y = g * 1 := by omega
    exact Nat.eq_of_mul_eq_mul_left hg h2
  have hy1 : 1 ≤ y := by
    rcases Nat.eq_zero_or_pos y with h | h
    · subst h; simp at hy; omega
    · exact h
  have gi : (g : Int) ≠ 0 := by omega
  refine ⟨x, y, ⟨?_, ?_, h1, hy1, ?_, ?_, ?_⟩⟩
  · rw [hgg, hx, Int.natCast_mul, Int.mul_ediv_cancel_left _ gi]
  · rw [hgg, hy, Int.natCast_mul, Int.mul_ediv_cancel_left _ gi]
  · rw [hy]; exact Nat.le_mul_of_pos_left y hg
  · rw [hx]; exact Nat.le_mul_of_pos_left x hg
  · rw [hx, hy, ← Nat.mul_assoc, Nat.mul_comm x g]
theorem ndiv (x y k : Nat) (h : Nat.gcd x y = 1) (hk : 2 ≤ k) (h1 : x % k = 0) (h2 : y % k = 0) : False := by
  have h3 : k ∣ Nat.gcd x y := Nat.dvd_gcd (Nat.dvd_of_mod_eq_zero h1) (Nat.dvd_of_mod_eq_zero h2)
  rw [h] at h3
  have := Nat.le_of_dvd (by omega) h3
  omega
set_option maxRecDepth 100000 in
set_option maxHeartbeats 4000000 in
theorem walk (a0 : Option Addr) (len0 cap0 : Nat) (z0 : List Int) (a1 : Option Addr) (len1 cap1 : Nat) (z1 : List Int) (w : World) (w0 : IsRow .u8 w a0 len0 cap0 z0) (w1 : IsRow .u8 w a1 len1 cap1 z1)
    (htab : Lib.TabIs Tryd.prog w "internal/strconv.uint64pow10" .u64 Lib.pow10Tab) :
    Calls Tryd.prog 3 #[.slice a0 len0 cap0, .slice a1 len1 cap1] w fun e w' => e = .returned (.bool true) ∧ Below w.heap.size w w' := by
  have HT := Lib.hid htab
  have hlt := Tb.tab_lt HT.out
  clear htab
  by_cases hl : 1048576 < len0 ∨ 1048576 < len1
  · go_enter Tryd.func3, Tryd.ntmps3
    go_wp2_with (go_at_call 10; refine (B10.long_yes _ _ _ _ _ _ _ hl).mono ?_; rintro e w' ⟨rfl, rfl⟩)
    go_ret
    exact ⟨rfl, Below.refl _ _⟩
  · have l0 : len0 ≤ 1048576 := by omega
    have l1 : len1 ≤ 1048576 := by omega
    clear hl
    go_enter Tryd.func3, Tryd.ntmps3
    go_wp2_with (go_at_call 10; refine (B10.long_no _ _ _ _ _ _ _ l0 l1).mono ?_; rintro e w' ⟨rfl, rfl⟩)
    refine (B10.at_any a0 len0 cap0 z0 w w0 _ _ (by omega) (by omega) (by omega) (by omega)).mono ?_; rintro e w' ⟨r0, r0a, r0b, rfl, rfl⟩
    obtain ⟨x0, rfl⟩ := Int.eq_ofNat_of_zero_le r0a
    go_wp2_with fail
    refine (B10.at_any a0 len0 cap0 z0 w w0 _ _ (by omega) (by omega) (by omega) (by omega)).mono ?_; rintro e w' ⟨r1, r1a, r1b, rfl, rfl⟩
    obtain ⟨x1, rfl⟩ := Int.eq_ofNat_of_zero_le r1a
    go_wp2_with fail
    obtain ⟨A, hA⟩ : ∃ A : Nat, (256 : Int) * (x0 : Int) + (x1 : Int) = (A : Int) := ⟨256 * x0 + x1, by simp⟩
    rw [hA]
    have A2 : A ≤ 65535 := by omega
    clear hA r0a r1a
    refine (B10.at_any a0 len0 cap0 z0 w w0 _ _ (by omega) (by omega) (by omega) (by omega)).mono ?_; rintro e w' ⟨r2, r2a, r2b, rfl, rfl⟩
    obtain ⟨x2, rfl⟩ := Int.eq_ofNat_of_zero_le r2a
    go_wp2_with fail
    obtain ⟨B, hB⟩ : ∃ B : Nat, (1 : Int) + (x2 : Int) = (B : Int) := ⟨1 + x2, by simp⟩
    rw [hB]
    have B1 : 1 ≤ B := by omega
    have B2 : B ≤ 256 := by omega
    clear hB r2a
    refine (B10.at_any a1 len1 cap1 z1 w w1 _ _ (by omega) (by omega) (by omega) (by omega)).mono ?_; rintro e w' ⟨r3, r3a, r3b, rfl, rfl⟩
    obtain ⟨x3, rfl⟩ := Int.eq_ofNat_of_zero_le r3a
    go_wp2_with fail
    refine (B10.at_any a1 len1 cap1 z1 w w1 _ _ (by omega) (by omega) (by omega) (by omega)).mono ?_; rintro e w' ⟨r4, r4a, r4b, rfl, rfl⟩
    obtain ⟨x4, rfl⟩ := Int.eq_ofNat_of_zero_le r4a
    go_wp2_with fail
    obtain ⟨C, hC⟩ : ∃ C : Nat, (256 : Int) * (x3 : Int) + (x4 : Int) = (C : Int) := ⟨256 * x3 + x4, by simp⟩
    rw [hC]
    have C2 : C ≤ 65535 := by omega
    clear hC r3a r4a
    refine (B10.at_any a1 len1 cap1 z1 w w1 _ _ (by omega) (by omega) (by omega) (by omega)).mono ?_; rintro e w' ⟨r5, r5a, r5b, rfl, rfl⟩
    obtain ⟨x5, rfl⟩ := Int.eq_ofNat_of_zero_le r5a
    go_wp2_with fail
    obtain ⟨D, hD⟩ : ∃ D : Nat, (1 : Int) + (x5 : Int) = (D : Int) := ⟨1 + x5, by simp⟩
    rw [hD]
    have D1 : 1 ≤ D := by omega
    have D2 : D ≤ 256 := by omega
    clear hD r5a w0 w1
    obtain ⟨x, y, low⟩ := low_of A B B1
    have LOW := Lib.hid low
    have y1 := low.y1
    have y2 : y ≤ 256 := Nat.le_trans low.yB B2
    have x2' : x ≤ 65535 := Nat.le_trans low.xA A2
    clear low
    have HR := Lib.hid (fun w => Gcd.impl_yes A B w (by omega) B1 (by omega))
    rw [LOW.out.hx, LOW.out.hy] at HR
    have HT1 := Lib.hid (fun w ht => Rt.impl_yes A B w (by omega) B1 (by omega) ht)
    rw [LOW.out.hx, LOW.out.hy] at HT1
    have HT2 := Lib.hid (fun w ht => Rt.impl_yes x y w (by omega) y1 (by omega) ht)
    rw [LOW.out.one, show (x : Int) / ((1 : Nat) : Int) = x by simp, show (y : Int) / ((1 : Nat) : Int) = y by simp] at HT2
    generalize Rt.txt (x : Int) (y : Int) = t at HT1 HT2
    refine (HR.out _).mono ?_; rintro e w1 ⟨rfl, q1, rfl⟩
    obtain ⟨p1, p2⟩ := prod A D (by omega) (by omega) (by omega) (by omega)
    obtain ⟨p3, p4⟩ := prod C B (by omega) (by omega) (by omega) (by omega)
    obtain ⟨p5, p6⟩ := prod x B (by omega) (by omega) (by omega) (by omega)
    obtain ⟨p7, p8⟩ := prod A y (by omega) (by omega) (by omega) (by omega)
    have hcr : ((x : Int) * (B : Int) != (A : Int) * (y : Int)) = false := by
      have := LOW.out.cross
      have e : (x : Int) * (B : Int) = (A : Int) * (y : Int) := by exact_mod_cast this
      simp [e]
    rcases Int.lt_trichotomy ((A : Int) * (D : Int)) ((C : Int) * (B : Int)) with hc | hc | hc
    · have HC := Lib.hid (fun w => cmp_any A B C D (-1) w (by omega) (by omega) (by omega) (by omega) (by omega) (by omega) (by omega) (by omega) (.inl ⟨hc, rfl⟩))
      go_wp2_with fail
      refine (HC.out _).mono ?_; rintro e w2 ⟨rfl, rfl⟩
      go_wp2_with fail
      refine (HT1.out _ (Rt.tab_drewN q1 HT.out)).mono ?_; rintro e w3 ⟨rfl, b3⟩
      have HT3 := Lib.hid (Tb.tab_below (Rt.tab_drewN q1 HT.out) b3 hlt)
      go_wp2_with fail
      refine (HT2.out _ HT3.out).mono ?_; rintro e w4 ⟨rfl, b4⟩
      have B4 : Below w.heap.size w w4 := ((below_drewN q1 (Below.refl _ w)).trans b3).trans (b4.mono b3.size)
      clear b3 b4
      go_wp2
      go_loop [18] (fun c => ∃ k : Nat, 2 ≤ k ∧ k ≤ 257 ∧ c = .int .i64 k) (fun c => 300 - (intOf c).toNat)
      case atStart => exact ⟨2, by omega, by omega, rfl⟩
      case round =>
        obtain ⟨k, h2, h257, rfl⟩ := hrel
        by_cases hk : (k : Int) ≤ (y : Int)
        · have hk0 : (1 : Int) ≤ (k : Int) := by omega
          by_cases m1 : x % k = 0
          · have m2 : ¬ y % k = 0 := fun h => ndiv x y k LOW.out.one h2 m1 h
            have n1 : ((x : Int) % (k : Int) == 0) = true := by
              have : ((x % k : Nat) : Int) = 0 := by omega
              simpa using this
            have n2 : ((y : Int) % (k : Int) == 0) = false := by
              have : ¬ ((y % k : Nat) : Int) = 0 := by omega
              simpa using this
            clear m1 m2
            go_wp2
            go_round
            case rel => exact ⟨k + 1, by omega, by omega, by go_num⟩
            case measure => simp [intOf]; omega
          · have n1 : ((x : Int) % (k : Int) == 0) = false := by
              have : ¬ ((x % k : Nat) : Int) = 0 := by omega
              simpa using this
            clear m1
            go_wp2
            go_round
            case rel => exact ⟨k + 1, by omega, by omega, by go_num⟩
            case measure => simp [intOf]; omega
        · go_wp2
          go_ret
          exact ⟨rfl, B4⟩
    · have HC := Lib.hid (fun w => cmp_any A B C D 0 w (by omega) (by omega) (by omega) (by omega) (by omega) (by omega) (by omega) (by omega) (.inr (.inl ⟨hc, rfl⟩)))
      have k1 : ((A : Int) * (D : Int) == (C : Int) * (B : Int)) = true := by simp [hc]
      have k2 : ¬ (A : Int) * (D : Int) < (C : Int) * (B : Int) := by omega
      clear hc
      go_wp2_with fail
      refine (HC.out _).mono ?_; rintro e w2 ⟨rfl, rfl⟩
      go_wp2_with fail
      refine (HT1.out _ (Rt.tab_drewN q1 HT.out)).mono ?_; rintro e w3 ⟨rfl, b3⟩
      have HT3 := Lib.hid (Tb.tab_below (Rt.tab_drewN q1 HT.out) b3 hlt)
      go_wp2_with fail
      refine (HT2.out _ HT3.out).mono ?_; rintro e w4 ⟨rfl, b4⟩
      have B4 : Below w.heap.size w w4 := ((below_drewN q1 (Below.refl _ w)).trans b3).trans (b4.mono b3.size)
      clear b3 b4
      go_wp2
      go_loop [18] (fun c => ∃ k : Nat, 2 ≤ k ∧ k ≤ 257 ∧ c = .int .i64 k) (fun c => 300 - (intOf c).toNat)
      case atStart => exact ⟨2, by omega, by omega, rfl⟩
      case round =>
        obtain ⟨k, h2, h257, rfl⟩ := hrel
        by_cases hk : (k : Int) ≤ (y : Int)
        · have hk0 : (1 : Int) ≤ (k : Int) := by omega
          by_cases m1 : x % k = 0
          · have m2 : ¬ y % k = 0 := fun h => ndiv x y k LOW.out.one h2 m1 h
            have n1 : ((x : Int) % (k : Int) == 0) = true := by
              have : ((x % k : Nat) : Int) = 0 := by omega
              simpa using this
            have n2 : ((y : Int) % (k : Int) == 0) = false := by
              have : ¬ ((y % k : Nat) : Int) = 0 := by omega
              simpa using this
            clear m1 m2
            go_wp2
            go_round
            case rel => exact ⟨k + 1, by omega, by omega, by go_num⟩
            case measure => simp [intOf]; omega
          · have n1 : ((x : Int) % (k : Int) == 0) = false := by
              have : ¬ ((x % k : Nat) : Int) = 0 := by omega
              simpa using this
            clear m1
            go_wp2
            go_round
            case rel => exact ⟨k + 1, by omega, by omega, by go_num⟩
            case measure => simp [intOf]; omega
        · go_wp2
          go_ret
          exact ⟨rfl, B4⟩
    · have HC := Lib.hid (fun w => cmp_any A B C D 1 w (by omega) (by omega) (by omega) (by omega) (by omega) (by omega) (by omega) (by omega) (.inr (.inr ⟨hc, rfl⟩)))
      have k1 : ((A : Int) * (D : Int) == (C : Int) * (B : Int)) = false := by simp; omega
      have k2 : ¬ (A : Int) * (D : Int) < (C : Int) * (B : Int) := by omega
      go_wp2_with fail
      refine (HC.out _).mono ?_; rintro e w2 ⟨rfl, rfl⟩
      go_wp2_with fail
      refine (HT1.out _ (Rt.tab_drewN q1 HT.out)).mono ?_; rintro e w3 ⟨rfl, b3⟩
      have HT3 := Lib.hid (Tb.tab_below (Rt.tab_drewN q1 HT.out) b3 hlt)
      go_wp2_with fail
      refine (HT2.out _ HT3.out).mono ?_; rintro e w4 ⟨rfl, b4⟩
      have B4 : Below w.heap.size w w4 := ((below_drewN q1 (Below.refl _ w)).trans b3).trans (b4.mono b3.size)
      clear b3 b4
      go_wp2
      go_loop [18] (fun c => ∃ k : Nat, 2 ≤ k ∧ k ≤ 257 ∧ c = .int .i64 k) (fun c => 300 - (intOf c).toNat)
      case atStart => exact ⟨2, by omega, by omega, rfl⟩
      case round =>
        obtain ⟨k, h2, h257, rfl⟩ := hrel
        by_cases hk : (k : Int) ≤ (y : Int)
        · have hk0 : (1 : Int) ≤ (k : Int) := by omega
          by_cases m1 : x % k = 0
          · have m2 : ¬ y % k = 0 := fun h => ndiv x y k LOW.out.one h2 m1 h
            have n1 : ((x : Int) % (k : Int) == 0) = true := by
              have : ((x % k : Nat) : Int) = 0 := by omega
              simpa using this
            have n2 : ((y : Int) % (k : Int) == 0) = false := by
              have : ¬ ((y % k : Nat) : Int) = 0 := by omega
              simpa using this
            clear m1 m2
            go_wp2
            go_round
            case rel => exact ⟨k + 1, by omega, by omega, by go_num⟩
            case measure => simp [intOf]; omega
          · have n1 : ((x : Int) % (k : Int) == 0) = false := by
              have : ¬ ((x % k : Nat) : Int) = 0 := by omega
              simpa using this
            clear m1
            go_wp2
            go_round
            case rel => exact ⟨k + 1, by omega, by omega, by go_num⟩
            case measure => simp [intOf]; omega
        · go_wp2
          go_ret
          exact ⟨rfl, B4⟩
end Go.Proofs.YtdilbogjihafoaaDoor.fnRatios
