/- Contracts of the model's and the program's text of a ratio. -/
import Derived.Test.YtdilbogjihafoaaDoorTab
import Derived.Test.YtdilbogjihafoaaDoorCdec
import Derived.Test.YtdilbogjihafoaaDoorCgcd
import Derived.Test.YtdilbogjihafoaaDoorWFnExactDecimal
import Derived.Deep.RegionHeld3
namespace Go.Proofs.YtdilbogjihafoaaDoor.Rt
open Go.RowKit
theorem itoa_len (n : Int) (h0 : 0 ≤ n) (h1 : n ≤ 1000000000) : (Lib.itoa n).length ≤ 20 := by
  by_cases hz : n = 0
  · subst hz; rw [Dc.itoa_zero]; simp
  · obtain ⟨u, rfl⟩ := Int.eq_ofNat_of_zero_le h0
    rw [Dc.itoa_pos u (by omega)]
    exact Dc.decR_len 20 u (by omega)
/-- The text of the ratio p / q in lowest terms. -/
def txt (p q : Int) : List UInt8 := if q = 1 then Lib.itoa p else Lib.itoa p ++ 47 :: Lib.itoa q
def Str2 (t : List UInt8) (ok : Bool) (w : World) (e : Ending) (w' : World) : Prop := e = .returned (.tuple #[.string ⟨t.toArray⟩, .bool ok]) ∧ Below w.heap.size w w'
theorem cat3 (x y : List UInt8) : (⟨x.toArray⟩ ++ ⟨#[47]⟩ ++ ⟨y.toArray⟩ : ByteArray) = ⟨(x ++ 47 :: y).toArray⟩ := by
  apply ByteArray.ext
  simp
theorem cat3' (x y : List UInt8) : Value.string (⟨x.toArray⟩ ++ ⟨#[47]⟩ ++ ⟨y.toArray⟩) = .string ⟨(x ++ 47 :: y).toArray⟩ := by rw [cat3]
theorem ret_str {a b : Value} (h : a = b) : Ending.returned a = .returned b := by rw [h]
theorem div_self_iff (b g : Nat) (hg : 1 ≤ g) (hd : g ∣ b) : (b : Int) / (g : Int) = 1 ↔ b = g := by
  obtain ⟨k, rfl⟩ := hd
  rw [Int.natCast_mul, Int.mul_ediv_cancel_left _ (by omega)]
  constructor
  · intro h; have : k = 1 := by omega
    subst this; simp
  · intro h
    have h2 : g * k = g * 1 := by omega
    have := Nat.eq_of_mul_eq_mul_left (by omega) h2
    omega
set_option maxRecDepth 100000 in
set_option maxHeartbeats 2000000 in
theorem spec_rt (a b : Nat) (w : World) (h1 : a ≤ 1000000000) (h2 : 1 ≤ b) (h3 : b ≤ 1000000000) :
    Calls Tryd.prog 51 #[.int .i64 a, .int .i64 b] w (Dc.Str ⟨(txt ((a : Int) / (Nat.gcd a b : Nat)) ((b : Int) / (Nat.gcd a b : Nat))).toArray⟩ w) := by
  have hg : 1 ≤ Nat.gcd a b := Nat.gcd_pos_of_pos_right _ (by omega)
  have hiff := div_self_iff b (Nat.gcd a b) hg (Nat.gcd_dvd_right a b)
  have HG := Lib.hid (fun w => Gcd.spec_gcd a b w (by omega) (by omega))
  generalize Nat.gcd a b = g at *
  have d1 := div_bd a g h1
  have d2 := div_bd b g h3
  obtain ⟨d1a, d1b⟩ := d1
  obtain ⟨d2a, d2b⟩ := d2
  have hg1 : (1 : Int) ≤ (g : Int) := by omega
  have l1 := itoa_len _ d1a d1b
  have l2 := itoa_len _ d2a d2b
  by_cases hb : b = g
  · have hq : ((b : Int) == (g : Int)) = true := by simp; omega
    have ht : txt ((a : Int) / (g : Int)) ((b : Int) / (g : Int)) = Lib.itoa ((a : Int) / (g : Int)) := by unfold txt; rw [if_pos (hiff.2 hb)]
    rw [ht]
    clear ht hiff hb l1 l2
    go_enter Tryd.func51, Tryd.ntmps51
    go_wp2_with (first | (go_at_call 65; refine (HG.out _).mono ?_; rintro e w' ⟨rfl, rfl⟩) | (go_at_call 46; refine (Dc.dec_any _ _ (by omega) (by omega)).mono ?_; rintro e w1 ⟨rfl, b1⟩))
    go_ret
    exact ⟨rfl, b1⟩
  · have hq : ((b : Int) == (g : Int)) = false := by simp; omega
    have ht : txt ((a : Int) / (g : Int)) ((b : Int) / (g : Int)) = Lib.itoa ((a : Int) / (g : Int)) ++ 47 :: Lib.itoa ((b : Int) / (g : Int)) := by unfold txt; rw [if_neg (fun h => hb (hiff.1 h))]
    rw [ht]
    have e1 : IntKind.i64.wrap ((a : Int) / (g : Int)) = (a : Int) / (g : Int) := IntWalk.i64_in _ (by omega)
    have e2 : IntKind.i64.wrap ((b : Int) / (g : Int)) = (b : Int) / (g : Int) := IntWalk.i64_in _ (by omega)
    have H1 := Lib.hid (fun w => Dc.dec_any ((a : Int) / (g : Int)) w (by omega) (by omega))
    have H2 := Lib.hid (fun w => Dc.dec_any ((b : Int) / (g : Int)) w (by omega) (by omega))
    have hgz : ¬ g = 0 := by omega
    have f1 : ¬ (9223372036854775806 < (Lib.itoa ((a : Int) / (g : Int))).length) := by omega
    have f1b : ¬ (9223372036854775807 < (Lib.itoa ((a : Int) / (g : Int))).length + 1) := by omega
    have f2 : ¬ (9223372036854775807 < (Lib.itoa ((a : Int) / (g : Int))).length + 1 + (Lib.itoa ((b : Int) / (g : Int))).length) := by omega
    clear ht hiff hb l1 l2
    go_enter Tryd.func51, Tryd.ntmps51
    go_wp2_with (go_at_call 65; refine (HG.out _).mono ?_; rintro e w' ⟨rfl, rfl⟩)
    go_region_held3 (fun _ => True) (trivial)
      (first | (go_at_call 46; (with_reducible refine (H1.out _).mono ?_); rintro e w1 ⟨rfl, b1⟩) | (go_at_call 46; (with_reducible refine (H2.out _).mono ?_); rintro e w2 ⟨rfl, b2⟩))
    go_wp2
    go_ret
    exact ⟨ret_str (cat3' _ _), ((Below.refl _ w).drew.trans b1).trans (b2.mono b1.size)⟩
theorem tab_drewN {w : World} (k : Nat) (h : Lib.TabIs Tryd.prog w "internal/strconv.uint64pow10" .u64 Lib.pow10Tab) : Lib.TabIs Tryd.prog (w.drewN k) "internal/strconv.uint64pow10" .u64 Lib.pow10Tab := h
theorem spec_yes (a b : Nat) (w : World) (h1 : a ≤ 1000000000) (h2 : 1 ≤ b) (h3 : b ≤ 1000000000) :
    Calls Tryd.prog 26 #[.int .i64 a, .int .i64 b] w (Str2 (txt ((a : Int) / (Nat.gcd a b : Nat)) ((b : Int) / (Nat.gcd a b : Nat))) true w) := by
  have H := Lib.hid (fun w => spec_rt a b w h1 h2 h3)
  generalize txt ((a : Int) / (Nat.gcd a b : Nat)) ((b : Int) / (Nat.gcd a b : Nat)) = t at *
  go_enter Tryd.func26, Tryd.ntmps26
  go_wp2_with (first | (go_at_call 50; refine (Gcd.lratio_yes _ _ _ (by omega) (by omega) (by omega) (by omega)).mono ?_; rintro e w' ⟨rfl, rfl⟩) | (go_at_call 51; refine (H.out _).mono ?_; rintro e w1 ⟨rfl, b1⟩))
  go_ret2
  exact ⟨rfl, b1⟩
set_option maxRecDepth 100000 in
set_option maxHeartbeats 2000000 in
theorem impl_yes (a b : Nat) (w : World) (h1 : a ≤ 1000000000) (h2 : 1 ≤ b) (h3 : b ≤ 1000000000) (htab : Lib.TabIs Tryd.prog w "internal/strconv.uint64pow10" .u64 Lib.pow10Tab) :
    Calls Tryd.prog 14 #[.int .i64 a, .int .i64 b] w (Str2 (txt ((a : Int) / (Nat.gcd a b : Nat)) ((b : Int) / (Nat.gcd a b : Nat))) true w) := by
  have HG := Lib.hid (fun w => Gcd.impl_yes a b w h1 h2 h3)
  generalize Nat.gcd a b = g at *
  obtain ⟨d1a, d1b⟩ := div_bd a g h1
  obtain ⟨d2a, d2b⟩ := div_bd b g h3
  generalize (a : Int) / (g : Int) = p at *
  generalize (b : Int) / (g : Int) = q at *
  have H1 := Lib.hid (fun w => fnExactDecimal.impl_dec p w (by omega) (by omega))
  have H2 := Lib.hid (fun w => fnExactDecimal.impl_dec q w (by omega) (by omega))
  have HT := Lib.hid htab
  have l1 := itoa_len p d1a d1b
  have l2 := itoa_len q d2a d2b
  clear htab
  have hlt := Tb.tab_lt HT.out
  by_cases h : q = 1
  · have ht : txt p q = Lib.itoa p := by unfold txt; rw [if_pos h]
    rw [ht]
    subst h
    clear ht H2 l1 l2
    go_enter Tryd.func14, Tryd.ntmps14
    go_wp2_with (first | (go_at_call 12; refine (HG.out _).mono ?_; rintro e w' ⟨rfl, n, rfl⟩) | (go_at_call 23; refine (H1.out _ (tab_drewN n HT.out)).mono ?_; rintro e w1 ⟨rfl, b1⟩))
    go_ret2
    exact ⟨rfl, (below_drewN n (Below.refl _ w)).trans b1⟩
  · have hne : (q == 1) = false := by simpa using h
    have ht : txt p q = Lib.itoa p ++ 47 :: Lib.itoa q := by unfold txt; rw [if_neg h]
    rw [ht]
    have f1 : ¬ (9223372036854775806 < (Lib.itoa p).length) := by omega
    have f1b : ¬ (9223372036854775807 < (Lib.itoa p).length + 1) := by omega
    have f2 : ¬ (9223372036854775807 < (Lib.itoa p).length + 1 + (Lib.itoa q).length) := by omega
    clear ht h l1 l2
    go_enter Tryd.func14, Tryd.ntmps14
    go_wp2_with (go_at_call 12; refine (HG.out _).mono ?_; rintro e w' ⟨rfl, n, rfl⟩)
    refine (H1.out _ (tab_drewN n HT.out)).mono ?_; rintro e w1 ⟨rfl, b1⟩
    go_wp2_with fail
    refine (H2.out _ (Tb.tab_below (tab_drewN n HT.out) b1 hlt)).mono ?_; rintro e w2 ⟨rfl, b2⟩
    go_wp2
    go_ret2
    exact ⟨ret_str (congrArg (fun v => Value.tuple #[v, .bool true]) (cat3' _ _)), ((below_drewN n (Below.refl _ w)).trans b1).trans (b2.mono b1.size)⟩
theorem impl_no (a0 a1 : Int) (w : World) (h : ¬ (0 ≤ a0 ∧ a0 ≤ 1000000000 ∧ 1 ≤ a1 ∧ a1 ≤ 1000000000)) :
    Calls Tryd.prog 14 #[.int .i64 a0, .int .i64 a1] w (Str2 [] false w) := by
  have H := Lib.hid (fun w => Gcd.impl_no a0 a1 w h)
  clear h
  go_enter Tryd.func14, Tryd.ntmps14
  go_wp2_with (go_at_call 12; refine (H.out _).mono ?_; rintro e w' ⟨rfl, rfl⟩)
  go_ret2
  exact ⟨rfl, Below.refl _ _⟩
theorem spec_no (a0 a1 : Int) (w : World) (h : ¬ (0 ≤ a0 ∧ a0 ≤ 1000000000 ∧ 1 ≤ a1 ∧ a1 ≤ 1000000000)) :
    Calls Tryd.prog 26 #[.int .i64 a0, .int .i64 a1] w (Str2 [] false w) := by
  have H := Lib.hid h
  clear h
  by_cases g0 : 0 ≤ a0
  · by_cases g1 : a0 ≤ 1000000000
    · by_cases g2 : 1 ≤ a1
      · by_cases g3 : a1 ≤ 1000000000
        · exact absurd ⟨g0, g1, g2, g3⟩ H.out
        · go_enter Tryd.func26, Tryd.ntmps26
          go_wp2
          go_ret2
          exact ⟨rfl, Below.refl _ _⟩
      · go_enter Tryd.func26, Tryd.ntmps26
        go_wp2
        go_ret2
        exact ⟨rfl, Below.refl _ _⟩
    · go_enter Tryd.func26, Tryd.ntmps26
      go_wp2
      go_ret2
      exact ⟨rfl, Below.refl _ _⟩
  · go_enter Tryd.func26, Tryd.ntmps26
    go_wp2
    go_ret2
    exact ⟨rfl, Below.refl _ _⟩
end Go.Proofs.YtdilbogjihafoaaDoor.Rt
