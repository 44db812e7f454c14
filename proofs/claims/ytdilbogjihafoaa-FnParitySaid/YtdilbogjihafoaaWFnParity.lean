/- The walk of laws.FnParity: the call returns true and writes nothing that was there. -/
import Derived.Test.YtdilbogjihafoaaCb10
import Derived.Test.YtdilbogjihafoaaCbits
namespace Go.Proofs.Ytdilbogjihafoaa.fnParity
open Go.RowKit
def Par (v : Nat) (w : World) (e : Ending) (w' : World) : Prop := ∃ p : Nat, p < 2 ∧ Hid (p = Bt.pc 32 v % 2) ∧ e = .returned (.tuple #[.int .i64 p, .bool true]) ∧ w = w'
theorem par_int (x m : Int) (w : World) (h0 : 0 ≤ x) (h1 : x ≤ 1000000000) (h2 : 0 ≤ m) (h3 : m ≤ 1000000000) :
    Calls Try.prog 21 #[.int .i64 x, .int .i64 m] w (Par (x.toNat &&& m.toNat) w) := by
  obtain ⟨a, rfl⟩ := Int.eq_ofNat_of_zero_le h0
  obtain ⟨b, rfl⟩ := Int.eq_ofNat_of_zero_le h2
  exact (Bt.par_yes_i a b w (by omega) (by omega)).mono fun e w' ⟨he, hw⟩ => ⟨_, Nat.mod_lt _ (by omega), Lib.hid rfl, he, hw⟩
theorem xor_int (x y : Int) (h0 : 0 ≤ x) (h1 : x < 65536) (h2 : 0 ≤ y) (h3 : y < 65536) :
    bits .xor .i64 x y = ((x.toNat ^^^ y.toNat : Nat) : Int) ∧ x.toNat ^^^ y.toNat < 65536 := by
  obtain ⟨a, rfl⟩ := Int.eq_ofNat_of_zero_le h0
  obtain ⟨b, rfl⟩ := Int.eq_ofNat_of_zero_le h2
  exact ⟨Bt.i64_xor a b (by omega) (by omega), Nat.xor_lt_two_pow (n := 16) (by simp; omega) (by simp; omega)⟩
theorem meet (A B M p q z : Nat) (hp : p < 2) (hq : q < 2) (h1 : Hid (p = Bt.pc 32 (A &&& M) % 2)) (h2 : Hid (q = Bt.pc 32 (B &&& M) % 2)) (h3 : Hid (z = Bt.pc 32 ((A ^^^ B) &&& M) % 2)) :
    bits .xor .i64 (p : Int) (q : Int) = (z : Int) := by
  have e := Bt.xor_bit p q hp hq
  have e2 := h3.out
  rw [Nat.and_xor_distrib_right, Bt.pc_xor] at e2
  have e3 := h1.out
  have e4 := h2.out
  rw [e, show (p + q) % 2 = z by omega]
set_option maxHeartbeats 1000000 in
theorem walk (a0 : Option Addr) (len0 cap0 : Nat) (z0 : List Int) (a1 : Option Addr) (len1 cap1 : Nat) (z1 : List Int) (w : World) (w0 : IsRow .u8 w a0 len0 cap0 z0) (w1 : IsRow .u8 w a1 len1 cap1 z1) :
    Calls Try.prog 4 #[.slice a0 len0 cap0, .slice a1 len1 cap1] w fun e w' => e = .returned (.bool true) ∧ Below w.heap.size w w' := by
  by_cases hl : 1048576 < len0 ∨ 1048576 < len1
  · go_enter Try.func4, Try.ntmps4
    go_wp2_with (go_at_call 15; refine (B10.long_yes _ _ _ _ _ _ _ hl).mono ?_; rintro e w' ⟨rfl, rfl⟩)
    go_ret
    exact ⟨rfl, Below.refl _ _⟩
  · have l0 : len0 ≤ 1048576 := by omega
    have l1 : len1 ≤ 1048576 := by omega
    clear hl
    go_enter Try.func4, Try.ntmps4
    go_wp2_with (go_at_call 15; refine (B10.long_no _ _ _ _ _ _ _ l0 l1).mono ?_; rintro e w' ⟨rfl, rfl⟩)
    refine (B10.at_any a0 len0 cap0 z0 w w0 _ _ (by omega) (by omega) (by omega) (by omega)).mono ?_; rintro e w' ⟨r0, r0a, r0b, rfl, rfl⟩
    go_wp2_with fail
    refine (B10.at_any a0 len0 cap0 z0 w w0 _ _ (by omega) (by omega) (by omega) (by omega)).mono ?_; rintro e w' ⟨r1, r1a, r1b, rfl, rfl⟩
    go_wp2_with fail
    refine (B10.at_any a0 len0 cap0 z0 w w0 _ _ (by omega) (by omega) (by omega) (by omega)).mono ?_; rintro e w' ⟨r2, r2a, r2b, rfl, rfl⟩
    go_wp2_with fail
    refine (B10.at_any a0 len0 cap0 z0 w w0 _ _ (by omega) (by omega) (by omega) (by omega)).mono ?_; rintro e w' ⟨r3, r3a, r3b, rfl, rfl⟩
    go_wp2_with fail
    refine (B10.at_any a1 len1 cap1 z1 w w1 _ _ (by omega) (by omega) (by omega) (by omega)).mono ?_; rintro e w' ⟨r4, r4a, r4b, rfl, rfl⟩
    go_wp2_with fail
    refine (B10.at_any a1 len1 cap1 z1 w w1 _ _ (by omega) (by omega) (by omega) (by omega)).mono ?_; rintro e w' ⟨r5, r5a, r5b, rfl, rfl⟩
    go_wp2_with fail
    have hx := xor_int (256 * r0 + r1) (256 * r2 + r3) (by omega) (by omega) (by omega) (by omega)
    obtain ⟨hx, hxb⟩ := hx
    refine (par_int _ _ _ (by omega) (by omega) (by omega) (by omega)).mono ?_; rintro e w' ⟨p, hp, hp2, rfl, rfl⟩
    go_wp2_with fail
    refine (par_int _ _ _ (by omega) (by omega) (by omega) (by omega)).mono ?_; rintro e w' ⟨q, hq, hq2, rfl, rfl⟩
    go_wp2_with fail
    refine (par_int _ _ _ (by omega) (by omega) (by omega) (by omega)).mono ?_; rintro e w' ⟨z, hz, hz2, rfl, rfl⟩
    clear hx
    have hm := meet _ _ _ p q z hp hq hp2 hq2 hz2
    go_wp2
    go_ret
    exact ⟨ret_bool (decide_eq_true (by omega)), Below.refl _ _⟩
end Go.Proofs.Ytdilbogjihafoaa.fnParity
