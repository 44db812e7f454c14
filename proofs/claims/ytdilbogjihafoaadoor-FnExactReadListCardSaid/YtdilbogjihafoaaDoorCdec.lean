/- Contract of the model's decimal text of a number: strconv's own text of it. -/
import Derived.Test.YtdilbogjihafoaaDoorCBase
import Derived.Test.YtdilbogjihafoaaDoorPlainDec
namespace Go.Proofs.YtdilbogjihafoaaDoor.Dc
open Go.RowKit
def Str (t : ByteArray) (w : World) (e : Ending) (w' : World) : Prop := e = .returned (.string t) ∧ Below w.heap.size w w'
theorem one_byte (w : World) (x : Int) (hx : 0 ≤ x ∧ x ≤ 255) :
    (convert 22 9 (.slice (some ⟨w.heap.size, 0, none⟩) 1 1)).run Tryd.prog (w.alloc (.cells #[.int .u8 x] 5)) =
      .ok (.string ⟨#[UInt8.ofNat x.toNat]⟩) (w.alloc (.cells #[.int .u8 x] 5)) := by
  obtain ⟨a, rfl⟩ := Int.eq_ofNat_of_zero_le hx.1
  refine run_convert_bytes_back (P := Tryd.prog) (w.alloc (.cells #[.int .u8 (a : Int)] 5)) 22 9 5 ⟨w.heap.size, 0, none⟩ 1 [UInt8.ofNat a] Tryd.underlying22 Tryd.underlying5 Tryd.underlying9 ?_
  intro j hj
  match j, hj with
  | 0, _ =>
    rw [show (⟨w.heap.size, 0, none⟩ : Addr).add 0 = ⟨w.heap.size, 0, none⟩ from rfl, World.cell?_alloc_mark]
    simp; omega
theorem cat (x : UInt8) (l : List UInt8) : (⟨#[x]⟩ ++ ⟨l.toArray⟩ : ByteArray) = ⟨(x :: l).toArray⟩ := by
  apply ByteArray.ext
  simp
theorem cat_str (x y : UInt8) (l : List UInt8) (h : x = y) : Value.string (⟨#[x]⟩ ++ ⟨l.toArray⟩) = .string ⟨(y :: l).toArray⟩ := by rw [cat, h]
set_option maxRecDepth 100000 in
set_option maxHeartbeats 1000000 in
theorem dec_pos (n : Int) (w : World) (h0 : 0 < n) (h1 : n ≤ 9223372036854775807) :
    Calls Tryd.prog 46 #[.int .i64 n] w (Str ⟨(decR n.toNat).toArray⟩ w) := by
  go_enter Tryd.func46, Tryd.ntmps46
  go_wp2
  go_loopw [3, 4, 5] (fun o r _ wr => ∃ (a : Int) (l : List UInt8), 0 ≤ a ∧ a ≤ 9223372036854775807 ∧ r = .int .i64 a ∧ o = .string ⟨l.toArray⟩ ∧ Hid (decR a.toNat ++ l = decR n.toNat) ∧ Below w.heap.size w wr) (fun _ r _ _ => (intOf r).toNat)
  case atStart => exact ⟨n, [], by omega, h1, rfl, rfl, Lib.hid (by simp), Below.refl _ _⟩
  case round =>
    obtain ⟨a, l, ha, hm, rfl, rfl, hx, hb⟩ := hrel
    have hsz := hb.size
    have hlen := suffix_len _ _ l hx.out (by omega)
    by_cases hp : 0 < a
    · have hne : (a != 0) = true := by simp; omega
      have kc := one_byte wr (48 + a % 10) (by omega)
      go_wp2
      go_roundw
      case rel => exact ⟨a / 10, UInt8.ofNat (48 + a.toNat % 10) :: l, by omega, by omega, rfl, cat_str _ _ _ (by congr 1; omega), Lib.hid (by rw [show (a / 10).toNat = a.toNat / 10 by omega]; exact suffix_step _ _ _ hx.out (by omega)), hb.alloc hsz _⟩
      case measure => simp [intOf]; omega
    · have hne : (a != 0) = false := by simp; omega
      have hu : (n == 0) = false := by simp; omega
      go_wp2
      go_ret
      have e : a.toNat = 0 := by omega
      have hx2 := hx.out
      rw [e, decR_zero, List.nil_append] at hx2
      rw [← hx2]
      exact ⟨rfl, hb⟩
theorem tmod_low (a : Int) (h : a ≤ 0) : a.tmod 10 = -((-a) % 10) := by
  obtain ⟨m, hm⟩ := Int.eq_ofNat_of_zero_le (show 0 ≤ -a by omega)
  have e : a = -(m : Int) := by omega
  rw [e, tmod_neg, Int.neg_neg]
  simp
theorem tdiv_low (a : Int) (h : a ≤ 0) : a.tdiv 10 = -((-a) / 10) := by
  obtain ⟨m, hm⟩ := Int.eq_ofNat_of_zero_le (show 0 ≤ -a by omega)
  have e : a = -(m : Int) := by omega
  rw [e, tdiv_neg, Int.neg_neg]
  simp
theorem cat_minus (l : List UInt8) : Value.string (⟨#[45]⟩ ++ ⟨l.toArray⟩) = .string ⟨(45 :: l).toArray⟩ := by rw [cat]
set_option maxRecDepth 100000 in
set_option maxHeartbeats 1000000 in
theorem dec_low (n : Int) (w : World) (h0 : n < 0) (h1 : -9223372036854775808 ≤ n) :
    Calls Tryd.prog 46 #[.int .i64 n] w (Str ⟨(45 :: decR (-n).toNat).toArray⟩ w) := by
  go_enter Tryd.func46, Tryd.ntmps46
  go_wp2
  go_loopw [3, 4, 5] (fun o r _ wr => ∃ (a : Int) (l : List UInt8), a ≤ 0 ∧ -9223372036854775808 ≤ a ∧ r = .int .i64 a ∧ o = .string ⟨l.toArray⟩ ∧ Hid (decR (-a).toNat ++ l = decR (-n).toNat) ∧ Below w.heap.size w wr) (fun _ r _ _ => (-(intOf r)).toNat)
  case atStart => exact ⟨n, [], by omega, h1, rfl, rfl, Lib.hid (by simp), Below.refl _ _⟩
  case round =>
    obtain ⟨a, l, ha, hm, rfl, rfl, hx, hb⟩ := hrel
    have hsz := hb.size
    have hlen := suffix_len _ _ l hx.out (by omega)
    by_cases hp : a < 0
    · have hne : (a != 0) = true := by simp; omega
      obtain ⟨b, hb1⟩ : ∃ b : Int, b = (-a) % 10 := ⟨_, rfl⟩
      obtain ⟨c, hc1⟩ : ∃ c : Int, c = -((-a) / 10) := ⟨_, rfl⟩
      have ht : a.tmod 10 = -b := by rw [tmod_low a (by omega), hb1]
      have hq : a.tdiv 10 = c := by rw [tdiv_low a (by omega), hc1]
      have b1 : 0 ≤ b := by omega
      have b2 : b ≤ 9 := by omega
      have c1 : c ≤ 0 := by omega
      have c2 : -9223372036854775808 ≤ c := by omega
      have HB := Lib.hid hb1
      have HC := Lib.hid hc1
      have kc := one_byte wr (48 + b) (by omega)
      have hnew : Hid (decR (-c).toNat ++ (UInt8.ofNat (48 + (-a).toNat % 10) :: l) = decR (-n).toNat) := by
        rw [show (-c).toNat = (-a).toNat / 10 by omega]
        exact suffix_step _ _ _ hx.out (by omega)
      have hbyte : Hid (UInt8.ofNat (48 + b).toNat = UInt8.ofNat (48 + (-a).toNat % 10)) := by
        show _ = _
        congr 1
        omega
      have hdec : Hid ((-c).toNat < (-a).toNat) := by show _ < _; omega
      clear hb1 hc1
      by_cases hz : 0 < b
      · go_wp2
        go_roundw
        case rel => exact ⟨c, UInt8.ofNat (48 + (-a).toNat % 10) :: l, c1, c2, rfl, cat_str _ _ _ hbyte.out, hnew, hb.alloc hsz _⟩
        case measure => exact hdec.out
      · have hb0 : b = 0 := by omega
        subst hb0
        clear kc
        have kc2 := one_byte wr 48 (by omega)
        go_wp2
        go_roundw
        case rel => exact ⟨c, UInt8.ofNat (48 + (-a).toNat % 10) :: l, c1, c2, rfl, cat_str _ _ _ (by rw [← hbyte.out]; rfl), hnew, hb.alloc hsz _⟩
        case measure => exact hdec.out
    · have hne : (a != 0) = false := by simp; omega
      have hu : (n == 0) = false := by simp; omega
      go_wp2
      go_ret
      have e : (-a).toNat = 0 := by omega
      have hx2 := hx.out
      rw [e, decR_zero, List.nil_append] at hx2
      rw [← hx2]
      exact ⟨congrArg Ending.returned (cat_minus l), hb⟩
theorem dec_zero (w : World) : Calls Tryd.prog 46 #[.int .i64 0] w (Str ⟨#[48]⟩ w) := by
  go_enter Tryd.func46, Tryd.ntmps46
  go_wp2
  refine wp_loop_rounds 1 ?_
  rw [rounds_succ]
  go_wp2
  go_ret
  exact ⟨rfl, Below.refl _ _⟩
/-- AT EVERY int64: the numeral of strconv. -/
theorem dec_any (n : Int) (w : World) (h0 : -9223372036854775808 ≤ n) (h1 : n ≤ 9223372036854775807) :
    Calls Tryd.prog 46 #[.int .i64 n] w (Str ⟨(Lib.itoa n).toArray⟩ w) := by
  by_cases hz : n = 0
  · subst hz; rw [itoa_zero]; exact dec_zero w
  · by_cases hp : 0 < n
    · have e : Lib.itoa n = decR n.toNat := by
        obtain ⟨u, rfl⟩ := Int.eq_ofNat_of_zero_le (show 0 ≤ n by omega)
        rw [itoa_pos u (by omega)]; simp
      rw [e]; exact dec_pos n w hp h1
    · have e : Lib.itoa n = 45 :: decR (-n).toNat := by
        obtain ⟨u, hu⟩ := Int.eq_ofNat_of_zero_le (show 0 ≤ -n by omega)
        rw [show n = -(u : Int) by omega, itoa_neg u (by omega)]; simp
      rw [e]; exact dec_low n w (by omega) h0
end Go.Proofs.YtdilbogjihafoaaDoor.Dc
