/- Contracts of the check letters of a text: the model's and the program's give the same two letters. -/
import Derived.Test.YtlcogbphodakfaaCBase
namespace Go.Proofs.Ytlcogbphodakfaa.Ck
open Go.RowKit
def Str (t : ByteArray) (w : World) (e : Ending) (w' : World) : Prop := e = .returned (.string t) ∧ Below w.heap.size w w'
def chk (l : List UInt8) : Nat := l.foldl (fun n c => (31 * n + c.toNat) % 676) 1
theorem chk_snoc (l : List UInt8) (c : UInt8) : chk (l ++ [c]) = (31 * chk l + c.toNat) % 676 := by simp [chk, List.foldl_append]
theorem chk_lt (l : List UInt8) : chk l < 676 := by
  rcases List.eq_nil_or_concat l with rfl | ⟨l', c, rfl⟩
  · decide
  · rw [List.concat_eq_append, chk_snoc]; exact Nat.mod_lt _ (by omega)
theorem take_snoc (s : ByteArray) (k : Nat) (h : k < s.size) : s.data.toList.take (k + 1) = s.data.toList.take k ++ [s[k]] := by
  rw [List.take_succ_eq_append_getElem (by simpa using h)]; rfl
theorem chk_step (s : ByteArray) (k : Nat) (h : k < s.size) : chk (s.data.toList.take (k + 1)) = (31 * chk (s.data.toList.take k) + s[k].toNat) % 676 := by
  rw [take_snoc s k h, chk_snoc]
theorem chk_end (s : ByteArray) : chk (s.data.toList.take s.size) = chk s.data.toList := by rw [List.take_of_length_le (by simp)]
/-- A string of two bytes out of a slice of two that was just made. -/
theorem two_bytes (w : World) (x y : Int) (hx : 0 ≤ x ∧ x ≤ 255) (hy : 0 ≤ y ∧ y ≤ 255) :
    (convert 34 9 (.slice (some ⟨w.heap.size, 0, none⟩) 2 2)).run Try.prog (w.alloc (.cells #[.int .u8 x, .int .u8 y] 5)) =
      .ok (.string ⟨#[UInt8.ofNat x.toNat, UInt8.ofNat y.toNat]⟩) (w.alloc (.cells #[.int .u8 x, .int .u8 y] 5)) := by
  obtain ⟨a, rfl⟩ := Int.eq_ofNat_of_zero_le hx.1
  obtain ⟨b, rfl⟩ := Int.eq_ofNat_of_zero_le hy.1
  refine run_convert_bytes_back (P := Try.prog) (w.alloc (.cells #[.int .u8 (a : Int), .int .u8 (b : Int)] 5)) 34 9 5 ⟨w.heap.size, 0, none⟩ 2 [UInt8.ofNat a, UInt8.ofNat b] Try.underlying34 Try.underlying5 Try.underlying9 ?_
  intro j hj
  match j, hj with
  | 0, _ =>
    rw [show (⟨w.heap.size, 0, none⟩ : Addr).add 0 = ⟨w.heap.size, 0, none⟩ from rfl, World.cell?_alloc_mark]
    simp; omega
  | 1, _ =>
    rw [show (⟨w.heap.size, 0, none⟩ : Addr).add 1 = ⟨w.heap.size, 1, none⟩ from rfl, World.cell?_alloc_mark]
    simp; omega
def letters (c : Nat) : ByteArray := ⟨#[97 + UInt8.ofNat (c / 26), 97 + UInt8.ofNat (c % 26)]⟩
set_option maxHeartbeats 800000 in
theorem spec_any (s : ByteArray) (w : World) (hs : s.size ≤ 1048576) :
    Calls Try.prog 21 #[.string s] w (Str (letters (chk s.data.toList)) w) := by
  go_enter Try.func21, Try.ntmps21
  go_wp2
  go_loop [3, 4] (fun n i => ∃ k c : Nat, k ≤ s.size ∧ c < 676 ∧ i = .int .i64 k ∧ n = .int .i64 c ∧ Hid (c = chk (s.data.toList.take k))) (fun _ i => s.size - (intOf i).toNat)
  case atStart => exact ⟨0, 1, Nat.zero_le _, by omega, rfl, rfl, Lib.hid rfl⟩
  case round =>
    obtain ⟨k, c, hk, hc, rfl, rfl, hx⟩ := hrel
    by_cases hlt : k < s.size
    · have HS := Lib.hid (chk_step s k hlt)
      have hb : (s[k].toNat : Int) ≤ 255 := by have := s[k].toNat_lt; omega
      go_wp2
      go_round
      case rel => exact ⟨k + 1, (31 * c + s[k].toNat) % 676, by omega, Nat.mod_lt _ (by omega), by go_num, by go_num, Lib.hid (by rw [HS.out, hx.out])⟩
      case measure => simp [intOf]; omega
    · have kc := two_bytes w (97 + (c : Int) / 26) (97 + (c : Int) % 26) (by omega) (by omega)
      go_wp2
      go_ret
      have e : k = s.size := by omega
      subst e
      have hx2 := hx.out
      rw [chk_end] at hx2
      subst hx2
      exact ⟨rfl, (Below.refl _ _).alloc (Nat.le_refl _) _⟩
set_option maxHeartbeats 800000 in
theorem impl_any (s : ByteArray) (w : World) (hs : s.size ≤ 1048576) :
    Calls Try.prog 17 #[.string s] w (Str (letters (chk s.data.toList)) w) := by
  go_enter Try.func17, Try.ntmps17
  go_wp2
  go_loop [3, 4, 7] (fun n _ i => ∃ k c : Nat, k ≤ s.size ∧ c < 676 ∧ i = .int .i64 k ∧ n = .int .i64 c ∧ Hid (c = chk (s.data.toList.take k))) (fun _ _ i => s.size - (intOf i).toNat)
  case atStart => exact ⟨0, 1, Nat.zero_le _, by omega, rfl, rfl, Lib.hid rfl⟩
  case round =>
    obtain ⟨k, c, hk, hc, rfl, rfl, hx⟩ := hrel
    by_cases hlt : k < s.size
    · have HS := Lib.hid (chk_step s k hlt)
      have hb : (s[k].toNat : Int) ≤ 255 := by have := s[k].toNat_lt; omega
      go_wp2
      go_round
      case rel => exact ⟨k + 1, (31 * c + s[k].toNat) % 676, by omega, Nat.mod_lt _ (by omega), by go_num, by go_num, Lib.hid (by rw [HS.out, hx.out])⟩
      case measure => simp [intOf]; omega
    · have kc := two_bytes w (97 + (c : Int) / 26) (97 + (c : Int) % 26) (by omega) (by omega)
      go_wp2
      go_ret
      have e : k = s.size := by omega
      subst e
      have hx2 := hx.out
      rw [chk_end] at hx2
      subst hx2
      exact ⟨rfl, (Below.refl _ _).alloc (Nat.le_refl _) _⟩
end Go.Proofs.Ytlcogbphodakfaa.Ck
