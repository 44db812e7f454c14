/- The walk of laws.FnExactJournalOf: the call returns true and writes nothing that was there. -/
import Derived.Test.YtlcogbphodakfaaCjb
namespace Go.Proofs.Ytlcogbphodakfaa.fnExactJournalOf
open Go.RowKit Sj Jn
set_option maxHeartbeats 1000000 in
theorem walk (a : Option Addr) (c : Nat) (xs : List ByteArray) (w : World) (hr : RdC w a xs) (hm : xs.length ≤ 9223372036854775807) (hz : ∀ i, i < xs.length → (xs.getD i ByteArray.empty).size ≤ 9223372036854775807) :
    Calls Try.prog 3 #[.slice a xs.length c] w fun e w' => e = .returned (.bool true) ∧ Below w.heap.size w w' := by
  have HS := Lib.hid (sz_s a c xs w hr hz hm)
  have HT := Lib.hid (fun (hn : xs.length ≤ 1048576) (w9 : World) (hb : Below w.heap.size w w9) => to_s a c xs w9 (hr.below hb (Nat.le_refl _)) hn)
  have HM := Lib.hid (fun (hn : xs.length ≤ 1048576) (hx : ∀ i, i < xs.length → (xs.getD i ByteArray.empty).size ≤ 1048576) (v : Value) (B : Nat) (w9 : World) (o : OwnS w9 B v xs) => (show Calls Try.prog 6 #[v] w9 (Js (jo xs) (okJ 0 xs) w9) from by
    obtain ⟨a9, c9, rfl, r9⟩ := o.row
    exact jof_s a9 c9 xs w9 (RdS.c r9) hn hx))
  have HI := Lib.hid (fun (hn : xs.length ≤ 1048576) (hx : ∀ i, i < xs.length → (xs.getD i ByteArray.empty).size ≤ 1048576) (v : Value) (B : Nat) (w9 : World) (o : OwnS w9 B v xs) => (show Calls Try.prog 8 #[v] w9 (Js (jo xs) (okJ 0 xs) w9) from by
    obtain ⟨a9, c9, rfl, r9⟩ := o.row
    exact jof_i a9 c9 xs w9 (RdS.c r9) hn hx))
  generalize jo xs = J at *
  generalize okJ 0 xs = ok at *
  clear hr hz
  generalize hN : xs.length = n at *
  have HN := Lib.hid hN
  clear hN
  go_enter Try.func3, Try.ntmps3
  go_wp2_with fail
  refine HS.out.mono ?_; rintro e w0 ⟨r, rfl, rfl, hp⟩
  by_cases hneg : r < 0
  · go_wp2
    go_ret
    exact ⟨rfl, Below.refl _ _⟩
  · obtain ⟨hn, hx⟩ := hp (by omega)
    rw [HN.out] at hn hx
    have HX := Lib.hid hx
    have HXN := Lib.hid (show xs.length ≤ 1048576 by rw [HN.out]; exact hn)
    clear hp hx
    go_wp2_with fail
    refine (HT.out hn _ (Below.refl _ _)).mono ?_; rintro e w1 ⟨v1, rfl, o1, b1⟩
    go_wp2_with fail
    refine (HM.out hn HX.out v1 _ w1 o1).mono ?_; rintro e w2 ⟨rfl, b2⟩
    have c2 := bt b1 b2
    go_wp2_with fail
    refine (HT.out hn _ c2).mono ?_; rintro e w3 ⟨v3, rfl, o3, b3⟩
    have c3 := bt c2 b3
    go_wp2_with fail
    refine (HI.out hn HX.out v3 _ w3 o3).mono ?_; rintro e w4 ⟨rfl, b4⟩
    have c4 := bt c3 b4
    have o4 := o3.below b4 (Nat.le_refl _)
    go_wp2_with fail
    refine (HT.out hn _ c4).mono ?_; rintro e w5 ⟨v5, rfl, o5, b5⟩
    have c5 := bt c4 b5
    go_wp2_with fail
    refine (eq_s (o4.below b5 (Nat.le_refl _)) o5 HXN.out).mono ?_; rintro e w6 ⟨k, rfl, rfl⟩
    go_wp2
    go_ret
    exact ⟨rfl, below_drewN k c5⟩
end Go.Proofs.Ytlcogbphodakfaa.fnExactJournalOf
