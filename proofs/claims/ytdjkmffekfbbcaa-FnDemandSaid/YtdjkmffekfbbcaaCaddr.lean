/- The contracts of both AddressesOf. -/
import Derived.Test.YtdjkmffekfbbcaaCsetI
namespace Go.Proofs.Ytdjkmffekfbbcaa.Tr
open Go.RowKit
theorem addr_no_i {v : Value} {xs : List Int} {w : World} (h : Rd w v xs) (hn : xs.length ≤ 1048576) (hok : okU xs = false) :
    Calls Try.prog 27 #[v] w (Res [] false w) := by
  have hU := Lib.hid (uses_iR h hn)
  rw [hok] at hU
  go_enter Try.func27, Try.ntmps27
  go_wp2_with (go_at_call 49; refine hU.out.mono ?_; rintro e w' ⟨rfl, rfl⟩)
  go_ret2
  exact ⟨_, rfl, Own.nil _ _, Below.refl _ _⟩
theorem addr_yes_i {v : Value} {xs : List Int} {w : World} (h : Rd w v xs) (hok : okU xs = true) :
    Calls Try.prog 27 #[v] w (Res (setP xs) true w) := by
  have hn := okU_len hok
  have hU := Lib.hid (uses_iR h (by omega))
  rw [hok] at hU
  obtain ⟨a, c, rfl, _, _, hr⟩ := h
  have hV := Lib.hid (vals_value a xs.length c w)
  have hS := Lib.hid (vals_set a c xs (by omega) w hr)
  have hb0 : Below w.heap.size w (w.alloc (.cells #[.slice a xs.length c] 24)) := (Below.refl _ _).alloc (Nat.le_refl _) _
  generalize setP xs = ys at *
  generalize xs.length = N at *
  go_enter Try.func27, Try.ntmps27
  go_wp2_with (first | (go_at_call 49; refine hU.out.mono ?_; rintro e w' ⟨rfl, rfl⟩) | (go_at_call 50; refine hV.out.mono ?_; rintro e w0 ⟨rfl, rfl⟩) | (go_at_call 46; refine hS.out.mono ?_; rintro e w1 ⟨v1, rfl, ho, hb⟩))
  go_ret2
  exact ⟨_, rfl, ho.mono (by simp), hb0.trans (hb.mono (by simp))⟩
end Go.Proofs.Ytdjkmffekfbbcaa.Tr
