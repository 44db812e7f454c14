/- The contracts of both CanonicalUses. -/
import Derived.Test.YtlpooiihoiddbaaCtellCanon
import Derived.Test.YtlpooiihoiddbaaCcanonS
namespace Go.Proofs.Ytlpooiihoiddbaa.Tr
open Go.RowKit
theorem canon_no_s {v : Value} {xs : List Int} {w : World} (h : Rd w v xs) (hn : xs.length ≤ 1048576) (hok : okU xs = false) :
    Calls Try.prog 32 #[v] w (Res [] false w) := by
  have hU := Lib.hid (uses_sR h hn)
  rw [hok] at hU
  go_enter Try.func32, Try.ntmps32
  go_wp2_with (go_at_call 34; refine hU.out.mono ?_; rintro e w' ⟨rfl, rfl⟩)
  go_ret2
  exact ⟨_, rfl, Own.nil _ _, Below.refl _ _⟩
theorem canon_yes_s {v : Value} {xs : List Int} {w : World} (h : Rd w v xs) (hok : okU xs = true) :
    Calls Try.prog 32 #[v] w (Res (told (canonAt xs) xs.length) true w) := by
  have hn := okU_len hok
  have hU := Lib.hid (uses_sR h (by omega))
  rw [hok] at hU
  obtain ⟨a, c, rfl, _, _, hr⟩ := h
  have hS := Lib.hid (canon_s a c xs w hn hr)
  clear hr hok
  generalize told (canonAt xs) xs.length = ys at *
  go_enter Try.func32, Try.ntmps32
  go_wp2_with (first | (go_at_call 34; refine hU.out.mono ?_; rintro e w' ⟨rfl, rfl⟩) | (go_at_call 56; refine hS.out.mono ?_; rintro e w1 ⟨v1, rfl, ho, hb⟩))
  go_ret2
  exact ⟨_, rfl, ho, hb⟩
end Go.Proofs.Ytlpooiihoiddbaa.Tr
