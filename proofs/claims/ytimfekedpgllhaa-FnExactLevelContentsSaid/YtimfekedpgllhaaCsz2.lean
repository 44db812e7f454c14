/- The size of a policy by value, what is left being any number. -/
import Derived.Test.YtimfekedpgllhaaCpolV
namespace Go.Proofs.Ytimfekedpgllhaa
open Go.RowKit
theorem szPG_yes (a a' : Option Addr) (c c' len' : Nat) (hs : List (List Int)) (left : Int) (w : World) (hleft : left ≤ 1048576) (hm : IsMatL w a hs) (h : (hs.length : Int) + ((lens hs).sum : Nat) + (len' : Int) ≤ left) :
    Calls Try.prog 23 #[.agg #[.slice a hs.length c, .slice a' len' c'], .int .i64 left] w (NbI (left - hs.length - ((lens hs).sum : Nat) - len') w) := by
  have b0 := (Below.refl w.heap.size w).alloc (Nat.le_refl _) (.cells #[.slice a hs.length c, .slice a' len' c'] 25)
  have H1 := Lib.hid (szM_yes a c hs left _ (hm.below b0) (by omega) (by omega))
  have H2 := Lib.hid (szI_yes a' len' c' (left - hs.length - ((lens hs).sum : Nat)) (w.alloc (.cells #[.slice a hs.length c, .slice a' len' c'] 25)) (by omega) (by omega))
  have n1 : ¬ (left - (hs.length : Int) - ((lens hs).sum : Nat)) < 0 := by omega
  have n2 : ¬ (left - (hs.length : Int) - ((lens hs).sum : Nat) - (len' : Int)) < 0 := by omega
  clear hm h
  generalize (lens hs).sum = T at *
  generalize hs.length = N at *
  go_enter Try.func23, Try.ntmps23
  go_wp2_with fail
  refine H1.out.mono ?_; rintro e w' ⟨rfl, rfl⟩
  go_wp2_with fail
  refine H2.out.mono ?_; rintro e w' ⟨rfl, rfl⟩
  go_wp2
  go_ret
  exact ⟨rfl, b0⟩
theorem szPG_no (a a' : Option Addr) (c c' len' : Nat) (hs : List (List Int)) (left : Int) (w : World) (hleft0 : 0 ≤ left) (hleft : left ≤ 1048576) (hm : IsMatL w a hs) (hl : len' ≤ 9223372036854775807) (h : ¬ (hs.length : Int) + ((lens hs).sum : Nat) + (len' : Int) ≤ left) :
    Calls Try.prog 23 #[.agg #[.slice a hs.length c, .slice a' len' c'], .int .i64 left] w (NbI (-1) w) := by
  have b0 := (Below.refl w.heap.size w).alloc (Nat.le_refl _) (.cells #[.slice a hs.length c, .slice a' len' c'] 25)
  by_cases h1 : (hs.length : Int) + ((lens hs).sum : Nat) ≤ left
  · have H1 := Lib.hid (szM_yes a c hs left _ (hm.below b0) (by omega) (by omega))
    have H2 := Lib.hid (szI_no a' len' c' (left - hs.length - ((lens hs).sum : Nat)) (w.alloc (.cells #[.slice a hs.length c, .slice a' len' c'] 25)) (by omega) (by omega) (by omega) hl)
    have n1 : ¬ (left - (hs.length : Int) - ((lens hs).sum : Nat)) < 0 := by omega
    clear hm h h1
    generalize (lens hs).sum = T at *
    generalize hs.length = N at *
    go_enter Try.func23, Try.ntmps23
    go_wp2_with fail
    refine H1.out.mono ?_; rintro e w' ⟨rfl, rfl⟩
    go_wp2_with fail
    refine H2.out.mono ?_; rintro e w' ⟨rfl, rfl⟩
    go_wp2
    go_ret
    exact ⟨rfl, b0⟩
  · have H1 := Lib.hid (szM_no a c hs left _ (hm.below b0) (by omega) (by omega) (by omega))
    clear hm h h1
    generalize hs.length = N at *
    go_enter Try.func23, Try.ntmps23
    go_wp2_with fail
    refine H1.out.mono ?_; rintro e w' ⟨rfl, rfl⟩
    go_wp2
    go_ret
    exact ⟨rfl, b0⟩
end Go.Proofs.Ytimfekedpgllhaa
