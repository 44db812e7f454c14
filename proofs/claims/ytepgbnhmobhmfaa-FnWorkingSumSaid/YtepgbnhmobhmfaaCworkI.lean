/- The contracts of both WorkingSet and WorkingSizes. -/
import Derived.Test.YtepgbnhmobhmfaaClastI
import Derived.Test.YtepgbnhmobhmfaaCtell
import Derived.Test.YtepgbnhmobhmfaaCphase
namespace Go.Proofs.Ytepgbnhmobhmfaa.Tr
open Go.RowKit
/-- The working set at a use. -/
def wsL (xs : List Int) (q i : Nat) : List Int := setP ((xs.take (i + 1)).drop (i + 1 - q))
theorem wsL_length (xs : List Int) (q i : Nat) : (wsL xs q i).length ≤ i + 1 := by
  have h1 := setP_length ((xs.take (i + 1)).drop (i + 1 - q))
  have h2 : ((xs.take (i + 1)).drop (i + 1 - q)).length ≤ i + 1 := by simp; omega
  unfold wsL; omega
/-- The program's set of the last uses. -/
theorem work_i (a : Option Addr) (c i q : Nat) (xs : List Int) (hl : xs.length ≤ 60) (hi : i < xs.length) (hq1 : 1 ≤ q) (hq : q ≤ 60) (w : World) (hr : Row w a xs) :
    Calls Try.prog 26 #[lastV w] (w3 w a xs.length c i q) fun e w' => Lb (wsL xs q i) w e w' := by
  refine (last_set a c i q xs hl hi hq1 hq w hr).mono ?_
  rintro e w' ⟨v, he, ho, hb⟩
  have hb3 := w3_below w a xs.length c i q
  exact ⟨v, he, ho.mono hb3.size, hb3.trans (hb.mono hb3.size)⟩
end Go.Proofs.Ytepgbnhmobhmfaa.Tr
