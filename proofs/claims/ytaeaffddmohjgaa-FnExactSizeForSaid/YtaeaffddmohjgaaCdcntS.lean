/- The model's counts of distances. -/
import Derived.Test.YtaeaffddmohjgaaCcurveS
namespace Go.Proofs.Ytaeaffddmohjgaa.Tr
open Go.RowKit
theorem told_get (f : Nat → Int) (n j : Nat) (h : j < n) : (told f n).getD j 0 = f j := by simp [told, List.getD_eq_getElem?_getD, h]
theorem stood_told (f : Int → Int → Bool) (xs : List Int) (hn : xs.length ≤ 60) : ∀ j, j < (told (stoodAt f xs) xs.length).length → -1 ≤ (told (stoodAt f xs) xs.length).getD j 0 ∧ (told (stoodAt f xs) xs.length).getD j 0 < 60 := fun j hj => by
  rw [told_length] at hj
  rw [told_get _ _ _ hj]
  have h := stood_rng f xs j
  generalize stoodAt f xs j = z at *
  omega
end Go.Proofs.Ytaeaffddmohjgaa.Tr
