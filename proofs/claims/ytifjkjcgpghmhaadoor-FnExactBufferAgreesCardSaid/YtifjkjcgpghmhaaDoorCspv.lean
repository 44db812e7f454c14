/- Both ValidSpace; forms of spaces. -/
import Derived.Test.YtifjkjcgpghmhaaDoorCspo
import Derived.Test.YtifjkjcgpghmhaaDoorCspm
namespace Go.Proofs.YtifjkjcgpghmhaaDoor.Sp
open Go.RowKit
theorem OwnS.form {w : World} {B : Nat} {v : Value} {root : List Int} {tss : List (List RE)} {buf : List RC} (h : OwnS w B v root tss buf) : ∃ a1 n1 c1 a2 n2 c2 a3 n3 c3, v = .agg #[.slice a1 n1 c1, .slice a2 n2 c2, .slice a3 n3 c3] := by
  obtain ⟨a1, c1, a2, c2, a3, c3, vs, h1, h2, e, _⟩ := h
  exact ⟨_, _, _, _, _, _, _, _, _, e⟩
end Go.Proofs.YtifjkjcgpghmhaaDoor.Sp
