/- Both ValidSpace; forms of spaces. -/
import Derived.Test.YtifjkjcgpghmhaaCspo
import Derived.Test.YtifjkjcgpghmhaaCspm
namespace Go.Proofs.Ytifjkjcgpghmhaa.Sp
open Go.RowKit
theorem OwnS.form {w : World} {B : Nat} {v : Value} {root : List Int} {tss : List (List RE)} {buf : List RC} (h : OwnS w B v root tss buf) : ∃ a1 n1 c1 a2 n2 c2 a3 n3 c3, v = .agg #[.slice a1 n1 c1, .slice a2 n2 c2, .slice a3 n3 c3] := by
  obtain ⟨a1, c1, a2, c2, a3, c3, vs, h1, h2, e, _⟩ := h
  exact ⟨_, _, _, _, _, _, _, _, _, e⟩
theorem valid_s {w : World} {v : Value} {root : List Int} {tss : List (List TE)} {buf : List TC} (h : RdS w v root tss buf) (hl : tot root.length tss buf.length ≤ 1048576) :
    Calls Try.prog 11 #[v] w (Bb (okSpace root tss buf) w) := by
  obtain ⟨a1, c1, a2, c2, a3, c3, rfl, r1, r2, r3, hcap⟩ := h
  unfold tot at hl
  have b0 := (Below.refl w.heap.size w).alloc (Nat.le_refl _) (.cells #[.slice a1 root.length c1, .slice a2 tss.length c2, .slice a3 buf.length c3] 26)
  have bk := Blk.newAt w w.heap.size [.slice a1 root.length c1, .slice a2 tss.length c2, .slice a3 buf.length c3] 26 rfl
  have HS := Lib.hid (is_s w.heap.size a1 a2 a3 c1 c2 c3 root tss buf _ bk.lt (by omega) (by omega) (by omega) (bk.cell 0) (bk.cell 1) (bk.cell 2) ((Rd.row' r1).below b0) (r2.below b0) (r3.below b0) hcap)
  have B0 := Lib.hid b0
  clear r1 r2 r3 hcap b0 bk hl
  generalize okSpace root tss buf = ok at *
  generalize root.length = n1 at *
  generalize tss.length = n2 at *
  generalize buf.length = n3 at *
  go_enter Try.func11, Try.ntmps11
  go_wp2_with fail
  refine HS.out.mono ?_; rintro e w1 ⟨rfl, b1⟩
  have B1 := Lib.hid (bt B0.out b1)
  clear b1
  go_wp2
  go_ret
  exact ⟨rfl, B1.out⟩
end Go.Proofs.Ytifjkjcgpghmhaa.Sp
