/- Valid systems: both functions. -/
import Derived.Test.YtmmjdmgnmlhjeaaCsyl
namespace Go.Proofs.Ytmmjdmgnmlhjeaa.Sy
open Go.RowKit
theorem rdAt {w : World} {n c : Nat} {a : Option Addr} {xs : List Int} (h : Rd w (.slice a n c) xs) : Row w a xs := by
  obtain ⟨a', c', e, _, _, hr⟩ := h
  injection e with e1 e2 e3
  subst e1
  exact hr
def okX (cs : List Int) (fs : List Bool) (_ : Bool) : Prop := okS cs fs
theorem valid_s {cs : List Int} {fs : List Bool} {mm : Bool} (b : Bool) (hb : b = true ↔ okX cs fs mm) {w : World} {v : Value} (h : RdX w v cs fs mm) (hm : cs.length + fs.length ≤ 1048576) :
    Calls Try.prog 24 #[v] w (BbX b w) := by
  obtain ⟨a0, c0, a1, c1, rfl, r0, r1⟩ := h
  have r0 := rdAt r0
  have b0 := (Below.refl w.heap.size w).alloc (Nat.le_refl _) (.cells #[.slice a0 cs.length c0, .slice a1 fs.length c1, .bool mm] 49)
  have H := Lib.hid (sys_s w.heap.size a0 a1 c0 c1 cs fs mm b hb (w.alloc (.cells #[.slice a0 cs.length c0, .slice a1 fs.length c1, .bool mm] 49)) (Blk.newAt w _ _ _ rfl) (r0.below b0) (Bo.RdR.below r1 b0) ⟨by omega, by omega⟩)
  have B0 := Lib.hid b0
  clear r0 r1 b0 hb hm
  generalize cs.length = N at *
  generalize fs.length = M at *
  go_enter Try.func24, Try.ntmps24
  go_wp2_with fail
  refine H.out.mono ?_; rintro e w' ⟨rfl, q, rfl⟩
  have B1 := Lib.hid (below_drewN q B0.out)
  clear B0
  go_wp2
  go_ret
  exact ⟨rfl, B1.out⟩
theorem valid_i {cs : List Int} {fs : List Bool} {mm : Bool} (b : Bool) (hb : b = true ↔ okX cs fs mm) {w : World} {v : Value} (h : RdX w v cs fs mm) (hm : cs.length + fs.length ≤ 1048576) :
    Calls Try.prog 26 #[v] w (BbX b w) := by
  obtain ⟨a0, c0, a1, c1, rfl, r0, r1⟩ := h
  have b0 := (Below.refl w.heap.size w).alloc (Nat.le_refl _) (.cells #[.slice a0 cs.length c0, .slice a1 fs.length c1, .bool mm] 49)
  have H := Lib.hid (lineOf_i a0 a1 c0 c1 cs fs mm b hb (w.alloc (.cells #[.slice a0 cs.length c0, .slice a1 fs.length c1, .bool mm] 49)) ((rdAt r0).below b0) (Bo.RdR.below r1 b0) ⟨by omega, by omega⟩)
  have B0 := Lib.hid b0
  clear b0
  unfold LineR at H
  obtain ⟨v0, v1, v2, v3, v4, v5, v6, v7, hR⟩ : ∃ (v0 v1 v2 v3 : Int) (v4 v5 v6 v7 : Bool), (if b = true then LS cs fs mm else LZ).toArray = #[.int .i64 v0, .int .i64 v1, .int .i64 v2, .int .i64 v3, .bool v4, .bool v5, .bool v6, .bool v7] := by
    cases b
    · exact ⟨_, _, _, _, _, _, _, _, rfl⟩
    · exact ⟨_, _, _, _, _, _, _, _, rfl⟩
  rw [hR] at H
  clear hR
  clear r0 r1 hb hm
  generalize cs.length = N at *
  generalize fs.length = M at *
  go_enter Try.func26, Try.ntmps26
  go_wp2_with fail
  refine H.out.mono ?_; rintro e w' ⟨rfl, b1⟩
  have B1 := Lib.hid (bt B0.out b1)
  clear b1
  go_wp2
  go_ret
  exact ⟨rfl, B1.out.alloc B1.out.size _⟩
end Go.Proofs.Ytmmjdmgnmlhjeaa.Sy
