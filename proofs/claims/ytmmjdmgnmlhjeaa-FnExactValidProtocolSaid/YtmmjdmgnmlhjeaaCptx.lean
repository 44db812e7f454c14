/- Valid protocols: both functions. -/
import Derived.Test.YtmmjdmgnmlhjeaaCptp
namespace Go.Proofs.Ytmmjdmgnmlhjeaa.Pt
open Go.RowKit Sy
def okX (xs0 xs1 xs2 xs3 xs4 : List Ru.R) : Prop := okP (fun k => [xs0, xs1, xs2, xs3, xs4].getD k [])
theorem isX_s {xs0 xs1 xs2 xs3 xs4 : List Ru.R} (b : Bool) (hb : b = true ↔ okX xs0 xs1 xs2 xs3 xs4) (g : Nat) (a0 a1 a2 a3 a4 : Option Addr) (c0 c1 c2 c3 c4 : Nat) {w : World} (hB : Blk w g [.slice a0 xs0.length c0, .slice a1 xs1.length c1, .slice a2 xs2.length c2, .slice a3 xs3.length c3, .slice a4 xs4.length c4] 24)
    (o0 : Ru.RdR w a0 xs0) (o1 : Ru.RdR w a1 xs1) (o2 : Ru.RdR w a2 xs2) (o3 : Ru.RdR w a3 xs3) (o4 : Ru.RdR w a4 xs4) (h : xs0.length + xs1.length + xs2.length + xs3.length + xs4.length ≤ 1048576) :
    Calls Try.prog 39 #[.pointer (some ⟨g, 0, none⟩)] w (BbX b w) :=
  is_s g (fun k => [a0, a1, a2, a3, a4].getD k none) (fun k => [c0, c1, c2, c3, c4].getD k 0) (fun k => [xs0, xs1, xs2, xs3, xs4].getD k []) b hb w hB (fun k hk => match k, hk with | 0, _ => o0 | 1, _ => o1 | 2, _ => o2 | 3, _ => o3 | 4, _ => o4) (fun k hk => match k, hk with | 0, _ => (by simp; omega) | 1, _ => (by simp; omega) | 2, _ => (by simp; omega) | 3, _ => (by simp; omega) | 4, _ => (by simp; omega))
theorem vpX_i {xs0 xs1 xs2 xs3 xs4 : List Ru.R} (b : Bool) (hb : b = true ↔ okX xs0 xs1 xs2 xs3 xs4) {w : World} {v : Value} (h : RdX w v xs0 xs1 xs2 xs3 xs4) (hm : xs0.length + xs1.length + xs2.length + xs3.length + xs4.length ≤ 1048576) :
    Calls Try.prog 19 #[v] w (BbX b w) := by
  obtain ⟨a0, c0, a1, c1, a2, c2, a3, c3, a4, c4, rfl, o0, o1, o2, o3, o4⟩ := h
  exact vp_i (fun k => [a0, a1, a2, a3, a4].getD k none) (fun k => [c0, c1, c2, c3, c4].getD k 0) (fun k => [xs0, xs1, xs2, xs3, xs4].getD k []) b hb w (fun k hk => match k, hk with | 0, _ => o0 | 1, _ => o1 | 2, _ => o2 | 3, _ => o3 | 4, _ => o4) (fun k hk => match k, hk with | 0, _ => (by simp; omega) | 1, _ => (by simp; omega) | 2, _ => (by simp; omega) | 3, _ => (by simp; omega) | 4, _ => (by simp; omega))
theorem valid_i {xs0 xs1 xs2 xs3 xs4 : List Ru.R} (b : Bool) (hb : b = true ↔ okX xs0 xs1 xs2 xs3 xs4) {w : World} {v : Value} (h : RdX w v xs0 xs1 xs2 xs3 xs4) (hm : xs0.length + xs1.length + xs2.length + xs3.length + xs4.length ≤ 1048576) :
    Calls Try.prog 19 #[v] w (BbX b w) := vpX_i b hb h hm
theorem valid_s {xs0 xs1 xs2 xs3 xs4 : List Ru.R} (b : Bool) (hb : b = true ↔ okX xs0 xs1 xs2 xs3 xs4) {w : World} {v : Value} (h : RdX w v xs0 xs1 xs2 xs3 xs4) (hm : xs0.length + xs1.length + xs2.length + xs3.length + xs4.length ≤ 1048576) :
    Calls Try.prog 17 #[v] w (BbX b w) := by
  obtain ⟨a0, c0, a1, c1, a2, c2, a3, c3, a4, c4, rfl, o0, o1, o2, o3, o4⟩ := h
  have b0 := (Below.refl w.heap.size w).alloc (Nat.le_refl _) (.cells #[.slice a0 xs0.length c0, .slice a1 xs1.length c1, .slice a2 xs2.length c2, .slice a3 xs3.length c3, .slice a4 xs4.length c4] 24)
  have H := Lib.hid (isX_s b hb w.heap.size a0 a1 a2 a3 a4 c0 c1 c2 c3 c4 (w := w.alloc (.cells #[.slice a0 xs0.length c0, .slice a1 xs1.length c1, .slice a2 xs2.length c2, .slice a3 xs3.length c3, .slice a4 xs4.length c4] 24)) (Blk.newAt w _ _ _ rfl) (Ru.RdR.below o0 b0) (Ru.RdR.below o1 b0) (Ru.RdR.below o2 b0) (Ru.RdR.below o3 b0) (Ru.RdR.below o4 b0) hm)
  have B0 := Lib.hid b0
  clear o0 o1 o2 o3 o4 b0 hb hm
  generalize xs0.length = n0 at *
  generalize xs1.length = n1 at *
  generalize xs2.length = n2 at *
  generalize xs3.length = n3 at *
  generalize xs4.length = n4 at *
  go_enter Try.func17, Try.ntmps17
  go_wp2_with fail
  refine H.out.mono ?_; rintro e w' ⟨rfl, b1⟩
  have B1 := Lib.hid (bt B0.out b1)
  clear b1 B0
  go_wp2
  go_ret
  exact ⟨rfl, B1.out⟩
end Go.Proofs.Ytmmjdmgnmlhjeaa.Pt
