/- The walk of laws.FnExactSeedPolicy out of both contracts: the call returns true and writes nothing that was there. -/
import Derived.Test.YthfgaoojgdikpaaCpol
namespace Go.Proofs.Ythfgaoojgdikpaa.fnExactSeedPolicy
open Go.RowKit
set_option maxHeartbeats 2000000 in
theorem core (n0 n1 : Int) (hs : List (List Int)) (ms : List Int) (ok : Bool) (hy1 : (hs.map List.length).sum ≤ 1000) (hy2 : ms.length ≤ 1000)
    (hS : ∀ w', Calls Try.prog 20 #[.int .i64 n0, .int .i64 n1] w' (ResP hs ms ok w'))
    (hI : ∀ w', Calls Try.prog 21 #[.int .i64 n0, .int .i64 n1] w' (ResP hs ms ok w')) (w : World) :
    Calls Try.prog 7 #[.int .i64 n0, .int .i64 n1] w fun e w' => e = .returned (.bool true) ∧ Below w.heap.size w w' := by
  have HS := Lib.hid hS
  have HI := Lib.hid hI
  have HEQ := Lib.hid (fun (w' : World) (B1 T1 B2 T2 : Nat) (v1 v2 : Value) (o1 : OwnP w' B1 T1 v1 hs ms) (o2 : OwnP w' B2 T2 v2 hs ms) => eqP_own o1 o2)
  have HMK := Lib.hid (fun (w' : World) (B T : Nat) (v : Value) (o : OwnP w' B T v hs ms) (hB : B ≤ w'.heap.size) => markP_own o (by omega) (by omega) hB)
  have HHD := Lib.hid (fun (w' : World) (B T : Nat) (v : Value) (o : OwnP w' B T v (mkH hs) (marks (mkN hs) ms.length)) => heldP_own o (by omega) (by omega))
  have hK : (mkN hs : Nat) ≤ 1001 := by unfold mkN; omega
  have hM : (ms.length : Int) ≤ 1000 := by omega
  clear hS hI hy1 hy2
  generalize mkN hs = K at *
  go_enter Try.func7, Try.ntmps7
  go_wp2_with fail
  refine (HS.out w).mono ?_; rintro e w1 ⟨vw, rfl, ow, b1⟩
  obtain ⟨wh1, wh2, wh3, wm1, wm2, wm3, fw⟩ := ow.form
  subst fw
  have b2 : Below w.heap.size w (w1.alloc (.cells #[(.slice wh1 wh2 wh3), (.slice wm1 wm2 wm3)] 25)) := b1.alloc b1.size _
  have ow2 := OwnP.below ow ((Below.refl w1.heap.size w1).alloc (Nat.le_refl _) (.cells #[(.slice wh1 wh2 wh3), (.slice wm1 wm2 wm3)] 25)) (Nat.le_refl _)
  have hz2 : (w1.alloc (.cells #[(.slice wh1 wh2 wh3), (.slice wm1 wm2 wm3)] 25)).heap.size = w1.heap.size + 1 := Array.size_push _
  have s01 := b1.size
  have cw2 : (w1.alloc (.cells #[(.slice wh1 wh2 wh3), (.slice wm1 wm2 wm3)] 25)).cell? ⟨w1.heap.size, 0, none⟩ = some (.slice wh1 wh2 wh3) ∧ (w1.alloc (.cells #[(.slice wh1 wh2 wh3), (.slice wm1 wm2 wm3)] 25)).cell? ⟨w1.heap.size, 1, none⟩ = some (.slice wm1 wm2 wm3) := ⟨by simp [go_sem], by simp [go_sem]⟩
  clear ow b1
  go_wp2_with fail
  generalize w1.alloc (.cells #[(.slice wh1 wh2 wh3), (.slice wm1 wm2 wm3)] 25) = w2 at *
  generalize w1.heap.size = bw at *
  refine (HI.out w2).mono ?_; rintro e w3 ⟨vg, rfl, og, b3⟩
  obtain ⟨gh1, gh2, gh3, gm1, gm2, gm3, fg⟩ := og.form
  subst fg
  have hz4 : (w3.alloc (.cells #[(.slice gh1 gh2 gh3), (.slice gm1 gm2 gm3)] 25)).heap.size = w3.heap.size + 1 := Array.size_push _
  have b24 : Below w2.heap.size w2 (w3.alloc (.cells #[(.slice gh1 gh2 gh3), (.slice gm1 gm2 gm3)] 25)) := b3.alloc b3.size _
  have og4 := OwnP.below og ((Below.refl w3.heap.size w3).alloc (Nat.le_refl _) (.cells #[(.slice gh1 gh2 gh3), (.slice gm1 gm2 gm3)] 25)) (Nat.le_refl _)
  have cg4 : (w3.alloc (.cells #[(.slice gh1 gh2 gh3), (.slice gm1 gm2 gm3)] 25)).cell? ⟨w3.heap.size, 0, none⟩ = some (.slice gh1 gh2 gh3) ∧ (w3.alloc (.cells #[(.slice gh1 gh2 gh3), (.slice gm1 gm2 gm3)] 25)).cell? ⟨w3.heap.size, 1, none⟩ = some (.slice gm1 gm2 gm3) := ⟨by simp [go_sem], by simp [go_sem]⟩
  have s23 := b3.size
  have HCW := Lib.hid (fun (w' : World) (h : Below w2.heap.size w2 w') => (show w'.cell? ⟨bw, 0, none⟩ = some (.slice wh1 wh2 wh3) ∧ w'.cell? ⟨bw, 1, none⟩ = some (.slice wm1 wm2 wm3) from
    ⟨(h.cell (p := ⟨bw, 0, none⟩) (by show bw < w2.heap.size; omega)).trans cw2.1, (h.cell (p := ⟨bw, 1, none⟩) (by show bw < w2.heap.size; omega)).trans cw2.2⟩))
  have HOW := Lib.hid (fun (w' : World) (h : Below w2.heap.size w2 w') => OwnP.below ow2 h (Nat.le_refl _))
  clear og b3 ow2 cw2
  have h4w := Lib.hid (HCW.out _ b24)
  obtain ⟨x1, x2⟩ := HCW.out _ b24
  obtain ⟨x3, x4⟩ := cg4
  have cg4 := And.intro x3 x4
  have HEQ4 := Lib.hid (HEQ.out _ _ _ _ _ _ _ og4 (HOW.out _ b24))
  clear cg4
  go_wp2_with fail
  have cg4 := And.intro x3 x4
  clear x1 x2 x3 x4
  generalize hw4 : w3.alloc (.cells #[(.slice gh1 gh2 gh3), (.slice gm1 gm2 gm3)] 25) = w4 at *
  clear hw4
  generalize w3.heap.size = bg at *
  refine HEQ4.out.mono ?_; rintro e w5 ⟨rfl, b5⟩
  have b5 : Below w4.heap.size w4 w5 := b5
  have b25 := btB b24 (Nat.le_refl _) b5
  have og5 := OwnP.below og4 b5 (Nat.le_refl _)
  have cg5 : w5.cell? ⟨bg, 0, none⟩ = some (.slice gh1 gh2 gh3) ∧ w5.cell? ⟨bg, 1, none⟩ = some (.slice gm1 gm2 gm3) := ⟨(b5.cell (p := ⟨bg, 0, none⟩) (by show bg < w4.heap.size; omega)).trans cg4.1, (b5.cell (p := ⟨bg, 1, none⟩) (by show bg < w4.heap.size; omega)).trans cg4.2⟩
  have s45 := b5.size
  clear og4 cg4 b24 HEQ4 h4w
  have HMK5 := Lib.hid (HMK.out w5 _ _ _ og5 (by omega))
  obtain ⟨x3, x4⟩ := cg5
  clear og5
  go_wp2_with fail
  refine HMK5.out.mono ?_; rintro e w6 ⟨rfl, om, W6⟩
  have s56 := W6.size
  have b26 : Below w2.heap.size w2 w6 := W6.belowT b25 (Nat.le_refl _) (by omega)
  have cg6 : w6.cell? ⟨bg, 0, none⟩ = some (.slice gh1 gh2 gh3) ∧ w6.cell? ⟨bg, 1, none⟩ = some (.slice gm1 gm2 gm3) := ⟨(World.cell?_of_block (w := w5) (a := ⟨bg, 0, none⟩) (W6.block bg (by omega) (.inr (Nat.le_refl _)))).trans x3, (World.cell?_of_block (w := w5) (a := ⟨bg, 1, none⟩) (W6.block bg (by omega) (.inr (Nat.le_refl _)))).trans x4⟩
  clear x3 x4 W6 HMK5
  have HH := Lib.hid (fun (w' : World) (h : Below w6.heap.size w6 w') => HHD.out w' _ _ _ (OwnP.below om h (Nat.le_refl _)))
  have HCG := Lib.hid (fun (w' : World) (h : Below w6.heap.size w6 w') => (show w'.cell? ⟨bg, 0, none⟩ = some (.slice gh1 gh2 gh3) ∧ w'.cell? ⟨bg, 1, none⟩ = some (.slice gm1 gm2 gm3) from
    ⟨(h.cell (p := ⟨bg, 0, none⟩) (by show bg < w6.heap.size; omega)).trans cg6.1, (h.cell (p := ⟨bg, 1, none⟩) (by show bg < w6.heap.size; omega)).trans cg6.2⟩))
  obtain ⟨x3, x4⟩ := cg6
  clear om
  go_wp2_with fail
  refine (HH.out w6 (Below.refl _ _)).mono ?_; rintro e w7 ⟨rfl, b7⟩
  have b27 := btB b26 (by omega) b7
  clear x3 x4
  have s67 := b7.size
  go_wp2_with fail
  refine (HI.out w7).mono ?_; rintro e w8 ⟨vh, rfl, oh, b8⟩
  obtain ⟨qh1, qh2, qh3, qm1, qm2, qm3, fq⟩ := oh.form
  subst fq
  have b28 := btB b27 (by omega) b8
  have b68 := bt b7 b8
  have s78 := b8.size
  have hz9 : (w8.alloc (.cells #[(.slice qh1 qh2 qh3), (.slice qm1 qm2 qm3)] 25)).heap.size = w8.heap.size + 1 := Array.size_push _
  have b69 : Below w6.heap.size w6 (w8.alloc (.cells #[(.slice qh1 qh2 qh3), (.slice qm1 qm2 qm3)] 25)) := b68.alloc b68.size _
  have b29 : Below w2.heap.size w2 (w8.alloc (.cells #[(.slice qh1 qh2 qh3), (.slice qm1 qm2 qm3)] 25)) := b28.alloc b28.size _
  have oh9 := OwnP.below oh ((Below.refl w8.heap.size w8).alloc (Nat.le_refl _) (.cells #[(.slice qh1 qh2 qh3), (.slice qm1 qm2 qm3)] 25)) (Nat.le_refl _)
  have HEQ9 := Lib.hid (HEQ.out _ _ _ _ _ _ _ oh9 (HOW.out _ b29))
  obtain ⟨x1, x2⟩ := HCW.out _ b29
  have x3 : (w8.alloc (.cells #[(.slice qh1 qh2 qh3), (.slice qm1 qm2 qm3)] 25)).cell? ⟨w8.heap.size, 0, none⟩ = some (.slice qh1 qh2 qh3) := by simp [go_sem]
  have x4 : (w8.alloc (.cells #[(.slice qh1 qh2 qh3), (.slice qm1 qm2 qm3)] 25)).cell? ⟨w8.heap.size, 1, none⟩ = some (.slice qm1 qm2 qm3) := by simp [go_sem]
  clear oh oh9 b8
  go_wp2_with fail
  refine HEQ9.out.mono ?_; rintro e w10 ⟨rfl, b10⟩
  have b10 : Below (w8.alloc (.cells #[(.slice qh1 qh2 qh3), (.slice qm1 qm2 qm3)] 25)).heap.size (w8.alloc (.cells #[(.slice qh1 qh2 qh3), (.slice qm1 qm2 qm3)] 25)) w10 := b10
  have b610 := bt b69 b10
  have b210 := btB b29 (by omega) b10
  clear x1 x2 x3 x4
  obtain ⟨x3, x4⟩ := HCG.out _ b610
  go_wp2_with fail
  refine (HH.out w10 b610).mono ?_; rintro e w11 ⟨rfl, b11⟩
  have b211 := btB b210 (by have := b610.size; omega) b11
  go_wp2
  go_ret
  exact ⟨rfl, b2.trans (b211.mono b2.size)⟩
end Go.Proofs.Ythfgaoojgdikpaa.fnExactSeedPolicy
