/- The walk of laws.FnExactThroughProtocol: the call returns true and writes nothing that was there. -/
import Derived.Test.YtmmjdmgnmlhjeaaCmsj
namespace Go.Proofs.Ytmmjdmgnmlhjeaa.fnExactThroughProtocol
open Go.RowKit Pt
set_option maxHeartbeats 2000000 in
set_option maxRecDepth 100000 in
theorem core (b0 : Bool) (xs0 xs1 xs2 xs3 xs4 : List Ru.R) (hl : xs0.length + xs1.length + xs2.length + xs3.length + xs4.length ≤ 1000)
    (hS : ∀ w', Calls Try.prog 14 #[.bool b0] w' (CopX xs0 xs1 xs2 xs3 xs4 w'))
    (hI : ∀ w', Calls Try.prog 15 #[.bool b0] w' (CopX xs0 xs1 xs2 xs3 xs4 w')) (w : World) :
    Calls Try.prog 4 #[.bool b0] w fun e w' => e = .returned (.bool true) ∧ Below w.heap.size w w' := by
  have HS := Lib.hid hS
  have HI := Lib.hid hI
  have HEQ := Lib.hid (fun (w' : World) (v1 v2 : Value) (o1 : RdX w' v1 xs0 xs1 xs2 xs3 xs4) (o2 : RdX w' v2 xs0 xs1 xs2 xs3 xs4) => eqX_rd (by omega) o1 o2)
  have HMK := Lib.hid (fun (w' : World) (B T : Nat) (v : Value) (o : OwnX w' B T v xs0 xs1 xs2 xs3 xs4) => markX o (by omega))
  have HHD := Lib.hid (fun (w' : World) (v : Value) (o : RdX w' v (Ru.mkG (1) xs0.length) (Ru.mkG (1 + 3 * (xs0.length : Int)) xs1.length) (Ru.mkG (1 + 3 * (xs0.length : Int) + 3 * (xs1.length : Int)) xs2.length) (Ru.mkG (1 + 3 * (xs0.length : Int) + 3 * (xs1.length : Int) + 3 * (xs2.length : Int)) xs3.length) (Ru.mkG (1 + 3 * (xs0.length : Int) + 3 * (xs1.length : Int) + 3 * (xs2.length : Int) + 3 * (xs3.length : Int)) xs4.length)) => heldX o (by omega))
  have HF := Lib.hid (fun (w' : World) (B T : Nat) (v : Value) (o : OwnX w' B T v xs0 xs1 xs2 xs3 xs4) => o.form)
  have KP : ¬ (1 + 3 * (xs0.length : Int) + 3 * (xs1.length : Int) + 3 * (xs2.length : Int) + 3 * (xs3.length : Int) + 3 * (xs4.length : Int)) < 0 := by omega
  have KN : ((1 + 3 * (xs0.length : Int) + 3 * (xs1.length : Int) + 3 * (xs2.length : Int) + 3 * (xs3.length : Int) + 3 * (xs4.length : Int)) != (1 + 3 * (xs0.length : Int) + 3 * (xs1.length : Int) + 3 * (xs2.length : Int) + 3 * (xs3.length : Int) + 3 * (xs4.length : Int))) = false := by simp
  clear hS hI
  generalize hn0 : xs0.length = n0 at *
  generalize hn1 : xs1.length = n1 at *
  generalize hn2 : xs2.length = n2 at *
  generalize hn3 : xs3.length = n3 at *
  generalize hn4 : xs4.length = n4 at *
  clear hn0 hn1 hn2 hn3 hn4
  generalize hKK : 1 + 3 * (n0 : Int) + 3 * (n1 : Int) + 3 * (n2 : Int) + 3 * (n3 : Int) + 3 * (n4 : Int) = KK at *
  have HKK := Lib.hid hKK
  clear hKK
  go_enter Try.func4, Try.ntmps4
  go_wp2_with fail
  refine (HS.out w).mono ?_; rintro e w1 ⟨vw, rfl, ow, b1⟩
  obtain ⟨wa0, wc0, wa1, wc1, wa2, wc2, wa3, wc3, wa4, wc4, fw⟩ := HF.out _ _ _ _ ow
  subst fw
  have b2 : Below w.heap.size w (w1.alloc (.cells #[.slice wa0 n0 wc0, .slice wa1 n1 wc1, .slice wa2 n2 wc2, .slice wa3 n3 wc3, .slice wa4 n4 wc4] 24)) := b1.alloc b1.size _
  have rw2 := Lib.hid (RdX.below ow.rd ((Below.refl w1.heap.size w1).alloc (Nat.le_refl _) (.cells #[.slice wa0 n0 wc0, .slice wa1 n1 wc1, .slice wa2 n2 wc2, .slice wa3 n3 wc3, .slice wa4 n4 wc4] 24)))
  have hz2 : (w1.alloc (.cells #[.slice wa0 n0 wc0, .slice wa1 n1 wc1, .slice wa2 n2 wc2, .slice wa3 n3 wc3, .slice wa4 n4 wc4] 24)).heap.size = w1.heap.size + 1 := Array.size_push _
  have s01 := b1.size
  have kw : Blk (w1.alloc (.cells #[.slice wa0 n0 wc0, .slice wa1 n1 wc1, .slice wa2 n2 wc2, .slice wa3 n3 wc3, .slice wa4 n4 wc4] 24)) w1.heap.size [.slice wa0 n0 wc0, .slice wa1 n1 wc1, .slice wa2 n2 wc2, .slice wa3 n3 wc3, .slice wa4 n4 wc4] 24 := Blk.newAt w1 _ _ _ rfl
  clear ow b1
  have B2 := Lib.hid b2
  clear b2
  go_wp2_with fail
  generalize (w1.alloc (.cells #[.slice wa0 n0 wc0, .slice wa1 n1 wc1, .slice wa2 n2 wc2, .slice wa3 n3 wc3, .slice wa4 n4 wc4] 24)) = w2 at *
  generalize w1.heap.size = bw at *
  refine (HI.out w2).mono ?_; rintro e w3 ⟨vg, rfl, og, b3⟩
  obtain ⟨ga0, gc0, ga1, gc1, ga2, gc2, ga3, gc3, ga4, gc4, fg⟩ := HF.out _ _ _ _ og
  subst fg
  have hz4 : (w3.alloc (.cells #[.slice ga0 n0 gc0, .slice ga1 n1 gc1, .slice ga2 n2 gc2, .slice ga3 n3 gc3, .slice ga4 n4 gc4] 24)).heap.size = w3.heap.size + 1 := Array.size_push _
  have b24 : Below w2.heap.size w2 (w3.alloc (.cells #[.slice ga0 n0 gc0, .slice ga1 n1 gc1, .slice ga2 n2 gc2, .slice ga3 n3 gc3, .slice ga4 n4 gc4] 24)) := b3.alloc b3.size _
  have og4 := Lib.hid (OwnX.below og ((Below.refl w3.heap.size w3).alloc (Nat.le_refl _) (.cells #[.slice ga0 n0 gc0, .slice ga1 n1 gc1, .slice ga2 n2 gc2, .slice ga3 n3 gc3, .slice ga4 n4 gc4] 24)) (Nat.le_refl _))
  have kg : Blk (w3.alloc (.cells #[.slice ga0 n0 gc0, .slice ga1 n1 gc1, .slice ga2 n2 gc2, .slice ga3 n3 gc3, .slice ga4 n4 gc4] 24)) w3.heap.size [.slice ga0 n0 gc0, .slice ga1 n1 gc1, .slice ga2 n2 gc2, .slice ga3 n3 gc3, .slice ga4 n4 gc4] 24 := Blk.newAt w3 _ _ _ rfl
  have s23 := b3.size
  have RW := Lib.hid (fun (w' : World) (h : Below w2.heap.size w2 w') => RdX.below rw2.out h)
  have KW := Lib.hid (fun (w' : World) (h : Below w2.heap.size w2 w') => (show w'.cell? ⟨bw, 0, none⟩ = some (.slice wa0 n0 wc0) ∧ w'.cell? ⟨bw, 1, none⟩ = some (.slice wa1 n1 wc1) ∧ w'.cell? ⟨bw, 2, none⟩ = some (.slice wa2 n2 wc2) ∧ w'.cell? ⟨bw, 3, none⟩ = some (.slice wa3 n3 wc3) ∧ w'.cell? ⟨bw, 4, none⟩ = some (.slice wa4 n4 wc4) from by
    have k := kw.below h (by omega)
    exact ⟨k.cell 0, k.cell 1, k.cell 2, k.cell 3, k.cell 4⟩))
  clear og b3 kw rw2
  obtain ⟨x0, x1, x2, x3, x4⟩ := KW.out _ b24
  have HEQ4 := Lib.hid (HEQ.out _ _ _ og4.out.rd (RW.out _ b24))
  have hb2 := Lib.hid b24
  clear b24
  have KG := Lib.hid kg
  clear kg
  go_wp2_with fail
  clear x0 x1 x2 x3 x4
  generalize (w3.alloc (.cells #[.slice ga0 n0 gc0, .slice ga1 n1 gc1, .slice ga2 n2 gc2, .slice ga3 n3 gc3, .slice ga4 n4 gc4] 24)) = w4 at *
  generalize hbg : w3.heap.size = bg at *
  clear hbg
  refine HEQ4.out.mono ?_; rintro e w5 ⟨rfl, b5⟩
  have b25 := Lib.hid (btB hb2.out (Nat.le_refl _) b5)
  have og5 := OwnX.below og4.out b5 (Nat.le_refl _)
  have kg5 := KG.out.below b5 KG.out.lt
  have s45 := b5.size
  have s24 := hb2.out.size
  have HMK5 := Lib.hid (HMK.out w5 _ _ _ og5)
  clear og5 b5 og4 hb2 HEQ4 KG
  have y0 : w5.cell? ⟨bg, 0, none⟩ = some (.slice ga0 n0 gc0) := kg5.cell 0
  have y1 : w5.cell? ⟨bg, 1, none⟩ = some (.slice ga1 n1 gc1) := kg5.cell 1
  have y2 : w5.cell? ⟨bg, 2, none⟩ = some (.slice ga2 n2 gc2) := kg5.cell 2
  have y3 : w5.cell? ⟨bg, 3, none⟩ = some (.slice ga3 n3 gc3) := kg5.cell 3
  have y4 : w5.cell? ⟨bg, 4, none⟩ = some (.slice ga4 n4 gc4) := kg5.cell 4
  have KG5 := Lib.hid kg5
  have kl := kg5.lt
  clear kg5
  go_wp2_with fail
  clear y0 y1 y2 y3 y4
  refine HMK5.out.mono ?_; rintro e w6 ⟨rfl, om, W6⟩
  have s56 := W6.size
  have b26 := Lib.hid (b25.out.trans (W6.below (by omega) (by omega)))
  have kg6 : Blk w6 bg [.slice ga0 n0 gc0, .slice ga1 n1 gc1, .slice ga2 n2 gc2, .slice ga3 n3 gc3, .slice ga4 n4 gc4] 24 := (W6.2.2 bg (by omega) (.inr (by omega))).trans KG5.out
  have HH := Lib.hid (fun (w' : World) (h : Below w6.heap.size w6 w') => HHD.out w' _ (RdX.below om.rd h))
  have KG6 := Lib.hid (fun (w' : World) (h : Below w6.heap.size w6 w') => (show w'.cell? ⟨bg, 0, none⟩ = some (.slice ga0 n0 gc0) ∧ w'.cell? ⟨bg, 1, none⟩ = some (.slice ga1 n1 gc1) ∧ w'.cell? ⟨bg, 2, none⟩ = some (.slice ga2 n2 gc2) ∧ w'.cell? ⟨bg, 3, none⟩ = some (.slice ga3 n3 gc3) ∧ w'.cell? ⟨bg, 4, none⟩ = some (.slice ga4 n4 gc4) from by
    have k := kg6.below h kg6.lt
    exact ⟨k.cell 0, k.cell 1, k.cell 2, k.cell 3, k.cell 4⟩))
  obtain ⟨y0, y1, y2, y3, y4⟩ := KG6.out w6 (Below.refl _ _)
  clear om W6 kg6 KG5 HMK5 b25
  rw [HKK.out]
  go_wp2_with fail
  clear y0 y1 y2 y3 y4
  refine (HH.out w6 (Below.refl _ _)).mono ?_; rintro e w7 ⟨rfl, b7⟩
  have b27 := Lib.hid (btB b26.out (by have := b26.out.size; omega) b7)
  have b67 := Lib.hid b7
  clear b7
  try rw [HKK.out]
  go_wp2_with fail
  refine (HI.out w7).mono ?_; rintro e w8 ⟨vh, rfl, oh, b8⟩
  obtain ⟨qa0, qc0, qa1, qc1, qa2, qc2, qa3, qc3, qa4, qc4, fq⟩ := HF.out _ _ _ _ oh
  subst fq
  have b29 : Below w2.heap.size w2 (w8.alloc (.cells #[.slice qa0 n0 qc0, .slice qa1 n1 qc1, .slice qa2 n2 qc2, .slice qa3 n3 qc3, .slice qa4 n4 qc4] 24)) := (btB b27.out (by have := b27.out.size; omega) b8).alloc (by have := b27.out.size; have := b8.size; omega) _
  have b69 := Lib.hid (show Below w6.heap.size w6 (w8.alloc (.cells #[.slice qa0 n0 qc0, .slice qa1 n1 qc1, .slice qa2 n2 qc2, .slice qa3 n3 qc3, .slice qa4 n4 qc4] 24)) from (bt b67.out b8).alloc (by have := b67.out.size; have := b8.size; omega) _)
  have oh9 := RdX.below oh.rd ((Below.refl w8.heap.size w8).alloc (Nat.le_refl _) (.cells #[.slice qa0 n0 qc0, .slice qa1 n1 qc1, .slice qa2 n2 qc2, .slice qa3 n3 qc3, .slice qa4 n4 qc4] 24))
  have HEQ9 := Lib.hid (HEQ.out _ _ _ oh9 (RW.out _ b29))
  obtain ⟨x0, x1, x2, x3, x4⟩ := KW.out _ b29
  have B29 := Lib.hid b29
  clear oh oh9 b8 b29
  go_wp2_with fail
  clear x0 x1 x2 x3 x4
  generalize (w8.alloc (.cells #[.slice qa0 n0 qc0, .slice qa1 n1 qc1, .slice qa2 n2 qc2, .slice qa3 n3 qc3, .slice qa4 n4 qc4] 24)) = w9 at *
  refine HEQ9.out.mono ?_; rintro e w10 ⟨rfl, b10⟩
  have b610 := bt b69.out b10
  have B210 := Lib.hid (btB B29.out (by have := B29.out.size; omega) b10)
  obtain ⟨y0, y1, y2, y3, y4⟩ := KG6.out _ b610
  have H6 := Lib.hid (HH.out w10 b610)
  clear b10 b610
  go_wp2_with fail
  clear y0 y1 y2 y3 y4
  refine H6.out.mono ?_; rintro e w11 ⟨rfl, b11⟩
  have B211 := Lib.hid (btB B210.out (by have := B210.out.size; omega) b11)
  clear b11
  try rw [HKK.out]
  go_wp2
  go_ret
  exact ⟨rfl, B2.out.trans (B211.out.mono B2.out.size)⟩
theorem walk (b0 : Bool) (w : World) : Calls Try.prog 4 #[.bool b0] w fun e w' => e = .returned (.bool true) ∧ Below w.heap.size w w' := by
  cases b0
  · exact core false _ _ _ _ _ (by decide) thr_sF thr_iF w
  · exact core true _ _ _ _ _ (by decide) thr_sT thr_iT w
end Go.Proofs.Ytmmjdmgnmlhjeaa.fnExactThroughProtocol
