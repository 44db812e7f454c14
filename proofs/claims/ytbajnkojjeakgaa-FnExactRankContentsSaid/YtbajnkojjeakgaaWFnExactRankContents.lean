/- The walk of laws.FnExactRankContents: the call returns true and writes nothing that was there. -/
import Derived.Test.YtbajnkojjeakgaaCto
import Derived.Test.YtbajnkojjeakgaaCmarkE
import Derived.Test.YtbajnkojjeakgaaCrcn
import Derived.Test.YtbajnkojjeakgaaCmemS
namespace Go.Proofs.Ytbajnkojjeakgaa.fnExactRankContents
open Go.RowKit
set_option maxHeartbeats 4000000 in
theorem core (a0 a1 : Option Addr) (len0 cap0 len1 cap1 : Nat) (z0 z1 : List Int) (a2 : Int) (ys : List Int) (ok : Bool) (hy : ys.length ≤ 1000000) (hl2 : len0 ≤ 1048576) (hl3 : len1 ≤ 1048576)
    (hS : ∀ w' B C v u, Own w' B v (z0.take len0) → Own w' C u (z1.take len1) → Calls Try.prog 7 #[v, u, .int .i64 a2] w' (Res ys ok w'))
    (hI : ∀ w' B C v u, Own w' B v (z0.take len0) → Own w' C u (z1.take len1) → Calls Try.prog 9 #[v, u, .int .i64 a2] w' (Res ys ok w')) (w : World) (w0 : IsRow .i64 w a0 len0 cap0 z0) (w1 : IsRow .i64 w a1 len1 cap1 z1) :
    Calls Try.prog 3 #[.slice a0 len0 cap0, .slice a1 len1 cap1, .int .i64 a2] w fun e w' => e = .returned (.bool true) ∧ Below w.heap.size w w' := by
  have hb1 : ys.length + 1 ≤ 9223372036854775807 := by omega
  have hb2 : (z0.take len0).length ≤ 1048576 := by rw [List.length_take]; omega
  have hb3 : (z1.take len1).length ≤ 1048576 := by rw [List.length_take]; omega
  have hl4 : (len0 : Int) ≤ 1048576 := by omega
  have hl5 : (len1 : Int) ≤ 1048576 := by omega
  have HTO := Lib.hid (fun w' (h : IsRow .i64 w' a0 len0 cap0 z0) => to_any a0 len0 cap0 z0 w' h hl2)
  have HTP := Lib.hid (fun w' (h : IsRow .i64 w' a1 len1 cap1 z1) => to_any a1 len1 cap1 z1 w' h hl3)
  have HS := Lib.hid hS
  have HI := Lib.hid hI
  clear hS hI
  generalize z0.take len0 = xs at *
  generalize z1.take len1 = ts at *
  go_enter Try.func3, Try.ntmps3
  go_wp2_with fail
  refine (HTO.out w w0).mono ?_; rintro e x1 ⟨v1, rfl, o1, b1⟩
  go_wp2_with fail
  refine (HTP.out x1 (isRow_below w1 b1)).mono ?_; rintro e x2 ⟨v2, rfl, o2, b2⟩
  have B2 : Below w.heap.size w x2 := b1.trans (b2.mono b1.size)
  go_wp2_with fail
  refine (HS.out x2 _ _ v1 v2 (o1.below b2 (Nat.le_refl _)) o2).mono ?_; rintro e x3 ⟨vw, rfl, ow, b3⟩
  have B3 : Below w.heap.size w x3 := B2.trans (b3.mono B2.size)
  go_wp2_with fail
  refine (HTO.out x3 (isRow_below w0 B3)).mono ?_; rintro e x4 ⟨vx, rfl, ox, b4⟩
  have B4 : Below w.heap.size w x4 := B3.trans (b4.mono B3.size)
  go_wp2_with fail
  refine (HTP.out x4 (isRow_below w1 B4)).mono ?_; rintro e x5 ⟨vt, rfl, ot, b5⟩
  have B5 : Below w.heap.size w x5 := B4.trans (b5.mono B4.size)
  have ox5 := ox.below b5 (Nat.le_refl _)
  have ow5 := (ow.below b4 (Nat.le_refl _)).below b5 (Nat.le_refl _)
  go_wp2_with fail
  refine (HI.out x5 _ _ vx vt ox5 ot).mono ?_; rintro e x6 ⟨vg, rfl, og, b6⟩
  have B6 : Below w.heap.size w x6 := B5.trans (b6.mono B5.size)
  have ox6 := ox5.below b6 (Nat.le_refl _)
  have ot6 := ot.below b6 (Nat.le_refl _)
  have ow6 := ow5.below b6 (Nat.le_refl _)
  have kw : ∀ k, vw.ownBlock = some k → x2.heap.size ≤ k ∧ k < x3.heap.size := ow.block
  have kx : ∀ k, vx.ownBlock = some k → x3.heap.size ≤ k ∧ k < x4.heap.size := ox.block
  have kt : ∀ k, vt.ownBlock = some k → x4.heap.size ≤ k ∧ k < x5.heap.size := ot.block
  have kg : ∀ k, vg.ownBlock = some k → x5.heap.size ≤ k ∧ k < x6.heap.size := og.block
  have s3 := b3.size
  have s4 := b4.size
  have s5 := b5.size
  have s6 := b6.size
  have sw := B2.size
  clear o1 o2 ow ox ot ow5 ox5 b2 b3 b4 b5 b6
  go_wp2_with fail
  refine (eq_below og ow6).mono ?_; rintro e x7 ⟨rfl, b7⟩
  have B7 : Below w.heap.size w x7 := B6.trans (b7.mono B6.size)
  go_wp2_with fail
  refine (HTO.out x7 (isRow_below w0 B7)).mono ?_; rintro e x8 ⟨v8, rfl, o8, b8⟩
  have B8 : Below w.heap.size w x8 := B7.trans (b8.mono B7.size)
  have ox8 := (ox6.below b7 (Nat.le_refl _)).below b8 (Nat.le_refl _)
  have ot8 := (ot6.below b7 (Nat.le_refl _)).below b8 (Nat.le_refl _)
  have ow8 := (ow6.below b7 (Nat.le_refl _)).below b8 (Nat.le_refl _)
  have og8 := (og.below b7 (Nat.le_refl _)).below b8 (Nat.le_refl _)
  have s7 := b7.size
  have s8 := b8.size
  clear ox6 ot6 ow6 og b7 b8
  go_wp2_with fail
  refine (eq_below ox8 o8).mono ?_; rintro e x9 ⟨rfl, b9⟩
  have B9 : Below w.heap.size w x9 := B8.trans (b9.mono B8.size)
  go_wp2_with fail
  refine (HTP.out x9 (isRow_below w1 B9)).mono ?_; rintro e x10 ⟨v10, rfl, o10, b10⟩
  have B10 : Below w.heap.size w x10 := B9.trans (b10.mono B9.size)
  have ox10 := (ox8.below b9 (Nat.le_refl _)).below b10 (Nat.le_refl _)
  have ot10 := (ot8.below b9 (Nat.le_refl _)).below b10 (Nat.le_refl _)
  have ow10 := (ow8.below b9 (Nat.le_refl _)).below b10 (Nat.le_refl _)
  have og10 := (og8.below b9 (Nat.le_refl _)).below b10 (Nat.le_refl _)
  have s9 := b9.size
  have s10 := b10.size
  clear ox8 ot8 ow8 og8 o8 b9 b10
  go_wp2_with fail
  refine (eq_below ot10 o10).mono ?_; rintro e x11 ⟨rfl, b11⟩
  have B11 : Below w.heap.size w x11 := B10.trans (b11.mono B10.size)
  have ox11 := ox10.below b11 (Nat.le_refl _)
  have ot11 := ot10.below b11 (Nat.le_refl _)
  have ow11 := ow10.below b11 (Nat.le_refl _)
  have og11 := og10.below b11 (Nat.le_refl _)
  have s11 := b11.size
  clear ox10 ot10 ow10 og10 o10 b11
  go_wp2_with fail
  refine (mark1K ox11 hb2).mono ?_; rintro e x12 ⟨k1, rfl, hk1, gr⟩
  have s12 : x11.heap.size ≤ x12.heap.size := gr.size
  have B12 : Below w.heap.size w x12 := B11.grown gr B11.size (fun k hk => by have := (kx k hk).1; omega)
  have ow12 := ow11.kept gr (fun k hk h => by have h1 := (kw k hk).2; have h2 := (kx k h.symm).1; omega)
  have og12 := og11.kept gr (fun k hk h => by have h1 := (kg k hk).1; have h2 := (kx k h.symm).2; omega)
  have ot12 := ot11.kept gr (fun k hk h => by have h1 := (kt k hk).1; have h2 := (kx k h.symm).2; omega)
  clear ox11 ot11 ow11 og11 gr
  go_wp2_with fail
  refine (markK k1 ot12 hk1 hb3).mono ?_; rintro e x13 ⟨k2, rfl, hk2, gt⟩
  have s13 : x12.heap.size ≤ x13.heap.size := gt.size
  have B13 : Below w.heap.size w x13 := B12.grown gt B12.size (fun k hk => by have := (kt k hk).1; omega)
  have ow13 := ow12.kept gt (fun k hk h => by have h1 := (kw k hk).2; have h2 := (kt k h.symm).1; omega)
  have og13 := og12.kept gt (fun k hk h => by have h1 := (kg k hk).1; have h2 := (kt k h.symm).2; omega)
  clear ot12 ow12 og12 gt
  have hk3 : ¬ ((k2 : Int) < 0) := by omega
  go_wp2_with fail
  refine (eq_below og13 ow13).mono ?_; rintro e x14 ⟨rfl, b14⟩
  have B14 : Below w.heap.size w x14 := B13.trans (b14.mono B13.size)
  have ow14 := ow13.below b14 (Nat.le_refl _)
  have og14 := og13.below b14 (Nat.le_refl _)
  have s14 := b14.size
  clear ow13 og13
  go_wp2_with fail
  refine (mark1 og14 hb1).mono ?_; rintro e x15 ⟨rfl, om, gm⟩
  have s15 : x14.heap.size ≤ x15.heap.size := gm.size
  have B15 : Below w.heap.size w x15 := B14.grown gm B14.size (fun k hk => by have := (kg k hk).1; omega)
  have ow15 := ow14.kept gm (fun k hk h => by have h1 := (kw k hk).2; have h2 := (kg k h.symm).1; omega)
  clear og14 ow14 b14
  go_wp2_with fail
  refine (held1 om hb1).mono ?_; rintro e x16 ⟨rfl, rfl⟩
  go_wp2_with fail
  refine (HTO.out x15 (isRow_below w0 B15)).mono ?_; rintro e x17 ⟨v17, rfl, o17, b17⟩
  have B17 : Below w.heap.size w x17 := B15.trans (b17.mono B15.size)
  go_wp2_with fail
  refine (HTP.out x17 (isRow_below w1 B17)).mono ?_; rintro e x18 ⟨v18, rfl, o18, b18⟩
  have B18 : Below w.heap.size w x18 := B17.trans (b18.mono B17.size)
  go_wp2_with fail
  refine (HI.out x18 _ _ v17 v18 (o17.below b18 (Nat.le_refl _)) o18).mono ?_; rintro e x19 ⟨vh, rfl, oh, b19⟩
  have B19 : Below w.heap.size w x19 := B18.trans (b19.mono B18.size)
  have ow19 := ((ow15.below b17 (Nat.le_refl _)).below b18 (Nat.le_refl _)).below b19 (Nat.le_refl _)
  have om19 := ((om.below b17 (Nat.le_refl _)).below b18 (Nat.le_refl _)).below b19 (Nat.le_refl _)
  go_wp2_with fail
  refine (eq_below oh ow19).mono ?_; rintro e x20 ⟨rfl, b20⟩
  have om20 := om19.below b20 (Nat.le_refl _)
  go_wp2_with fail
  refine (held1 om20 hb1).mono ?_; rintro e x21 ⟨rfl, rfl⟩
  go_wp2
  go_ret
  exact ⟨rfl, B19.trans (b20.mono B19.size)⟩
theorem long (a0 a1 : Option Addr) (len0 cap0 len1 cap1 : Nat) (a2 : Int) (w : World) (hl : ¬ (len0 ≤ 1048576 ∧ len1 ≤ 1048576)) :
    Calls Try.prog 3 #[.slice a0 len0 cap0, .slice a1 len1 cap1, .int .i64 a2] w fun e w' => e = .returned (.bool true) ∧ Below w.heap.size w w' := by
  by_cases h0 : len0 ≤ 1048576
  · have h1 : (1048576 : Int) < len1 := by omega
    have h2 : (len0 : Int) ≤ 1048576 := by omega
    clear hl h0
    go_enter Try.func3, Try.ntmps3
    go_wp2
    go_ret
    exact ⟨rfl, Below.refl _ _⟩
  · have h1 : (1048576 : Int) < len0 := by omega
    clear hl h0
    go_enter Try.func3, Try.ntmps3
    go_wp2
    go_ret
    exact ⟨rfl, Below.refl _ _⟩
theorem walk (a0 : Option Addr) (len0 cap0 : Nat) (z0 : List Int) (a1 : Option Addr) (len1 cap1 : Nat) (z1 : List Int) (a2 : Int) (w : World) (w0 : IsRow .i64 w a0 len0 cap0 z0) (w1 : IsRow .i64 w a1 len1 cap1 z1) (_w2 : (Lit.int .i64 a2).wf = true) :
    Calls Try.prog 3 #[.slice a0 len0 cap0, .slice a1 len1 cap1, .int .i64 a2] w fun e w' => e = .returned (.bool true) ∧ Below w.heap.size w w' := by
  by_cases hl : len0 ≤ 1048576 ∧ len1 ≤ 1048576
  · have hx : (z0.take len0).length ≤ 1048576 := by rw [List.length_take]; omega
    have hx2 : (z1.take len1).length ≤ 1048576 := by rw [List.length_take]; omega
    by_cases hok : Tr.okRk (z0.take len0) = true ∧ Tr.okU (z1.take len1) = true ∧ 1 ≤ a2 ∧ a2 ≤ 60
    · obtain ⟨q, rfl⟩ := Int.eq_ofNat_of_zero_le (show (0 : Int) ≤ a2 by omega)
      have hq1 : 1 ≤ q := by omega
      have hq : q ≤ 60 := by omega
      exact core a0 a1 len0 cap0 len1 cap1 z0 z1 _ (Tr.setP (Tr.mem (z0.take len0) q (z1.take len1))) true (by have := Tr.set_mem_len (z0.take len0) q hq1 hq (z1.take len1) hok.2.1; omega) hl.1 hl.2 (fun w' B C v u h h2 => Tr.rcon_yes_s q hq1 hq h.rd h2.rd hok.1 hok.2.1) (fun w' B C v u h h2 => Tr.rcon_yes_i q hq1 hq h.rd h2.rd hok.1 hok.2.1) w w0 w1
    · exact core a0 a1 len0 cap0 len1 cap1 z0 z1 a2 [] false (by simp) hl.1 hl.2 (fun w' B C v u h h2 => Tr.rcon_no_s a2 h.rd h2.rd hx hx2 hok) (fun w' B C v u h h2 => Tr.rcon_no_i a2 h.rd h2.rd hx hx2 hok) w w0 w1
  · exact long a0 a1 len0 cap0 len1 cap1 a2 w hl
end Go.Proofs.Ytbajnkojjeakgaa.fnExactRankContents
