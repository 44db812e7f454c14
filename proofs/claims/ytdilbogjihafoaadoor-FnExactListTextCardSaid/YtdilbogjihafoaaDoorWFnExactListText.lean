/- The walk of laws.FnExactListText: the call returns true and writes nothing that was there. -/
import Derived.Test.YtdilbogjihafoaaDoorCitext
import Derived.Test.YtdilbogjihafoaaDoorCto
namespace Go.Proofs.YtdilbogjihafoaaDoor.fnExactListText
open Go.RowKit
theorem isRow_below {k : IntKind} {w w' : World} {a : Option Addr} {len cap : Nat} {zs : List Int} (h : IsRow k w a len cap zs) (hb : Below w.heap.size w w') : IsRow k w' a len cap zs := by
  rcases h with h | ⟨x, rfl, h1, h2, h3, h4, h5⟩
  · exact .inl h
  · refine .inr ⟨x, rfl, h1, h2, h3, fun i hi => ?_, h5⟩
    have hlt := World.block_lt_of_cell? w _ (h4 i hi)
    exact (hb.cell hlt).trans (h4 i hi)
set_option maxHeartbeats 1000000 in
theorem walk (a0 : Option Addr) (len0 cap0 : Nat) (z0 : List Int) (w : World) (w0 : IsRow .i64 w a0 len0 cap0 z0) (htab : Lib.TabIs Tryd.prog w "internal/strconv.uint64pow10" .u64 Lib.pow10Tab) :
    Calls Tryd.prog 8 #[.slice a0 len0 cap0] w fun e w' => e = .returned (.bool true) ∧ Below w.heap.size w w' := by
  by_cases hl : (1048576 : Int) < len0
  · go_enter Tryd.func8, Tryd.ntmps8
    go_wp2
    go_ret
    exact ⟨rfl, Below.refl _ _⟩
  · have hl2 : len0 ≤ 1048576 := by omega
    have hxl : (z0.take len0).length ≤ 1048576 := by rw [List.length_take]; omega
    have HTO := Lib.hid (fun w' (h : IsRow .i64 w' a0 len0 cap0 z0) => to_any a0 len0 cap0 z0 w' h hl2)
    obtain ⟨t, ok, hS, hI⟩ : ∃ (t : List UInt8) (ok : Bool),
        (∀ (w' : World) (B : Nat) (v : Value), Own w' B v (z0.take len0) → Calls Tryd.prog 27 #[v] w' (Tx.Str2 t ok w')) ∧
        (∀ (w' : World) (B : Nat) (v : Value), Own w' B v (z0.take len0) → Lib.TabIs Tryd.prog w' "internal/strconv.uint64pow10" .u64 Lib.pow10Tab → Calls Tryd.prog 18 #[v] w' (Tx.Str2 t ok w')) := by
      cases hok : Ls.okL (z0.take len0)
      · exact ⟨[], false, fun w' B v h => Tx.spec_no h hxl hok, fun w' B v h _ => Tx.impl_no h hxl hok⟩
      · exact ⟨_, true, fun w' B v h => Tx.spec_yes h hok (Tx.rng_of hok), fun w' B v h ht => Tx.impl_yes h hok (Tx.rng_of hok) ht⟩
    have HS := Lib.hid hS
    have HI := Lib.hid hI
    have HT := Lib.hid htab
    have hlt := Tb.tab_lt htab
    clear hS hI htab
    generalize z0.take len0 = xs at *
    go_enter Tryd.func8, Tryd.ntmps8
    go_wp2_with fail
    refine (HTO.out w w0).mono ?_; rintro e w1 ⟨v1, rfl, o1, b1⟩
    go_wp2_with fail
    refine (HS.out w1 _ v1 o1).mono ?_; rintro e w2 ⟨rfl, b2⟩
    have B2 : Below w.heap.size w w2 := b1.trans (b2.mono b1.size)
    clear o1 b1 b2
    go_wp2_with fail
    refine (HTO.out w2 (isRow_below w0 B2)).mono ?_; rintro e w3 ⟨v3, rfl, o3, b3⟩
    have B3 : Below w.heap.size w w3 := B2.trans (b3.mono B2.size)
    have t3 := Lib.hid (Tb.tab_below HT.out B3 hlt)
    go_wp2_with fail
    refine (HI.out w3 _ v3 o3 t3.out).mono ?_; rintro e w4 ⟨rfl, b4⟩
    have o3' := o3.below b4 (Nat.le_refl _)
    have B4 : Below w.heap.size w w4 := B3.trans (b4.mono B3.size)
    clear o3 b3 b4
    go_wp2_with fail
    refine (HTO.out w4 (isRow_below w0 B4)).mono ?_; rintro e w5 ⟨v5, rfl, o5, b5⟩
    have o3'' := o3'.below b5 (Nat.le_refl _)
    have B5 : Below w.heap.size w w5 := B4.trans (b5.mono B4.size)
    clear o3' b5
    go_wp2_with fail
    refine (eq_own o3'' o5).mono ?_; rintro e w6 ⟨k, rfl, rfl⟩
    go_wp2
    go_ret
    exact ⟨rfl, below_drewN k B5⟩
end Go.Proofs.YtdilbogjihafoaaDoor.fnExactListText
