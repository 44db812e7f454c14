/- Contracts of laws.r8Long, laws.r8At and of the model's drawn uses. -/
import Derived.Test.YtdjkmffekfbbcaaCRow
import Derived.Test.YtdjkmffekfbbcaaCsrc
import Derived.Test.YtdjkmffekfbbcaaCuses
namespace Go.Proofs.Ytdjkmffekfbbcaa.R8
open Go.RowKit
def Under (n : Int) (w : World) (e : Ending) (w' : World) : Prop := ∃ r : Int, 0 ≤ r ∧ r < n ∧ e = .returned (.int .i64 r) ∧ w = w'
theorem under_mk {n r : Int} {w : World} {v : Value} (h0 : 0 ≤ r) (h1 : r < n) (hv : v = .int .i64 r) : Under n w (.returned v) w := ⟨r, h0, h1, by rw [hv], rfl⟩
theorem at_any (a : Option Addr) (len cap : Nat) (zs : List Int) (w : World) (h : IsRow .u8 w a len cap zs) (i n : Int) (hi0 : 0 ≤ i) (hi1 : i ≤ 1000) (hn0 : 1 ≤ n) (hn1 : n ≤ 1000000000) :
    Calls Try.prog 21 #[.slice a len cap, .int .i64 i, .int .i64 n] w (Under n w) := by
  by_cases hn : n ≤ 1
  · go_enter Try.func21, Try.ntmps21
    go_wp2
    go_ret
    exact under_mk (by omega) (by omega) rfl
  · by_cases hl : i < len
    · obtain ⟨b, off, rfl, hlc, hcm, hz, hc, hwz⟩ := h.at (by omega)
      obtain ⟨k, rfl⟩ := Int.eq_ofNat_of_zero_le hi0
      have hc0 := hc k (by omega)
      have hu := bounds_u8 (hwz k (by omega))
      have hk : k < zs.length := by omega
      clear hc hwz h
      generalize zs.getD k 0 = u at *
      have hu2 : u % n < n := Int.emod_lt_of_pos _ (by omega)
      have hu3 : 0 ≤ u % n := Int.emod_nonneg _ (by omega)
      have hge : ¬ (len : Int) ≤ (k : Int) := by omega
      go_enter Try.func21, Try.ntmps21
      go_wp2
      go_ret
      exact under_mk hu3 hu2 rfl
    · have hge : (len : Int) ≤ i := by omega
      go_enter Try.func21, Try.ntmps21
      go_wp2
      go_ret
      exact under_mk (by omega) (by omega) rfl
theorem long_no (a0 : Option Addr) (len0 cap0 : Nat) (a1 : Option Addr) (len1 cap1 : Nat) (w : World) (h0 : len0 ≤ 48) (h1 : len1 ≤ 48) :
    Calls Try.prog 19 #[.slice a0 len0 cap0, .slice a1 len1 cap1] w fun e w' => e = .returned (.bool false) ∧ w = w' := by
  have g0 : ¬ (48 : Int) < len0 := by omega
  have g1 : ¬ (48 : Int) < len1 := by omega
  go_enter Try.func19, Try.ntmps19
  go_wp2
  go_ret
  exact ⟨rfl, rfl⟩
theorem long_yes (a0 : Option Addr) (len0 cap0 : Nat) (a1 : Option Addr) (len1 cap1 : Nat) (w : World) (h : 48 < len0 ∨ 48 < len1) :
    Calls Try.prog 19 #[.slice a0 len0 cap0, .slice a1 len1 cap1] w fun e w' => e = .returned (.bool true) ∧ w = w' := by
  by_cases g0 : (48 : Int) < len0
  · go_enter Try.func19, Try.ntmps19
    go_wp2
    go_ret
    exact ⟨rfl, rfl⟩
  · have g1 : (48 : Int) < len1 := by omega
    go_enter Try.func19, Try.ntmps19
    go_wp2
    go_ret
    exact ⟨rfl, rfl⟩
/-- The bytes of a list that came in. -/
theorem byt_of {a : Option Addr} {len cap : Nat} {zs : List Int} {w : World} (h : IsRow .u8 w a len cap zs) : Sr.Byt w w.heap.size a len := fun i hi => by
  obtain ⟨b, off, ha, _, _, _, hc, hw⟩ := h.at (by omega)
  have := bounds_u8 (hw i hi)
  exact ⟨b, off, ha, World.block_lt_of_cell? w _ (hc i hi), _, hc i hi, by omega, by omega⟩
/-- What drawn uses are. -/
def Us (w : World) (e : Ending) (w' : World) : Prop := ∃ v l, e = .returned v ∧ Tr.okU l = true ∧ l.length ≤ 13 ∧ Own w' w.heap.size v l ∧ Below w.heap.size w w'
theorem okU_of (l : List Int) (h : l.length ≤ 60) (hm : ∀ y ∈ l, 0 ≤ y ∧ y ≤ 63) : Tr.okU l = true := by
  unfold Tr.okU
  rw [decide_eq_true h, Bool.true_and, List.all_eq_true]
  intro y hy
  obtain ⟨h0, h1⟩ := hm y hy
  exact Tr.isA_yes h0 h1
set_option maxHeartbeats 1000000 in
theorem uses_any (a : Option Addr) (len cap : Nat) (zs : List Int) (w : World) (hl : len ≤ 48) (h : IsRow .u8 w a len cap zs) :
    Calls Try.prog 20 #[.slice a len cap] w (Us w) := by
  have hby := byt_of h
  have h0 : Sr.Src (w.alloc (.cells #[.slice a len cap, .int .i64 0, .int .u64 0] 86)) w.heap.size w.heap.size a len cap 0 :=
    ⟨Nat.le_refl _, hby.below ((Below.refl _ _).alloc (Nat.le_refl _) _), 0, 0, Nat.le_refl _, by omega, by omega, by unfold World.alloc; exact Array.getElem?_push_size⟩
  have hb0 : Below w.heap.size w (w.alloc (.cells #[.slice a len cap, .int .i64 0, .int .u64 0] 86)) := (Below.refl _ _).alloc (Nat.le_refl _) _
  have hF : Hid (Calls Try.prog 40 #[.slice a len cap] w fun e w' => e = .returned (.pointer (some ⟨w.heap.size, 0, none⟩)) ∧ Sr.Src w' w.heap.size w.heap.size a len cap 0 ∧ Below w.heap.size w w') := by
    have H0 := Lib.hid h0
    have HB := Lib.hid hb0
    clear h0 hb0 hby h
    show Calls _ _ _ _ _
    go_enter Try.func40, Try.ntmps40
    go_wp2
    go_ret
    exact ⟨rfl, H0.out, HB.out⟩
  clear h0 hb0 hby h
  go_enter Try.func20, Try.ntmps20
  go_wp2_with fail
  refine hF.out.mono ?_
  rintro e w1 ⟨rfl, s1, b1⟩
  go_wp2_with fail
  refine (Sr.pick_s w.heap.size w.heap.size len cap 0 14 a w1 (by omega) (by omega) (by omega) (by omega) s1).mono ?_
  rintro e w2 ⟨r, hr0, hr1, rfl, s2, g2⟩
  have b2 : Below w.heap.size w w2 := b1.grown g2 b1.size (fun k hk => by injection hk with hk; omega)
  go_wp2_with fail
  refine (Sr.pick_s w.heap.size w.heap.size len cap 1 5 a w2 (by omega) (by omega) (by omega) (by omega) s2).mono ?_
  rintro e w3 ⟨q, hq0, hq1, rfl, s3, g3⟩
  have b3 : Below w.heap.size w w3 := b2.grown g3 b2.size (fun k hk => by injection hk with hk; omega)
  obtain ⟨N, rfl⟩ := Int.eq_ofNat_of_zero_le hr0
  obtain ⟨M, rfl⟩ := Int.eq_ofNat_of_zero_le hq0
  have hf := Sr.few_s w.heap.size w.heap.size len cap 2 N (1 + M) a w3 (by omega) (by omega) (by omega) (by omega) (by omega) s3
  have e1 : (((1 + M : Nat)) : Int) = 1 + (M : Int) := by omega
  rw [e1] at hf
  have HF := Lib.hid hf
  clear hf e1
  go_wp2_with fail
  refine HF.out.mono ?_
  rintro e w4 ⟨v, l, rfl, h1, h2, h3, h4⟩
  go_wp2
  go_ret
  exact ⟨v, l, rfl, okU_of l (by omega) h2, by omega, h3.mono b3.size, b3.trans h4⟩
end Go.Proofs.Ytdjkmffekfbbcaa.R8
