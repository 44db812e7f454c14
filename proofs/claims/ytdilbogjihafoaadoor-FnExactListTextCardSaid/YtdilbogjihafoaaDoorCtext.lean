/- Contract of the model's text of a list. -/
import Derived.Test.YtdilbogjihafoaaDoorCsl
import Derived.Test.YtdilbogjihafoaaDoorCdec
import Derived.Test.YtdilbogjihafoaaDoorPlainText
namespace Go.Proofs.YtdilbogjihafoaaDoor.Tx
open Go.RowKit
def Rng (xs : List Int) : Prop := xs.length ≤ 80 ∧ ∀ i, i < xs.length → -1000000000 ≤ xs.getD i 0 ∧ xs.getD i 0 ≤ 1000000000
theorem cat0 (x y z : List UInt8) (h : x ++ y = z) : Value.string (⟨x.toArray⟩ ++ ⟨y.toArray⟩) = .string ⟨z.toArray⟩ := by rw [ByteArray.mk_append_mk, h]
theorem cat1 (x y z : List UInt8) (h : x ++ [32] ++ y = z) : Value.string (⟨x.toArray⟩ ++ ⟨#[32]⟩ ++ ⟨y.toArray⟩) = .string ⟨z.toArray⟩ := by
  rw [← h]
  refine congrArg Value.string ?_
  apply ByteArray.ext
  simp
theorem zero_text (a : Option Addr) (c : Nat) (w : World) : Calls Tryd.prog 53 #[.slice a 0 c] w (Dc.Str ⟨#[110, 111, 110, 101]⟩ w) := by
  go_enter Tryd.func53, Tryd.ntmps53
  go_wp2
  refine wp_loop_rounds 1 ?_
  rw [rounds_succ]
  go_wp2
  go_ret
  exact ⟨rfl, Below.refl _ _⟩
set_option maxRecDepth 100000 in
set_option maxHeartbeats 2000000 in
theorem cells_text (g c : Nat) (xs : List Int) (w : World) (hr : Rng xs) (h0 : 0 < xs.length) (hg : g < w.heap.size) (hc : ∀ i, i < xs.length → w.cell? ⟨g, i, none⟩ = some (.int .i64 (xs.getD i 0))) :
    Calls Tryd.prog 53 #[.slice (some ⟨g, 0, none⟩) xs.length c] w (Dc.Str ⟨(sp xs xs.length).toArray⟩ w) := by
  have HC := Lib.hid hc
  have HR := Lib.hid hr
  have hn := hr.1
  have HL := Lib.hid (sp_len xs hr.2)
  have HN := Lib.hid (sp_ne xs hr.2)
  clear hc hr
  generalize hN : xs.length = N at *
  go_enter Tryd.func53, Tryd.ntmps53
  go_wp2
  go_loopw [3, 4] (fun o i wr => ∃ (j : Nat) (l : List UInt8), j ≤ N ∧ i = .int .i64 j ∧ o = .string ⟨l.toArray⟩ ∧ l.length ≤ 1680 ∧ Hid (l = sp xs j) ∧ Below w.heap.size w wr) (fun _ i _ => N - (intOf i).toNat)
  case atStart => exact ⟨0, [], Nat.zero_le _, rfl, rfl, by simp, Lib.hid rfl, Below.refl _ _⟩
  case round =>
    obtain ⟨j, l, hj, rfl, rfl, hl, hx, hb⟩ := hrel
    have hsz := hb.size
    by_cases hlt : j < N
    · have c1 : wr.cell? ⟨g, j, none⟩ = some (.int .i64 (xs.getD j 0)) := (hb.cell (p := ⟨g, j, none⟩) hg).trans (HC.out j hlt)
      have hb2 := HR.out.2 j (by rw [hN]; exact hlt)
      have hnew := Lib.hid (show sp xs (j + 1) = (if j = 0 then l else l ++ [32]) ++ Lib.itoa (xs.getD j 0) by rw [sp, ← hx.out])
      have hil := (itoa_len _ hb2.1 hb2.2).1
      have hnl := HL.out (j + 1) (by omega)
      generalize xs.getD j 0 = u at *
      have HD := Lib.hid (fun w => Dc.dec_any u w (by omega) (by omega))
      by_cases hj0 : 0 < j
      · have hz : ¬ j = 0 := by omega
        have hnew2 := Lib.hid (hnew.out.trans (by rw [if_neg hz]))
        clear hnew
        go_wp2_with (go_at_call 46; refine (HD.out _).mono ?_; rintro e w1 ⟨rfl, b1⟩)
        go_roundw
        case rel => exact ⟨j + 1, sp xs (j + 1), by omega, by go_num, cat1 _ _ _ hnew2.out.symm, by omega, Lib.hid rfl, hb.trans (b1.mono hsz)⟩
        case measure => simp [intOf]; omega
      · have hz : j = 0 := by omega
        have hnew2 := Lib.hid (hnew.out.trans (by rw [if_pos hz]))
        clear hnew
        have hj1 : ¬ (0 : Int) < (j : Int) := by omega
        clear hz
        go_wp2_with (go_at_call 46; refine (HD.out _).mono ?_; rintro e w1 ⟨rfl, b1⟩)
        go_roundw
        case rel => exact ⟨j + 1, sp xs (j + 1), by omega, by go_num, cat0 _ _ _ hnew2.out.symm, by omega, Lib.hid rfl, hb.trans (b1.mono hsz)⟩
        case measure => simp [intOf]; omega
    · have e : j = N := by omega
      subst e
      have hne : l ≠ [] := by
        rw [hx.out, show j = (j - 1) + 1 by omega]
        exact HN.out (j - 1) (by omega)
      have hne2 : l.isEmpty = false := by cases l with | nil => exact absurd rfl hne | cons _ _ => rfl
      go_wp2
      go_ret
      exact ⟨by rw [hx.out]; rfl, hb⟩
theorem own_text {w : World} {B : Nat} {v : Value} {xs : List Int} (h : Own w B v xs) (hr : Rng xs) : Calls Tryd.prog 53 #[v] w (Dc.Str ⟨(text xs).toArray⟩ w) := by
  rcases h.cases with ⟨rfl, rfl⟩ | ⟨g, c, rfl, _, hg, _, hc, _⟩
  · exact zero_text _ _ _
  · by_cases h0 : 0 < xs.length
    · rw [text_sp xs (by intro e; subst e; simp at h0)]
      exact cells_text g c xs w hr h0 hg hc
    · have : xs = [] := List.eq_nil_of_length_eq_zero (by omega)
      subst this
      exact zero_text _ _ _
end Go.Proofs.YtdilbogjihafoaaDoor.Tx
