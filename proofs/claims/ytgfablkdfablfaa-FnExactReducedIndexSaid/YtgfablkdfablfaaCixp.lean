/- Both SpanOf: the program's list of all exclusive ors and its set, the model's list without doubles. -/
import Derived.Test.YtgfablkdfablfaaCixr
import Derived.Test.YtgfablkdfablfaaPlainIx3
import Derived.Test.YtgfablkdfablfaaCapkp
import Derived.Test.YtgfablkdfablfaaCsetI
import Derived.WalkMore
namespace Go.Proofs.Ytgfablkdfablfaa.Ix
open Go.RowKit Tr Bt
theorem own_some {w : World} {B : Nat} {v : Value} {xs : List Int} (h : Own w B v xs) (h0 : 0 < xs.length) : ∃ g c, v = .slice (some ⟨g, 0, none⟩) xs.length c ∧ B ≤ g ∧ Row w (some ⟨g, 0, none⟩) xs := by
  rcases h.cases with ⟨_, rfl⟩ | ⟨g, c, rfl, hB, hg, _, hc, _⟩
  · simp at h0
  · exact ⟨g, c, rfl, hB, fun i hi => ⟨g, 0, rfl, by rw [Nat.zero_add]; exact hc i hi, hg⟩⟩
theorem spanV_no {xs : List Int} (h : okX xs = false) : spanV xs = [] := by unfold spanV; rw [h]; rfl
theorem spanV_yes {ns : List Nat} (h : okX (castL ns) = true) : spanV (castL ns) = spanS (pad ns) := by unfold spanV; rw [h, pad_fun]; rfl
theorem alloc_le (w : World) (o : Obj) : w.heap.size ≤ (w.alloc o).heap.size := by
  show _ ≤ (w.heap.push o).size
  rw [Array.size_push]; omega
theorem lit0 (w : World) : Own (w.alloc (.cells #[.int .i64 0] 2)) w.heap.size (.slice (some ⟨w.heap.size, 0, none⟩) 1 1) [0] := Own.lit w 0
set_option maxHeartbeats 4000000 in
theorem span_i_yes {v : Value} {ns : List Nat} {w : World} (h : RdX w v (castL ns)) (hl : ns.length ≤ 3) (h64 : ∀ i, ns.getD i 0 < 64) (ho : okX (castL ns) = true) :
    Calls Try.prog 16 #[v] w (Res (spanS (pad ns)) true w) := by
  have HR := Lib.hid (fun w9 (hb : Below w.heap.size w w9) => rows_yes (h.below hb) hl ho)
  obtain ⟨a, c, rfl, _, _, _⟩ := h
  have b0 : Below w.heap.size w (w.alloc (.cells #[.slice a (castL ns).length c] 27)) := (Below.refl _ w).alloc (Nat.le_refl _) _
  have H := Lib.hid (HR.out _ b0)
  have B0 := Lib.hid b0
  have HE := Lib.hid (spanS_i (pad ns))
  have HL := Lib.hid (spL_len (pad ns))
  have H64 := Lib.hid (fun j x hx => spL_lt (r := pad ns) h64 j x hx)
  have HP64 := Lib.hid (show ∀ j, pad ns j < 64 from h64)
  clear b0 HR ho h64 hl
  unfold RowsR at H
  have HI := Lib.hid (fun j hj w9 => index3 (pad ns) j hj w9)
  generalize spanS (pad ns) = ys at *
  generalize pad ns = r at *
  unfold aggR at H HI
  generalize (castL ns).length = N at *
  go_enter Try.func16, Try.ntmps16
  go_wp2_with (go_at_call 29; refine H.out.mono ?_; rintro e w1 ⟨rfl, b1⟩)
  have B1 := Lib.hid (bt B0.out b1)
  have hs1 : w.heap.size ≤ w1.heap.size := B1.out.size
  clear b1
  go_loopw [6, 20] (fun v i wr => ∃ j : Nat, j ≤ 3 ∧ i = .int .i64 j ∧ Own wr w.heap.size v (castL (spL r j)) ∧ Below w.heap.size w wr) (fun _ i _ => 3 - (intOf i).toNat)
  case atStart =>
    refine ⟨0, by omega, rfl, ?_, ?_⟩
    · have hz : (w1.alloc (.cells #[.int .i64 ((r 0 : Nat) : Int), .int .i64 ((r 1 : Nat) : Int), .int .i64 ((r 2 : Nat) : Int)] 46)).heap.size = w1.heap.size + 1 := Array.size_push _
      have h := lit0 (w1.alloc (.cells #[.int .i64 ((r 0 : Nat) : Int), .int .i64 ((r 1 : Nat) : Int), .int .i64 ((r 2 : Nat) : Int)] 46))
      rw [hz] at h
      exact h.mono (by omega)
    · exact ((B1.out.alloc hs1 _).alloc (Nat.le_trans hs1 (alloc_le _ _)) _)
  case round =>
    obtain ⟨j, hj, rfl, hown, hb⟩ := hrel
    have hM : (castL (spL r j)).length = 2 ^ j := by rw [castL_len, HL.out]
    by_cases hlt : j < 3
    · have hi := HI.out j hlt
      obtain ⟨g, cp, rfl, hg, hrow⟩ := own_some hown (by rw [hM]; exact Nat.two_pow_pos j)
      have hp4 : 2 ^ j ≤ 4 := by have : 2 ^ j ≤ 2 ^ 2 := Nat.pow_le_pow_right (by omega) (by omega); simpa using this
      have HSUC := Lib.hid (fun k hk => spK_succ r j k hk)
      have HEND := Lib.hid (spK_end r j)
      have HKL := Lib.hid (fun k hk => (show (castL (spK r j k)).length = 2 ^ j + k from (castL_len _).trans (spK_len r j k hk)))
      have hown0 : Own wr w.heap.size (.slice (some ⟨g, 0, none⟩) (castL (spL r j)).length cp) (castL (spK r j 0)) := by rw [spK_zero]; exact hown
      have HG := Lib.hid (fun k (hk : k < 2 ^ j) => (show (castL (spL r j)).getD k 0 = (((spL r j).getD k 0 : Nat) : Int) ∧ (spL r j).getD k 0 < 64 from
        ⟨castL_get _ _, H64.out j _ (by rw [List.getD_eq_getElem?_getD, List.getElem?_eq_getElem (by rw [HL.out]; exact hk)]; exact List.getElem_mem _)⟩))
      have hrj := HP64.out j
      have HROW := Lib.hid hrow
      have HOWN := Lib.hid hown0
      have HB := Lib.hid hb
      clear hrow hown hown0 hb
      generalize hrr : r j = rj at hi hrj HSUC
      clear hrr
      generalize hML : (castL (spL r j)).length = M at *
      have HM := Lib.hid hML
      clear hML
      generalize 2 ^ j = P at *
      subst hM
      obtain ⟨wo, hwo⟩ : ∃ wo, wo = wr := ⟨_, rfl⟩
      subst hwo
      have hd : decide ((j : Int) < 3) = true := decide_eq_true (by omega)
      go_wp2
      go_loopw [6, 25] (fun v i wr => ∃ k : Nat, k ≤ M ∧ i = .int .i64 k ∧ Own wr w.heap.size v (castL (spK r j k)) ∧ Row wr (some ⟨g, 0, none⟩) (castL (spL r j)) ∧ Below w.heap.size w wr) (fun _ i _ => M - (intOf i).toNat)
      case atStart => exact ⟨0, Nat.zero_le _, rfl, HOWN.out, HROW.out, HB.out⟩
      case round =>
        obtain ⟨k, hk, rfl, hown, hrow, hb⟩ := hrel
        by_cases hkl : k < M
        · have hq := HKL.out k hk
          obtain ⟨hgk, hu⟩ := HG.out k hkl
          obtain ⟨b', off', ha', hc', hlt'⟩ := hrow k (by rw [HM.out]; exact hkl)
          injection ha' with ha'
          injection ha' with e1 e2
          subst e1 e2
          rw [Nat.zero_add, hgk] at hc'
          have hsuc := Lib.hid (HSUC.out k hkl)
          generalize (spL r j).getD k 0 = u at *
          have hx : bits .xor .i64 (u : Int) (rj : Int) = ((u ^^^ rj : Nat) : Int) := i64_xor _ _ (by omega) (by omega)
          generalize u ^^^ rj = x at *
          have hsz := hb.size
          have hq1 : (castL (spK r j k)).length + 1 ≤ 1000000000 := by omega
          have HROW1 := Lib.hid hrow
          have HM1 := Lib.hid (show (castL (spL r j)).length ≤ (castL (spK r j k)).length by rw [HM.out]; omega)
          clear hq hrow hlt' hgk
          go_wp2_with (at_builtin; refine wpList_appK _ rfl _ _ rfl w.heap.size _ (castL (spK r j k)) _ ?_ ?_ hown hq1 hsz ?_; rfl; rfl)
          intro v' w' ho' hb' hk'
          go_wp2
          go_roundw
          case rel => exact ⟨k + 1, by omega, by go_num, by rw [hsuc.out]; exact ho', HROW1.out.keptTo hk'.out HM1.out hb'.size, hb.trans hb'⟩
          case measure => simp [intOf]; omega
        · obtain rfl : k = M := by omega
          go_wp2
          go_roundw
          case rel => exact ⟨j + 1, by omega, by go_num, by rw [← HEND.out]; exact hown, hb⟩
          case measure => simp [intOf]; omega
    · obtain rfl : j = 3 := by omega
      obtain ⟨a', c', rfl⟩ := hown.formx
      have hV := Lib.hid (vals_value a' (castL (spL r 3)).length c' wr)
      have hS := Lib.hid (vals_set a' c' (castL (spL r 3)) (by rw [hM]; omega) wr (by obtain ⟨a2, c2, e2, _, _, h2⟩ := hown.rd; injection e2 with e3 _ _; rw [e3]; exact h2))
      rw [HE.out] at hS
      have hb2 : Below w.heap.size w (wr.alloc (.cells #[.slice a' (castL (spL r 3)).length c'] 22)) := hb.alloc hb.size _
      have HB2 := Lib.hid hb2
      clear hown hb hb2 hM
      generalize (castL (spL r 3)).length = M at *
      go_wp2_with (first | (go_at_call 36; refine hV.out.mono ?_; rintro e w0 ⟨rfl, rfl⟩) | (go_at_call 35; refine hS.out.mono ?_; rintro e w3 ⟨v3, rfl, ho3, hb3⟩))
      go_ret2
      exact ⟨_, rfl, ho3.mono HB2.out.size, HB2.out.trans (hb3.mono HB2.out.size)⟩
theorem span_iL {v : Value} {xs : List Int} {w : World} (h : RdX w v xs) :
    Calls Try.prog 16 #[v] w (Res (spanV xs) (okX xs) w) := by
  cases ho : okX xs
  · rw [spanV_no ho]
    have HR := Lib.hid (fun w9 (hb : Below w.heap.size w w9) => rows_no (h.below hb) ho)
    obtain ⟨a, c, rfl, _, _, _⟩ := h
    have b0 : Below w.heap.size w (w.alloc (.cells #[.slice a xs.length c] 27)) := (Below.refl _ w).alloc (Nat.le_refl _) _
    have H := Lib.hid (HR.out _ b0)
    unfold RowsR aggR at H
    have B0 := Lib.hid b0
    clear b0 HR ho
    generalize xs.length = N at *
    go_enter Try.func16, Try.ntmps16
    go_wp2_with (go_at_call 29; refine H.out.mono ?_; rintro e w1 ⟨rfl, b1⟩)
    go_ret2
    exact ⟨_, rfl, Own.nil _ _, (bt B0.out b1).alloc (by have := B0.out.size; have := b1.size; omega) _⟩
  · obtain ⟨ns, rfl, hl, h64⟩ := okX_nat ho
    rw [spanV_yes ho]
    exact span_i_yes h hl h64 ho
end Go.Proofs.Ytgfablkdfablfaa.Ix
