/- The program's PlainReads and PlainMemory. -/
import Derived.Test.YtcbchkblobpdiaaCplm
import Derived.Test.YtcbchkblobpdiaaCmk1W
namespace Go.Proofs.Ytcbchkblobpdiaa.Pl
open Go.RowKit Ac Tr
theorem und64 : ∃ d, Try.prog.underlying 61 = some d ∧ d.isRow = true := by
  cases h : Try.prog.underlying 61 with
  | none => exact absurd h (by decide +kernel)
  | some d =>
    refine ⟨d, rfl, ?_⟩
    have e : (Try.prog.underlying 61).map (fun d => d.isRow) = some true := by kernel_rfl
    rw [h] at e
    simpa using e
theorem isz64 : (Try.prog.info? 61).map (·.size) = some 64 := by kernel_rfl
theorem blk_ownW {w : World} {b B : Nat} {ws : List Int} {t : TypeId} (h : Blk w b (ws.map (Value.int .i64)) t) (hB : B ≤ b) (hl : ws.length ≤ 1000) : OwnW w B (.slice (some ⟨b, 0, none⟩) ws.length ws.length) ws :=
  ⟨by simp, .inr ⟨b, ws.length, (ws.map (Value.int .i64)).toArray, t, rfl, hB, h, Nat.le_refl _, by unfold maxLen; omega, by simp, List.take_of_length_le (by simp)⟩⟩
set_option maxRecDepth 100000 in
set_option maxHeartbeats 4000000 in
theorem list_i (ws : List Int) (w : World) (h : ws.length = 64) :
    Calls Try.prog 32 #[.agg (ws.map (Value.int .i64)).toArray] w fun e w' => ∃ v, e = .returned v ∧ OwnW w' w.heap.size v ws ∧ Below w.heap.size w w' := by
  have BZ := Blk.newAt w w.heap.size (ws.map (Value.int .i64)) 61 rfl
  have HO := Lib.hid (blk_ownW BZ (Nat.le_refl _) (by omega))
  have b0 : Below w.heap.size w (w.alloc (.cells (ws.map (Value.int .i64)).toArray 61)) := (Below.refl _ w).alloc (Nat.le_refl _) _
  have hz : (ws.map (Value.int .i64)).length = 64 := by simp [h]
  rw [h] at HO
  clear BZ
  generalize ws.map (Value.int .i64) = L at *
  go_enter Try.func32, Try.ntmps32
  go_wp2
  go_ret
  exact ⟨_, rfl, HO.out, b0⟩
set_option maxRecDepth 100000 in
set_option maxHeartbeats 4000000 in
theorem preads_i (a : Option Addr) (c : Nat) (xs : List (Int × Int)) (w : World) (hn : xs.length ≤ 1048576) (hr : RowA w a xs) :
    Calls Try.prog 14 #[.slice a xs.length c] w (ResV (if okT xs then plR xs xs.length else []) (okT xs) w) := by
  have HR := Lib.hid (run_i a c xs w hn hr)
  clear hr
  unfold RunR at HR
  generalize plW xs xs.length = WS at *
  generalize plR xs xs.length = RS at *
  cases hok : okT xs <;> rw [hok] at HR <;> (try rw [if_pos rfl]) <;> (try rw [if_neg (by decide)]) <;> generalize xs.length = N at *
  · go_enter Try.func14, Try.ntmps14
    go_wp2_with fail
    refine HR.out.mono ?_; rintro e w1 (⟨_, rfl, b1⟩ | ⟨h, _⟩)
    rotate_left
    · exact absurd h (by decide)
    have hb2 := Lib.hid b1
    go_wp2_with (with_reducible refine wpList_storeB rfl 63 (.tmp 4) (.tmp 9) rfl w1.heap.size 0 z65 ?_ ?_ z65 63 ?_ ?_ ?_ ?_ ?_)
    all_goals (first | exact Blk.newAt w1 _ z65 _ rfl | exact isz65 | exact (show ∀ v ∈ z65, v.oneCell' = true by rw [z65_pl]; exact one_plC _ _ rfl) | exact (show 0 + z65.length ≤ z65.length by decide) | rfl | skip)
    intro w5 hBx hKx
    rw [splice65 _ _ rfl] at hBx
    have c0 : w5.cell? ⟨w1.heap.size, 64, none⟩ = some (.slice none 0 0) := by rw [hBx.out.cell]; rfl
    have B5 := Lib.hid ((b1.alloc b1.size (.cells z65.toArray 63)).trans (hKx.out.below b1.size))
    go_wp2
    go_ret2
    exact ⟨_, rfl, OwnW.nil _ _, B5.out⟩
  · go_enter Try.func14, Try.ntmps14
    go_wp2_with fail
    refine HR.out.mono ?_; rintro e w1 (⟨h, _⟩ | ⟨_, v, rfl, o1, b1, hl⟩)
    · exact absurd h (by decide)
    obtain ⟨va, vc, rfl⟩ := Own.form o1
    go_wp2_with (with_reducible refine wpList_storeB rfl 63 (.tmp 4) (.tmp 9) rfl w1.heap.size 0 (plC WS (.slice va RS.length vc)) ?_ ?_ z65 63 ?_ ?_ ?_ ?_ ?_)
    all_goals (first | exact Blk.newAt w1 _ z65 _ rfl | exact one_plC WS (.slice va RS.length vc) rfl | exact (show 0 + (plC WS (.slice va RS.length vc)).length ≤ z65.length by rw [plC_len _ _ hl]; decide) | (rw [plC_len _ _ hl]; exact isz65) | rfl | skip)
    intro w5 hBx hKx
    rw [splice65 _ _ (by rw [plC_len _ _ hl]; rfl)] at hBx
    have c0 : w5.cell? ⟨w1.heap.size, 64, none⟩ = some (.slice va RS.length vc) := by rw [hBx.out.cell]; exact plC_v _ _ hl
    have B5 := Lib.hid ((b1.alloc b1.size (.cells z65.toArray 63)).trans (hKx.out.below b1.size))
    have o5 : Hid (OwnW w5 w.heap.size (.slice va RS.length vc) RS) := OwnW.same o1.weak (fun b hb hlt => (hKx.out.block b (by omega)).trans (Below.heap_alloc w1 _ b hlt))
    go_wp2
    go_ret2
    exact ⟨_, rfl, o5.out, B5.out⟩
set_option maxRecDepth 100000 in
set_option maxHeartbeats 4000000 in
theorem pmem_i (a : Option Addr) (c : Nat) (xs : List (Int × Int)) (w : World) (hn : xs.length ≤ 1048576) (hr : RowA w a xs) :
    Calls Try.prog 21 #[.slice a xs.length c] w (ResV (if okT xs then plW xs xs.length else []) (okT xs) w) := by
  have HR := Lib.hid (run_i a c xs w hn hr)
  obtain ⟨d64, hu64, hd64⟩ := und64
  clear hr
  unfold RunR at HR
  generalize plW xs xs.length = WS at *
  generalize plR xs xs.length = RS at *
  cases hok : okT xs <;> rw [hok] at HR <;> (try rw [if_pos rfl]) <;> (try rw [if_neg (by decide)]) <;> generalize xs.length = N at *
  · go_enter Try.func21, Try.ntmps21
    go_wp2_with fail
    refine HR.out.mono ?_; rintro e w1 (⟨_, rfl, b1⟩ | ⟨h, _⟩)
    rotate_left
    · exact absurd h (by decide)
    have hb2 := Lib.hid b1
    go_wp2_with (with_reducible refine wpList_storeB rfl 63 (.tmp 4) (.tmp 9) rfl w1.heap.size 0 z65 ?_ ?_ z65 63 ?_ ?_ ?_ ?_ ?_)
    all_goals (first | exact Blk.newAt w1 _ z65 _ rfl | exact isz65 | exact (show ∀ v ∈ z65, v.oneCell' = true by rw [z65_pl]; exact one_plC _ _ rfl) | exact (show 0 + z65.length ≤ z65.length by decide) | rfl | skip)
    intro w5 hBx hKx
    have B5 := Lib.hid ((b1.alloc b1.size (.cells z65.toArray 63)).trans (hKx.out.below b1.size))
    go_wp2
    go_ret2
    exact ⟨_, rfl, OwnW.nil _ _, B5.out⟩
  · go_enter Try.func21, Try.ntmps21
    go_wp2_with fail
    refine HR.out.mono ?_; rintro e w1 (⟨h, _⟩ | ⟨_, v, rfl, o1, b1, hl⟩)
    · exact absurd h (by decide)
    obtain ⟨va, vc, rfl⟩ := Own.form o1
    go_wp2_with (with_reducible refine wpList_storeB rfl 63 (.tmp 4) (.tmp 9) rfl w1.heap.size 0 (plC WS (.slice va RS.length vc)) ?_ ?_ z65 63 ?_ ?_ ?_ ?_ ?_)
    all_goals (first | exact Blk.newAt w1 _ z65 _ rfl | exact one_plC WS (.slice va RS.length vc) rfl | exact (show 0 + (plC WS (.slice va RS.length vc)).length ≤ z65.length by rw [plC_len _ _ hl]; decide) | (rw [plC_len _ _ hl]; exact isz65) | rfl | skip)
    intro w5 hBx hKx
    rw [splice65 _ _ (by rw [plC_len _ _ hl]; rfl)] at hBx
    have hrg : w5.rangeAt w1.heap.size 0 (WS.map (Value.int .i64)) := by
      have h1 := hBx.out.range 0 64
      have h2 : ((plC WS (.slice va RS.length vc)).drop 0).take 64 = WS.map (Value.int .i64) := by
        unfold plC
        rw [List.drop_zero, List.take_append_of_le_length (by simp [hl]), List.take_of_length_le (by simp [hl])]
      rwa [h2] at h1
    have hz : (WS.map (Value.int .i64)).length = 64 := by simp [hl]
    have HLI := Lib.hid (list_i WS w5 hl)
    have B5 := Lib.hid ((b1.alloc b1.size (.cells z65.toArray 63)).trans (hKx.out.below b1.size))
    go_wp2_with (first | (with_reducible refine wpList_load_mid rfl 61 (.tmp 13) rfl w1.heap.size 0 ?_ (WS.map (Value.int .i64)) d64 hrg hu64 hd64 ?_ ?_) | (go_at_call 32; (with_reducible refine HLI.out.mono ?_); rintro e w6 ⟨v6, rfl, o6, b6⟩))
    · rfl
    · rw [hz]; exact isz64
    have B6 := Lib.hid (bt B5.out b6)
    have o7 := Lib.hid (o6.mono (B' := w.heap.size) B5.out.size)
    clear b6 o6
    go_wp2
    go_ret2
    exact ⟨_, rfl, o7.out, B6.out⟩
end Go.Proofs.Ytcbchkblobpdiaa.Pl
