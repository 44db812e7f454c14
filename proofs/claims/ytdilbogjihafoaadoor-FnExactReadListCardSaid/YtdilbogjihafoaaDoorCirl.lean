/- Contract of the program's reader of a list. -/
import Derived.Test.YtdilbogjihafoaaDoorCiread
import Derived.Test.YtdilbogjihafoaaDoorCnum
namespace Go.Proofs.YtdilbogjihafoaaDoor.Nm
open Go.RowKit
abbrev bl : ByteArray := ⟨#[32]⟩
def cut (s : ByteArray) : List ByteArray := Lib.splitB bl 0 (min 81 (s.size + 1) - 1) s
theorem cut_data (s : ByteArray) : (cut s).map (·.data.toList) = Lib.splitK [32] 0 (min 81 (s.data.toList.length + 1) - 1) s.data.toList := by
  have hl : s.data.toList.length = s.size := by simp
  rw [cut, Lib.splitB_data, hl]
theorem piece_le (sep : ByteArray) : ∀ (k : Nat) (s x : ByteArray), x ∈ Lib.splitB sep 0 k s → x.size ≤ s.size
  | 0, s, x, h => by rw [Lib.splitB_zero] at h; simp at h; subst h; exact Nat.le_refl _
  | k + 1, s, x, h => by
    unfold Lib.splitB at h
    split at h
    · simp at h; subst h; exact Nat.le_refl _
    · rcases List.mem_cons.1 h with h | h
      · subst h; exact ext_size _ _ _
      · exact Nat.le_trans (piece_le sep k _ x h) (ext_size _ _ _)
theorem cut_le (s : ByteArray) (j : Nat) (h : j < (cut s).length) : ((cut s).getD j ByteArray.empty).size ≤ s.size := by
  rw [List.getD_eq_getElem?_getD, List.getElem?_eq_getElem h]
  exact piece_le _ _ _ _ (List.getElem_mem h)
theorem cut_len (s : ByteArray) : (cut s).length ≤ min 81 (s.size + 1) := by
  have := Lib.splitB_length_le bl 0 (min 81 (s.size + 1) - 1) s
  unfold cut; omega
theorem cut_many (s : ByteArray) (hn : s.data.toList ≠ [110, 111, 110, 101]) (h : 80 < (cut s).length) : nums s.data.toList = none :=
  nums_many _ hn (by rw [← cut_data]; simpa using h)
/-- What is still to be read from the word j on. -/
def Vr (ws : List ByteArray) (j : Nat) (xs : List Int) : Option (List Int) := (vals ((ws.drop j).map (·.data.toList))).map (xs ++ ·)
theorem cut_few (s : ByteArray) (hn : s.data.toList ≠ [110, 111, 110, 101]) (h : (cut s).length ≤ 80) : nums s.data.toList = Vr (cut s) 0 [] := by
  rw [nums_few _ hn (by rw [← cut_data]; simpa using h), ← cut_data, Vr, List.drop_zero]
  cases vals _ <;> rfl
theorem Vr_end (ws : List ByteArray) (xs : List Int) : Vr ws ws.length xs = some xs := by simp [Vr, vals]
theorem Vr_step (ws : List ByteArray) (j : Nat) (xs : List Int) (h : j < ws.length) : Vr ws j xs = (Rd.rd (ws.getD j ByteArray.empty).data.toList).bind fun n => Vr ws (j + 1) (xs ++ [n]) := by
  rw [List.getD_eq_getElem?_getD, List.getElem?_eq_getElem h, Option.getD_some]
  unfold Vr
  rw [List.drop_eq_getElem_cons h, List.map_cons, vals]
  cases Rd.rd ws[j].data.toList with
  | none => rfl
  | some n =>
    simp only [Option.bind_some]
    cases vals _ <;> simp
theorem cut_cell (w : World) (s : ByteArray) (N j : Nat) (t : TypeId) (h : j < (cut s).length) : (w.alloc (.cells (Lib.cellsOf (cut s) N) t)).cell? ⟨w.heap.size, j, none⟩ = some (.string ((cut s).getD j ByteArray.empty)) := by
  have e1 : (w.alloc (.cells (Lib.cellsOf (cut s) N) t)).cell? ⟨w.heap.size, j, none⟩ = (Lib.cellsOf (cut s) N)[j]? := World.cell?_alloc_new _ _ _ _
  rw [e1]
  unfold Lib.cellsOf
  rw [List.getElem?_toArray, List.getElem?_append_left (by simpa using h), List.getElem?_map, List.getElem?_eq_getElem h, List.getD_eq_getElem?_getD, List.getElem?_eq_getElem h]
  rfl
set_option maxRecDepth 100000 in
set_option maxHeartbeats 2000000 in
theorem impl_rl (s : ByteArray) (w : World) (hs : s.size ≤ 1048576) (hS : Rd.Sent w) (htab : Lib.TabIs Tryd.prog w "internal/strconv.uint64pow10" .u64 Lib.pow10Tab) (m : Int) (hm : w.cell? ⟨3, 0, none⟩ = some (.int .i64 m)) :
    Calls Tryd.prog 19 #[.string s] w (Gl (nums s.data.toList) w) := by
  by_cases hn : s.data.toList = [110, 111, 110, 101]
  · have e0 : nums s.data.toList = some [] := by rw [nums, if_pos hn]
    rw [e0]
    have q : (s.toList == [110, 111, 110, 101]) = true := by rw [Rd.toList_eq, hn]; rfl
    clear hn e0 htab hS hm
    go_enter Tryd.func19, Tryd.ntmps19
    go_wp2
    go_ret2
    exact ⟨_, rfl, Own.nil _ _, Below.refl _ _⟩
  · have q : (s.toList == [110, 111, 110, 101]) = false := by rw [Rd.toList_eq, beq_eq_false_iff_ne]; exact hn
    have HSP := Lib.hid (Tryd.strings_SplitN s bl 81 m w (by omega) hm (by decide) (by omega) (by omega))
    have hlen := cut_len s
    have HC := Lib.hid (fun j t h => cut_cell w s (min 81 (s.size + 1)) j t h)
    have HLE := Lib.hid (fun j h => cut_le s j h)
    have HM := Lib.hid (fun h => cut_many s hn h)
    have HF := Lib.hid (fun h => cut_few s hn h)
    change Hid (Calls Tryd.prog 45 #[.string s, .string bl, .int .i64 (81 : Nat)] w fun e w' => e = .returned (.slice (some ⟨w.heap.size, 0, none⟩) (cut s).length (min 81 (s.size + 1))) ∧ w' = w.alloc (.cells (Lib.cellsOf (cut s) (min 81 (s.size + 1))) 9)) at HSP
    have HT := Lib.hid htab
    have HS := Lib.hid hS
    have hlt := Tb.tab_lt htab
    clear htab hS hm hn
    generalize cut s = ws at *
    generalize nums s.data.toList = o at *
    go_enter Tryd.func19, Tryd.ntmps19
    by_cases h80 : 80 < ws.length
    · have e := HM.out h80
      subst e
      clear HM HF HC HLE
      go_wp2_with (go_at_call 45; refine HSP.out.mono ?_; rintro e w1 ⟨rfl, rfl⟩)
      go_ret2
      exact ⟨_, rfl, Own.nil _ _, (Below.refl _ _).alloc (Nat.le_refl _) _⟩
    · have hF := Lib.hid (HF.out (by omega))
      have HVS := Lib.hid (fun j xs h => Vr_step ws j xs h)
      have HVE := Lib.hid (fun xs => Vr_end ws xs)
      clear HM HF
      have hb0 : Below w.heap.size w (w.alloc (.cells (Lib.cellsOf ws (min 81 (s.size + 1))) 9)) := (Below.refl _ _).alloc (Nat.le_refl _) _
      have hsz0 : (w.alloc (.cells (Lib.cellsOf ws (min 81 (s.size + 1))) 9)).heap.size = w.heap.size + 1 := Array.size_push _
      have HC2 := Lib.hid (fun j h => HC.out j 9 h)
      go_wp2_with (go_at_call 45; refine HSP.out.mono ?_; rintro e w1 ⟨rfl, hw1⟩; rw [← hw1] at hb0 hsz0 HC2; clear hw1)
      have hlw : w.heap.size < w1.heap.size := by omega
      go_loopw [5, 7, 19] (fun v _ i wr => ∃ (j : Nat) (xs : List Int), j ≤ ws.length ∧ i = .int .i64 j ∧ Own wr w1.heap.size v xs ∧ xs.length = j ∧ Hid (o = Vr ws j xs) ∧ Below w1.heap.size w1 wr) (fun _ _ i _ => ws.length - (intOf i).toNat)
      case atStart => exact ⟨0, [], Nat.zero_le _, rfl, Own.nil _ _, rfl, hF, Below.refl _ _⟩
      case round =>
        obtain ⟨j, xs, hj, rfl, ho, hx, hr, hb⟩ := hrel
        have hsz := hb.size
        have hbw : Below w.heap.size w wr := hb0.trans (hb.mono (by omega))
        by_cases hjl : j < ws.length
        · have hnx := Lib.hid (hr.out.trans (HVS.out j xs hjl))
          have c1 : wr.cell? ⟨w.heap.size, j, none⟩ = some (.string (ws.getD j ByteArray.empty)) := (hb.cell (p := ⟨w.heap.size, j, none⟩) hlw).trans (HC2.out j hjl)
          have hle := HLE.out j hjl
          clear hr
          generalize ws.getD j ByteArray.empty = x at *
          have HW := Lib.hid (Rd.impl_any x wr (by omega) (HS.out.below hbw) (Tb.tab_below HT.out hbw hlt))
          cases hrd : Rd.rd x.data.toList with
          | none =>
            rw [hrd] at hnx HW
            go_wp2_with (go_at_call 25; refine HW.out.mono ?_; rintro e w2 ⟨rfl, b1⟩)
            go_ret2
            rw [hnx.out]
            exact ⟨_, rfl, Own.nil _ _, hbw.trans (b1.mono (by omega))⟩
          | some n =>
            rw [hrd] at hnx HW
            have hn2 := Lib.hid (show o = Vr ws (j + 1) (xs ++ [n]) from hnx.out)
            have hx2 : (xs ++ [n]).length = j + 1 := by simp; omega
            clear hnx hrd
            go_wp2_with (first | (go_at_call 25; refine HW.out.mono ?_; rintro e w2 ⟨rfl, b1⟩) | (at_builtin; refine wpList_app _ rfl _ _ rfl w1.heap.size _ xs _ ?_ ?_ (ho.below b1 (Nat.le_refl _)) ?_ ?_ ?_; rfl; rfl))
            · omega
            · exact Nat.le_trans hsz b1.size
            intro v' w3 ho2 hb2
            rw [← hsz0] at ho2 hb2
            go_wp2
            go_roundw
            case rel => exact ⟨j + 1, xs ++ [n], by omega, by go_num, ho2, hx2, hn2, (hb.trans (b1.mono hsz)).trans hb2⟩
            case measure => simp [intOf]; omega
        · have ej : j = ws.length := by omega
          subst ej
          have hnx := Lib.hid (hr.out.trans (HVE.out xs))
          clear hr
          go_wp2
          go_ret2
          rw [hnx.out]
          exact ⟨_, rfl, ho.mono (by omega), hbw⟩
end Go.Proofs.YtdilbogjihafoaaDoor.Nm
