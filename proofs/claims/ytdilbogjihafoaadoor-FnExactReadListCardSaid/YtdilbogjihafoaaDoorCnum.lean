/- Contract of the model's reader of a list. -/
import Derived.Test.YtdilbogjihafoaaDoorCapp
import Derived.Test.YtdilbogjihafoaaDoorCread
import Derived.Test.YtdilbogjihafoaaDoorPlainNums
namespace Go.Proofs.YtdilbogjihafoaaDoor.Nm
open Go.RowKit
def Gl (o : Option (List Int)) (w : World) (e : Ending) (w' : World) : Prop := Res (o.getD []) o.isSome w e w'
/-- What is still to be read from the place j, when the word began at k. -/
def At (L : List UInt8) (j k : Nat) (xs : List Int) : Option (List Int) := if j ≤ L.length then go ((L.drop k).take (j - k)) (L.drop j) xs else some xs
theorem At_zero (L : List UInt8) : At L 0 0 [] = go [] L [] := by simp [At]
theorem At_end (L : List UInt8) (j k : Nat) (xs : List Int) (h : ¬ j ≤ L.length) : At L j k xs = some xs := by rw [At, if_neg h]
theorem At_go (s : ByteArray) (j k : Nat) (xs : List Int) (h : j < s.size) (hk : k ≤ j) (hc : s[j].toNat ≠ 32) : At s.data.toList j k xs = At s.data.toList (j + 1) k xs := by
  have hl : s.data.toList.length = s.size := by simp
  have hd : s.data.toList.drop j = s[j] :: s.data.toList.drop (j + 1) := by rw [List.drop_eq_getElem_cons (by omega)]; rfl
  have hb : s[j] ≠ 32 := fun e => hc (by rw [e]; rfl)
  have ht : (s.data.toList.drop k).take (j + 1 - k) = (s.data.toList.drop k).take (j - k) ++ [s[j]] := by
    rw [show j + 1 - k = (j - k) + 1 by omega, List.take_succ_eq_append_getElem (by rw [List.length_drop]; omega), List.getElem_drop]
    congr 2
    simp only [show k + (j - k) = j by omega]
    rfl
  unfold At
  rw [if_pos (by omega), if_pos (by omega), hd, go, if_neg hb, ht]
theorem At_cut (s : ByteArray) (j k : Nat) (xs : List Int) (h : j < s.size) (hc : s[j].toNat = 32) :
    At s.data.toList j k xs = (Rd.rd (s.extract k j).data.toList).bind fun n => if xs.length = 80 then none else At s.data.toList (j + 1) (j + 1) (xs ++ [n]) := by
  have hl : s.data.toList.length = s.size := by simp
  have hd : s.data.toList.drop j = s[j] :: s.data.toList.drop (j + 1) := by rw [List.drop_eq_getElem_cons (by omega)]; rfl
  have hb : s[j] = 32 := UInt8.toNat_inj.1 hc
  rw [Lib.extract_data]
  unfold At
  rw [if_pos (by omega), hd, go, if_pos hb]
  simp only [show j + 1 ≤ s.data.toList.length by omega, if_true, Nat.sub_self, List.take_zero]
theorem At_last (s : ByteArray) (k : Nat) (xs : List Int) :
    At s.data.toList s.size k xs = (Rd.rd (s.extract k s.size).data.toList).bind fun n => if xs.length = 80 then none else At s.data.toList (s.size + 1) (s.size + 1) (xs ++ [n]) := by
  have hl : s.data.toList.length = s.size := by simp
  rw [Lib.extract_data]
  unfold At
  rw [if_pos (by omega), List.drop_of_length_le (l := s.data.toList) (i := s.size) (by omega), go]
  simp only [show ¬ s.size + 1 ≤ s.data.toList.length by omega, if_false]
theorem ext_size (s : ByteArray) (k j : Nat) : (s.extract k j).size ≤ s.size := by rw [ByteArray.size_extract]; omega
theorem shape {w : World} {B : Nat} {v : Value} {xs : List Int} (h : Own w B v xs) : ∃ a c, v = .slice a xs.length c := by
  rcases h.cases with ⟨rfl, rfl⟩ | ⟨g, c, rfl, _⟩
  · exact ⟨_, _, rfl⟩
  · exact ⟨_, _, rfl⟩
set_option maxRecDepth 100000 in
set_option maxHeartbeats 2000000 in
theorem spec_nums (s : ByteArray) (w : World) (hs : s.size ≤ 1048576) :
    Calls Tryd.prog 54 #[.string s] w (Gl (nums s.data.toList) w) := by
  by_cases hn : s.data.toList = [110, 111, 110, 101]
  · have e0 : nums s.data.toList = some [] := by rw [nums, if_pos hn]
    rw [e0]
    have q : (s.toList == [110, 111, 110, 101]) = true := by rw [Rd.toList_eq, hn]; rfl
    clear hn e0
    go_enter Tryd.func54, Tryd.ntmps54
    go_wp2
    refine wp_loop_rounds 1 ?_
    rw [rounds_succ]
    go_wp2
    go_ret2
    exact ⟨_, rfl, World.ownsRow_lit w #[] 0 (Nat.le_refl _) (by unfold maxLen; omega) rfl, (Below.refl _ _).alloc (Nat.le_refl _) _⟩
  · have q : (s.toList == [110, 111, 110, 101]) = false := by rw [Rd.toList_eq, beq_eq_false_iff_ne]; exact hn
    have e0 : nums s.data.toList = At s.data.toList 0 0 [] := by rw [At_zero, nums, if_neg hn]
    have HG := Lib.hid (fun j k xs h hk hc => At_go s j k xs h hk hc)
    have HC := Lib.hid (fun j k xs h hc => At_cut s j k xs h hc)
    have HL := Lib.hid (fun k xs => At_last s k xs)
    have HE := Lib.hid (fun j k xs (h : ¬ j ≤ s.size) => At_end s.data.toList j k xs (by simpa using h))
    have HV := Lib.hid (fun k j w => Rd.spec_any (s.extract k j) w (Nat.le_trans (ext_size s k j) hs))
    have E0 := Lib.hid e0
    clear hn e0
    generalize nums s.data.toList = o at *
    go_enter Tryd.func54, Tryd.ntmps54
    go_wp2
    go_loopw [4, 5, 6] (fun v f i wr => ∃ (j k : Nat) (xs : List Int), j ≤ s.size + 1 ∧ k ≤ j ∧ i = .int .i64 j ∧ f = .int .i64 k ∧ Own wr w.heap.size v xs ∧ xs.length ≤ 80 ∧ Hid (o = At s.data.toList j k xs) ∧ Below w.heap.size w wr) (fun _ _ i _ => s.size + 1 - (intOf i).toNat)
    case atStart => exact ⟨0, 0, [], Nat.zero_le _, Nat.zero_le _, rfl, rfl, World.ownsRow_lit w #[] 0 (Nat.le_refl _) (by unfold maxLen; omega) rfl, by simp, Lib.hid E0.out, (Below.refl _ _).alloc (Nat.le_refl _) _⟩
    case round =>
      obtain ⟨j, k, xs, hj, hk, rfl, rfl, ho, hx, hr, hb⟩ := hrel
      have hsz := hb.size
      obtain ⟨av, cv, rfl⟩ := shape ho
      by_cases hlt : j < s.size
      · have hc255 : (s[j].toNat : Int) ≤ 255 := by have := s[j].toNat_lt; omega
        by_cases hc : s[j].toNat = 32
        · have hnx := Lib.hid (hr.out.trans (HC.out j k xs hlt hc))
          have HW := Lib.hid (fun w => HV.out k j w)
          have hm1 : ((s[j].toNat : Int) == 32) = true := by simp; omega
          clear hr
          cases hrd : Rd.rd (s.extract k j).data.toList with
          | none =>
            rw [hrd] at hnx HW
            go_wp2_with (go_at_call 48; refine (HW.out _).mono ?_; rintro e w1 ⟨rfl, b1⟩)
            go_ret2
            rw [hnx.out]
            exact ⟨_, rfl, Own.nil _ _, hb.trans (b1.mono hsz)⟩
          | some n =>
            rw [hrd] at hnx HW
            by_cases h80 : xs.length = 80
            · have hn2 := Lib.hid (show o = none by rw [hnx.out]; simp [h80])
              have hm2 : ((xs.length : Int) == 80) = true := by simp; omega
              clear hnx hrd
              go_wp2_with (go_at_call 48; refine (HW.out _).mono ?_; rintro e w1 ⟨rfl, b1⟩)
              go_ret2
              rw [hn2.out]
              exact ⟨_, rfl, Own.nil _ _, hb.trans (b1.mono hsz)⟩
            · have hn2 := Lib.hid (show o = At s.data.toList (j + 1) (j + 1) (xs ++ [n]) by rw [hnx.out]; simp [h80])
              have hm2 : ((xs.length : Int) == 80) = false := by simp; omega
              have hx2 : (xs ++ [n]).length ≤ 80 := by simp; omega
              clear hnx hrd
              go_wp2_with (first | (go_at_call 48; refine (HW.out _).mono ?_; rintro e w1 ⟨rfl, b1⟩) | (at_builtin; refine wpList_app _ rfl _ _ rfl w.heap.size _ xs _ ?_ ?_ (ho.below b1 (Nat.le_refl _)) ?_ ?_ ?_; rfl; rfl))
              · omega
              · exact Nat.le_trans hsz b1.size
              intro v' w2 ho2 hb2
              go_wp2
              go_roundw
              case rel => exact ⟨j + 1, j + 1, xs ++ [n], by omega, by omega, by go_num, by go_num, ho2, hx2, hn2, (hb.trans (b1.mono hsz)).trans hb2⟩
              case measure => simp [intOf]; omega
        · have hnx := Lib.hid (hr.out.trans (HG.out j k xs hlt hk hc))
          have hm1 : ((s[j].toNat : Int) == 32) = false := by simp; omega
          clear hr
          go_wp2
          go_roundw
          case rel => exact ⟨j + 1, k, xs, by omega, by omega, by go_num, rfl, ho, hx, hnx, hb⟩
          case measure => simp [intOf]; omega
      · by_cases he : j = s.size
        · subst he
          have hnx := Lib.hid (hr.out.trans (HL.out k xs))
          have HW := Lib.hid (fun w => HV.out k s.size w)
          clear hr
          cases hrd : Rd.rd (s.extract k s.size).data.toList with
          | none =>
            rw [hrd] at hnx HW
            go_wp2_with (go_at_call 48; refine (HW.out _).mono ?_; rintro e w1 ⟨rfl, b1⟩)
            go_ret2
            rw [hnx.out]
            exact ⟨_, rfl, Own.nil _ _, hb.trans (b1.mono hsz)⟩
          | some n =>
            rw [hrd] at hnx HW
            by_cases h80 : xs.length = 80
            · have hn2 := Lib.hid (show o = none by rw [hnx.out]; simp [h80])
              have hm2 : ((xs.length : Int) == 80) = true := by simp; omega
              clear hnx hrd
              go_wp2_with (go_at_call 48; refine (HW.out _).mono ?_; rintro e w1 ⟨rfl, b1⟩)
              go_ret2
              rw [hn2.out]
              exact ⟨_, rfl, Own.nil _ _, hb.trans (b1.mono hsz)⟩
            · have hn2 := Lib.hid (show o = At s.data.toList (s.size + 1) (s.size + 1) (xs ++ [n]) by rw [hnx.out]; simp [h80])
              have hm2 : ((xs.length : Int) == 80) = false := by simp; omega
              have hx2 : (xs ++ [n]).length ≤ 80 := by simp; omega
              clear hnx hrd
              go_wp2_with (first | (go_at_call 48; refine (HW.out _).mono ?_; rintro e w1 ⟨rfl, b1⟩) | (at_builtin; refine wpList_app _ rfl _ _ rfl w.heap.size _ xs _ ?_ ?_ (ho.below b1 (Nat.le_refl _)) ?_ ?_ ?_; rfl; rfl))
              · omega
              · exact Nat.le_trans hsz b1.size
              intro v' w2 ho2 hb2
              go_wp2
              go_roundw
              case rel => exact ⟨s.size + 1, s.size + 1, xs ++ [n], Nat.le_refl _, Nat.le_refl _, by go_num, by go_num, ho2, hx2, hn2, (hb.trans (b1.mono hsz)).trans hb2⟩
              case measure => simp [intOf]
        · have hnx := Lib.hid (hr.out.trans (HE.out j k xs (by omega)))
          clear hr
          go_wp2
          go_ret2
          rw [hnx.out]
          exact ⟨_, rfl, ho, hb⟩
theorem spec_rl (s : ByteArray) (w : World) (hs : s.size ≤ 1048576) : Calls Tryd.prog 30 #[.string s] w (Gl (nums s.data.toList) w) := by
  have H := Lib.hid (spec_nums s w hs)
  generalize nums s.data.toList = o at *
  go_enter Tryd.func30, Tryd.ntmps30
  go_wp2_with (go_at_call 54; refine H.out.mono ?_; rintro e w1 ⟨v, rfl, o1, b1⟩)
  go_ret2
  exact ⟨v, rfl, o1, b1⟩
end Go.Proofs.YtdilbogjihafoaaDoor.Nm
