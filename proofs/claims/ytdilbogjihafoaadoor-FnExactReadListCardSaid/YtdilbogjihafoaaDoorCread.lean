/- Contract of the model's reader of a decimal number. -/
import Derived.Test.YtdilbogjihafoaaDoorCdec
import Derived.Test.YtdilbogjihafoaaDoorClst
import Derived.Test.YtdilbogjihafoaaDoorPlainRead
namespace Go.Proofs.YtdilbogjihafoaaDoor.Rd
open Go.RowKit
def Got (o : Option Int) (w : World) (e : Ending) (w' : World) : Prop := e = .returned (.tuple #[.int .i64 (o.getD 0), .bool o.isSome]) ∧ Below w.heap.size w w'
/-- The walk behind the fold: the number n is held against its bounds and its text against s. -/
theorem rd_no_len (s : ByteArray) (h : ¬ s.size ≤ 11) : rd s.data.toList = none := by
  unfold rd
  rw [if_neg]
  intro hc
  have : s.data.toList.length = s.size := by simp
  omega
theorem rd_case (s : ByteArray) (n : Int) (h : s.size ≤ 11) (hn : num s.data.toList = n) :
    (Ls.inR n = true ∧ Lib.itoa n = s.data.toList ∧ rd s.data.toList = some n) ∨ (Ls.inR n = true ∧ Lib.itoa n ≠ s.data.toList ∧ rd s.data.toList = none) ∨ (Ls.inR n = false ∧ rd s.data.toList = none) := by
  have hl : s.data.toList.length ≤ 11 := by simpa using h
  by_cases h0 : -1000000000 ≤ n
  · by_cases h1 : n ≤ 1000000000
    · by_cases h2 : Lib.itoa n = s.data.toList
      · exact .inl ⟨Ls.inR_yes h0 h1, h2, by unfold rd; rw [hn, if_pos ⟨h2, h0, h1, hl⟩]⟩
      · exact .inr (.inl ⟨Ls.inR_yes h0 h1, h2, by unfold rd; rw [hn, if_neg (fun hc => h2 hc.1)]⟩)
    · exact .inr (.inr ⟨Ls.inR_high h1, by unfold rd; rw [hn, if_neg (fun hc => h1 hc.2.2.1)]⟩)
  · exact .inr (.inr ⟨Ls.inR_low h0, by unfold rd; rw [hn, if_neg (fun hc => h0 hc.2.1)]⟩)
theorem toList_eq (s : ByteArray) : s.toList = s.data.toList := ByteArray.toList_eq s
theorem str_eq (n : Int) (s : ByteArray) (h : Lib.itoa n = s.data.toList) : (⟨(Lib.itoa n).toArray⟩ : ByteArray) = s := by
  apply ByteArray.ext
  rw [h]
set_option maxRecDepth 100000 in
set_option maxHeartbeats 2000000 in
theorem spec_any (s : ByteArray) (w : World) (hs : s.size ≤ 1048576) :
    Calls Tryd.prog 48 #[.string s] w (Got (rd s.data.toList) w) := by
  by_cases h11 : s.size ≤ 11
  · have HS := Lib.hid (fun k => val_step s k)
    have HE := Lib.hid (val_end s)
    have HB := Lib.hid (fun k => val_bd s k h11)
    have HN1 := Lib.hid (num_minus s)
    have HN2 := Lib.hid (num_plus s)
    have HR := Lib.hid (fun n => rd_case s n h11)
    generalize rd s.data.toList = o at *
    go_enter Tryd.func48, Tryd.ntmps48
    go_wp2
    go_loop [4, 5] (fun n i => ∃ k c : Nat, k ≤ s.size ∧ c ≤ 99999999999 ∧ i = .int .i64 k ∧ n = .int .i64 c ∧ Hid (c = val (s.data.toList.take k))) (fun _ i => s.size - (intOf i).toNat)
    case atStart => exact ⟨0, 0, Nat.zero_le _, by omega, rfl, rfl, Lib.hid rfl⟩
    case round =>
      obtain ⟨k, c, hk, hc, rfl, rfl, hx⟩ := hrel
      by_cases hlt : k < s.size
      · have hs2 := HS.out k hlt
        have hbd := HB.out (k + 1)
        rw [← hx.out, st] at hs2
        have HS2 := Lib.hid hs2
        have hb : (s[k].toNat : Int) ≤ 255 := by have := s[k].toNat_lt; omega
        clear hs2
        by_cases g1 : (48 : Int) ≤ (s[k].toNat : Int)
        · by_cases g2 : (s[k].toNat : Int) ≤ 57
          · have hv : Hid (val (s.data.toList.take (k + 1)) = 10 * c + (s[k].toNat - 48)) := by show _ = _; rw [HS2.out, if_pos ⟨by omega, by omega⟩]
            have hv2 : 10 * c + (s[k].toNat - 48) ≤ 99999999999 := by rw [← hv.out]; exact hbd
            clear HS2 hbd
            go_wp2
            go_round
            case rel => exact ⟨k + 1, 10 * c + (s[k].toNat - 48), by omega, hv2, by go_num, by go_num, Lib.hid hv.out.symm⟩
            case measure => simp [intOf]; omega
          · have hv : Hid (val (s.data.toList.take (k + 1)) = c) := by show _ = _; rw [HS2.out, if_neg (fun h => g2 (by omega))]
            clear HS2 hbd
            go_wp2
            go_round
            case rel => exact ⟨k + 1, c, by omega, hc, by go_num, rfl, Lib.hid hv.out.symm⟩
            case measure => simp [intOf]; omega
        · have hv : Hid (val (s.data.toList.take (k + 1)) = c) := by show _ = _; rw [HS2.out, if_neg (fun h => g1 (by omega))]
          clear HS2 hbd
          go_wp2
          go_round
          case rel => exact ⟨k + 1, c, by omega, hc, by go_num, rfl, Lib.hid hv.out.symm⟩
          case measure => simp [intOf]; omega
      · have e : k = s.size := by omega
        subst e
        have hx2 := hx.out
        rw [HE.out] at hx2
        have HX := Lib.hid hx2
        clear hx hx2
        have hc2 : (c : Int) ≤ 99999999999 := by omega
        by_cases h0 : 0 < s.size
        · have hb : (s[0].toNat : Int) ≤ 255 := by have := s[0].toNat_lt; omega
          by_cases hm : s[0].toNat = 45
          · have hnum := Lib.hid (HN1.out h0 hm)
            rcases HR.out (-(c : Int)) (by rw [HX.out]; exact hnum.out) with ⟨r1, r2, r3⟩ | ⟨r1, r2, r3⟩ | ⟨r1, r3⟩
            · have hI := Lib.hid (Ls.in_spec (-(c : Int)) w)
              rw [r1] at hI
              have HD := Lib.hid (Dc.dec_any (-(c : Int)) w (by omega) (by omega))
              have q : (Lib.itoa (-(c : Int)) == s.toList) = true := by rw [r2, toList_eq]; simp
              have hm1 : ((s[0].toNat : Int) == 45) = true := by simp; omega
              clear r1 r2 hm
              subst r3
              go_wp2_with (first | (go_at_call 62; refine hI.out.mono ?_; rintro e w' ⟨rfl, rfl⟩) | (go_at_call 46; refine HD.out.mono ?_; rintro e w1 ⟨rfl, b1⟩))
              go_ret2
              exact ⟨rfl, b1⟩
            · have hI := Lib.hid (Ls.in_spec (-(c : Int)) w)
              rw [r1] at hI
              have HD := Lib.hid (Dc.dec_any (-(c : Int)) w (by omega) (by omega))
              have q : (Lib.itoa (-(c : Int)) == s.toList) = false := by rw [toList_eq, beq_eq_false_iff_ne]; exact r2
              have hm1 : ((s[0].toNat : Int) == 45) = true := by simp; omega
              clear r1 r2 hm
              subst r3
              go_wp2_with (first | (go_at_call 62; refine hI.out.mono ?_; rintro e w' ⟨rfl, rfl⟩) | (go_at_call 46; refine HD.out.mono ?_; rintro e w1 ⟨rfl, b1⟩))
              go_ret2
              exact ⟨rfl, b1⟩
            · have hI := Lib.hid (Ls.in_spec (-(c : Int)) w)
              rw [r1] at hI
              have hm1 : ((s[0].toNat : Int) == 45) = true := by simp; omega
              clear r1 hm
              subst r3
              go_wp2_with (go_at_call 62; refine hI.out.mono ?_; rintro e w' ⟨rfl, rfl⟩)
              go_ret2
              exact ⟨rfl, Below.refl _ _⟩
          · have hnum := Lib.hid (HN2.out (fun _ => hm))
            rcases HR.out ((c : Int)) (by rw [HX.out]; exact hnum.out) with ⟨r1, r2, r3⟩ | ⟨r1, r2, r3⟩ | ⟨r1, r3⟩
            · have hI := Lib.hid (Ls.in_spec ((c : Int)) w)
              rw [r1] at hI
              have HD := Lib.hid (Dc.dec_any ((c : Int)) w (by omega) (by omega))
              have q : (Lib.itoa ((c : Int)) == s.toList) = true := by rw [r2, toList_eq]; simp
              have hm1 : ((s[0].toNat : Int) == 45) = false := by simp; omega
              clear r1 r2 hm
              subst r3
              go_wp2_with (first | (go_at_call 62; refine hI.out.mono ?_; rintro e w' ⟨rfl, rfl⟩) | (go_at_call 46; refine HD.out.mono ?_; rintro e w1 ⟨rfl, b1⟩))
              go_ret2
              exact ⟨rfl, b1⟩
            · have hI := Lib.hid (Ls.in_spec ((c : Int)) w)
              rw [r1] at hI
              have HD := Lib.hid (Dc.dec_any ((c : Int)) w (by omega) (by omega))
              have q : (Lib.itoa ((c : Int)) == s.toList) = false := by rw [toList_eq, beq_eq_false_iff_ne]; exact r2
              have hm1 : ((s[0].toNat : Int) == 45) = false := by simp; omega
              clear r1 r2 hm
              subst r3
              go_wp2_with (first | (go_at_call 62; refine hI.out.mono ?_; rintro e w' ⟨rfl, rfl⟩) | (go_at_call 46; refine HD.out.mono ?_; rintro e w1 ⟨rfl, b1⟩))
              go_ret2
              exact ⟨rfl, b1⟩
            · have hI := Lib.hid (Ls.in_spec ((c : Int)) w)
              rw [r1] at hI
              have hm1 : ((s[0].toNat : Int) == 45) = false := by simp; omega
              clear r1 hm
              subst r3
              go_wp2_with (go_at_call 62; refine hI.out.mono ?_; rintro e w' ⟨rfl, rfl⟩)
              go_ret2
              exact ⟨rfl, Below.refl _ _⟩
        · have hnum := Lib.hid (HN2.out (fun h => absurd h h0))
          rcases HR.out ((c : Int)) (by rw [HX.out]; exact hnum.out) with ⟨r1, r2, r3⟩ | ⟨r1, r2, r3⟩ | ⟨r1, r3⟩
          · have hI := Lib.hid (Ls.in_spec ((c : Int)) w)
            rw [r1] at hI
            have HD := Lib.hid (Dc.dec_any ((c : Int)) w (by omega) (by omega))
            have q : (Lib.itoa ((c : Int)) == s.toList) = true := by rw [r2, toList_eq]; simp
            clear r1 r2 hnum
            subst r3
            go_wp2_with (first | (go_at_call 62; refine hI.out.mono ?_; rintro e w' ⟨rfl, rfl⟩) | (go_at_call 46; refine HD.out.mono ?_; rintro e w1 ⟨rfl, b1⟩))
            go_ret2
            exact ⟨rfl, b1⟩
          · have hI := Lib.hid (Ls.in_spec ((c : Int)) w)
            rw [r1] at hI
            have HD := Lib.hid (Dc.dec_any ((c : Int)) w (by omega) (by omega))
            have q : (Lib.itoa ((c : Int)) == s.toList) = false := by rw [toList_eq, beq_eq_false_iff_ne]; exact r2
            clear r1 r2 hnum
            subst r3
            go_wp2_with (first | (go_at_call 62; refine hI.out.mono ?_; rintro e w' ⟨rfl, rfl⟩) | (go_at_call 46; refine HD.out.mono ?_; rintro e w1 ⟨rfl, b1⟩))
            go_ret2
            exact ⟨rfl, b1⟩
          · have hI := Lib.hid (Ls.in_spec ((c : Int)) w)
            rw [r1] at hI
            clear r1 hnum
            subst r3
            go_wp2_with (go_at_call 62; refine hI.out.mono ?_; rintro e w' ⟨rfl, rfl⟩)
            go_ret2
            exact ⟨rfl, Below.refl _ _⟩
  · rw [rd_no_len s h11]
    have h : (11 : Int) < (s.size : Int) := by omega
    clear h11
    go_enter Tryd.func48, Tryd.ntmps48
    go_wp2
    go_ret2
    exact ⟨rfl, Below.refl _ _⟩
end Go.Proofs.YtdilbogjihafoaaDoor.Rd
