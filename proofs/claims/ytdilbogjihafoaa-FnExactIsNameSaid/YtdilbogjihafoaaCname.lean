/- Contracts of the model's and the program's IsName: both say whether a text has 1 to 8 bytes, all of them small letters. -/
import Derived.Test.YtdilbogjihafoaaCBase
import Derived.Lib.OthersKept
import Derived.Laws.RangeAny
namespace Go.Proofs.Ytdilbogjihafoaa.Nm
open Go.RowKit
def lt (c : UInt8) : Bool := decide (97 ≤ (c.toNat : Int)) && decide ((c.toNat : Int) ≤ 122)
def allB (s : ByteArray) : Bool := s.data.toList.all lt
def fine (s : ByteArray) : Bool := decide (1 ≤ (s.size : Int)) && decide ((s.size : Int) ≤ 8) && allB s
def ans (b : Bool) (w : World) (e : Ending) (w' : World) : Prop := e = .returned (.bool b) ∧ Below w.heap.size w w'
theorem take_snoc (s : ByteArray) (k : Nat) (h : k < s.size) : s.data.toList.take (k + 1) = s.data.toList.take k ++ [s[k]] := by
  rw [List.take_succ_eq_append_getElem (by simpa using h)]; rfl
theorem all_step (s : ByteArray) (k : Nat) (h : k < s.size) : (s.data.toList.take (k + 1)).all lt = ((s.data.toList.take k).all lt && lt s[k]) := by
  rw [take_snoc s k h, List.all_append]; simp
theorem all_end (s : ByteArray) : (s.data.toList.take s.size).all lt = allB s := by unfold allB; rw [List.take_of_length_le (by simp)]
theorem all_no (s : ByteArray) (k : Nat) (h : k < s.size) (hn : lt s[k] = false) : allB s = false := by
  unfold allB
  rw [List.all_eq_false]
  refine ⟨s[k], ?_, by simp [hn]⟩
  exact (List.mem_iff_getElem.2 ⟨k, by simpa using h, rfl⟩)
set_option maxHeartbeats 1000000 in
theorem spec_loop (s : ByteArray) (w : World) (hs : s.size ≤ 1048576) (f0 : Bool) (h0 : f0 = (decide (1 ≤ (s.size : Int)) && decide ((s.size : Int) ≤ 8))) :
    Calls Try.prog 22 #[.string s] w (ans (f0 && allB s) w) := by
  have H0 := Lib.hid h0
  clear h0
  by_cases g1 : 1 ≤ (s.size : Int)
  · by_cases g2 : (s.size : Int) ≤ 8
    · have hf : f0 = true := by rw [H0.out, decide_eq_true g1, decide_eq_true g2]; rfl
      clear H0
      subst hf
      go_enter Try.func22, Try.ntmps22
      go_wp2
      go_loop [3, 4] (fun f i => ∃ (k : Nat) (b : Bool), k ≤ s.size ∧ i = .int .i64 k ∧ f = .bool b ∧ Hid (b = (true && (s.data.toList.take k).all lt))) (fun _ i => s.size - (intOf i).toNat)
      case atStart => exact ⟨0, true, Nat.zero_le _, rfl, rfl, Lib.hid (by simp)⟩
      case round =>
        obtain ⟨k, b, hk, rfl, rfl, hx⟩ := hrel
        by_cases hlt : k < s.size
        · have HS := Lib.hid (all_step s k hlt)
          have HX := Lib.hid (show (true && (s.data.toList.take (k + 1)).all lt) = (b && lt s[k]) by rw [HS.out, hx.out, Bool.and_assoc])
          have hb : (s[k].toNat : Int) ≤ 255 := by have := s[k].toNat_lt; omega
          clear hx
          cases b
          · go_wp2
            go_round
            case rel => exact ⟨k + 1, false, by omega, by go_num, rfl, Lib.hid (by rw [HX.out]; rfl)⟩
            case measure => simp [intOf]; omega
          · by_cases g1 : (97 : Int) ≤ (s[k].toNat : Int)
            · by_cases g2 : (s[k].toNat : Int) ≤ 122
              · have d : lt s[k] = true := by simp only [lt, decide_eq_true g1, decide_eq_true g2]; rfl
                have D := Lib.hid d
                clear d
                go_wp2
                go_round
                case rel => exact ⟨k + 1, true, by omega, by go_num, rfl, Lib.hid (by rw [HX.out, D.out]; rfl)⟩
                case measure => simp [intOf]; omega
              · have d : lt s[k] = false := by simp only [lt, decide_eq_false g2, Bool.and_false]
                have D := Lib.hid d
                clear d
                go_wp2
                go_round
                case rel => exact ⟨k + 1, false, by omega, by go_num, rfl, Lib.hid (by rw [HX.out, D.out]; rfl)⟩
                case measure => simp [intOf]; omega
            · have d : lt s[k] = false := by simp only [lt, decide_eq_false g1, Bool.false_and]
              have D := Lib.hid d
              clear d
              go_wp2
              go_round
              case rel => exact ⟨k + 1, false, by omega, by go_num, rfl, Lib.hid (by rw [HX.out, D.out]; rfl)⟩
              case measure => simp [intOf]; omega
        · go_wp2
          go_ret
          have e : k = s.size := by omega
          subst e
          have hx2 := hx.out
          rw [all_end] at hx2
          subst hx2
          exact ⟨ret_bool (by simp), Below.refl _ _⟩

    · have hf : f0 = false := by rw [H0.out, decide_eq_false g2, Bool.and_false]
      clear H0
      subst hf
      go_enter Try.func22, Try.ntmps22
      go_wp2
      go_loop [3, 4] (fun f i => ∃ (k : Nat) (b : Bool), k ≤ s.size ∧ i = .int .i64 k ∧ f = .bool b ∧ Hid (b = (false && (s.data.toList.take k).all lt))) (fun _ i => s.size - (intOf i).toNat)
      case atStart => exact ⟨0, false, Nat.zero_le _, rfl, rfl, Lib.hid (by simp)⟩
      case round =>
        obtain ⟨k, b, hk, rfl, rfl, hx⟩ := hrel
        by_cases hlt : k < s.size
        · have HS := Lib.hid (all_step s k hlt)
          have HX := Lib.hid (show (false && (s.data.toList.take (k + 1)).all lt) = (b && lt s[k]) by rw [HS.out, hx.out, Bool.and_assoc])
          have hb : (s[k].toNat : Int) ≤ 255 := by have := s[k].toNat_lt; omega
          clear hx
          cases b
          · go_wp2
            go_round
            case rel => exact ⟨k + 1, false, by omega, by go_num, rfl, Lib.hid (by rw [HX.out]; rfl)⟩
            case measure => simp [intOf]; omega
          · by_cases g1 : (97 : Int) ≤ (s[k].toNat : Int)
            · by_cases g2 : (s[k].toNat : Int) ≤ 122
              · have d : lt s[k] = true := by simp only [lt, decide_eq_true g1, decide_eq_true g2]; rfl
                have D := Lib.hid d
                clear d
                go_wp2
                go_round
                case rel => exact ⟨k + 1, true, by omega, by go_num, rfl, Lib.hid (by rw [HX.out, D.out]; rfl)⟩
                case measure => simp [intOf]; omega
              · have d : lt s[k] = false := by simp only [lt, decide_eq_false g2, Bool.and_false]
                have D := Lib.hid d
                clear d
                go_wp2
                go_round
                case rel => exact ⟨k + 1, false, by omega, by go_num, rfl, Lib.hid (by rw [HX.out, D.out]; rfl)⟩
                case measure => simp [intOf]; omega
            · have d : lt s[k] = false := by simp only [lt, decide_eq_false g1, Bool.false_and]
              have D := Lib.hid d
              clear d
              go_wp2
              go_round
              case rel => exact ⟨k + 1, false, by omega, by go_num, rfl, Lib.hid (by rw [HX.out, D.out]; rfl)⟩
              case measure => simp [intOf]; omega
        · go_wp2
          go_ret
          have e : k = s.size := by omega
          subst e
          have hx2 := hx.out
          rw [all_end] at hx2
          subst hx2
          exact ⟨ret_bool (by simp), Below.refl _ _⟩

  · have hf : f0 = false := by rw [H0.out, decide_eq_false g1, Bool.false_and]
    clear H0
    subst hf
    go_enter Try.func22, Try.ntmps22
    go_wp2
    go_loop [3, 4] (fun f i => ∃ (k : Nat) (b : Bool), k ≤ s.size ∧ i = .int .i64 k ∧ f = .bool b ∧ Hid (b = (false && (s.data.toList.take k).all lt))) (fun _ i => s.size - (intOf i).toNat)
    case atStart => exact ⟨0, false, Nat.zero_le _, rfl, rfl, Lib.hid (by simp)⟩
    case round =>
      obtain ⟨k, b, hk, rfl, rfl, hx⟩ := hrel
      by_cases hlt : k < s.size
      · have HS := Lib.hid (all_step s k hlt)
        have HX := Lib.hid (show (false && (s.data.toList.take (k + 1)).all lt) = (b && lt s[k]) by rw [HS.out, hx.out, Bool.and_assoc])
        have hb : (s[k].toNat : Int) ≤ 255 := by have := s[k].toNat_lt; omega
        clear hx
        cases b
        · go_wp2
          go_round
          case rel => exact ⟨k + 1, false, by omega, by go_num, rfl, Lib.hid (by rw [HX.out]; rfl)⟩
          case measure => simp [intOf]; omega
        · by_cases g1 : (97 : Int) ≤ (s[k].toNat : Int)
          · by_cases g2 : (s[k].toNat : Int) ≤ 122
            · have d : lt s[k] = true := by simp only [lt, decide_eq_true g1, decide_eq_true g2]; rfl
              have D := Lib.hid d
              clear d
              go_wp2
              go_round
              case rel => exact ⟨k + 1, true, by omega, by go_num, rfl, Lib.hid (by rw [HX.out, D.out]; rfl)⟩
              case measure => simp [intOf]; omega
            · have d : lt s[k] = false := by simp only [lt, decide_eq_false g2, Bool.and_false]
              have D := Lib.hid d
              clear d
              go_wp2
              go_round
              case rel => exact ⟨k + 1, false, by omega, by go_num, rfl, Lib.hid (by rw [HX.out, D.out]; rfl)⟩
              case measure => simp [intOf]; omega
          · have d : lt s[k] = false := by simp only [lt, decide_eq_false g1, Bool.false_and]
            have D := Lib.hid d
            clear d
            go_wp2
            go_round
            case rel => exact ⟨k + 1, false, by omega, by go_num, rfl, Lib.hid (by rw [HX.out, D.out]; rfl)⟩
            case measure => simp [intOf]; omega
      · go_wp2
        go_ret
        have e : k = s.size := by omega
        subst e
        have hx2 := hx.out
        rw [all_end] at hx2
        subst hx2
        exact ⟨ret_bool (by simp), Below.refl _ _⟩

set_option maxHeartbeats 1000000 in
theorem impl_any (s : ByteArray) (w : World) (hs : s.size ≤ 1048576) :
    Calls Try.prog 23 #[.string s] w (ans (fine s) w) := by
  by_cases g1 : 1 ≤ (s.size : Int)
  · by_cases g2 : (s.size : Int) ≤ 8
    · have hF : fine s = allB s := by unfold fine; rw [decide_eq_true g1, decide_eq_true g2]; rfl
      rw [hF]
      clear hF
      have hk0 : (w.iter s 0).heap[w.heap.size]? = some (.stringIter s 0) := World.iter_heap w s 0
      have hb0 : Below w.heap.size w (w.iter s 0) := (Below.refl _ w).alloc (Nat.le_refl _) _
      go_enter Try.func23, Try.ntmps23
      go_wp2
      go_loopw [4] (fun _ wr => ∃ pos : Nat, pos ≤ s.size ∧ wr.heap[w.heap.size]? = some (.stringIter s pos) ∧ Hid ((s.data.toList.take pos).all lt = true) ∧ Below w.heap.size w wr)
        (fun _ wr => s.size - wr.iterPos w.heap.size)
      case atStart => exact ⟨0, Nat.zero_le _, hk0, Lib.hid rfl, hb0⟩
      case round =>
        obtain ⟨pos, hps, hk, hx, hnx⟩ := hrel
        clear hk0 hb0
        by_cases hp : pos < s.size
        · have hmu : wr.iterPos w.heap.size = pos := by simp [World.iterPos, hk]
          have HS := Lib.hid (all_step s pos hp)
          have HN := Lib.hid (all_no s pos hp)
          by_cases h128 : (s[pos]'hp).toNat < 128
          · have hnext : ∀ ty, (Instr.next (.pointer (some ⟨w.heap.size, 0, none⟩)) true ty).run Try.prog wr = _ := fun ty => Lib.run_next_ascii_at wr w.heap.size s pos ty hk hp h128
            have hk1 := Lib.iterAt_heap wr w.heap.size s pos (pos + 1) hk
            have hnx1 : Below w.heap.size w (wr.iterAt w.heap.size s (pos + 1)) := Lib.below_iterAt hnx (by omega) s (pos + 1)
            generalize wr.iterAt w.heap.size s (pos + 1) = W1 at hnext hk1 hnx1
            have hmu2 : W1.iterPos w.heap.size = pos + 1 := by simp [World.iterPos, hk1]
            by_cases q1 : (97 : Int) ≤ (s[pos].toNat : Int)
            · by_cases q2 : (s[pos].toNat : Int) ≤ 122
              · have d : lt s[pos] = true := by simp only [lt, decide_eq_true q1, decide_eq_true q2]; rfl
                have D := Lib.hid d
                have M1 := Lib.hid hmu
                have M2 := Lib.hid hmu2
                clear d hmu hmu2
                go_wp2
                go_roundw
                case rel => exact ⟨pos + 1, by omega, hk1, Lib.hid (by rw [HS.out, hx.out, D.out]; rfl), hnx1⟩
                case measure => rw [M1.out, M2.out]; omega
              · have d : lt s[pos] = false := by simp only [lt, decide_eq_false q2, Bool.and_false]
                have D := Lib.hid (HN.out d)
                clear d hmu hmu2
                go_wp2
                go_ret
                exact ⟨ret_bool D.out.symm, hnx1⟩
            · have d : lt s[pos] = false := by simp only [lt, decide_eq_false q1, Bool.false_and]
              have D := Lib.hid (HN.out d)
              clear d hmu hmu2
              go_wp2
              go_ret
              exact ⟨ret_bool D.out.symm, hnx1⟩
          · have hnext : ∀ ty, (Instr.next (.pointer (some ⟨w.heap.size, 0, none⟩)) true ty).run Try.prog wr = _ := fun ty => Lib.run_next_any_at wr w.heap.size s pos ty hk hp
            have hnx1 : Below w.heap.size w (wr.iterAt w.heap.size s (pos + (Utf8.decode s pos).2)) := Lib.below_iterAt hnx (by omega) s _
            have hr := (decode_high s pos hp (by omega)).1
            have hr2 : (128 : Int) ≤ ((Utf8.decode s pos).1 : Nat) := by omega
            have d : lt s[pos] = false := by simp only [lt, decide_eq_false (show ¬ ((s[pos]'hp).toNat : Int) ≤ 122 by omega), Bool.and_false]
            have D := Lib.hid (HN.out d)
            generalize wr.iterAt w.heap.size s (pos + (Utf8.decode s pos).2) = W1 at hnext hnx1
            generalize (Utf8.decode s pos).1 = r at *
            clear d hmu hr
            go_wp2
            go_ret
            exact ⟨ret_bool D.out.symm, hnx1⟩
        · have hnext : ∀ ty, (Instr.next (.pointer (some ⟨w.heap.size, 0, none⟩)) true ty).run Try.prog wr = _ := fun ty => Lib.run_next_end_at wr w.heap.size s pos ty hk hp
          have e : pos = s.size := by omega
          subst e
          have D := Lib.hid (show allB s = true by rw [← all_end, hx.out])
          clear hx
          go_wp2
          go_ret
          exact ⟨ret_bool D.out.symm, hnx⟩
    · have hF : fine s = false := by unfold fine; rw [decide_eq_false g2, Bool.and_false, Bool.false_and]
      rw [hF]
      clear hF
      go_enter Try.func23, Try.ntmps23
      go_wp2
      go_ret
      exact ⟨rfl, Below.refl _ _⟩
  · have hF : fine s = false := by unfold fine; rw [decide_eq_false g1, Bool.false_and, Bool.false_and]
    rw [hF]
    clear hF
    go_enter Try.func23, Try.ntmps23
    go_wp2
    go_ret
    exact ⟨rfl, Below.refl _ _⟩
end Go.Proofs.Ytdilbogjihafoaa.Nm
