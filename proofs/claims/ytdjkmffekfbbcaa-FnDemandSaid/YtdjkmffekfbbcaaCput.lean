/- Contracts of the model's insertion of a number into a rising list, and of its set of a list. -/
import Derived.Test.YtdjkmffekfbbcaaCuses
import Derived.Test.YtdjkmffekfbbcaaCapp
namespace Go.Proofs.Ytdjkmffekfbbcaa.Tr
open Go.RowKit
theorem putK_succ (xs : List Int) (n : Int) (j : Nat) (l : List Int) (b : Bool) (h : putK xs n j = (l, b)) :
    putK xs n (j + 1) = if b = false ∧ n ≤ xs.getD j 0 then (if n < xs.getD j 0 then l ++ [n, xs.getD j 0] else l ++ [xs.getD j 0], true) else (l ++ [xs.getD j 0], b) := by
  rw [putK, h]
set_option maxHeartbeats 1000000 in
theorem put_s (a : Option Addr) (c : Nat) (xs : List Int) (n : Int) (w : World) (hn : xs.length ≤ 1000) (hr : Row w a xs) :
    Calls Try.prog 69 #[.slice a xs.length c, .int .i64 n] w (Lb (put xs n) w) := by
  have HC := Lib.hid hr
  have HE := Lib.hid (putK_end xs n)
  have HS := Lib.hid (putK_succ xs n)
  have HL := Lib.hid (putK_length xs n)
  clear hr
  unfold Row at HC
  generalize hN : xs.length = N at *
  go_enter Try.func69, Try.ntmps69
  go_wp2
  go_loopw [5, 6, 7] (fun v d i wr => ∃ (j : Nat) (l : List Int) (b : Bool), j ≤ N ∧ i = .int .i64 j ∧ d = .bool b ∧ Hid (putK xs n j = (l, b)) ∧ Own wr w.heap.size v l ∧ Below w.heap.size w wr) (fun _ _ i _ => N - (intOf i).toNat)
  case atStart => exact ⟨0, [], false, Nat.zero_le _, rfl, rfl, Lib.hid rfl, World.ownsRow_lit w #[] 0 (Nat.le_refl _) (by unfold maxLen; omega) rfl, (Below.refl _ _).alloc (Nat.le_refl _) _⟩
  case round =>
    obtain ⟨j, l, b, hj, rfl, rfl, hp, ho, hb⟩ := hrel
    have hsz := hb.size
    have hll : l.length ≤ j + 1 := by have := (HL.out j).1; rw [hp.out] at this; exact this
    by_cases hlt : j < N
    · obtain ⟨b0, off, rfl, c1, hb0⟩ := HC.out j hlt
      have c2 : wr.cell? ⟨b0, off + j, none⟩ = some (.int .i64 (xs.getD j 0)) := (hb.cell (p := ⟨b0, off + j, none⟩) hb0).trans c1
      have hs := Lib.hid (HS.out j l b hp.out)
      clear c1
      generalize xs.getD j 0 = u at *
      have fin : ∀ (l' : List Int) (b' : Bool), (if b = false ∧ n ≤ u then (if n < u then l ++ [n, u] else l ++ [u], true) else (l ++ [u], b)) = (l', b') → Hid (putK xs n (j + 1) = (l', b')) := fun l' b' h => hs.out.trans h
      have FIN := Lib.hid fin
      clear fin hs hp
      cases b
      · by_cases h1 : n ≤ u
        · by_cases h2 : n < u
          · have hf := FIN.out (l ++ [n, u]) true (by rw [if_pos ⟨rfl, h1⟩, if_pos h2])
            clear FIN
            have hq1 : (l).length + 1 ≤ 1000000000 := by omega
            go_wp2_with (at_builtin; refine wpList_app _ rfl _ _ rfl w.heap.size _ l _ ?_ ?_ ho hq1 hsz ?_; rfl; rfl)
            intro v1 w1 ho1 hb1
            have hsz1 : w.heap.size ≤ w1.heap.size := Nat.le_trans hsz hb1.size
            have c3 : w1.cell? ⟨b0, off + j, none⟩ = some (.int .i64 u) := (hb1.cell (p := ⟨b0, off + j, none⟩) hb0).trans c2
            clear c2 ho
            have hq2 : (l ++ [n]).length + 1 ≤ 1000000000 := by simp; omega
            go_wp2_with (at_builtin; refine wpList_app _ rfl _ _ rfl w.heap.size _ (l ++ [n]) _ ?_ ?_ ho1 hq2 hsz1 ?_; rfl; rfl)
            intro v2 w2 ho2 hb2
            go_wp2
            go_roundw
            case rel => exact ⟨j + 1, l ++ [n, u], true, by omega, by go_num, rfl, hf, by simpa using ho2, (hb.trans hb1).trans hb2⟩
            case measure => simp [intOf]; omega
          · have hf := FIN.out (l ++ [u]) true (by rw [if_pos ⟨rfl, h1⟩, if_neg h2])
            clear FIN
            have hq3 : (l).length + 1 ≤ 1000000000 := by omega
            go_wp2_with (at_builtin; refine wpList_app _ rfl _ _ rfl w.heap.size _ l _ ?_ ?_ ho hq3 hsz ?_; rfl; rfl)
            intro v1 w1 ho1 hb1
            go_wp2
            go_roundw
            case rel => exact ⟨j + 1, l ++ [u], true, by omega, by go_num, rfl, hf, ho1, hb.trans hb1⟩
            case measure => simp [intOf]; omega
        · have hf := FIN.out (l ++ [u]) false (by rw [if_neg (fun h => h1 h.2)])
          clear FIN
          have hq4 : (l).length + 1 ≤ 1000000000 := by omega
          go_wp2_with (at_builtin; refine wpList_app _ rfl _ _ rfl w.heap.size _ l _ ?_ ?_ ho hq4 hsz ?_; rfl; rfl)
          intro v1 w1 ho1 hb1
          go_wp2
          go_roundw
          case rel => exact ⟨j + 1, l ++ [u], false, by omega, by go_num, rfl, hf, ho1, hb.trans hb1⟩
          case measure => simp [intOf]; omega
      · have hf := FIN.out (l ++ [u]) true (by rw [if_neg (fun h => by cases h.1)])
        clear FIN
        have hq5 : (l).length + 1 ≤ 1000000000 := by omega
        go_wp2_with (at_builtin; refine wpList_app _ rfl _ _ rfl w.heap.size _ l _ ?_ ?_ ho hq5 hsz ?_; rfl; rfl)
        intro v1 w1 ho1 hb1
        go_wp2
        go_roundw
        case rel => exact ⟨j + 1, l ++ [u], true, by omega, by go_num, rfl, hf, ho1, hb.trans hb1⟩
        case measure => simp [intOf]; omega
    · have e : j = N := by omega
      subst e
      have he := Lib.hid HE.out
      rw [hp.out] at he
      clear hp HE
      cases b
      · have hq6 : (l).length + 1 ≤ 1000000000 := by omega
        go_wp2_with (at_builtin; refine wpList_app _ rfl _ _ rfl w.heap.size _ l _ ?_ ?_ ho hq6 hsz ?_; rfl; rfl)
        intro v1 w1 ho1 hb1
        go_wp2
        go_ret
        have e2 : l ++ [n] = put xs n := he.out
        exact ⟨_, rfl, by rw [← e2]; exact ho1, hb.trans hb1⟩
      · go_wp2
        go_ret
        have e2 : l = put xs n := he.out
        exact ⟨_, rfl, by rw [← e2]; exact ho, hb⟩
theorem put_sR {v : Value} {xs : List Int} {w : World} (n : Int) (h : Rd w v xs) (hn : xs.length ≤ 1000) : Calls Try.prog 69 #[v, .int .i64 n] w (Lb (put xs n) w) := by
  obtain ⟨a, c, rfl, _, _, hr⟩ := h
  exact put_s a c xs n w hn hr
theorem setP_take (xs : List Int) (j : Nat) (h : j < xs.length) : setP (xs.take (j + 1)) = put (setP (xs.take j)) (xs.getD j 0) := by
  rw [List.take_succ_eq_append_getElem h, setP_snoc, getD_get' xs j h]
set_option maxHeartbeats 1000000 in
theorem set_s (a : Option Addr) (c : Nat) (xs : List Int) (w : World) (hn : xs.length ≤ 1000) (hr : Row w a xs) :
    Calls Try.prog 58 #[.slice a xs.length c] w (Lb (setP xs) w) := by
  have HC := Lib.hid hr
  have HS := Lib.hid (setP_take xs)
  have HL := Lib.hid (fun j => setP_length (xs.take j))
  have HE := Lib.hid (show xs.take xs.length = xs by rw [List.take_length])
  clear hr
  unfold Row at HC
  generalize hN : xs.length = N at *
  go_enter Try.func58, Try.ntmps58
  go_wp2
  go_loopw [3, 4] (fun v i wr => ∃ (j : Nat) (l : List Int), j ≤ N ∧ i = .int .i64 j ∧ Hid (l = setP (xs.take j)) ∧ Own wr w.heap.size v l ∧ Below w.heap.size w wr) (fun _ i _ => N - (intOf i).toNat)
  case atStart => exact ⟨0, [], Nat.zero_le _, rfl, Lib.hid rfl, World.ownsRow_lit w #[] 0 (Nat.le_refl _) (by unfold maxLen; omega) rfl, (Below.refl _ _).alloc (Nat.le_refl _) _⟩
  case round =>
    obtain ⟨j, l, hj, rfl, hp, ho, hb⟩ := hrel
    have hsz := hb.size
    have hll : l.length ≤ 1000 := by have := HL.out j; rw [← hp.out] at this; have h2 : (xs.take j).length ≤ j := List.length_take_le _ _; omega
    by_cases hlt : j < N
    · obtain ⟨b0, off, rfl, c1, hb0⟩ := HC.out j hlt
      have c2 : wr.cell? ⟨b0, off + j, none⟩ = some (.int .i64 (xs.getD j 0)) := (hb.cell (p := ⟨b0, off + j, none⟩) hb0).trans c1
      have hs : Hid (put l (xs.getD j 0) = setP (xs.take (j + 1))) := by have := HS.out j hlt; rw [← hp.out] at this; exact this.symm
      clear c1
      generalize xs.getD j 0 = u at *
      go_wp2_with (go_at_call 69; refine (put_sR u ho.rd hll).mono ?_; rintro e w1 ⟨v1, rfl, ho1, hb1⟩)
      go_roundw
      case rel => exact ⟨j + 1, _, by omega, by go_num, hs, ho1.mono hsz, hb.trans (hb1.mono hsz)⟩
      case measure => simp [intOf]; omega
    · have e : j = N := by omega
      subst e
      go_wp2
      go_ret
      have e2 : l = setP xs := by rw [hp.out, HE.out]
      exact ⟨_, rfl, by rw [← e2]; exact ho, hb⟩
theorem set_sR {v : Value} {xs : List Int} {w : World} (h : Rd w v xs) (hn : xs.length ≤ 1000) : Calls Try.prog 58 #[v] w (Lb (setP xs) w) := by
  obtain ⟨a, c, rfl, _, _, hr⟩ := h
  exact set_s a c xs w hn hr
end Go.Proofs.Ytdjkmffekfbbcaa.Tr
