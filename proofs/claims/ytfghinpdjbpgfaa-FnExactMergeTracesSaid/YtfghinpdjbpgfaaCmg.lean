/- Both MergeTraces. -/
import Derived.Test.YtfghinpdjbpgfaaCmA
namespace Go.Proofs.Ytfghinpdjbpgfaa.Ac
open Go.RowKit Tr
/-- How far a merge is after so many turns: what it has taken of both, and what it has made. -/
def mst (t : List Int) (xs ys : List (Int × Int)) : Nat → Option (Nat × Nat × List (Int × Int))
  | 0 => some (0, 0, [])
  | j + 1 => match mst t xs ys j with
    | none => none
    | some (x, y, o) => if t.getD j 0 = 0 ∧ x < xs.length then some (x + 1, y, o ++ [xs.getD x (0, 0)]) else if t.getD j 0 = 1 ∧ y < ys.length then some (x, y + 1, o ++ [ys.getD y (0, 0)]) else none
theorem mst_none (t : List Int) (xs ys : List (Int × Int)) (j : Nat) (h : mst t xs ys j = none) : ∀ n, j ≤ n → mst t xs ys n = none := by
  intro n hn
  induction n with
  | zero => have : j = 0 := by omega
            subst this; exact h
  | succ n ih =>
    rcases Nat.lt_or_eq_of_le hn with hlt | rfl
    · rw [mst, ih (by omega)]
    · exact h
theorem mst_a (t : List Int) (xs ys : List (Int × Int)) (j x y : Nat) (o : List (Int × Int)) (h : mst t xs ys j = some (x, y, o)) (h0 : t.getD j 0 = 0) (hx : x < xs.length) :
    mst t xs ys (j + 1) = some (x + 1, y, o ++ [xs.getD x (0, 0)]) := by
  rw [mst, h]; exact if_pos ⟨h0, hx⟩
theorem mst_b (t : List Int) (xs ys : List (Int × Int)) (j x y : Nat) (o : List (Int × Int)) (h : mst t xs ys j = some (x, y, o)) (h0 : t.getD j 0 = 1) (hy : y < ys.length) :
    mst t xs ys (j + 1) = some (x, y + 1, o ++ [ys.getD y (0, 0)]) := by
  rw [mst, h]
  show (if _ then _ else _) = _
  rw [if_neg (by rw [h0]; omega), if_pos ⟨h0, hy⟩]
theorem mst_no (t : List Int) (xs ys : List (Int × Int)) (j x y : Nat) (o : List (Int × Int)) (h : mst t xs ys j = some (x, y, o)) (h0 : ¬ (t.getD j 0 = 0 ∧ x < xs.length)) (h1 : ¬ (t.getD j 0 = 1 ∧ y < ys.length)) (n : Nat) (hn : j < n) :
    mst t xs ys n = none := by
  refine mst_none t xs ys (j + 1) ?_ n hn
  rw [mst, h]
  show (if _ then _ else _) = _
  rw [if_neg h0, if_neg h1]
theorem mst_len (t : List Int) (xs ys : List (Int × Int)) : ∀ j x y o, mst t xs ys j = some (x, y, o) → o.length = j ∧ x + y = j
  | 0, x, y, o, h => by
    rw [mst] at h; injection h with h; injection h with h1 h2; injection h2 with h2 h3; subst h1; subst h2; subst h3; exact ⟨rfl, rfl⟩
  | j + 1, x, y, o, h => by
    rw [mst] at h
    cases e : mst t xs ys j with
    | none => rw [e] at h; cases h
    | some r =>
      obtain ⟨x', y', o'⟩ := r
      obtain ⟨h1, h2⟩ := mst_len t xs ys j x' y' o' e
      rw [e] at h
      replace h : (if t.getD j 0 = 0 ∧ x' < xs.length then some (x' + 1, y', o' ++ [xs.getD x' (0, 0)]) else if t.getD j 0 = 1 ∧ y' < ys.length then some (x', y' + 1, o' ++ [ys.getD y' (0, 0)]) else none) = some (x, y, o) := h
      split at h
      · injection h with h; injection h with h3 h4; injection h4 with h4 h5; subst h3; subst h4; subst h5; simp; omega
      · split at h
        · injection h with h; injection h with h3 h4; injection h4 with h4 h5; subst h3; subst h4; subst h5; simp; omega
        · cases h
def mgOk (xs ys : List (Int × Int)) (t : List Int) : Bool := okT xs && okT ys && decide (t.length ≤ 60) && decide (t.length = xs.length + ys.length)
def mgV (xs ys : List (Int × Int)) (t : List Int) : List (Int × Int) × Bool := match mst t xs ys t.length with
  | some r => (r.2.2, true)
  | none => ([], false)
def mgR (xs ys : List (Int × Int)) (t : List Int) : List (Int × Int) × Bool := if mgOk xs ys t then mgV xs ys t else ([], false)
theorem mgR_no {xs ys : List (Int × Int)} {t : List Int} (h : mgOk xs ys t = false) : mgR xs ys t = ([], false) := by unfold mgR; rw [h]; rfl
theorem mgR_some {xs ys : List (Int × Int)} {t : List Int} (h : mgOk xs ys t = true) {x y : Nat} {o : List (Int × Int)} (e : mst t xs ys t.length = some (x, y, o)) : mgR xs ys t = (o, true) := by unfold mgR mgV; rw [h, e]; rfl
theorem mgR_none {xs ys : List (Int × Int)} {t : List Int} (e : mst t xs ys t.length = none) : mgR xs ys t = ([], false) := by unfold mgR mgV; rw [e]; split <;> rfl
theorem mgR_len (xs ys : List (Int × Int)) (t : List Int) : (mgR xs ys t).1.length ≤ 60 := by
  unfold mgR
  cases h : mgOk xs ys t
  · simp
  · have h60 : t.length ≤ 60 := by
      unfold mgOk at h
      simp only [Bool.and_eq_true, decide_eq_true_eq] at h
      omega
    show (mgV xs ys t).1.length ≤ 60
    unfold mgV
    cases e : mst t xs ys t.length with
    | none => simp
    | some r =>
      obtain ⟨x, y, o⟩ := r
      have := (mst_len t xs ys _ x y o e).1
      show o.length ≤ 60
      omega
/-- What a function leaves that returns accesses of its own and whether it succeeded. -/
def ResA (rs : List (Int × Int)) (ok : Bool) (w : World) (e : Ending) (w' : World) : Prop := ∃ v, e = .returned (.tuple #[v, .bool ok]) ∧ OwnA w' w.heap.size v rs ∧ Below w.heap.size w w'
theorem OwnA.lit0 (w : World) : OwnA (w.alloc (.cells #[] 48)) w.heap.size (.slice (some ⟨w.heap.size, 0, none⟩) 0 0) [] :=
  World.ownsRow_lit w #[] 0 (Nat.le_refl _) (by unfold maxLen; omega) rfl
set_option maxHeartbeats 4000000 in
theorem merge_s (a b tt : Option Addr) (ca cb ct : Nat) (xs ys : List (Int × Int)) (t : List Int) (w : World) (hx : xs.length ≤ 1048576) (hy : ys.length ≤ 1048576) (ht : t.length ≤ 1048576) (ra : RowA w a xs) (rb : RowA w b ys) (rt : Row w tt t) :
    Calls Try.prog 7 #[.slice a xs.length ca, .slice b ys.length cb, .slice tt t.length ct] w (ResA (mgR xs ys t).1 (mgR xs ys t).2 w) := by
  have hIa := Lib.hid (is_s a ca xs w hx ra)
  have hIb := Lib.hid (is_s b cb ys w hy rb)
  by_cases hok : mgOk xs ys t = true
  · have h60 : t.length ≤ 60 ∧ t.length = xs.length + ys.length ∧ okT xs = true ∧ okT ys = true := by
      unfold mgOk at hok
      simp only [Bool.and_eq_true, decide_eq_true_eq] at hok
      exact ⟨hok.1.2, hok.2, hok.1.1.1, hok.1.1.2⟩
    obtain ⟨h60, hsum, e1, e2⟩ := h60
    rw [e1] at hIa
    rw [e2] at hIb
    have HCa := Lib.hid ra
    have HCb := Lib.hid rb
    have HCt := Lib.hid rt
    have HA := Lib.hid (mst_a t xs ys)
    have HB := Lib.hid (mst_b t xs ys)
    have HN := Lib.hid (mst_no t xs ys)
    have HL := Lib.hid (mst_len t xs ys)
    have HE := Lib.hid (fun x y o (e : mst t xs ys t.length = some (x, y, o)) => mgR_some hok e)
    have HE0 := Lib.hid (fun (e : mst t xs ys t.length = none) => mgR_none (xs := xs) (ys := ys) (t := t) e)
    clear ra rb rt hok e1 e2
    unfold RowA at HCa HCb
    unfold Row at HCt
    have hsum2 : ¬ ((t.length : Int) ≠ (xs.length : Int) + (ys.length : Int)) := by omega
    have HSUM := Lib.hid hsum
    have hs3 : (xs.length : Int) + (ys.length : Int) = (t.length : Int) := by omega
    clear hsum hsum2
    generalize mgR xs ys t = R at *
    obtain ⟨rs, ok⟩ := R
    have HM0 := Lib.hid (show mst t xs ys 0 = some (0, 0, []) from rfl)
    generalize hM : mst t xs ys = M at *
    clear hM
    generalize xs.length = X at *
    generalize ys.length = Y at *
    generalize t.length = N at *
    go_enter Try.func7, Try.ntmps7
    go_wp2_with (go_at_call 24; first | ((with_reducible refine hIa.out.mono ?_); rintro e w' ⟨rfl, rfl⟩) | ((with_reducible refine hIb.out.mono ?_); rintro e w' ⟨rfl, rfl⟩))
    go_loopw [8, 9, 10, 11] (fun v xx yy i wr => ∃ j x y o, j ≤ N ∧ i = .int .i64 (j : Nat) ∧ xx = .int .i64 (x : Nat) ∧ yy = .int .i64 (y : Nat) ∧ x ≤ j ∧ y ≤ j ∧ Hid (M j = some (x, y, o)) ∧ Hid (OwnA wr w.heap.size v o) ∧ Hid (Below w.heap.size w wr)) (fun _ _ _ i _ => N - (intOf i).toNat)
    case atStart => exact ⟨0, 0, 0, [], Nat.zero_le _, rfl, rfl, rfl, Nat.le_refl _, Nat.le_refl _, Lib.hid HM0.out, OwnA.lit0 w, (Below.refl _ _).alloc (Nat.le_refl _) _⟩
    case round =>
      obtain ⟨j, x, y, o, hj, rfl, rfl, rfl, hxj, hyj, hm, ho, hb⟩ := hrel
      by_cases hlt : j < N
      · obtain ⟨bt, offt, rfl, hct, hbt⟩ := HCt.out j hlt
        have ct1 := (hb.out.cell (p := ⟨bt, offt + j, none⟩) hbt).trans hct
        have HAj := Lib.hid (HA.out j x y o hm.out)
        have HBj := Lib.hid (HB.out j x y o hm.out)
        have HNj := Lib.hid (HN.out j x y o hm.out)
        have hlo := (HL.out j x y o hm.out).1
        clear hct
        generalize t.getD j 0 = u at *
        by_cases hA : u = 0 ∧ x < X
        · obtain ⟨rfl, hxX⟩ := hA
          obtain ⟨bb, off, rfl, c1, c2, hbl⟩ := HCa.out x hxX
          have d1 := (hb.out.cell (p := ⟨bb, off + x * 2, none⟩) hbl).trans c1
          have d2 := (hb.out.cell (p := ⟨bb, off + x * 2 + 1, none⟩) hbl).trans c2
          have hnew := Lib.hid (HAj.out rfl hxX)
          have ho5 := ho.out
          have hq : o.length + 1 ≤ 100000000 := by omega
          have hsz := hb.out.size
          clear c1 c2 HAj HBj HNj hlo
          generalize xs.getD x (0, 0) = r at *
          obtain ⟨k, ad⟩ := r
          go_wp2_with (at_builtin; refine wpList_appA _ rfl _ _ rfl w.heap.size _ o _ _ ?_ ?_ ho5 hq hsz ?_; rfl; rfl)
          intro v' w6 ho6 hb6 _ _
          go_wp2
          go_roundw
          case rel => exact ⟨j + 1, x + 1, y, _, by omega, by go_num, by go_num, rfl, by omega, by omega, hnew, ho6, hb.out.trans hb6⟩
          case measure => simp [intOf]; omega
        · by_cases hB : u = 1 ∧ y < Y
          · obtain ⟨rfl, hyY⟩ := hB
            obtain ⟨bb, off, rfl, c1, c2, hbl⟩ := HCb.out y hyY
            have d1 := (hb.out.cell (p := ⟨bb, off + y * 2, none⟩) hbl).trans c1
            have d2 := (hb.out.cell (p := ⟨bb, off + y * 2 + 1, none⟩) hbl).trans c2
            have hnew := Lib.hid (HBj.out rfl hyY)
            have ho5 := ho.out
            have hq : o.length + 1 ≤ 100000000 := by omega
            have hsz := hb.out.size
            clear c1 c2 HAj HBj HNj hlo hA
            generalize ys.getD y (0, 0) = r at *
            obtain ⟨k, ad⟩ := r
            go_wp2_with (at_builtin; refine wpList_appA _ rfl _ _ rfl w.heap.size _ o _ _ ?_ ?_ ho5 hq hsz ?_; rfl; rfl)
            intro v' w6 ho6 hb6 _ _
            go_wp2
            go_roundw
            case rel => exact ⟨j + 1, x, y + 1, _, by omega, by go_num, rfl, by go_num, by omega, by omega, hnew, ho6, hb.out.trans hb6⟩
            case measure => simp [intOf]; omega
          · have hnone := HNj.out hA hB N hlt
            have hR := HE0.out hnone
            injection hR with hR1 hR2
            subst hR1 hR2
            clear hnone HE HE0 HAj HBj HNj
            by_cases hu0 : u = 0
            · subst hu0
              have hxX : ¬ x < X := fun h => hA ⟨rfl, h⟩
              clear hA hB
              go_wp2
              go_ret2
              exact ⟨_, rfl, OwnA.nil _ _, hb.out⟩
            · have e0 : (u == 0) = false := by simp [hu0]
              by_cases hu1 : u = 1
              · subst hu1
                have hyY : ¬ y < Y := fun h => hB ⟨rfl, h⟩
                clear hA hB
                go_wp2
                go_ret2
                exact ⟨_, rfl, OwnA.nil _ _, hb.out⟩
              · have e1 : (u == 1) = false := by simp [hu1]
                clear hA hB
                go_wp2
                go_ret2
                exact ⟨_, rfl, OwnA.nil _ _, hb.out⟩
      · have e : j = N := by omega
        subst e
        have hR := HE.out x y o hm.out
        injection hR with hR1 hR2
        subst hR1 hR2
        clear HE HE0
        go_wp2
        go_ret2
        exact ⟨_, rfl, ho.out, hb.out⟩
  · have hok' : mgOk xs ys t = false := by simpa using hok
    rw [mgR_no hok']
    show Calls _ _ _ w (ResA [] false w)
    clear ra rb rt hok
    unfold mgOk at hok'
    cases e1 : okT xs
    · rw [e1] at hIa
      clear hok' e1
      generalize xs.length = X at *
      generalize ys.length = Y at *
      generalize t.length = N at *
      go_enter Try.func7, Try.ntmps7
      go_wp2_with (first | (go_at_call 24; refine hIa.out.mono ?_; rintro e w' ⟨rfl, rfl⟩))
      go_ret2
      exact ⟨_, rfl, OwnA.nil _ _, Below.refl _ _⟩
    · rw [e1] at hIa
      cases e2 : okT ys
      · rw [e2] at hIb
        clear hok' e1 e2
        generalize xs.length = X at *
        generalize ys.length = Y at *
        generalize t.length = N at *
        go_enter Try.func7, Try.ntmps7
        go_wp2_with (go_at_call 24; first | ((with_reducible refine hIa.out.mono ?_); rintro e w' ⟨rfl, rfl⟩) | ((with_reducible refine hIb.out.mono ?_); rintro e w' ⟨rfl, rfl⟩))
        go_ret2
        exact ⟨_, rfl, OwnA.nil _ _, Below.refl _ _⟩
      · rw [e2] at hIb
        rw [e1, e2] at hok'
        simp only [Bool.true_and, Bool.and_eq_false_iff, decide_eq_false_iff_not] at hok'
        clear e1 e2
        generalize xs.length = X at *
        generalize ys.length = Y at *
        generalize t.length = N at *
        by_cases h60 : N ≤ 60
        · have hne : N ≠ X + Y := by
            rcases hok' with h | h
            · exact absurd h60 h
            · exact h
          have hne2 : ((N : Int) != (X : Int) + (Y : Int)) = true := by simp; omega
          have hne3 : ¬ 60 < (N : Int) := by omega
          clear hok'
          go_enter Try.func7, Try.ntmps7
          go_wp2_with (go_at_call 24; first | ((with_reducible refine hIa.out.mono ?_); rintro e w' ⟨rfl, rfl⟩) | ((with_reducible refine hIb.out.mono ?_); rintro e w' ⟨rfl, rfl⟩))
          go_ret2
          exact ⟨_, rfl, OwnA.nil _ _, Below.refl _ _⟩
        · have h61 : 60 < (N : Int) := by omega
          clear hok'
          go_enter Try.func7, Try.ntmps7
          go_wp2_with (go_at_call 24; first | ((with_reducible refine hIa.out.mono ?_); rintro e w' ⟨rfl, rfl⟩) | ((with_reducible refine hIb.out.mono ?_); rintro e w' ⟨rfl, rfl⟩))
          go_ret2
          exact ⟨_, rfl, OwnA.nil _ _, Below.refl _ _⟩
end Go.Proofs.Ytfghinpdjbpgfaa.Ac
