/- Both ValidTrace over a list of accesses. Both UsesOf; marks in a list of accesses. The program's makeAccesses with the steps of a cache's run; runCache. A cache's flush; the program's CacheReads. -/
import Derived.Test.YtngbddmbmkphcaaG11
import Derived.Test.YtngbddmbmkphcaaG2
import Derived.Great.BuildSlice
import Derived.Deep.Cut
namespace Go.Proofs.Ytngbddmbmkphcaa.Ac
open Go.RowKit Tr
def isK (x : Int) : Bool := decide (x = 0) || decide (x = 1)
def okE (r : Int × Int) : Bool := isK r.1 && isA r.2
def okT (xs : List (Int × Int)) : Bool := decide (xs.length ≤ 60) && xs.all okE
theorem tk_all (xs : List (Int × Int)) (j : Nat) (h : j < xs.length) : (xs.take (j + 1)).all okE = ((xs.take j).all okE && okE (xs.getD j (0, 0))) := by
  rw [List.take_succ_eq_append_getElem h, List.all_append, List.getD_eq_getElem?_getD, List.getElem?_eq_getElem h]
  simp
theorem okT_no (xs : List (Int × Int)) (j : Nat) (h : j < xs.length) (hn : okE (xs.getD j (0, 0)) = false) : okT xs = false := by
  have : xs.all okE = false := by
    rw [List.all_eq_false]
    refine ⟨xs[j], List.getElem_mem h, ?_⟩
    rw [List.getD_eq_getElem?_getD, List.getElem?_eq_getElem h] at hn
    simpa using hn
  unfold okT; rw [this, Bool.and_false]
theorem okT_end (xs : List (Int × Int)) (h : (xs.take xs.length).all okE = true) : okT xs = decide (xs.length ≤ 60) := by
  unfold okT
  rw [List.take_length] at h
  rw [h, Bool.and_true]
theorem okT_len {xs : List (Int × Int)} (h : okT xs = true) : xs.length ≤ 60 := by
  unfold okT at h; rw [Bool.and_eq_true] at h; exact of_decide_eq_true h.1
theorem isK_no {x : Int} (h0 : ¬ x = 0) (h1 : ¬ x = 1) : isK x = false := by simp [isK, h0, h1]
theorem kind_s (x : Int) (w : World) : Calls Try.prog 59 #[.int .i64 x] w (Bl (isK x) w) := by
  by_cases h0 : x = 0
  · subst h0
    go_enter Try.func59, Try.ntmps59
    go_wp2
    go_ret
    exact ⟨rfl, rfl⟩
  · by_cases h1 : x = 1
    · subst h1
      go_enter Try.func59, Try.ntmps59
      go_wp2
      go_ret
      exact ⟨rfl, rfl⟩
    · rw [isK_no h0 h1]
      have e0 : (x == 0) = false := by simp [h0]
      have e1 : (x == 1) = false := by simp [h1]
      go_enter Try.func59, Try.ntmps59
      go_wp2
      go_ret
      exact ⟨ret_bool (by simp [h0, h1]), rfl⟩
theorem kind_i (x : Int) (w : World) : Calls Try.prog 65 #[.int .i64 x] w (Bl (isK x) w) := by
  by_cases h0 : x = 0
  · subst h0
    go_enter Try.func65, Try.ntmps65
    go_wp2
    go_ret
    exact ⟨rfl, rfl⟩
  · by_cases h1 : x = 1
    · subst h1
      go_enter Try.func65, Try.ntmps65
      go_wp2
      go_ret
      exact ⟨rfl, rfl⟩
    · rw [isK_no h0 h1]
      have e0 : (x == 0) = false := by simp [h0]
      have e1 : (x == 1) = false := by simp [h1]
      go_enter Try.func65, Try.ntmps65
      go_wp2
      go_ret
      exact ⟨ret_bool (by simp [h0, h1]), rfl⟩
theorem addr_ii (x : Int) (w : World) : Calls Try.prog 66 #[.int .i64 x] w (Bl (isA x) w) := by
  have hI := Lib.hid (between_a x w)
  generalize isA x = b at *
  go_enter Try.func66, Try.ntmps66
  go_wp2_with (go_at_call 76; refine hI.out.mono ?_; rintro e w' ⟨rfl, rfl⟩)
  go_ret
  exact ⟨rfl, rfl⟩
set_option maxHeartbeats 2000000 in
theorem is_s (a : Option Addr) (c : Nat) (xs : List (Int × Int)) (w : World) (hn : xs.length ≤ 1048576) (hr : RowA w a xs) :
    Calls Try.prog 41 #[.slice a xs.length c] w (Bl (okT xs) w) := by
  have HC := Lib.hid hr
  have HS := Lib.hid (tk_all xs)
  have HN := Lib.hid (okT_no xs)
  have HE := Lib.hid (okT_end xs)
  clear hr
  unfold RowA at HC
  generalize (okT xs) = ok at *
  generalize hN : xs.length = N at *
  clear hN
  go_enter Try.func41, Try.ntmps41
  go_wp2
  go_loop [3] (fun i => ∃ j : Nat, j ≤ N ∧ i = .int .i64 j ∧ Hid ((xs.take j).all okE = true)) (fun i => N - (intOf i).toNat)
  case atStart => exact ⟨0, Nat.zero_le _, rfl, Lib.hid rfl⟩
  case round =>
    obtain ⟨j, hj, rfl, hx⟩ := hrel
    by_cases hlt : j < N
    · obtain ⟨b, off, rfl, c1, c2, hb⟩ := HC.out j hlt
      have hs := Lib.hid (HS.out j hlt)
      have hno := Lib.hid (HN.out j hlt)
      generalize xs.getD j (0, 0) = r at *
      obtain ⟨k, ad⟩ := r
      have hI := Lib.hid (kind_s k w)
      have hA := Lib.hid (addr_s ad w)
      cases hk : isK k
      · have hok : ok = false := hno.out (by unfold okE; rw [hk]; rfl)
        rw [hk] at hI
        clear hk hno hs
        subst hok
        go_wp2_with (go_at_call 59; refine hI.out.mono ?_; rintro e w' ⟨rfl, rfl⟩)
        go_ret
        exact ⟨rfl, rfl⟩
      · rw [hk] at hI
        cases hb2 : isA ad
        · have hok : ok = false := hno.out (by unfold okE; rw [hk, hb2]; rfl)
          rw [hb2] at hA
          clear hk hb2 hno hs
          subst hok
          go_wp2_with (first | (go_at_call 59; refine hI.out.mono ?_; rintro e w' ⟨rfl, rfl⟩) | (go_at_call 60; refine hA.out.mono ?_; rintro e w' ⟨rfl, rfl⟩))
          go_ret
          exact ⟨rfl, rfl⟩
        · rw [hb2] at hA
          have hnew : Hid ((xs.take (j + 1)).all okE = true) := by show _ = _; rw [hs.out, hx.out]; unfold okE; rw [hk, hb2]; rfl
          clear hk hb2 hno hs
          go_wp2_with (first | (go_at_call 59; refine hI.out.mono ?_; rintro e w' ⟨rfl, rfl⟩) | (go_at_call 60; refine hA.out.mono ?_; rintro e w' ⟨rfl, rfl⟩))
          go_round
          case rel => exact ⟨j + 1, by omega, by go_num, hnew⟩
          case measure => simp [intOf]; omega
    · have e : j = N := by omega
      subst e
      have hok := HE.out hx.out
      by_cases h60 : j ≤ 60
      · have : ok = true := by rw [hok, decide_eq_true h60]
        clear hok HE HN
        subst this
        have h60' : (j : Int) ≤ 60 := by omega
        go_wp2
        go_ret
        exact ⟨ret_bool (by simp), rfl⟩
      · have : ok = false := by rw [hok, decide_eq_false h60]
        clear hok HE HN
        subst this
        have h60' : ¬ (j : Int) ≤ 60 := by omega
        go_wp2
        go_ret
        exact ⟨ret_bool (by simp), rfl⟩
set_option maxHeartbeats 2000000 in
theorem valid_i (a : Option Addr) (c : Nat) (xs : List (Int × Int)) (w : World) (hn : xs.length ≤ 1048576) (hr : RowA w a xs) :
    Calls Try.prog 50 #[.slice a xs.length c] w (BbA (okT xs) w) := by
  by_cases h60 : 60 < xs.length
  · have e : okT xs = false := by unfold okT; rw [decide_eq_false (by omega)]; rfl
    rw [e]
    generalize xs.length = N at *
    have h2 : (60 : Int) < (N : Int) := by omega
    go_enter Try.func50, Try.ntmps50
    go_wp2
    go_ret
    exact ⟨rfl, Below.refl _ _⟩
  have HC := Lib.hid hr
  have HS := Lib.hid (tk_all xs)
  have HN := Lib.hid (okT_no xs)
  have HE := Lib.hid (fun h => (show okT xs = true by rw [okT_end xs h, decide_eq_true (by omega)]))
  clear hr
  unfold RowA at HC
  generalize (okT xs) = ok at *
  generalize hN : xs.length = N at *
  clear hN
  go_enter Try.func50, Try.ntmps50
  go_wp2
  go_loopw [4, 10] (fun _ i wr => ∃ j : Nat, j ≤ N ∧ i = .int .i64 j ∧ Hid ((xs.take j).all okE = true) ∧ Hid (Below w.heap.size w wr)) (fun _ i _ => N - (intOf i).toNat)
  case atStart => exact ⟨0, Nat.zero_le _, rfl, Lib.hid rfl, Below.refl _ _⟩
  case round =>
    obtain ⟨j, hj, rfl, hx, hbw⟩ := hrel
    by_cases hlt : j < N
    · obtain ⟨b, off, rfl, g1, g2, hb⟩ := HC.out j hlt
      have c1 := (hbw.out.cell (p := ⟨b, off + j * 2, none⟩) hb).trans g1
      have c2 := (hbw.out.cell (p := ⟨b, off + j * 2 + 1, none⟩) hb).trans g2
      have hs := Lib.hid (HS.out j hlt)
      have hno := Lib.hid (HN.out j hlt)
      clear g1 g2
      generalize xs.getD j (0, 0) = r at *
      obtain ⟨k, ad⟩ := r
      have HB := Lib.hid (hbw.out.alloc hbw.out.size (.cells #[.int .i64 k, .int .i64 ad] 61))
      have hI := Lib.hid (kind_i k)
      have hA := Lib.hid (addr_ii ad)
      cases hk : isK k
      · have hok : ok = false := hno.out (by unfold okE; rw [hk]; rfl)
        rw [hk] at hI
        clear hk hno hs
        subst hok
        go_wp2_with (go_at_call 65; refine (hI.out _).mono ?_; rintro e w' ⟨rfl, rfl⟩)
        go_ret
        exact ⟨rfl, HB.out⟩
      · rw [hk] at hI
        cases hb2 : isA ad
        · have hok : ok = false := hno.out (by unfold okE; rw [hk, hb2]; rfl)
          rw [hb2] at hA
          clear hk hb2 hno hs
          subst hok
          go_wp2_with (first | (go_at_call 65; refine (hI.out _).mono ?_; rintro e w' ⟨rfl, rfl⟩) | (go_at_call 66; refine (hA.out _).mono ?_; rintro e w' ⟨rfl, rfl⟩))
          go_ret
          exact ⟨rfl, HB.out⟩
        · rw [hb2] at hA
          have hnew : Hid ((xs.take (j + 1)).all okE = true) := by show _ = _; rw [hs.out, hx.out]; unfold okE; rw [hk, hb2]; rfl
          clear hk hb2 hno hs
          go_wp2_with (first | (go_at_call 65; refine (hI.out _).mono ?_; rintro e w' ⟨rfl, rfl⟩) | (go_at_call 66; refine (hA.out _).mono ?_; rintro e w' ⟨rfl, rfl⟩))
          go_roundw
          case rel => exact ⟨j + 1, by omega, by go_num, hnew, HB⟩
          case measure => simp [intOf]; omega
    · have e : j = N := by omega
      subst e
      have hok := HE.out hx.out
      clear HE HN
      subst hok
      go_wp2
      go_ret
      exact ⟨rfl, hbw.out⟩
end Go.Proofs.Ytngbddmbmkphcaa.Ac
namespace Go.Proofs.Ytngbddmbmkphcaa.Ac
open Go.RowKit Tr
def ls (xs : List (Int × Int)) : List Int := xs.map fun r => r.2
theorem ls_succ (xs : List (Int × Int)) (j : Nat) (h : j < xs.length) : ls (xs.take (j + 1)) = ls (xs.take j) ++ [(xs.getD j (0, 0)).2] := by
  unfold ls
  rw [List.take_succ_eq_append_getElem h, List.map_append, List.getD_eq_getElem?_getD, List.getElem?_eq_getElem h]
  rfl
theorem ls_len (xs : List (Int × Int)) (j : Nat) : (ls (xs.take j)).length ≤ j := by unfold ls; simp; omega
def MarkedA (v : Value) (n : Nat) (w : World) (e : Ending) (w' : World) : Prop := e = .returned (.int .i64 (1 + 2 * (n : Int))) ∧ w.grownBy w' v.ownBlock
set_option maxHeartbeats 2000000 in
theorem mark_own {w : World} {B : Nat} {v : Value} {xs : List (Int × Int)} (h : OwnA w B v xs) (hn : xs.length ≤ 1048576) :
    Calls Try.prog 17 #[v, .int .i64 1] w (MarkedA v xs.length w) := by
  rcases h.2 with ⟨rfl, h0⟩ | ⟨g, cap, cur, rfl, _⟩
  · rw [h0]
    go_enter Try.func17, Try.ntmps17
    go_wp2
    refine wp_loop_rounds 1 ?_
    rw [rounds_succ]
    go_wp2
    go_ret
    exact ⟨rfl, ⟨rfl, rfl, rfl, Nat.le_refl _, fun _ _ _ => rfl⟩⟩
  · have h0 : w.ownsRow B 61 2 (.slice (some ⟨g, 0, none⟩) xs.length cap) xs.length (acells xs) := h
    generalize hN : xs.length = N at *
    have HN := Lib.hid hN
    have H0 := Lib.hid h0
    clear hN h0 h
    go_enter Try.func17, Try.ntmps17
    go_wp2
    go_loopw [1, 5] (fun k i wr => ∃ j : Nat, j ≤ N ∧ i = .int .i64 j ∧ k = .int .i64 (1 + 2 * (j : Int)) ∧ ∃ ys : List (Int × Int), Hid (ys.length = N) ∧ Hid (wr.ownsRow B 61 2 (.slice (some ⟨g, 0, none⟩) N cap) N (acells ys)) ∧ Hid (w.grownBy wr (some g))) (fun _ i _ => N - (intOf i).toNat)
    case atStart => exact ⟨0, Nat.zero_le _, rfl, rfl, xs, HN, H0, ⟨rfl, rfl, rfl, Nat.le_refl _, fun _ _ _ => rfl⟩⟩
    case round =>
      obtain ⟨j, hj, rfl, rfl, ys, hy, ho, hg⟩ := hrel
      by_cases hlt : j < N
      · have hl := acells_length ys
        rw [hy.out] at hl
        have s1 := World.ownsRow.stored ho.out (j * 2) (.int .i64 (1 + 2 * (j : Int)))
        have s2 := World.ownsRow.stored s1.1 (j * 2 + 1) (.int .i64 (1 + 2 * (j : Int) + 1))
        rw [acells_set ys j _ _ (by rw [hy.out]; exact hlt)] at s2
        have S2 := Lib.hid s2.1
        have G2 := Lib.hid (grownBy_trans hg.out (grownBy_trans s1.2 s2.2))
        have k1 : ∃ old, wr.cell? ⟨g, j * 2, none⟩ = some old := ⟨_, by rw [ho.out.cellAt (j * 2) (by omega), List.getElem?_eq_getElem (by omega)]⟩
        have k2 : ∃ old, wr.cell? ⟨g, j * 2 + 1, none⟩ = some old := ⟨_, by rw [ho.out.cellAt (j * 2 + 1) (by omega), List.getElem?_eq_getElem (by omega)]⟩
        obtain ⟨o1, k1⟩ := k1
        obtain ⟨o2, k2⟩ := k2
        have f1 := ho.out.frozenAt (j * 2)
        have f2 := ho.out.frozenAt (j * 2 + 1)
        have HY := Lib.hid (show (ys.set j (1 + 2 * (j : Int), 1 + 2 * (j : Int) + 1)).length = N by rw [List.length_set]; exact hy.out)
        clear s1 s2 hl ho hg hy
        go_wp2
        go_roundw
        case rel => exact ⟨j + 1, by omega, by go_num, by go_num, _, HY, S2, G2⟩
        case measure => simp [intOf]; omega
      · have e : j = N := by omega
        subst e
        go_wp2
        go_ret
        exact ⟨rfl, hg.out⟩
end Go.Proofs.Ytngbddmbmkphcaa.Ac
namespace Go.Proofs.Ytngbddmbmkphcaa.Pv
open Go.RowKit Ac Tr
theorem okT_get {xs : List (Int × Int)} (h : okT xs = true) (j : Nat) (hj : j < xs.length) : isK (xs.getD j (0, 0)).1 = true ∧ isA (xs.getD j (0, 0)).2 = true := by
  unfold okT at h
  rw [Bool.and_eq_true, List.all_eq_true] at h
  have h2 := h.2 _ (List.getElem_mem hj)
  rw [List.getD_eq_getElem?_getD, List.getElem?_eq_getElem hj]
  unfold okE at h2
  rw [Bool.and_eq_true] at h2
  exact h2
theorem okT_at {xs : List (Int × Int)} (h : okT xs = true) (j : Nat) (hj : j < xs.length) : ∃ a : Nat, a < 64 ∧ (xs.getD j (0, 0)).2 = (a : Int) := by
  have h2 := (okT_get h j hj).2
  unfold isA at h2
  rw [Bool.and_eq_true, decide_eq_true_eq, decide_eq_true_eq] at h2
  exact ⟨(xs.getD j (0, 0)).2.toNat, by omega, by omega⟩
theorem splice_in3 (A B C a : List Value) (p : Nat) (hA : A.length = p) (h : a.length = B.length) : Go.splice (A ++ (B ++ C)) p a = A ++ (a ++ C) := by
  have := seg_splice A B C a p 0 hA (by rw [h, Nat.zero_add]; exact Nat.le_refl _)
  rw [Nat.add_zero] at this
  rw [this]
  unfold Go.splice
  rw [h]; simp
set_option maxRecDepth 100000 in
set_option maxHeartbeats 4000000 in
theorem makeC_i (Z : Nat) (P : Nat → World → Prop) (a : Option Addr) (c : Nat) (xs : List (Int × Int)) (w : World) (hok : okT xs = true)
    (hrow : ∀ j w', P j w' → RowA w' a xs) (hal : ∀ j w' o, P j w' → P j (w'.alloc o))
    (hrd : ∀ (j : Nat) (w' : World) (ad : Nat), j < xs.length → ad < 64 → (xs.getD j (0, 0)).2 = ad → ¬ (xs.getD j (0, 0)).1 = 1 → P j w' → Calls Try.prog 52 #[.pointer (some ⟨Z, 0, none⟩), .int .i64 ad] w' fun e w2 => e = .returned (.tuple #[]) ∧ P (j + 1) w2)
    (hwr : ∀ (j : Nat) (w' : World) (ad : Nat), j < xs.length → ad < 64 → (xs.getD j (0, 0)).2 = ad → (xs.getD j (0, 0)).1 = 1 → P j w' → Calls Try.prog 53 #[.pointer (some ⟨Z, 0, none⟩), .int .i64 ad, .int .i64 ((j : Int) + 1)] w' fun e w2 => e = .returned (.tuple #[]) ∧ P (j + 1) w2)
    (h0 : P 0 w) :
    Calls Try.prog 51 #[.slice a xs.length c, .func (.func 52) #[.pointer (some ⟨Z, 0, none⟩)] #[], .func (.func 53) #[.pointer (some ⟨Z, 0, none⟩)] #[]] w
      fun e w2 => e = .returned (.tuple #[]) ∧ P xs.length w2 := by
  have hn : xs.length ≤ 60 := okT_len hok
  have HA := Lib.hid (okT_at hok)
  have HRW := Lib.hid hrow
  have HAL := Lib.hid hal
  have HRD := Lib.hid hrd
  have HWR := Lib.hid hwr
  have H0 := Lib.hid h0
  clear hrow hal hrd hwr h0 hok
  unfold RowA at HRW
  generalize hN : xs.length = N at *
  clear hN
  go_enter Try.func51, Try.ntmps51
  go_wp2
  go_loopw [6, 7, 10] (fun _ _ i wr => ∃ j : Nat, j ≤ N ∧ i = .int .i64 j ∧ Hid (P j wr)) (fun _ _ i _ => N - (intOf i).toNat)
  case atStart => exact ⟨0, Nat.zero_le _, rfl, H0⟩
  case round =>
    obtain ⟨j, hj, rfl, hP⟩ := hrel
    by_cases hlt : j < N
    · obtain ⟨b, off, rfl, c1, c2, hbl⟩ := HRW.out j wr hP.out j hlt
      obtain ⟨ad, had, e2⟩ := HA.out j hlt
      have hP2 := Lib.hid (HAL.out j wr (.cells #[.int .i64 (xs.getD j (0, 0)).1, .int .i64 ad] 61) hP.out)
      have hr := Lib.hid (fun h => HRD.out j _ ad hlt had e2 h hP2.out)
      have hw := Lib.hid (fun h => HWR.out j _ ad hlt had e2 h hP2.out)
      rw [e2] at c2
      clear e2
      generalize (xs.getD j (0, 0)).1 = k at *
      by_cases hk : k = 1
      · have hw1 := Lib.hid (hw.out hk)
        clear hr hw hP2
        subst hk
        go_wp2_with (go_at_call 53; (with_reducible refine hw1.out.mono ?_); rintro e w2 ⟨rfl, hP3⟩)
        go_roundw
        case rel => exact ⟨j + 1, by omega, by go_num, hP3⟩
        case measure => simp [intOf]; omega
      · have hr1 := Lib.hid (hr.out hk)
        have hk' : (k == 1) = false := by simp [hk]
        clear hr hw hP2
        go_wp2_with (go_at_call 52; (with_reducible refine hr1.out.mono ?_); rintro e w2 ⟨rfl, hP3⟩)
        go_roundw
        case rel => exact ⟨j + 1, by omega, by go_num, hP3⟩
        case measure => simp [intOf]; omega
    · have e : j = N := by omega
      subst e
      go_wp2
      go_end0
      exact ⟨rfl, hP.out⟩
def ca0 : CaS := ⟨List.replicate 64 0, List.replicate 64 0, List.replicate 16 false, fun _ => -1, [], 0, 0, 0, 0, 0⟩
/-- A cache after some accesses. -/
def caR (hs : List (List Int)) (ms : List Int) (bk al : Bool) (xs : List (Int × Int)) : Nat → CaS
  | 0 => ca0
  | j + 1 => if (xs.getD j (0, 0)).1 = 1 then writeS hs ms bk al (caR hs ms bk al xs j) (xs.getD j (0, 0)).2.toNat ((j : Int) + 1) else readS hs ms (caR hs ms bk al xs j) (xs.getD j (0, 0)).2.toNat
theorem caR_rs (hs : List (List Int)) (ms : List Int) (bk al : Bool) (xs : List (Int × Int)) (j : Nat) : (caR hs ms bk al xs j).rs.length ≤ j := by
  induction j with
  | zero => exact Nat.le_refl 0
  | succ j ih =>
    rw [caR]
    split
    · rw [writeS_rs]; omega
    · show ((caR hs ms bk al xs j).rs ++ [_]).length ≤ j + 1
      rw [List.length_append, List.length_singleton]; omega
theorem writeS_bd {hs : List (List Int)} {ms : List Int} {bk al : Bool} {S : CaS} {n : Nat} (h : S.bd n) (a : Nat) (u : Int) : (writeS hs ms bk al S a u).bd (n + 5) := by
  obtain ⟨b1, b2, b3, b4⟩ := bringS_bd (hs := hs) (ms := ms) h (a / 4)
  obtain ⟨h1, h2, h3, h4⟩ := h
  unfold writeS
  split
  · exact ⟨by show S.h ≤ n + 5; omega, by show S.m + 1 ≤ n + 5; omega, by show S.i ≤ n + 5; omega, by show S.o + 1 ≤ n + 5; omega⟩
  · split
    · exact ⟨by show (bringS hs ms S (a / 4)).h ≤ n + 5; omega, by show (bringS hs ms S (a / 4)).m ≤ n + 5; omega, by show (bringS hs ms S (a / 4)).i ≤ n + 5; omega, by show (bringS hs ms S (a / 4)).o ≤ n + 5; omega⟩
    · exact ⟨by show (bringS hs ms S (a / 4)).h ≤ n + 5; omega, by show (bringS hs ms S (a / 4)).m ≤ n + 5; omega, by show (bringS hs ms S (a / 4)).i ≤ n + 5; omega, by show (bringS hs ms S (a / 4)).o + 1 ≤ n + 5; omega⟩
theorem caR_bd (hs : List (List Int)) (ms : List Int) (bk al : Bool) (xs : List (Int × Int)) (j : Nat) : (caR hs ms bk al xs j).bd (5 * j) := by
  induction j with
  | zero => exact ⟨Nat.le_refl 0, Nat.le_refl 0, Nat.le_refl 0, Nat.le_refl 0⟩
  | succ j ih =>
    rw [caR]
    split
    · exact writeS_bd ih _ _
    · obtain ⟨b1, b2, b3, b4⟩ := bringS_bd (hs := hs) (ms := ms) ih ((xs.getD j (0, 0)).2.toNat / 4)
      exact ⟨by show (bringS hs ms _ _).h ≤ 5 * (j + 1); omega, by show (bringS hs ms _ _).m ≤ 5 * (j + 1); omega, by show (bringS hs ms _ _).i ≤ 5 * (j + 1); omega, by show (bringS hs ms _ _).o ≤ 5 * (j + 1); omega⟩
theorem ca0_wf : CaW ca0 := ⟨rfl, rfl, rfl, fun _ => ⟨Int.le_refl _, by show (-1 : Int) ≤ 15; decide⟩⟩
def pv0 : List Value := [.slice none 0 0, .slice none 0 0, .bool false, .bool false]
def z203 : List Value := caC (.slice none 0 0) (z49.take 43) pv0 { ca0 with k := fun _ => 0 }
theorem isz203 : (Try.prog.info? 78).map (·.size) = some 203 := by kernel_rfl
theorem zero203 : (Try.prog.info? 78).map (fun it => it.zero.map (·.cells)) = some (some z203.toArray) := by kernel_rfl
theorem places203 : (Try.prog.underlying 78).bind (placesOf Try.prog) = some [(0, 65), (65, 49), (114, 5), (119, 4), (123, 64), (187, 16)] := by kernel_rfl
theorem und203 : ∃ d, Try.prog.underlying 78 = some d ∧ d.isRow = true := by
  cases h : Try.prog.underlying 78 with
  | none => exact absurd h (by decide +kernel)
  | some d =>
    refine ⟨d, rfl, ?_⟩
    have e : (Try.prog.underlying 78).map (fun d => d.isRow) = some true := by kernel_rfl
    rw [h] at e
    simpa using e
theorem isz4 : (Try.prog.info? 35).map (·.size) = some 4 := by kernel_rfl
theorem und4 : ∃ d, Try.prog.underlying 35 = some d ∧ d.isRow = true := by
  cases h : Try.prog.underlying 35 with
  | none => exact absurd h (by decide +kernel)
  | some d =>
    refine ⟨d, rfl, ?_⟩
    have e : (Try.prog.underlying 35).map (fun d => d.isRow) = some true := by kernel_rfl
    rw [h] at e
    simpa using e
theorem built203z : Try.prog.built 78 [] = some z203.toArray := by kernel_rfl
theorem one_z203 : ∀ v ∈ z203, v.oneCell' = true := by
  have h : z203.all (fun v => v.oneCell') = true := by kernel_rfl
  exact fun v hv => (List.all_eq_true.1 h) v hv
theorem z203_len : z203.length = 203 := by kernel_rfl
theorem built203 (rc pv : List Value) (h1 : rc.length = 43) (h2 : pv.length = 4) :
    Try.prog.built 78 [(1, .agg (rc ++ six6 (fun _ => -1)).toArray), (3, .agg pv.toArray)] = some (caC (.slice none 0 0) rc pv ca0).toArray := by
  have hz : CaW { ca0 with k := fun _ => 0 } := ⟨rfl, rfl, rfl, fun _ => ⟨by show (-1 : Int) ≤ 0; decide, by show (0 : Int) ≤ 15; decide⟩⟩
  have l1 : (rc ++ six6 (fun _ => -1)).length = 49 := by rw [List.length_append, h1]; rfl
  have s1 : Go.splice z203 65 (rc ++ six6 (fun _ => -1)) = caC (.slice none 0 0) rc pv0 ca0 := by
    have e : z203 = (wI ca0.ws ++ [Value.slice none 0 0]) ++ ((z49.take 43 ++ six6 (fun _ => 0)) ++ (trC ca0 ++ (pv0 ++ (wI ca0.cs ++ dI ca0.ds)))) := by
      unfold z203 caC
      simp only [List.append_assoc]
      rfl
    rw [e, splice_in3 _ _ _ _ 65 rfl (by rw [l1]; rfl)]
    unfold caC
    simp only [List.append_assoc]
    rfl
  have s2 : Go.splice (caC (.slice none 0 0) rc pv0 ca0) 119 pv = caC (.slice none 0 0) rc pv ca0 := by
    rw [caC_p, splice_in3 _ _ _ _ 119 (caA_p (v := .slice none 0 0) (S := ca0) (pv := pv0) ca0_wf h1 rfl) (by rw [h2]; rfl), ← caC_p]
  refine builtS places203 zero203 ?_
  rw [fill_cons _ z203 1 _ _ 65 49 (rc ++ six6 (fun _ => -1)) rfl rfl l1 (by rw [z203_len]; decide), s1, fill_cons _ (caC (.slice none 0 0) rc pv0 ca0) 3 _ _ 119 4 pv rfl rfl h2 (by rw [caC_len ca0_wf h1 rfl]; decide), s2]
  rfl
/-- What runCache leaves. -/
def RunC (ok : Bool) (pv : List Value) (hs : List (List Int)) (ms : List Int) (S : CaS) (w : World) (e : Ending) (w' : World) : Prop :=
  (ok = false ∧ e = .returned (.tuple #[.agg z203.toArray, .bool false]) ∧ Below w.heap.size w w') ∨
  (ok = true ∧ ∃ v, e = .returned (.tuple #[.agg (caC v (rulC true ms.length hs ms) pv S).toArray, .bool true]) ∧ Own w' w.heap.size v S.rs ∧ Below w.heap.size w w' ∧ CaW S)
theorem CaI.alloc {b : Nat} {pv : List Value} {hs : List (List Int)} {ms : List Int} {S : CaS} {w0 w : World} (h : CaI b pv hs ms S w0 w) (o : Obj) : CaI b pv hs ms S w0 (w.alloc o) := by
  obtain ⟨v, hB, hO⟩ := h
  exact ⟨v, ⟨hB.blk.alloc o, hB.wf, hB.p4, hB.kept.trans (Kept.of ((Below.refl _ w).alloc (Nat.le_refl _) o))⟩, hO.below ((Below.refl w.heap.size w).alloc (Nat.le_refl _) o) (Nat.le_refl _)⟩
theorem toNat_of {x : Int} {a : Nat} (h : x = (a : Int)) : x.toNat = a := by subst h; rfl
theorem makeR_i (X : Nat) (hs : List (List Int)) (ms : List Int) (p1 p2 : Value) (bk al : Bool) (a : Option Addr) (c : Nat) (xs : List (Int × Int)) (w0 w : World) (hok : okT xs = true) (hp : isP hs ms = true) (ho : ∀ u ∈ [p1, p2, .bool bk, .bool al], u.oneCell' = true) (hz : w0.heap.size = X + 1)
    (h0 : CaI X [p1, p2, .bool bk, .bool al] hs ms ca0 w0 w) (hr : ∀ w', Kept X w0 w' → RowA w' a xs) :
    Calls Try.prog 51 #[.slice a xs.length c, .func (.func 52) #[.pointer (some ⟨X, 0, none⟩)] #[], .func (.func 53) #[.pointer (some ⟨X, 0, none⟩)] #[]] w
      fun e w2 => e = .returned (.tuple #[]) ∧ CaI X [p1, p2, .bool bk, .bool al] hs ms (caR hs ms bk al xs xs.length) w0 w2 := by
  have hn : xs.length ≤ 60 := okT_len hok
  refine makeC_i X (fun j w' => CaI X [p1, p2, .bool bk, .bool al] hs ms (caR hs ms bk al xs j) w0 w') a c xs w hok (fun j w' hP => ?_) (fun j w' o hP => hP.alloc o) (fun j w' ad hj had e hk hP => ?_) (fun j w' ad hj had e hk hP => ?_) h0
  · obtain ⟨v, hB, _⟩ := hP
    exact hr w' hB.kept
  · obtain ⟨b1, b2, b3, b4⟩ := caR_bd hs ms bk al xs j
    have hrs := caR_rs hs ms bk al xs j
    have e1 : caR hs ms bk al xs (j + 1) = readS hs ms (caR hs ms bk al xs j) ad := by
      show (if _ then _ else _) = _
      rw [if_neg hk, toNat_of e]
    show Calls _ _ _ _ (fun e w2 => _ ∧ CaI _ _ _ _ (caR hs ms bk al xs (j + 1)) _ _)
    rw [e1]
    exact cread_i hp hP ho ad had ⟨by omega, by omega, by omega, by omega⟩ (by omega) (by omega)
  · obtain ⟨b1, b2, b3, b4⟩ := caR_bd hs ms bk al xs j
    have e1 : caR hs ms bk al xs (j + 1) = writeS hs ms bk al (caR hs ms bk al xs j) ad ((j : Int) + 1) := by
      show (if _ then _ else _) = _
      rw [if_pos hk, toNat_of e]
    show Calls _ _ _ _ (fun e w2 => _ ∧ CaI _ _ _ _ (caR hs ms bk al xs (j + 1)) _ _)
    rw [e1]
    exact cwrite_i hp hP rfl ho ad had ((j : Int) + 1) ⟨by omega, by omega, by omega, by omega⟩
theorem rdP_below {w w' : World} {v : Value} {hs : List (List Int)} {ms : List Int} (h : RdP w v hs ms) (hb : Below w.heap.size w w') : RdP w' v hs ms := by
  obtain ⟨a, c, a', c', e, h1, h2, h3, h4, h5⟩ := h
  exact ⟨a, c, a', c', e, h1.below hb, h2, h3.below hb, h4, h5⟩
set_option maxRecDepth 100000 in
set_option maxHeartbeats 8000000 in
theorem runC_i {q1 q2 : Option Addr} {n1 c1 n2 c2 : Nat} {bk al : Bool} {hs : List (List Int)} {ms : List Int} {w : World} {xs : List (Int × Int)} {a : Option Addr} {c : Nat} (h : RdP w (.agg #[.slice q1 n1 c1, .slice q2 n2 c2]) hs ms) (hx : RowA w a xs) (hxl : xs.length ≤ 1048576) :
    Calls Try.prog 32 #[.agg #[Value.slice q1 n1 c1, Value.slice q2 n2 c2, Value.bool bk, Value.bool al], .slice a xs.length c] w (RunC (isP hs ms && okT xs) [Value.slice q1 n1 c1, Value.slice q2 n2 c2, Value.bool bk, Value.bool al] hs ms (caR hs ms bk al xs xs.length) w) := by
  obtain ⟨d203, hu203, hd203⟩ := und203
  obtain ⟨d49, hu49, hd49⟩ := und49
  obtain ⟨d4, hu4, hd4⟩ := und4
  have HL203 := Lib.hid (fun (w' : World) (b : Nat) (cs : List Value) (h : Blk w' b cs 78) (hc : cs.length = 203) => Blk.loadVar h 78 d203 hu203 hd203 (by rw [hc]; exact isz203))
  have HU := Lib.hid (And.intro hu203 hd203)
  have HU49 := Lib.hid (And.intro hu49 hd49)
  have HU4 := Lib.hid (And.intro hu4 hd4)
  clear hu203 hd203 hu49 hd49 hu4 hd4
  obtain ⟨W0, hW0⟩ : ∃ W0, W0 = (w.alloc (.cells #[Value.slice q1 n1 c1, Value.slice q2 n2 c2, Value.bool bk, Value.bool al] 35)).alloc (.cells Try.zeroCells78 78) := ⟨_, rfl⟩
  have b0 : Below w.heap.size w W0 := by rw [hW0]; exact ((Below.refl _ w).alloc (Nat.le_refl _) _).alloc (by simp) _
  have kA : Blk W0 w.heap.size [Value.slice q1 n1 c1, Value.slice q2 n2 c2, Value.bool bk, Value.bool al] 35 := by rw [hW0]; exact Blk.alloc (Blk.newAt w _ _ _ rfl) _
  have kR : Blk W0 (w.heap.size + 1) z203 78 := by rw [hW0]; exact Blk.newAt _ _ z203 _ (by simp)
  have HE := Lib.hid (emem_i (rdP_below h b0))
  have HV := Lib.hid (fun (w' : World) (hb : Below w.heap.size w w') => valid_i a c xs w' hxl (hx.below hb))
  have HX := Lib.hid (fun (w' : World) (hb : Below w.heap.size w w') => hx.below hb)
  have HL1 := Lib.hid (rulC_len (isP hs ms) ms.length hs ms)
  have HO1 := Lib.hid (one_rulC (isP hs ms) ms.length hs ms)
  have hpo : ∀ u ∈ [Value.slice q1 n1 c1, Value.slice q2 n2 c2, Value.bool bk, Value.bool al], u.oneCell' = true := fun u hu => by
    simp only [List.mem_cons, List.not_mem_nil, or_false] at hu
    rcases hu with rfl | rfl | rfl | rfl <;> rfl
  have HPO := Lib.hid hpo
  have p0 : W0.cell? ⟨w.heap.size, 0, none⟩ = some (.slice q1 n1 c1) := kA.cell 0
  have p1' : W0.cell? ⟨w.heap.size, 1, none⟩ = some (.slice q2 n2 c2) := kA.cell 1
  clear h hx hpo
  have l1 : (rulC (isP hs ms) ms.length hs ms ++ six6 (fun _ => -1)).length = 49 := by rw [List.length_append, HL1.out]; rfl
  have o1 : ∀ v ∈ rulC (isP hs ms) ms.length hs ms ++ six6 (fun _ => -1), v.oneCell' = true := fun x hx => by
    rcases List.mem_append.1 hx with h | h
    · exact HO1.out x h
    · exact one_six _ x h
  have HF1 := Lib.hid (And.intro l1 o1)
  have HBD := Lib.hid (built203 (rulC (isP hs ms) ms.length hs ms) [Value.slice q1 n1 c1, Value.slice q2 n2 c2, Value.bool bk, Value.bool al] HL1.out rfl)
  have HM := Lib.hid (fun (X : Nat) (w5 : World) (hok : okT xs = true) (hp : isP hs ms = true) (hz : w5.heap.size = X + 1) (hw : w.heap.size ≤ X) (hb : Below w.heap.size w w5) (hB : Blk w5 X (caC (.slice none 0 0) (rulC (isP hs ms) ms.length hs ms) [Value.slice q1 n1 c1, Value.slice q2 n2 c2, Value.bool bk, Value.bool al] ca0) 78) =>
    makeR_i X hs ms (.slice q1 n1 c1) (.slice q2 n2 c2) bk al a c xs w5 w5 hok hp HPO.out hz ⟨.slice none 0 0, ⟨by rw [hp] at hB; exact hB, ca0_wf, rfl, Kept.refl _ _⟩, Own.nil _ _⟩ (fun w' hk => HX.out w' (hb.trans (hk.below (by omega) (by omega)))))
  have HLC := Lib.hid (fun (v : Value) (S : CaS) (hW : CaW S) => caC_len (v := v) (pv := [Value.slice q1 n1 c1, Value.slice q2 n2 c2, Value.bool bk, Value.bool al]) hW (rulC_len true ms.length hs ms) rfl)
  have HOC := Lib.hid (fun (v : Value) (S : CaS) (hW : CaW S) (hv : v.oneCell' = true) => one_caC (v := v) (pv := [Value.slice q1 n1 c1, Value.slice q2 n2 c2, Value.bool bk, Value.bool al]) hW (rulC_len true ms.length hs ms) rfl hv (one_rulC true ms.length hs ms) HPO.out)
  have HEL := Lib.hid (And.intro (caC_len (v := .slice none 0 0) (pv := [Value.slice q1 n1 c1, Value.slice q2 n2 c2, Value.bool bk, Value.bool al]) ca0_wf HL1.out rfl) (one_caC (v := .slice none 0 0) (pv := [Value.slice q1 n1 c1, Value.slice q2 n2 c2, Value.bool bk, Value.bool al]) ca0_wf HL1.out rfl rfl HO1.out HPO.out))
  clear l1 o1 HL1 HO1 HX
  generalize caC (.slice none 0 0) (rulC (isP hs ms) ms.length hs ms) [Value.slice q1 n1 c1, Value.slice q2 n2 c2, Value.bool bk, Value.bool al] ca0 = EL at *
  generalize rulC (isP hs ms) ms.length hs ms ++ six6 (fun _ => -1) = F1 at *
  generalize caR hs ms bk al xs xs.length = SR at *
  generalize hr1 : isP hs ms = r1 at *
  generalize hr2 : okT xs = r2 at *
  generalize hNN : xs.length = N at *
  clear hr1 hr2 hNN
  go_enter Try.func32, Try.ntmps32
  go_wp2_with fail
  rw [← hW0]
  clear hW0
  refine HE.out.mono ?_; rintro e w1 ⟨rfl, b1⟩
  have kA1 := kA.below b1 kA.lt
  have kR1 := kR.below b1 kR.lt
  have B1 := Lib.hid (bt b0 b1)
  have hx1 : w.heap.size + 1 < w1.heap.size := kR1.lt
  clear kA kR b0 b1 p0 p1' HE
  go_wp2_with (with_reducible refine wpList_storeB rfl 75 (.tmp 6) (.tmp 13) rfl w1.heap.size 0 F1 ?_ ?_ z49 75 ?_ ?_ ?_ ?_ ?_)
  all_goals (first | exact Blk.newAt w1 _ z49 _ rfl | (rw [HF1.out.1]; decide) | (rw [HF1.out.1]; exact isz49) | exact HF1.out.2 | rfl | skip)
  intro w2 hB2 hK2
  rw [splice_all _ _ (by rw [HF1.out.1]; rfl)] at hB2
  have bb2 : Below w1.heap.size w1 w2 := ((Below.refl _ w1).alloc (Nat.le_refl _) _).trans (hK2.out.below (Nat.le_refl _))
  have kA2 := kA1.below bb2 (by omega)
  have kR2 := kR1.below bb2 hx1
  have k6 := hB2.out
  have hx2 : w1.heap.size < w2.heap.size := k6.lt
  have B2 := Lib.hid (bt B1.out bb2)
  clear hB2 hK2 bb2 kA1 kR1 B1
  generalize w1.heap.size = X6 at *
  cases r1
  · have hbd := fun w9 => run_build (P := Try.prog) w9 78 #[] z203.toArray built203z
    have kR9 := Lib.hid kR2
    clear HM HBD HEL HLC HOC kA2 k6 kR2
    go_wp2_with (with_reducible refine wpList_storeB rfl 78 (.tmp 4) (.tmp 22) rfl (w.heap.size + 1) 0 z203 ?_ ?_ z203 78 kR9.out ?_ ?_ ?_ ?_)
    all_goals (first | exact (show 0 + z203.length ≤ z203.length by rw [Nat.zero_add]; exact Nat.le_refl _) | (rw [z203_len]; exact isz203) | exact one_z203 | rfl | skip)
    intro w6 hB6 hK6
    rw [splice_all _ _ rfl] at hB6
    have B6 := Lib.hid (B2.out.trans (hK6.out.below (by omega)))
    go_wp2
    refine bodyPost_ret (results2 (a := 4) (k := 5) (t := 78) (p := ⟨w.heap.size + 1, 0, none⟩) (by kernel_rfl) rfl (HL203.out _ _ _ hB6.out z203_len) rfl) rfl (.inl ⟨rfl, rfl, B6.out⟩)
  · cases r2
    · have hbd := fun w9 => run_build (P := Try.prog) w9 78 #[] z203.toArray built203z
      have kR9 := Lib.hid kR2
      have HV2 := Lib.hid (HV.out w2 B2.out)
      clear HM HBD HEL HLC HOC kA2 k6 kR2 HV
      go_wp2_with fail
      refine HV2.out.mono ?_; rintro e w3 ⟨rfl, b3⟩
      have B3 := Lib.hid (bt B2.out b3)
      have kR3 := Lib.hid (kR9.out.below b3 kR9.out.lt)
      clear b3
      go_wp2_with (with_reducible refine wpList_storeB rfl 78 (.tmp 4) (.tmp 22) rfl (w.heap.size + 1) 0 z203 ?_ ?_ z203 78 kR3.out ?_ ?_ ?_ ?_)
      all_goals (first | exact (show 0 + z203.length ≤ z203.length by rw [Nat.zero_add]; exact Nat.le_refl _) | (rw [z203_len]; exact isz203) | exact one_z203 | rfl | skip)
      intro w6 hB6 hK6
      rw [splice_all _ _ rfl] at hB6
      have B6 := Lib.hid (B3.out.trans (hK6.out.below (by omega)))
      go_wp2
      refine bodyPost_ret (results2 (a := 4) (k := 5) (t := 78) (p := ⟨w.heap.size + 1, 0, none⟩) (by kernel_rfl) rfl (HL203.out _ _ _ hB6.out z203_len) rfl) rfl (.inl ⟨rfl, rfl, B6.out⟩)
    · have HV2 := Lib.hid (HV.out w2 B2.out)
      clear HV
      have KK := Lib.hid (And.intro kA2 (And.intro kR2 k6))
      clear kA2 kR2 k6
      go_wp2_with fail
      refine HV2.out.mono ?_; rintro e w3 ⟨rfl, b3⟩
      have B3 := Lib.hid (bt B2.out b3)
      have kA3 := Lib.hid (KK.out.1.below b3 KK.out.1.lt)
      have kR3 := KK.out.2.1.below b3 KK.out.2.1.lt
      have k63 := Lib.hid (KK.out.2.2.below b3 KK.out.2.2.lt)
      have hx3 : w.heap.size + 1 < w3.heap.size := kR3.lt
      clear b3
      have hmf : ∀ (fn : Fn) (first cap : Array Value) (w : World), (Instr.makeFunc fn first cap).run Try.prog w = .ok (.func fn first cap) w := fun _ _ _ _ => rfl
      go_upto_region 4 with fail
      refine wp_region_lit ?_
      refine wpList_loadB rfl 75 (.tmp 6) rfl X6 rfl F1 75 k63.out d49 HU49.out.1 HU49.out.2 (by rw [HF1.out.1]; exact isz49) ?_
      refine wpList_loadB rfl 35 (.tmp 2) rfl w.heap.size rfl [Value.slice q1 n1 c1, Value.slice q2 n2 c2, Value.bool bk, Value.bool al] 35 kA3.out d4 HU4.out.1 HU4.out.2 isz4 ?_
      refine wpList_buildTo rfl 78 #[(1, .tmp 23), (3, .tmp 24)] rfl (some 25) rfl EL.toArray (by simpa [Act.eval, Act.put] using HBD.out) ?_
      simp only [Act.put, List.setIfInBounds_toArray, List.set_cons_zero, List.set_cons_succ]
      go_wp2_with (with_reducible refine wpList_storeB rfl 78 (.tmp 8) (.tmp 25) rfl w3.heap.size 0 EL ?_ ?_ z203 78 ?_ ?_ ?_ ?_ ?_)
      all_goals (first | exact Blk.newAt w3 _ z203 _ rfl | (rw [HEL.out.1, z203_len]; decide) | (rw [HEL.out.1]; exact isz203) | exact HEL.out.2 | rfl | skip)
      intro w5 hB5 hK5
      rw [splice_all _ _ (by rw [HEL.out.1, z203_len])] at hB5
      have b35 : Below w3.heap.size w3 w5 := ((Below.refl _ w3).alloc (Nat.le_refl _) _).trans (hK5.out.below (Nat.le_refl _))
      have hz5 : w5.heap.size = w3.heap.size + 1 := by rw [hK5.out.size]; exact Array.size_push _
      have kR5 := kR3.below b35 hx3
      have B5 := Lib.hid (bt B3.out b35)
      have HM5 := Lib.hid (HM.out w3.heap.size w5 (by first | rfl | trivial) (by first | rfl | trivial) hz5 (by omega) B5.out hB5.out)
      have KR5 := Lib.hid kR5
      clear hB5 hK5 b35 kR3 kA3 k63 HM kR5
      generalize w3.heap.size = X at *
      go_wp2_with fail
      refine HM5.out.mono ?_; rintro e w6 ⟨rfl, v, hB6, hO6⟩
      obtain ⟨fa, fc, hf⟩ := Own.form hO6
      have hone : v.oneCell' = true := by rw [hf]; rfl
      have hb6 : Below X w5 w6 := hB6.kept.below (Nat.le_refl _) (by omega)
      have hk6 := hB6.blk
      have hlv := HLC.out v SR hB6.wf
      have hlo := HOC.out v SR hB6.wf hone
      have HWF := Lib.hid hB6.wf
      have B6 := Lib.hid (B5.out.trans (hb6.mono (by omega)))
      have kR6 := KR5.out.below hb6 (by omega)
      have HO6 := Lib.hid (hO6.mono (B' := w.heap.size + 2) (by omega))
      clear hf hB6 hO6 hb6 KR5 HM5
      unfold RunC
      generalize hLV : caC v (rulC true ms.length hs ms) [Value.slice q1 n1 c1, Value.slice q2 n2 c2, Value.bool bk, Value.bool al] SR = LV at *
      have HLV := Lib.hid hLV
      clear hLV
      go_wp2_with (first | (with_reducible refine wpList_loadB rfl 78 (.tmp 8) rfl X ?_ LV 78 hk6 d203 HU.out.1 HU.out.2 ?_ ?_) | (with_reducible refine wpList_storeB rfl 78 (.tmp 4) (.tmp 30) rfl (w.heap.size + 1) 0 LV ?_ ?_ z203 78 kR6 ?_ ?_ ?_ ?_))
      all_goals (first | (rw [hlv]; exact isz203) | (rw [hlv, z203_len]; decide) | exact hlo | rfl | skip)
      intro w10 hB10 hK10
      rw [splice_all _ _ (by rw [hlv, z203_len])] at hB10
      have B10 := Lib.hid (B6.out.trans (hK10.out.below (by omega)))
      have hO10 := Lib.hid (kept_own HO6.out (Keep.kept hK10.out) (by omega))
      go_wp2
      refine bodyPost_ret (results2 (a := 4) (k := 5) (t := 78) (p := ⟨w.heap.size + 1, 0, none⟩) (by kernel_rfl) rfl (HL203.out _ _ _ hB10.out hlv) rfl) rfl (.inr ⟨rfl, v, by rw [HLV.out]; rfl, hO10.out.mono (by omega), B10.out, HWF.out⟩)
end Go.Proofs.Ytngbddmbmkphcaa.Pv
namespace Go.Proofs.Ytngbddmbmkphcaa.Pv
open Go.RowKit Ac Tr
/-- After some lines of the contents have been cleaned. -/
def flF (S : CaS) : Nat → CaS
  | 0 => S
  | j + 1 => if S.k j = -1 then flF S j else { cleanS (flF S j) (S.k j).toNat with f := (flF S j).f + cleanN (flF S j) (S.k j).toNat }
theorem cleanS_k (S : CaS) (L : Nat) : (cleanS S L).k = S.k := by unfold cleanS; split <;> rfl
theorem cleanS_f (S : CaS) (L : Nat) : (cleanS S L).f = S.f := by unfold cleanS; split <;> rfl
theorem flF_rs (S : CaS) (j : Nat) : (flF S j).rs = S.rs := by
  induction j with
  | zero => rfl
  | succ j ih =>
    rw [flF]; split
    · exact ih
    · exact (cleanS_rs _ _).trans ih
theorem flF_f (S : CaS) (j : Nat) : (flF S j).f ≤ S.f + 4 * j := by
  induction j with
  | zero => exact Nat.le_refl _
  | succ j ih =>
    rw [flF]; split
    · omega
    · have := cleanN_le (flF S j) (S.k j).toNat
      show (flF S j).f + cleanN _ _ ≤ S.f + 4 * (j + 1)
      omega
set_option maxRecDepth 100000 in
set_option maxHeartbeats 4000000 in
theorem flush_i {b : Nat} {pv : List Value} {hs : List (List Int)} {ms : List Int} {S : CaS} {v : Value} {w0 w : World} (h1 : 1 ≤ ms.length) (h6 : ms.length ≤ 6) (h : CaB b pv hs ms S v w0 w) (hv : v.oneCell' = true) (ho : ∀ u ∈ pv, u.oneCell' = true) (hf : S.f ≤ 1000) (hz : w0.heap.size ≤ b + 1) :
    Calls Try.prog 36 #[.pointer (some ⟨b, 0, none⟩)] w (fun e w' => e = .returned (.tuple #[]) ∧ CaB b pv hs ms (flF S ms.length) v w0 w') := by
  have HLS := Lib.hid (flist_i ms.length h1 h6 b 65 _ _ _ S.k w rfl h.blk h.fm)
  have hlt : b < w.heap.size := h.blk.lt
  have H1 := Lib.hid (fun (w1 : World) (hb : Below w.heap.size w w1) => h.later (hb.mono (by omega)) hz)
  have HK := Lib.hid h.wf.k
  have HST := Lib.hid (fun j => (show flF S (j + 1) = if S.k j = -1 then flF S j else { cleanS (flF S j) (S.k j).toNat with f := (flF S j).f + cleanN (flF S j) (S.k j).toNat } from rfl))
  have HFF := Lib.hid (flF_f S)
  have H0 := Lib.hid (show flF S 0 = S from rfl)
  have HCL := Lib.hid (fun (S2 : CaS) (w5 : World) (L : Nat) (hL : L < 16) (h5 : CaB b pv hs ms S2 v w5 w5) => (clean_i h5.drew hv ho L hL).mono (R' := fun e w6 => e = .returned (.int .i64 (cleanN S2 L : Int)) ∧ (w6.cell? ⟨b, 118, none⟩ = some (.int .i64 (S2.f : Int)) ∧ w6.frozen? ⟨b, 118, none⟩ = false) ∧ Hid (CaB b pv hs ms { cleanS S2 L with f := S2.f + cleanN S2 L } v w5 (w6.setCell ⟨b, 118, none⟩ (.int .i64 ((S2.f : Int) + (cleanN S2 L : Int)))))) fun e w6 ⟨he, hB⟩ => by
    obtain ⟨c6, f6, s6⟩ := hB.t4
    rw [cleanS_f] at c6
    have hB7 := s6 (S2.f + cleanN S2 L)
    rw [Int.natCast_add] at hB7
    exact ⟨he, ⟨c6, f6⟩, Lib.hid hB7⟩)
  have HLE := Lib.hid (fun (S2 : CaS) (L : Nat) => cleanN_le S2 L)
  clear h
  generalize flF S = FL at *
  generalize hM : ms.length = M at *
  go_enter Try.func36, Try.ntmps36
  go_wp2_with fail
  refine HLS.out.mono ?_; rintro e w1 ⟨v1, rfl, o1, b1⟩
  have hB1 := H1.out w1 b1
  have hs1 := b1.size
  obtain ⟨a1, c1, rfl, _, _, hrow⟩ := o1.rd
  have hne : ∀ c o, a1 = some ⟨c, o, none⟩ → c ≠ b := fun c o e => by
    rcases o1.cases with ⟨hv1, hx⟩ | ⟨g, cap, hv1, hg, _⟩
    · have := congrArg List.length hx; rw [rowL_len] at this; simp at this; omega
    · injection hv1 with e1
      rw [e] at e1
      injection e1 with e1
      injection e1 with e1
      omega
  have HRW := Lib.hid (fun (wr : World) (hk : Kept b w1 wr) => hk.row hrow hne)
  have HS0 := Lib.hid (show CaB b pv hs ms (FL 0) v w0 w1 ∧ Kept b w1 w1 from ⟨by rw [H0.out]; exact hB1, Kept.refl _ _⟩)
  rw [rowL_len]
  clear o1 b1 hrow hne hB1 H1 HLS
  go_wp2
  go_loopw [3, 9] (fun _ i wr => ∃ j : Nat, j ≤ M ∧ i = .int .i64 j ∧ Hid (CaB b pv hs ms (FL j) v w0 wr ∧ Kept b w1 wr)) (fun _ i _ => M - (intOf i).toNat)
  case atStart => exact ⟨0, Nat.zero_le _, rfl, HS0⟩
  case round =>
    obtain ⟨j, hj, rfl, hI⟩ := hrel
    by_cases hlt2 : j < M
    · obtain ⟨b9, o9, rfl, k9, _⟩ := HRW.out wr hI.out.2 j (by rw [rowL_len]; exact hlt2)
      rw [rowL_get M S.k j hlt2] at k9
      have hst := HST.out j
      have hkr := HK.out j
      have hff := HFF.out j
      have hfb : (FL j).f ≤ 2000 := by omega
      have c118 : wr.cell? ⟨b, 118, none⟩ = some (.int .i64 ((FL j).f : Int)) := hI.out.1.t4.1
      generalize S.k j = x at *
      by_cases hx : x = -1
      · subst hx
        rw [if_pos rfl] at hst
        have hI2 := Lib.hid (show CaB b pv hs ms (FL (j + 1)) v w0 wr ∧ Kept b w1 wr from by rw [hst]; exact hI.out)
        go_wp2
        go_roundw
        case rel => exact ⟨j + 1, by omega, by go_num, hI2⟩
        case measure => simp [intOf]; omega
      · rw [if_neg hx] at hst
        obtain ⟨L, rfl⟩ : ∃ L : Nat, x = (L : Int) := ⟨x.toNat, by omega⟩
        rw [Int.toNat_natCast] at hst
        have hL : L < 16 := by omega
        have hle := HLE.out (FL j) L
        have G := Lib.hid (HCL.out (FL j) wr L hL hI.out.1.self)
        have hk1 := hI.out.2
        have hxb : ((L : Int) == -1) = false := by simp
        have HKK := Lib.hid (fun (w6 : World) (hB : CaB b pv hs ms (FL (j + 1)) v wr w6) => show CaB b pv hs ms (FL (j + 1)) v w0 w6 ∧ Kept b w1 w6 from ⟨hB.from hI.out.1.kept, hk1.trans hB.kept⟩)
        rw [← hst] at G
        generalize cleanN (FL j) L = cn at *
        have e9 : IntKind.i64.wrap (((FL j).f : Int) + (cn : Int)) = ((FL j).f : Int) + (cn : Int) := IntWalk.i64_in _ (by omega)
        go_wp2
        go_region_law (first | (go_simp; go_at_call 57; (with_reducible refine G.out.mono ?_); rintro e w6 ⟨rfl, ⟨c6, f6⟩, hB6⟩))
        all_goals
          have hI2 := Lib.hid (HKK.out _ hB6.out)
          clear hB6
          go_wp2
          go_roundw
          case rel => exact ⟨j + 1, by omega, by go_num, hI2⟩
          case measure => simp [intOf]; omega
    · have e : j = M := by omega
      subst e
      go_wp2
      go_end0
      exact ⟨rfl, hI.out.1⟩
end Go.Proofs.Ytngbddmbmkphcaa.Pv
