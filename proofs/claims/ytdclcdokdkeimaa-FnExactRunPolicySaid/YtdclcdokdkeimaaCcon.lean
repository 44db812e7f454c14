/- Contents: the contracts of both ValidContents. -/
import Derived.Test.YtdclcdokdkeimaaCvp
namespace Go.Proofs.Ytdclcdokdkeimaa.Pv
open Go.RowKit
def okC (xs : List Int) (i : Nat) : Bool := decide (xs.getD i 0 = -1) || (Tr.isA (xs.getD i 0) && !((xs.take i).contains (xs.getD i 0)))
def conTo (xs : List Int) : Nat → Bool
  | 0 => true
  | j + 1 => conTo xs j && okC xs j
theorem conTo_no {xs : List Int} {j : Nat} (h : okC xs j = false) : ∀ m, j < m → conTo xs m = false
  | 0, hj => by omega
  | m + 1, hj => by
    rw [conTo]
    rcases Nat.lt_or_eq_of_le (Nat.le_of_lt_succ hj) with hl | rfl
    · rw [conTo_no h m hl]; rfl
    · rw [h]; simp
theorem conTo_succ {xs : List Int} {j : Nat} (h : conTo xs j = true) (h2 : okC xs j = true) : conTo xs (j + 1) = true := by rw [conTo, h, h2]; rfl
theorem okC_one {xs : List Int} {j : Nat} (h : xs.getD j 0 = -1) : okC xs j = true := by unfold okC; rw [h]; rfl
theorem okC_out {xs : List Int} {j : Nat} (h1 : ¬ xs.getD j 0 = -1) (h : Tr.isA (xs.getD j 0) = false) : okC xs j = false := by unfold okC; rw [decide_eq_false h1, h]; rfl
theorem okC_has {xs : List Int} {j : Nat} (h1 : ¬ xs.getD j 0 = -1) (h : (xs.take j).contains (xs.getD j 0) = true) : okC xs j = false := by unfold okC; rw [decide_eq_false h1, h]; simp
theorem okC_yes {xs : List Int} {j : Nat} (h1 : Tr.isA (xs.getD j 0) = true) (h2 : (xs.take j).contains (xs.getD j 0) = false) : okC xs j = true := by unfold okC; rw [h1, h2]; simp
def conB (n : Nat) (xs : List Int) : Bool := decide (xs.length = n) && conTo xs xs.length
def inC (x : Int) : Bool := decide (-1 ≤ x) && decide (x ≤ 63)
theorem inC_s (x : Int) (w : World) : Calls Try.prog 55 #[.int .i64 x, .int .i64 (-1), .int .i64 63] w (Bl (inC x) w) := by
  unfold inC
  by_cases h : -1 ≤ x
  · go_enter Try.func55, Try.ntmps55
    go_wp2
    go_ret
    exact ⟨ret_bool (by simp [h]), rfl⟩
  · go_enter Try.func55, Try.ntmps55
    go_wp2
    go_ret
    exact ⟨ret_bool (by simp; omega), rfl⟩
set_option maxHeartbeats 4000000 in
theorem con_s (g : Nat) (am : Option Addr) (cm M : Nat) (a : Option Addr) (c : Nat) (xs : List Int) (w : World) (hl : xs.length ≤ 1048576) (hcap : xs.length ≤ c ∧ c ≤ 9223372036854775807) (hM : M ≤ 1048576) (h1 : w.cell? ⟨g, 1, none⟩ = some (.slice am M cm)) (hr : Row w a xs) :
    Calls Try.prog 32 #[.pointer (some ⟨g, 0, none⟩), .slice a xs.length c] w (Dq (conB M xs) w) := by
  have HC := Lib.hid hr
  have HI := Lib.hid (fun x (w' : World) (m : Nat) => (inC_s x (w'.drewN m)).mono (R' := fun e w2 => e = .returned (.bool (inC x)) ∧ ∃ m, w2 = w'.drewN m) fun e w2 ⟨he, hw⟩ => ⟨he, m, hw.symm⟩)
  have HH := Lib.hid (fun (j : Nat) (c' : Nat) (x : Int) (w' : World) (m : Nat) (hj : j < xs.length) (hq : ∃ q, w' = w.drewN q) => (show Calls Try.prog 56 #[.slice a j c', .int .i64 x] (w'.drewN m) (fun e w2 => e = .returned (.bool ((xs.take j).contains x)) ∧ ∃ m, w2 = w'.drewN m) from by
    have hr' : Row (w'.drewN m) a xs := by obtain ⟨q, rfl⟩ := hq; exact hr
    have h := Tr.has_s a c' (xs.take j) x (w'.drewN m) (by rw [List.length_take]; omega) (row_take hr' j)
    rw [List.length_take, Nat.min_eq_left (by omega)] at h
    exact h.mono fun e w2 ⟨he, hw⟩ => ⟨he, m, hw.symm⟩))
  have HNO := Lib.hid (fun j (hj : j < xs.length) (h : okC xs j = false) => (show conB M xs = false by unfold conB; rw [conTo_no h _ hj]; simp))
  have HST := Lib.hid (fun j (h : conTo xs j = true) (h2 : okC xs j = true) => conTo_succ h h2)
  have HE := Lib.hid (fun (h : conTo xs xs.length = true) => (show conB M xs = decide (xs.length = M) by unfold conB; rw [h]; simp))
  obtain ⟨hc1, hc2⟩ := hcap
  clear hr
  unfold Row at HC
  generalize conB M xs = r at *
  generalize hN : xs.length = N at *
  clear hN
  go_enter Try.func32, Try.ntmps32
  go_wp2
  go_loopw [5] (fun i wr => ∃ j : Nat, j ≤ N ∧ i = .int .i64 (j : Nat) ∧ Hid (∃ q, wr = w.drewN q) ∧ Hid (conTo xs j = true)) (fun i _ => N - (intOf i).toNat)
  case atStart => exact ⟨0, Nat.zero_le _, rfl, Lib.hid ⟨0, rfl⟩, Lib.hid rfl⟩
  case round =>
    obtain ⟨j, hj, rfl, hq, hx⟩ := hrel
    by_cases hlt : j < N
    · obtain ⟨b, off, rfl, c1, hb⟩ := HC.out j hlt
      have c2 : wr.cell? ⟨b, off + j, none⟩ = some (.int .i64 (xs.getD j 0)) := by obtain ⟨q, rfl⟩ := hq.out; exact c1
      have hI := Lib.hid (fun m => HI.out (xs.getD j 0) wr m)
      have hH := Lib.hid (fun c' m => HH.out j c' (xs.getD j 0) wr m hlt hq.out)
      have hNo := Lib.hid (HNO.out j hlt)
      have hSt := Lib.hid (HST.out j hx.out)
      have k1 := Lib.hid (okC_one (xs := xs) (j := j))
      have k2 := Lib.hid (okC_out (xs := xs) (j := j))
      have k3 := Lib.hid (okC_has (xs := xs) (j := j))
      have k4 := Lib.hid (okC_yes (xs := xs) (j := j))
      have hjc : j ≤ c := by omega
      have hjc2 : (j : Int) ≤ c := by omega
      have hQ := Lib.hid (fun m => (show ∃ q, wr.drewN m = w.drewN q from by obtain ⟨q, rfl⟩ := hq.out; exact ⟨q + m, World.drewN_drewN ..⟩))
      clear c1 HC HI HH HNO HST hq hx
      generalize okC xs j = ok at *
      generalize xs.getD j 0 = u at *
      by_cases hu : u = -1
      · have hx' := Lib.hid (hSt.out (k1.out hu))
        have hi1 : inC u = true := by subst hu; rfl
        have d0 : decide ((0 : Int) ≤ u) = false := by subst hu; rfl
        rw [hi1] at hI
        clear HE hNo hSt k1 k2 k3 k4 hu hi1
        go_wp2
        go_quiet (first | exact hI.out _ | exact hH.out _ _)
        go_wp2
        go_roundw
        case rel => exact ⟨j + 1, by omega, by go_num, Lib.hid (hQ.out _), hx'⟩
        case measure => simp [intOf] <;> omega
      · cases hA : Tr.isA u
        · have e := hNo.out (k2.out hu hA)
          have hi1 : inC u = false := by unfold Tr.isA at hA; unfold inC; rw [← Bool.decide_and] at hA ⊢; simp at hA ⊢; omega
          rw [hi1] at hI
          clear HE hNo hSt k1 k2 k3 k4 hu hi1 hA
          subst e
          go_wp2
          go_quiet (first | exact hI.out _ | exact hH.out _ _)
          go_wp2
          go_ret
          exact ⟨rfl, hQ.out _⟩
        · have hA2 : 0 ≤ u ∧ u ≤ 63 := by unfold Tr.isA at hA; rw [← Bool.decide_and] at hA; simpa using hA
          have hi1 : inC u = true := by unfold inC; rw [← Bool.decide_and]; simp; omega
          have d0 : (0 : Int) ≤ u := hA2.1
          rw [hi1] at hI
          cases hcb : (xs.take j).contains u
          · rw [hcb] at hH
            have hx' := Lib.hid (hSt.out (k4.out hA hcb))
            clear HE hNo hSt k1 k2 k3 k4 hu hi1 hA hcb hA2
            go_wp2
            go_quiet (first | exact hI.out _ | exact hH.out _ _)
            go_wp2
            go_roundw
            case rel => exact ⟨j + 1, by omega, by go_num, Lib.hid (hQ.out _), hx'⟩
            case measure => simp [intOf] <;> omega
          · rw [hcb] at hH
            have e := hNo.out (k3.out hu hcb)
            clear HE hNo hSt k1 k2 k3 k4 hu hi1 hA hcb hA2
            subst e
            go_wp2
            go_quiet (first | exact hI.out _ | exact hH.out _ _)
            go_wp2
            go_ret
            exact ⟨rfl, hQ.out _⟩
    · have e : j = N := by omega
      subst e
      have e := HE.out hx.out
      have c1 : wr.cell? ⟨g, 1, none⟩ = some (.slice am M cm) := by obtain ⟨q, rfl⟩ := hq.out; exact h1
      clear HE hx HC HI HH HNO HST
      subst e
      go_wp2
      go_ret
      exact ⟨ret_bool (by first | (rw [Bool.eq_iff_iff]; simp; omega) | (rw [Bool.eq_iff_iff]; simp)), hq.out⟩
end Go.Proofs.Ytdclcdokdkeimaa.Pv
