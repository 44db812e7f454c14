/- Contracts of the model's test of a set, of its look for a number, and of its uses of a set. Orders of ages, and policies: each age once, told by a scan and by a sort. No program. The model's test of an order of ages. The program's test of an order of ages: a copy that is sorted. -/
import Derived.Test.YtngbddmbmkphcaaG2
import Derived.IntWalk
import Derived.PlainAid
import Derived.Test.YtngbddmbmkphcaaG1
import Derived.Lib.SlKeysI
namespace Go.Proofs.Ytngbddmbmkphcaa.Tr
open Go.RowKit
theorem has_step (xs : List Int) (n : Int) (j : Nat) (h : j < xs.length) : (xs.take (j + 1)).contains n = ((xs.take j).contains n || decide (xs.getD j 0 = n)) := by
  rw [List.take_succ_eq_append_getElem h, getD_get' xs j h, List.contains_eq_mem, List.contains_eq_mem, ← Bool.decide_or]
  congr 1
  simp only [List.mem_append, List.mem_singleton, eq_comm]
set_option maxHeartbeats 1000000 in
theorem has_s (a : Option Addr) (c : Nat) (xs : List Int) (n : Int) (w : World) (hn : xs.length ≤ 1048576) (hr : Row w a xs) :
    Calls Try.prog 43 #[.slice a xs.length c, .int .i64 n] w (Bl (xs.contains n) w) := by
  have HC := Lib.hid hr
  have HS := Lib.hid (has_step xs n)
  have HE := Lib.hid (show (xs.take xs.length).contains n = xs.contains n by rw [List.take_length])
  have HY := Lib.hid (fun (j : Nat) (h : j < xs.length) (e : xs.getD j 0 = n) => (show xs.contains n = true by rw [List.contains_eq_mem]; exact decide_eq_true (by rw [← e, getD_get' xs j h]; exact List.getElem_mem h)))
  clear hr
  unfold Row at HC
  generalize xs.contains n = r at *
  generalize hN : xs.length = N at *
  go_enter Try.func43, Try.ntmps43
  go_wp2
  go_loop [5] (fun i => ∃ j : Nat, j ≤ N ∧ i = .int .i64 j ∧ Hid ((xs.take j).contains n = false)) (fun i => N - (intOf i).toNat)
  case atStart => exact ⟨0, Nat.zero_le _, rfl, Lib.hid rfl⟩
  case round =>
    obtain ⟨j, hj, rfl, hx⟩ := hrel
    by_cases hlt : j < N
    · obtain ⟨b, off, rfl, c1, hb⟩ := HC.out j hlt
      have hs := Lib.hid (HS.out j hlt)
      have hy := Lib.hid (HY.out j hlt)
      generalize xs.getD j 0 = u at *
      by_cases hu : u = n
      · have e : r = true := hy.out hu
        clear hs hy HE HY HS hx
        subst e
        subst hu
        go_wp2
        go_ret
        exact ⟨rfl, rfl⟩
      · have hnew : Hid ((xs.take (j + 1)).contains n = false) := by show _ = _; rw [hs.out, hx.out, decide_eq_false hu]; rfl
        go_wp2
        go_round
        case rel => exact ⟨j + 1, by omega, by go_num, hnew⟩
        case measure => simp [intOf]; omega
    · have e : j = N := by omega
      subst e
      have e : r = false := HE.out.symm.trans hx.out
      clear HE HY HS hx
      subst e
      go_wp2
      go_ret
      exact ⟨rfl, rfl⟩
theorem only_take (xs set : List Int) (j : Nat) (h : j < xs.length) : onlyP (xs.take (j + 1)) set = onlyP (xs.take j) set ++ if set.contains (xs.getD j 0) then [xs.getD j 0] else [] := by
  rw [List.take_succ_eq_append_getElem h, only_snoc, getD_get' xs j h]
theorem only_length (xs set : List Int) : (onlyP xs set).length ≤ xs.length := List.length_filter_le _ _
/-- The test of a set, the first j. -/
theorem rises_no (s : List Int) (j n : Nat) (hj : j < n) (h : (isA (s.getD j 0) && (decide (j = 0) || decide (s.getD (j - 1) 0 < s.getD j 0))) = false) : risesK s n = false := by
  unfold risesK
  rw [List.all_eq_false]
  exact ⟨j, by simpa using hj, by simpa using h⟩
end Go.Proofs.Ytngbddmbmkphcaa.Tr
namespace Go.Proofs.Ytngbddmbmkphcaa.Pv
theorem getDg (xs : List Int) (j : Nat) (h : j < xs.length) : xs.getD j 0 = xs[j] := by simp [List.getD_eq_getElem?_getD, List.getElem?_eq_getElem h]
def inN (n : Nat) (x : Int) : Bool := decide (0 ≤ x) && decide (x ≤ (n : Int) - 1)
def okO (n : Nat) (xs : List Int) (i : Nat) : Bool := inN n (xs.getD i 0) && !((xs.take i).contains (xs.getD i 0))
def okTo (n : Nat) (xs : List Int) : Nat → Bool
  | 0 => true
  | j + 1 => okTo n xs j && okO n xs j
/-- whether a list has each number below n once -/
def ordB (n : Nat) (xs : List Int) : Bool := okTo n xs xs.length && decide (xs.length = n)
theorem okTo_no {n : Nat} {xs : List Int} {j : Nat} (h : okO n xs j = false) : ∀ m, j < m → okTo n xs m = false
  | 0, hj => by omega
  | m + 1, hj => by
    rw [okTo]
    rcases Nat.lt_or_eq_of_le (Nat.le_of_lt_succ hj) with hl | rfl
    · rw [okTo_no h m hl]; rfl
    · rw [h]; simp
theorem okTo_all {n : Nat} {xs : List Int} : ∀ m, okTo n xs m = true → ∀ i, i < m → okO n xs i = true
  | 0, _, i, hi => by omega
  | m + 1, h, i, hi => by
    rw [okTo, Bool.and_eq_true] at h
    rcases Nat.lt_or_eq_of_le (Nat.le_of_lt_succ hi) with hl | rfl
    · exact okTo_all m h.1 i hl
    · exact h.2
theorem okTo_of {n : Nat} {xs : List Int} : ∀ m, (∀ i, i < m → okO n xs i = true) → okTo n xs m = true
  | 0, _ => rfl
  | m + 1, h => by rw [okTo, okTo_of m (fun i hi => h i (by omega)), h m (by omega)]; rfl
theorem ordB_no {n : Nat} {xs : List Int} {j : Nat} (hj : j < xs.length) (h : okO n xs j = false) : ordB n xs = false := by unfold ordB; rw [okTo_no h _ hj]; rfl
theorem ordB_end {n : Nat} {xs : List Int} (h : okTo n xs xs.length = true) : ordB n xs = decide (xs.length = n) := by unfold ordB; rw [h]; rfl
theorem ordB_len {n : Nat} {xs : List Int} (h : ordB n xs = true) : xs.length = n := by unfold ordB at h; simp at h; exact h.2
theorem okTo_succ {n : Nat} {xs : List Int} {j : Nat} (h : okTo n xs j = true) (h2 : okO n xs j = true) : okTo n xs (j + 1) = true := by rw [okTo, h, h2]; rfl
theorem okO_in {n : Nat} {xs : List Int} {j : Nat} (h : inN n (xs.getD j 0) = false) : okO n xs j = false := by unfold okO; rw [h]; rfl
theorem okO_has {n : Nat} {xs : List Int} {j : Nat} (h : (xs.take j).contains (xs.getD j 0) = true) : okO n xs j = false := by unfold okO; rw [h]; simp
theorem okO_yes {n : Nat} {xs : List Int} {j : Nat} (h1 : inN n (xs.getD j 0) = true) (h2 : (xs.take j).contains (xs.getD j 0) = false) : okO n xs j = true := by unfold okO; rw [h1, h2]; rfl
/-- the numbers below n in their order -/
def upTo (n : Nat) : List Int := (List.range n).map fun i : Nat => (i : Int)
theorem upTo_length (n : Nat) : (upTo n).length = n := by simp [upTo]
theorem mem_upTo {n : Nat} {x : Int} : x ∈ upTo n ↔ 0 ≤ x ∧ x ≤ (n : Int) - 1 := by
  unfold upTo
  rw [List.mem_map]
  constructor
  · rintro ⟨i, hi, rfl⟩
    rw [List.mem_range] at hi
    omega
  · intro h
    exact ⟨x.toNat, by rw [List.mem_range]; omega, by omega⟩
theorem okO_of_nodup {n : Nat} {xs : List Int} (hN : xs.Nodup) (hm : ∀ x ∈ xs, inN n x = true) (i : Nat) (hi : i < xs.length) : okO n xs i = true := by
  refine okO_yes ?_ ?_
  · rw [getDg xs i hi]; exact hm _ (List.getElem_mem hi)
  · rw [getDg xs i hi]
    rw [List.contains_eq_mem, decide_eq_false_iff_not]
    intro hx
    obtain ⟨j, hj, e⟩ := List.mem_take_iff_getElem.1 hx
    have hji : j < i := by omega
    have := (List.pairwise_iff_getElem.1 hN) j i (by omega) hi hji
    exact this e
theorem nodup_of_okO {n : Nat} {xs : List Int} (h : ∀ i, i < xs.length → okO n xs i = true) : xs.Nodup ∧ ∀ x ∈ xs, inN n x = true := by
  constructor
  · refine List.pairwise_iff_getElem.2 fun j i hj hi hji e => ?_
    have h1 := h i hi
    unfold okO at h1
    rw [Bool.and_eq_true, getDg xs i hi] at h1
    have h2 : (xs.take i).contains xs[i] = true := by
      rw [List.contains_eq_mem]
      exact decide_eq_true (List.mem_take_iff_getElem.2 ⟨j, by omega, e⟩)
    rw [h2] at h1
    exact absurd h1.2 (by decide)
  · intro x hx
    obtain ⟨i, hi, rfl⟩ := List.getElem_of_mem hx
    have h1 := h i hi
    unfold okO at h1
    rw [Bool.and_eq_true, getDg xs i hi] at h1
    exact h1.1
theorem inN_mem {n : Nat} {x : Int} : inN n x = true ↔ 0 ≤ x ∧ x ≤ (n : Int) - 1 := by unfold inN; simp
/-- A rising list of n numbers below n. -/
theorem rise_eq (s : List Int) (n : Nat) (hl : s.length = n) (hs : s.Pairwise (· < ·)) (hm : ∀ x ∈ s, 0 ≤ x ∧ x ≤ (n : Int) - 1) : s = upTo n := by
  have hp := List.pairwise_iff_getElem.1 hs
  have lo : ∀ i (hi : i < s.length), (i : Int) ≤ s[i] := by
    intro i
    induction i with
    | zero => intro hi; exact (hm _ (List.getElem_mem hi)).1
    | succ i ih =>
      intro hi
      have h1 := ih (by omega)
      have h2 := hp i (i + 1) (by omega) hi (by omega)
      omega
  have hi2 : ∀ k i (hi : i < s.length), i + k + 1 = n → s[i] ≤ (i : Int) := by
    intro k
    induction k with
    | zero =>
      intro i hi e
      have := (hm _ (List.getElem_mem hi)).2
      omega
    | succ k ih =>
      intro i hi e
      have h1 := ih (i + 1) (by omega) (by omega)
      have h2 := hp i (i + 1) hi (by omega) (by omega)
      omega
  refine List.ext_getElem (by rw [hl, upTo_length]) fun i h1 h2 => ?_
  have a := lo i h1
  have b := hi2 (n - i - 1) i h1 (by omega)
  have c : (upTo n)[i] = (i : Int) := by simp [upTo]
  rw [c]
  omega
/-- A list of n numbers has each below n once exactly if its sort is those numbers in their order. -/
theorem ordB_sort (n : Nat) (xs : List Int) (hl : xs.length = n) : ordB n xs = decide (xs.mergeSort (fun x y => decide (x ≤ y)) = upTo n) := by
  have hperm := List.mergeSort_perm xs (fun x y => decide (x ≤ y))
  have hpw : (xs.mergeSort (fun x y => decide (x ≤ y))).Pairwise (· ≤ ·) := by
    have h := List.pairwise_mergeSort (le := fun x y : Int => decide (x ≤ y)) (fun a b c h1 h2 => by simp at *; omega) (fun a b => by simp; omega) xs
    exact h.imp fun h => by simpa using h
  by_cases ho : ordB n xs = true
  · rw [ho]
    symm
    rw [decide_eq_true_eq]
    have h1 : okTo n xs xs.length = true := by unfold ordB at ho; simp at ho; exact ho.1
    obtain ⟨hnd, hin⟩ := nodup_of_okO (okTo_all _ h1)
    have hnd2 : (xs.mergeSort (fun x y => decide (x ≤ y))).Nodup := (hperm.nodup_iff).2 hnd
    refine rise_eq _ n (by rw [hperm.length_eq, hl]) ?_ fun x hx => inN_mem.1 (hin x (hperm.mem_iff.1 hx))
    have hb := List.pairwise_and_iff.2 ⟨hpw, hnd2⟩
    exact hb.imp fun {a b} h => by omega
  · have ho2 : ordB n xs = false := by simpa using ho
    rw [ho2]
    symm
    rw [decide_eq_false_iff_not]
    intro e
    refine ho ?_
    have hmem : ∀ x ∈ xs, inN n x = true := fun x hx => by
      have := hperm.mem_iff.2 hx
      rw [e] at this
      exact inN_mem.2 (mem_upTo.1 this)
    have hnd : xs.Nodup := by
      refine hperm.nodup_iff.1 ?_
      rw [e]
      refine List.pairwise_iff_getElem.2 fun j i hj hi hji e2 => ?_
      have c1 : (upTo n)[j] = (j : Int) := by simp [upTo]
      have c2 : (upTo n)[i] = (i : Int) := by simp [upTo]
      rw [c1, c2] at e2
      omega
    rw [ordB_end (okTo_of _ (okO_of_nodup hnd hmem)), decide_eq_true hl]
/-- whether orders for hits and one for a miss are a valid policy -/
def isP (hs : List (List Int)) (ms : List Int) : Bool := decide (1 ≤ ms.length) && decide (ms.length ≤ 6) && decide (hs.length = ms.length) && ordB ms.length ms && hs.all (ordB ms.length)
theorem all_take (hs : List (List Int)) (n j : Nat) (hj : j < hs.length) : (hs.take (j + 1)).all (ordB n) = ((hs.take j).all (ordB n) && ordB n (hs.getD j [])) := by
  rw [List.take_succ_eq_append_getElem hj, List.all_append, List.getD_eq_getElem?_getD, List.getElem?_eq_getElem hj]
  simp
theorem all_no (hs : List (List Int)) (n j : Nat) (hj : j < hs.length) (h : ordB n (hs.getD j []) = false) : hs.all (ordB n) = false := by
  rw [List.all_eq_false]
  refine ⟨hs.getD j [], ?_, by rw [h]; decide⟩
  rw [List.getD_eq_getElem?_getD, List.getElem?_eq_getElem hj]
  exact List.getElem_mem hj
end Go.Proofs.Ytngbddmbmkphcaa.Pv
namespace Go.Proofs.Ytngbddmbmkphcaa.Pv
open Go.RowKit
theorem in_n (n : Nat) (x : Int) (hn : n ≤ 1000) (w : World) : Calls Try.prog 73 #[.int .i64 x, .int .i64 0, .int .i64 ((n : Int) - 1)] w (Bl (inN n x) w) := by
  unfold inN
  by_cases h : 0 ≤ x
  · go_enter Try.func73, Try.ntmps73
    go_wp2
    go_ret
    exact ⟨ret_bool (by simp [h]), rfl⟩
  · go_enter Try.func73, Try.ntmps73
    go_wp2
    go_ret
    exact ⟨ret_bool (by simp; omega), rfl⟩
theorem row_take {w : World} {a : Option Addr} {xs : List Int} (h : Row w a xs) (j : Nat) : Row w a (xs.take j) := fun i hi => by
  have hi' : i < j ∧ i < xs.length := by rw [List.length_take] at hi; omega
  obtain ⟨b, off, e, c, hb⟩ := h i hi'.2
  refine ⟨b, off, e, ?_, hb⟩
  rw [c, List.getD_eq_getElem?_getD, List.getD_eq_getElem?_getD, List.getElem?_take_of_lt hi'.1]
/-- What a test leaves that may draw. -/
def Dq (b : Bool) (w : World) (e : Ending) (w' : World) : Prop := e = .returned (.bool b) ∧ ∃ q, w' = w.drewN q
set_option maxHeartbeats 2000000 in
theorem ord_s (a : Option Addr) (c : Nat) (xs : List Int) (n : Nat) (w : World) (hl : xs.length ≤ 1048576) (hcap : xs.length ≤ c ∧ c ≤ 9223372036854775807) (hn : n ≤ 1000) (hr : Row w a xs) :
    Calls Try.prog 58 #[.slice a xs.length c, .int .i64 (n : Nat)] w (Dq (ordB n xs) w) := by
  have HC := Lib.hid hr
  have HI := Lib.hid (fun x (w' : World) (m : Nat) => (in_n n x hn (w'.drewN m)).mono (R' := fun e w2 => e = .returned (.bool (inN n x)) ∧ ∃ m, w2 = w'.drewN m) fun e w2 ⟨he, hw⟩ => ⟨he, m, hw.symm⟩)
  have HH := Lib.hid (fun (j : Nat) (c' : Nat) (x : Int) (w' : World) (m : Nat) (hj : j < xs.length) (hq : ∃ q, w' = w.drewN q) => (show Calls Try.prog 43 #[.slice a j c', .int .i64 x] (w'.drewN m) (fun e w2 => e = .returned (.bool ((xs.take j).contains x)) ∧ ∃ m, w2 = w'.drewN m) from by
    have hr' : Row (w'.drewN m) a xs := by obtain ⟨q, rfl⟩ := hq; exact hr
    have h := Tr.has_s a c' (xs.take j) x (w'.drewN m) (by rw [List.length_take]; omega) (row_take hr' j)
    rw [List.length_take, Nat.min_eq_left (by omega)] at h
    exact h.mono fun e w2 ⟨he, hw⟩ => ⟨he, m, hw.symm⟩))
  have HIN := Lib.hid (fun j (hj : j < xs.length) (h : inN n (xs.getD j 0) = false) => ordB_no hj (okO_in h))
  have HHAS := Lib.hid (fun j (hj : j < xs.length) (h : (xs.take j).contains (xs.getD j 0) = true) => ordB_no (n := n) hj (okO_has h))
  have HST := Lib.hid (fun j (h : okTo n xs j = true) (h1 : inN n (xs.getD j 0) = true) (h2 : (xs.take j).contains (xs.getD j 0) = false) => okTo_succ h (okO_yes h1 h2))
  have HE := Lib.hid (fun h => ordB_end (n := n) (xs := xs) h)
  have HW := Lib.hid (Go.IntWalk.i64_in ((n : Int) - 1) (by omega))
  obtain ⟨hc1, hc2⟩ := hcap
  clear hr
  unfold Row at HC
  generalize ordB n xs = r at *
  generalize hN : xs.length = N at *
  clear hN
  go_enter Try.func58, Try.ntmps58
  go_wp2
  go_loopw [5] (fun i wr => ∃ j : Nat, j ≤ N ∧ i = .int .i64 (j : Nat) ∧ Hid (∃ q, wr = w.drewN q) ∧ Hid (okTo n xs j = true)) (fun i _ => N - (intOf i).toNat)
  case atStart => exact ⟨0, Nat.zero_le _, rfl, Lib.hid ⟨0, rfl⟩, Lib.hid rfl⟩
  case round =>
    obtain ⟨j, hj, rfl, hq, hx⟩ := hrel
    by_cases hlt : j < N
    · obtain ⟨b, off, rfl, c1, hb⟩ := HC.out j hlt
      have c2 : wr.cell? ⟨b, off + j, none⟩ = some (.int .i64 (xs.getD j 0)) := by obtain ⟨q, rfl⟩ := hq.out; exact c1
      have hI := Lib.hid (fun m => HI.out (xs.getD j 0) wr m)
      have hH := Lib.hid (fun c' m => HH.out j c' (xs.getD j 0) wr m hlt hq.out)
      have h1 := Lib.hid (HIN.out j hlt)
      have h2 := Lib.hid (HHAS.out j hlt)
      have h3 := Lib.hid (HST.out j hx.out)
      have hjc : j ≤ c := by omega
      have hjc2 : (j : Int) ≤ c := by omega
      have hQ := Lib.hid (fun m => (show ∃ q, wr.drewN m = w.drewN q from by obtain ⟨q, rfl⟩ := hq.out; exact ⟨q + m, World.drewN_drewN ..⟩))
      clear c1 HC HI HH HIN HHAS HST hq
      generalize xs.getD j 0 = u at *
      cases hin : inN n u
      · have e := h1.out hin
        rw [hin] at hI
        clear HE hx h1 h2 h3
        subst e
        go_wp2
        have hw := HW.out
        go_quiet (first | exact hI.out _ | exact hH.out _ _)
        clear hw
        go_wp2
        go_ret
        exact ⟨rfl, hQ.out _⟩
      · rw [hin] at hI
        cases hcb : (xs.take j).contains u
        · rw [hcb] at hH
          have hx' := Lib.hid (h3.out hin hcb)
          clear HE hx h1 h2 h3 hcb hin
          go_wp2
          have hw := HW.out
          go_quiet (first | exact hI.out _ | exact hH.out _ _)
          clear hw
          go_wp2
          go_roundw
          case rel => exact ⟨j + 1, by omega, by go_num, Lib.hid (hQ.out _), hx'⟩
          case measure => simp [intOf] <;> omega
        · rw [hcb] at hH
          have e := h2.out hcb
          clear HE hx h1 h2 h3 hcb hin
          subst e
          go_wp2
          have hw := HW.out
          go_quiet (first | exact hI.out _ | exact hH.out _ _)
          clear hw
          go_wp2
          go_ret
          exact ⟨rfl, hQ.out _⟩
    · have e : j = N := by omega
      subst e
      have e := HE.out hx.out
      clear HE hx HC HI HH HIN HHAS HST
      subst e
      go_wp2
      go_ret
      exact ⟨ret_bool (by first | (rw [Bool.eq_iff_iff]; simp; omega) | (rw [Bool.eq_iff_iff]; simp)), hq.out⟩
/-- A list of lists that is read, each with its room. -/
def RdR (w : World) (a : Option Addr) (hs : List (List Int)) : Prop :=
  ∀ i, i < hs.length → ∃ b off A C, a = some ⟨b, off, none⟩ ∧ w.cell? ⟨b, off + i, none⟩ = some (.slice A (hs.getD i []).length C) ∧ Row w A (hs.getD i []) ∧ b < w.heap.size ∧
    (hs.getD i []).length ≤ 1048576 ∧ (hs.getD i []).length ≤ C ∧ C ≤ 9223372036854775807 ∧ (A = none ∨ ∃ b off, A = some ⟨b, off, none⟩)
theorem isP_low {hs : List (List Int)} {ms : List Int} (h : ¬ 1 ≤ ms.length) : isP hs ms = false := by unfold isP; rw [decide_eq_false h]; rfl
theorem isP_high {hs : List (List Int)} {ms : List Int} (h : ¬ ms.length ≤ 6) : isP hs ms = false := by unfold isP; rw [decide_eq_false h]; simp
theorem isP_len {hs : List (List Int)} {ms : List Int} (h : ¬ hs.length = ms.length) : isP hs ms = false := by unfold isP; rw [decide_eq_false h]; simp
theorem isP_miss {hs : List (List Int)} {ms : List Int} (h : ordB ms.length ms = false) : isP hs ms = false := by unfold isP; rw [h]; simp
theorem isP_hit {hs : List (List Int)} {ms : List Int} (j : Nat) (hj : j < hs.length) (h : ordB ms.length (hs.getD j []) = false) : isP hs ms = false := by unfold isP; rw [all_no hs _ j hj h]; simp
theorem isP_yes {hs : List (List Int)} {ms : List Int} (h1 : 1 ≤ ms.length) (h2 : ms.length ≤ 6) (h3 : hs.length = ms.length) (h4 : ordB ms.length ms = true) (h5 : (hs.take hs.length).all (ordB ms.length) = true) : isP hs ms = true := by
  rw [List.take_length] at h5
  unfold isP
  rw [decide_eq_true h1, decide_eq_true h2, decide_eq_true h3, h4, h5]
  rfl
theorem isP_no_of {b : Bool} (h : b = false) (w : World) (e : Ending) (w' : World) (h2 : e = .returned (.bool false) ∧ ∃ q, w' = w.drewN q) : Dq b w e w' := by subst h; exact h2
set_option maxHeartbeats 4000000 in
theorem is_s (g : Nat) (a a' : Option Addr) (c c' : Nat) (hs : List (List Int)) (ms : List Int) (w : World) (hg : g < w.heap.size) (h0 : w.cell? ⟨g, 0, none⟩ = some (.slice a hs.length c)) (h1 : w.cell? ⟨g, 1, none⟩ = some (.slice a' ms.length c'))
    (hr : Row w a' ms) (hcap : ms.length ≤ c' ∧ c' ≤ 9223372036854775807) (hm : ms.length ≤ 1048576) (hh : RdR w a hs) (hl : hs.length ≤ 1048576) :
    Calls Try.prog 40 #[.pointer (some ⟨g, 0, none⟩)] w (Dq (isP hs ms) w) := by
  have HLO := Lib.hid (fun h => isP_low (hs := hs) (ms := ms) h)
  have HHI := Lib.hid (fun h => isP_high (hs := hs) (ms := ms) h)
  have HLE := Lib.hid (fun h => isP_len (hs := hs) (ms := ms) h)
  have HMI := Lib.hid (fun h => isP_miss (hs := hs) (ms := ms) h)
  have HHT := Lib.hid (fun j hj h => isP_hit (hs := hs) (ms := ms) j hj h)
  have HYE := Lib.hid (fun h1 h2 h3 h4 h5 => isP_yes (hs := hs) (ms := ms) h1 h2 h3 h4 h5)
  have HO := Lib.hid (fun (h6 : ms.length ≤ 6) => ord_s a' c' ms ms.length w hm hcap (by omega) hr)
  have HJ := Lib.hid (fun (h6 : ms.length ≤ 6) j (hj : j < hs.length) => (show ∃ b off A C, a = some ⟨b, off, none⟩ ∧ w.cell? ⟨b, off + j, none⟩ = some (.slice A (hs.getD j []).length C) ∧ b < w.heap.size ∧
      ∀ (w' : World), (∃ q, w' = w.drewN q) → Calls Try.prog 58 #[.slice A (hs.getD j []).length C, .int .i64 (ms.length : Nat)] w' (fun e w2 => e = .returned (.bool (ordB ms.length (hs.getD j []))) ∧ ∃ q, w2 = w.drewN q) from by
    obtain ⟨b, off, A, C, e1, e2, e3, e4, e5, e6, e7, _⟩ := hh j hj
    exact ⟨b, off, A, C, e1, e2, e4, fun w' hq => (ord_s A C _ ms.length w' e5 ⟨e6, e7⟩ (by omega) (by obtain ⟨q, rfl⟩ := hq; exact e3)).mono fun e w2 ⟨he, q, hw⟩ => ⟨he, by obtain ⟨q0, rfl⟩ := hq; exact ⟨q0 + q, by rw [hw, World.drewN_drewN]⟩⟩⟩))
  have HAT := Lib.hid (fun j hj => all_take hs ms.length j hj)
  clear hh hr
  generalize isP hs ms = r at *
  generalize hom : ordB ms.length ms = om at *
  clear hom
  generalize hMM : ms.length = M at *
  clear hMM
  generalize hNN : hs.length = N at *
  clear hNN
  go_enter Try.func40, Try.ntmps40
  by_cases m1 : 1 ≤ M
  · have d1 : decide ((M : Int) < 1) = false := by simp; omega
    by_cases m6 : M ≤ 6
    · have d6 : decide ((6 : Int) < (M : Int)) = false := by simp; omega
      by_cases hne : N = M
      · subst hne
        cases om
        · have e := HMI.out rfl
          have ho := Lib.hid (HO.out m6)
          clear HLO HHI HLE HMI HHT HYE HO HJ HAT
          subst e
          go_wp2_with (go_at_call 58; refine ho.out.mono ?_; rintro e w1 ⟨rfl, hq⟩)
          go_ret
          exact ⟨rfl, hq⟩
        · have ho := Lib.hid (HO.out m6)
          have hJ := Lib.hid (HJ.out m6)
          have hY := Lib.hid (fun h5 => HYE.out m1 m6 rfl rfl h5)
          clear HLO HHI HLE HMI HYE HO HJ
          go_wp2_with (go_at_call 58; refine ho.out.mono ?_; rintro e w1 ⟨rfl, hq⟩)
          have HQ := Lib.hid hq
          clear hq
          go_loopw [4] (fun i wr => ∃ j : Nat, j ≤ N ∧ i = .int .i64 (j : Nat) ∧ Hid (∃ q, wr = w.drewN q) ∧ Hid ((hs.take j).all (ordB N) = true)) (fun i _ => N - (intOf i).toNat)
          case atStart => exact ⟨0, Nat.zero_le _, rfl, HQ, Lib.hid rfl⟩
          case round =>
            obtain ⟨j, hj, rfl, hq, hx⟩ := hrel
            have e0 : wr.cell? ⟨g, 0, none⟩ = some (.slice a N c) := by obtain ⟨q, rfl⟩ := hq.out; exact h0
            by_cases hlt : j < N
            · obtain ⟨b, off, A, C, rfl, c1, hb, HC⟩ := hJ.out j hlt
              have c2 : wr.cell? ⟨b, off + j, none⟩ = some (.slice A (hs.getD j []).length C) := by obtain ⟨q, rfl⟩ := hq.out; exact c1
              have HCH := Lib.hid (HC wr hq.out)
              have HT := HHT.out j hlt
              have HA := HAT.out j hlt
              rw [hx.out] at HA
              clear c1 HC hJ hY HHT HAT
              generalize (hs.getD j []).length = L at *
              cases ho2 : ordB N (hs.getD j [])
              · have e := HT ho2
                rw [ho2] at HCH
                clear HT HA ho2 hx
                subst e
                go_wp2_with (go_at_call 58; refine HCH.out.mono ?_; rintro e w1 ⟨rfl, hq1⟩)
                go_ret
                exact ⟨rfl, hq1⟩
              · rw [ho2] at HCH HA
                have HA2 := Lib.hid HA
                clear HT HA ho2 hx
                go_wp2_with (go_at_call 58; refine HCH.out.mono ?_; rintro e w1 ⟨rfl, hq1⟩)
                go_roundw
                case rel => exact ⟨j + 1, by omega, by go_num, Lib.hid hq1, HA2⟩
                case measure => simp [intOf]; omega
            · have e : j = N := by omega
              subst e
              have e := hY.out hx.out
              clear hJ hY HHT HAT hx
              subst e
              go_wp2
              go_ret
              exact ⟨rfl, hq.out⟩
      · have d3 : ((N : Int) == (M : Int)) = false := by simp; omega
        have e := HLE.out hne
        clear HLO HHI HLE HMI HHT HYE HO HJ HAT
        subst e
        go_wp2
        go_ret
        exact ⟨rfl, 0, rfl⟩
    · have d6 : (6 : Int) < (M : Int) := by omega
      have e := HHI.out m6
      clear HLO HHI HLE HMI HHT HYE HO HJ HAT
      subst e
      go_wp2
      go_ret
      exact ⟨rfl, 0, rfl⟩
  · have d1 : (M : Int) < 1 := by omega
    have e := HLO.out m1
    clear HLO HHI HLE HMI HHT HYE HO HJ HAT
    subst e
    go_wp2
    go_ret
    exact ⟨rfl, 0, rfl⟩
end Go.Proofs.Ytngbddmbmkphcaa.Pv
namespace Go.Proofs.Ytngbddmbmkphcaa.Pv
open Go.RowKit Go.Sort
/-- the ages of a list, and behind them those that stay -/
def ordF (xs : List Int) (i : Nat) : Int := if i < xs.length then xs.getD i 0 else i
theorem cur6_len : cur6.length = 6 := rfl
theorem ord_cells (xs : List Int) (h : xs.length ≤ 6) (i : Nat) (hi : i < 6) : (Go.splice cur6 0 (xs.map (Value.int .i64))).toArray[i]? = some (.int .i64 (ordF xs i)) := by
  have e : Go.splice cur6 0 (xs.map (Value.int .i64)) = xs.map (Value.int .i64) ++ cur6.drop xs.length := by simp [Go.splice]
  rw [e]
  unfold ordF
  by_cases hlt : i < xs.length
  · rw [if_pos hlt, List.getElem?_toArray, List.getElem?_append_left (by simpa using hlt), List.getElem?_map, List.getElem?_eq_getElem hlt, getDg xs i hlt]
    rfl
  · rw [if_neg hlt, List.getElem?_toArray, List.getElem?_append_right (by simp; omega), List.getElem?_drop, List.length_map]
    rw [show xs.length + (i - xs.length) = i by omega]
    rcases below6 hi with rfl | rfl | rfl | rfl | rfl | rfl <;> rfl
theorem ord_take (xs : List Int) : (Go.splice cur6 0 (xs.map (Value.int .i64))).take xs.length = xs.map (Value.int .i64) := by
  have e : Go.splice cur6 0 (xs.map (Value.int .i64)) = xs.map (Value.int .i64) ++ cur6.drop xs.length := by simp [Go.splice]
  rw [e, List.take_append_of_le_length (by simp)]
  exact List.take_of_length_le (by simp)
theorem ordF_upTo (n : Nat) (hn : n ≤ 6) (xs : List Int) (hl : xs.length = n) : xs = upTo n ↔ ∀ i, i < 6 → ordF xs i = i := by
  constructor
  · rintro rfl i hi
    unfold ordF
    split
    · rename_i h; rw [getDg _ i h]; simp [upTo]
    · rfl
  · intro h
    refine List.ext_getElem (by rw [hl, upTo_length]) fun i h1 h2 => ?_
    have := h i (by omega)
    unfold ordF at this
    rw [if_pos h1, getDg xs i h1] at this
    rw [this]; simp [upTo]
theorem put_cells (cur : List Value) (s : List Int) (i : Nat) (hc : cur.length = 6) (hi : i < 6) (hs : s.length ≤ 6) (hcur : s.length ≤ i → cur.toArray[i]? = some (.int .i64 (i : Nat))) :
    (putCells encZ 0 s.toArray cur.toArray)[i]? = some (.int .i64 (ordF s i)) := by
  unfold ordF
  by_cases h : i < s.length
  · rw [if_pos h, getDg s i h]
    simp [putCells, h, hc, hi, encZ]
  · rw [if_neg h]
    have h2 := hcur (by omega)
    simp [putCells, h, hc, hi] at h2 ⊢
    exact h2
theorem six_list (xs : List Int) (h : xs.length ≤ 6) : [Value.int .i64 (ordF xs 0), .int .i64 (ordF xs 1), .int .i64 (ordF xs 2), .int .i64 (ordF xs 3), .int .i64 (ordF xs 4), .int .i64 (ordF xs 5)] = Go.splice cur6 0 (xs.map (Value.int .i64)) := by
  have hlen : (Go.splice cur6 0 (xs.map (Value.int .i64))).length = 6 := by simp [Go.splice, cur6]; omega
  refine List.ext_getElem? fun i => ?_
  by_cases hi : i < 6
  · have := ord_cells xs h i hi
    rw [List.getElem?_toArray] at this
    rw [this]
    rcases below6 hi with rfl | rfl | rfl | rfl | rfl | rfl <;> rfl
  · rw [List.getElem?_eq_none (by show 6 ≤ i; omega), List.getElem?_eq_none (by omega)]
theorem drewB {w w' : World} (h : Below w.drew.heap.size w.drew w') : Below w.heap.size w w' := (Below.refl _ w).drew.trans h
set_option maxHeartbeats 4000000 in
set_option maxRecDepth 100000 in
theorem order_i (a : Option Addr) (c n : Nat) (xs : List Int) (w : World) (hl : xs.length = n) (h1 : 1 ≤ n) (h6 : n ≤ 6) (hcap : n ≤ c ∧ c ≤ 9223372036854775807) (hr : Row w a xs) :
    Calls Try.prog 75 #[.slice a n c, .int .i64 (n : Nat)] w (RetB (.tuple #[sixf (ordF xs), .bool (ordB n xs)]) w) := by
  obtain ⟨ba, oa, rfl, _⟩ := hr 0 (by omega)
  have HS := Lib.hid (fun w => same_i w)
  unfold six at HS
  have hz := z6_size w
  have HSRC := Lib.hid (fun (w' : World) (hb : Below w.heap.size w w') (j : Nat) (x : Int) (hx : xs[j]? = some x) => (show w'.cell? ⟨ba, oa + j, none⟩ = some (.int .i64 x) from by
    obtain ⟨hj, rfl⟩ := List.getElem?_eq_some_iff.1 hx
    obtain ⟨b', o', e, hc, hlt⟩ := hr j hj
    injection e with e
    injection e with e1 e2
    subst e1 e2
    rw [hb.cell (p := ⟨ba, oa + j, none⟩) hlt, hc, getDg xs j hj]))
  have hlm : (xs.map (Value.int .i64)).length = n := by rw [List.length_map, hl]
  have HM1 : ∀ v ∈ xs.map (Value.int .i64), v.oneCell' = true := fun v hv => by
    obtain ⟨x, _, rfl⟩ := List.mem_map.1 hv
    rfl
  have HX := Lib.hid (fun i hi => ord_cells xs (by omega) i hi)
  have HLM := Lib.hid hlm
  have HM1 := Lib.hid HM1
  clear hlm
  go_enter Try.func75, Try.ntmps75
  go_wp2_with fail
  refine (HS.out _).mono ?_
  rintro e w1 ⟨rfl, b1⟩
  have b1' : Below (w.heap.size + 1) (w.alloc (.cells z6 69)) w1 := b1.mono (Nat.le_of_eq hz.symm)
  have s1 : w.heap.size + 1 ≤ w1.heap.size := by
    have h : (w.alloc (.cells z6 69)).heap.size ≤ w1.heap.size := b1'.size
    omega
  have hG : Hid ((w1.alloc (.cells #[.int .i64 0, .int .i64 1, .int .i64 2, .int .i64 3, .int .i64 4, .int .i64 5] 69)).heap[w1.heap.size]? = some (.cells #[.int .i64 0, .int .i64 1, .int .i64 2, .int .i64 3, .int .i64 4, .int .i64 5] 69 (0, 0))) := heap_alloc_new w1 _
  have hB2 : Below (w.heap.size + 1) (w.alloc (.cells z6 69)) (w1.alloc (.cells #[.int .i64 0, .int .i64 1, .int .i64 2, .int .i64 3, .int .i64 4, .int .i64 5] 69)) := b1'.alloc s1 _
  have hB0 : Below w.heap.size w (w1.alloc (.cells #[.int .i64 0, .int .i64 1, .int .i64 2, .int .i64 3, .int .i64 4, .int .i64 5] 69)) := ((Below.refl _ _).alloc (Nat.le_refl _) _).trans (hB2.mono (by omega))
  have hsrc := Lib.hid (HSRC.out _ hB0)
  go_wp2_with (with_reducible refine wpList_copy_splice rfl (.tmp 14) (.tmp 15) 23 23 rfl 2 Try.underlying23 isz _ _ _ _ _ _ rfl rfl w1.heap.size 0 [Value.int .i64 0, .int .i64 1, .int .i64 2, .int .i64 3, .int .i64 4, .int .i64 5] 69 hG.out (xs.map (Value.int .i64)) ?_ ?_ ?_ HM1.out (w.heap.size + 1) _ hB2 s1 ?_)
  · rw [HLM.out]; exact (Nat.min_eq_left h6).symm
  · exact fun _ => hsrc.out
  · rw [HLM.out]; show 0 + n ≤ 6; omega
  intro w4 hG4 hB4
  have s4 : w1.heap.size + 1 ≤ w4.heap.size := by have h := (Array.getElem?_eq_some_iff.1 hG4.out).1; omega
  have hc : ∀ i, i < 6 → w4.cell? ⟨w1.heap.size, i, none⟩ = some (.int .i64 (ordF xs i)) := fun i hi => by
    rw [cell_of_row w4 w1.heap.size i _ _ (0, 0) hG4.out]
    exact HX.out i hi
  have c0 := hc 0 (by omega)
  have c1 := hc 1 (by omega)
  have c2 := hc 2 (by omega)
  have c3 := hc 3 (by omega)
  have c4 := hc 4 (by omega)
  have c5 := hc 5 (by omega)
  have HSL := Lib.hid (six_list xs (by omega))
  have HV := Lib.hid (show six (ordF xs 0) (ordF xs 1) (ordF xs 2) (ordF xs 3) (ordF xs 4) (ordF xs 5) = sixf (ordF xs) from rfl)
  clear hc hG hB2 hB0 hsrc HSRC HM1 b1 b1' HX
  have HLX := Lib.hid hl
  clear hl
  generalize ordF xs 0 = f0 at *
  generalize ordF xs 1 = f1 at *
  generalize ordF xs 2 = f2 at *
  generalize ordF xs 3 = f3 at *
  generalize ordF xs 4 = f4 at *
  generalize ordF xs 5 = f5 at *
  have n6 : (n : Int) ≤ 6 := by omega
  go_wp2_with fail
  have hW7 : Below (w.heap.size + 1) (w.alloc (.cells z6 69)) (w4.alloc (.cells #[.int .i64 f0, .int .i64 f1, .int .i64 f2, .int .i64 f3, .int .i64 f4, .int .i64 f5] 69)) := hB4.alloc (by omega) _
  have hG7 := heap_alloc_new w4 (.cells #[.int .i64 f0, .int .i64 f1, .int .i64 f2, .int .i64 f3, .int .i64 f4, .int .i64 f5] 69)
  have hz7 : (w4.alloc (.cells #[.int .i64 f0, .int .i64 f1, .int .i64 f2, .int .i64 f3, .int .i64 f4, .int .i64 f5] 69)).heap.size = w4.heap.size + 1 := Array.size_push _
  have k7 : (w4.alloc (.cells #[.int .i64 f0, .int .i64 f1, .int .i64 f2, .int .i64 f3, .int .i64 f4, .int .i64 f5] 69)).heap[w1.heap.size]? = w4.heap[w1.heap.size]? := Below.heap_alloc w4 _ _ (by omega)
  have hsrt := Try.slices_sort w4.heap.size 0 6 xs (w4.alloc (.cells #[.int .i64 f0, .int .i64 f1, .int .i64 f2, .int .i64 f3, .int .i64 f4, .int .i64 f5] 69)) (holds_of_block_i hG7 (by rw [show (#[Value.int .i64 f0, .int .i64 f1, .int .i64 f2, .int .i64 f3, .int .i64 f4, .int .i64 f5] : Array Value).toList = _ from HSL.out, ord_take])) (by omega) (by rw [HLX.out]; omega)
  rw [HLX.out] at hsrt
  have hsl : (xs.mergeSort fun x y => decide (x ≤ y)).length = n := by rw [List.length_mergeSort, HLX.out]
  have HQ := Lib.hid (ordB_sort n xs HLX.out)
  have HQ2 := Lib.hid (ordF_upTo n h6 _ hsl)
  generalize (xs.mergeSort fun x y => decide (x ≤ y)) = ss at *
  refine hsrt.mono ?_
  rintro e w8 ⟨rfl, nn, os, hw8⟩
  have gr8 : (w4.alloc (.cells #[.int .i64 f0, .int .i64 f1, .int .i64 f2, .int .i64 f3, .int .i64 f4, .int .i64 f5] 69)).grownBy w8 (some w4.heap.size) := by rw [hw8]; exact grownBy_sorted_i _
  have hG8 : w8.heap[w4.heap.size]? = some (.cells (putCells encZ 0 ss.toArray #[.int .i64 f0, .int .i64 f1, .int .i64 f2, .int .i64 f3, .int .i64 f4, .int .i64 f5]) 69 (0, 0)) := by rw [hw8]; exact heap_sorted_i _ hG7
  have hB8 : Below (w.heap.size + 1) (w.alloc (.cells z6 69)) w8 := hW7.grown gr8 (Nat.le_trans (Nat.le_of_eq hz.symm) hW7.size) (fun k hk => by injection hk with hk; omega)
  have hd : ∀ i, i < 6 → w8.cell? ⟨w4.heap.size, i, none⟩ = some (.int .i64 (ordF ss i)) := fun i hi => by
    rw [cell_of_row w8 w4.heap.size i _ _ (0, 0) hG8]
    refine put_cells [.int .i64 f0, .int .i64 f1, .int .i64 f2, .int .i64 f3, .int .i64 f4, .int .i64 f5] ss i rfl hi (by omega) fun h => ?_
    rw [List.getElem?_toArray, HSL.out]
    have := ord_cells xs (by rw [HLX.out]; omega) i hi
    rw [List.getElem?_toArray] at this
    rw [this]
    unfold ordF
    rw [if_neg (by rw [HLX.out]; omega)]
  have hc8 : ∀ i, w8.cell? ⟨w1.heap.size, i, none⟩ = w4.cell? ⟨w1.heap.size, i, none⟩ := fun i => by
    have h2 := gr8.block w1.heap.size (by omega) (fun e => by injection e with e; omega)
    exact World.cell?_of_block (a := ⟨w1.heap.size, i, none⟩) (h2.trans k7)
  have hr8 : ∀ i, i < 6 → w8.cell? ⟨w.heap.size, i, none⟩ = some (.int .i64 0) ∧ w8.frozen? ⟨w.heap.size, i, none⟩ = false := fun i hi => by
    have e1 := hB8.block w.heap.size (by omega)
    rw [World.cell?_of_block (w := w.alloc (.cells z6 69)) (a := ⟨w.heap.size, i, none⟩) e1, World.frozen?_of_block (w := w.alloc (.cells z6 69)) (a := ⟨w.heap.size, i, none⟩) e1]
    rcases below6 hi with rfl | rfl | rfl | rfl | rfl | rfl <;> exact ⟨by simp [go_sem, z6], by simp⟩
  have hz8 : w4.heap.size < w8.heap.size := (Array.getElem?_eq_some_iff.1 hG8).1
  have HB8 := Lib.hid (((Below.refl w.heap.size w).alloc (Nat.le_refl _) (.cells z6 69)).trans (hB8.mono (Nat.le_succ _)))
  have a0 := (hc8 0).trans c0
  have a1 := (hc8 1).trans c1
  have a2 := (hc8 2).trans c2
  have a3 := (hc8 3).trans c3
  have a4 := (hc8 4).trans c4
  have a5 := (hc8 5).trans c5
  have d0 := hd 0 (by omega)
  have d1 := hd 1 (by omega)
  have d2 := hd 2 (by omega)
  have d3 := hd 3 (by omega)
  have d4 := hd 4 (by omega)
  have d5 := hd 5 (by omega)
  have HF9 := Lib.hid (fun (w9 : World) (bb : Below w8.heap.size w8 w9) => (show
      (w9.cell? ⟨w1.heap.size, 0, none⟩ = some (.int .i64 f0) ∧ w9.cell? ⟨w1.heap.size, 1, none⟩ = some (.int .i64 f1) ∧ w9.cell? ⟨w1.heap.size, 2, none⟩ = some (.int .i64 f2) ∧ w9.cell? ⟨w1.heap.size, 3, none⟩ = some (.int .i64 f3) ∧ w9.cell? ⟨w1.heap.size, 4, none⟩ = some (.int .i64 f4) ∧ w9.cell? ⟨w1.heap.size, 5, none⟩ = some (.int .i64 f5)) ∧
      (w9.cell? ⟨w4.heap.size, 0, none⟩ = some (.int .i64 (ordF ss 0)) ∧ w9.cell? ⟨w4.heap.size, 1, none⟩ = some (.int .i64 (ordF ss 1)) ∧ w9.cell? ⟨w4.heap.size, 2, none⟩ = some (.int .i64 (ordF ss 2)) ∧ w9.cell? ⟨w4.heap.size, 3, none⟩ = some (.int .i64 (ordF ss 3)) ∧ w9.cell? ⟨w4.heap.size, 4, none⟩ = some (.int .i64 (ordF ss 4)) ∧ w9.cell? ⟨w4.heap.size, 5, none⟩ = some (.int .i64 (ordF ss 5))) ∧
      (∀ i, i < 6 → w9.cell? ⟨w.heap.size, i, none⟩ = some (.int .i64 0) ∧ w9.frozen? ⟨w.heap.size, i, none⟩ = false) from by
    have t : ∀ g i, g < w8.heap.size → w9.cell? ⟨g, i, none⟩ = w8.cell? ⟨g, i, none⟩ ∧ w9.frozen? ⟨g, i, none⟩ = w8.frozen? ⟨g, i, none⟩ := fun g i hg =>
      ⟨World.cell?_of_block (a := ⟨g, i, none⟩) (bb.block g hg), World.frozen?_of_block (a := ⟨g, i, none⟩) (bb.block g hg)⟩
    refine ⟨⟨?_, ?_, ?_, ?_, ?_, ?_⟩, ⟨(t _ 0 hz8).1.trans d0, (t _ 1 hz8).1.trans d1, (t _ 2 hz8).1.trans d2, (t _ 3 hz8).1.trans d3, (t _ 4 hz8).1.trans d4, (t _ 5 hz8).1.trans d5⟩, fun i hi => ⟨(t _ i (by omega)).1.trans (hr8 i hi).1, (t _ i (by omega)).2.trans (hr8 i hi).2⟩⟩
    · exact (t _ 0 (by omega)).1.trans a0
    · exact (t _ 1 (by omega)).1.trans a1
    · exact (t _ 2 (by omega)).1.trans a2
    · exact (t _ 3 (by omega)).1.trans a3
    · exact (t _ 4 (by omega)).1.trans a4
    · exact (t _ 5 (by omega)).1.trans a5))
  have hne1 : ¬ w1.heap.size = w.heap.size := by omega
  have hne2 : ¬ w.heap.size = w1.heap.size := by omega
  have hne3 : ¬ w4.heap.size = w.heap.size := by omega
  have hne4 : ¬ w.heap.size = w4.heap.size := by omega
  have l1 : w1.heap.size < w8.heap.size := by omega
  have l0 : w.heap.size < w8.heap.size := by omega
  clear hd hc8 hG8 gr8 hw8 hsrt k7 hG7 hW7 hB8 hG4 hB4 c0 c1 c2 c3 c4 c5 HSL hsl hz7 s4 s1 hz
  clear hr8
  generalize w1.heap.size = g1 at *
  generalize w4.heap.size = g4 at *
  have he6 : ∀ w' : World, (Op.equalIn 10000 69 (.agg #[.int .i64 (ordF ss 0), .int .i64 (ordF ss 1), .int .i64 (ordF ss 2), .int .i64 (ordF ss 3), .int .i64 (ordF ss 4), .int .i64 (ordF ss 5)]) (.agg #[.int .i64 0, .int .i64 1, .int .i64 2, .int .i64 3, .int .i64 4, .int .i64 5])).run Try.prog w' = .ok (decide (ss = upTo n)) w' := fun w' => by
    rw [eq6]
    congr 1
    rw [decide_eq_decide, HQ2.out]
    constructor
    · rintro ⟨h0, h1, h2, h3, h4, h5⟩ i hi
      rcases below6 hi with rfl | rfl | rfl | rfl | rfl | rfl <;> assumption
    · intro h
      exact ⟨h 0 (by omega), h 1 (by omega), h 2 (by omega), h 3 (by omega), h 4 (by omega), h 5 (by omega)⟩
  have hg6 := guard6
  clear HQ2
  generalize decide (ss = upTo n) = bb6 at *
  generalize ordF ss 0 = t0 at *
  generalize ordF ss 1 = t1 at *
  generalize ordF ss 2 = t2 at *
  generalize ordF ss 3 = t3 at *
  generalize ordF ss 4 = t4 at *
  generalize ordF ss 5 = t5 at *
  go_wp2
  go_region_law (go_simp; go_at_call 80; (with_reducible refine (HS.out _).mono ?_); rintro e w9 ⟨rfl, bb⟩; obtain ⟨⟨e0, e1, e2, e3, e4, e5⟩, ⟨k0, k1, k2, k3, k4, k5⟩, hr9⟩ := HF9.out w9 (drewB bb); have HB9 := Lib.hid (drewB bb); clear bb; obtain ⟨r0, q0⟩ := hr9 0 (by decide); obtain ⟨r1, q1⟩ := hr9 1 (by decide); obtain ⟨r2, q2⟩ := hr9 2 (by decide); obtain ⟨r3, q3⟩ := hr9 3 (by decide); obtain ⟨r4, q4⟩ := hr9 4 (by decide); obtain ⟨r5, q5⟩ := hr9 5 (by decide); clear hr9)
  all_goals
    go_wp2
    refine bodyPost_ret (v := .tuple #[six f0 f1 f2 f3 f4 f5, .bool bb6]) (by simp [six, results, Try.results75, go_sem, e0, e1, e2, e3, e4, e5, r0, r1, r2, r3, r4, r5]) rfl ⟨by rw [← HV.out, HQ.out], ?_⟩
    have hb5 := HB8.out.trans (HB9.out.mono (Nat.le_of_lt l0))
    go_grown
end Go.Proofs.Ytngbddmbmkphcaa.Pv
