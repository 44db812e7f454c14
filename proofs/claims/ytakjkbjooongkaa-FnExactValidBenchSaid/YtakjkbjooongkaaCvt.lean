/- Both ValidTrace over a list of accesses. -/
import Derived.Test.YtakjkbjooongkaaCacc
import Derived.Test.YtakjkbjooongkaaCuses
namespace Go.Proofs.Ytakjkbjooongkaa.Ac
open Go.RowKit Tr
def isK (x : Int) : Bool := decide (x = 0) || decide (x = 1)
def okE (r : Int × Int) : Bool := isK r.1 && isA r.2
def okT (xs : List (Int × Int)) : Bool := decide (xs.length ≤ 60) && xs.all okE
theorem tk_all (xs : List (Int × Int)) (j : Nat) (h : j < xs.length) : (xs.take (j + 1)).all okE = ((xs.take j).all okE && okE (xs.getD j (0, 0))) := by
  rw [List.take_succ_eq_append_getElem h, List.all_append, List.getD_eq_getElem?_getD, List.getElem?_eq_getElem h]
  simp
theorem okT_no (xs : List (Int × Int)) (j : Nat) (h : j < xs.length) (hn : okE (xs.getD j (0, 0)) = false) : okT xs = false := by
  have : xs.all okE = false := by
    rw [List.all_eq_false]
    refine ⟨xs[j], List.getElem_mem h, ?_⟩
    rw [List.getD_eq_getElem?_getD, List.getElem?_eq_getElem h] at hn
    simpa using hn
  unfold okT; rw [this, Bool.and_false]
theorem okT_end (xs : List (Int × Int)) (h : (xs.take xs.length).all okE = true) : okT xs = decide (xs.length ≤ 60) := by
  unfold okT
  rw [List.take_length] at h
  rw [h, Bool.and_true]
theorem okT_len {xs : List (Int × Int)} (h : okT xs = true) : xs.length ≤ 60 := by
  unfold okT at h; rw [Bool.and_eq_true] at h; exact of_decide_eq_true h.1
theorem isK_no {x : Int} (h0 : ¬ x = 0) (h1 : ¬ x = 1) : isK x = false := by simp [isK, h0, h1]
theorem kind_s (x : Int) (w : World) : Calls Try.prog 31 #[.int .i64 x] w (Bl (isK x) w) := by
  by_cases h0 : x = 0
  · subst h0
    go_enter Try.func31, Try.ntmps31
    go_wp2
    go_ret
    exact ⟨rfl, rfl⟩
  · by_cases h1 : x = 1
    · subst h1
      go_enter Try.func31, Try.ntmps31
      go_wp2
      go_ret
      exact ⟨rfl, rfl⟩
    · rw [isK_no h0 h1]
      have e0 : (x == 0) = false := by simp [h0]
      have e1 : (x == 1) = false := by simp [h1]
      go_enter Try.func31, Try.ntmps31
      go_wp2
      go_ret
      exact ⟨ret_bool (by simp [h0, h1]), rfl⟩
theorem kind_i (x : Int) (w : World) : Calls Try.prog 25 #[.int .i64 x] w (Bl (isK x) w) := by
  by_cases h0 : x = 0
  · subst h0
    go_enter Try.func25, Try.ntmps25
    go_wp2
    go_ret
    exact ⟨rfl, rfl⟩
  · by_cases h1 : x = 1
    · subst h1
      go_enter Try.func25, Try.ntmps25
      go_wp2
      go_ret
      exact ⟨rfl, rfl⟩
    · rw [isK_no h0 h1]
      have e0 : (x == 0) = false := by simp [h0]
      have e1 : (x == 1) = false := by simp [h1]
      go_enter Try.func25, Try.ntmps25
      go_wp2
      go_ret
      exact ⟨ret_bool (by simp [h0, h1]), rfl⟩
theorem addr_ii (x : Int) (w : World) : Calls Try.prog 26 #[.int .i64 x] w (Bl (isA x) w) := by
  have hI := Lib.hid (between_a x w)
  generalize isA x = b at *
  go_enter Try.func26, Try.ntmps26
  go_wp2_with (go_at_call 34; refine hI.out.mono ?_; rintro e w' ⟨rfl, rfl⟩)
  go_ret
  exact ⟨rfl, rfl⟩
set_option maxHeartbeats 2000000 in
theorem is_s (a : Option Addr) (c : Nat) (xs : List (Int × Int)) (w : World) (hn : xs.length ≤ 1048576) (hr : RowA w a xs) :
    Calls Try.prog 20 #[.slice a xs.length c] w (Bl (okT xs) w) := by
  have HC := Lib.hid hr
  have HS := Lib.hid (tk_all xs)
  have HN := Lib.hid (okT_no xs)
  have HE := Lib.hid (okT_end xs)
  clear hr
  unfold RowA at HC
  generalize (okT xs) = ok at *
  generalize hN : xs.length = N at *
  clear hN
  go_enter Try.func20, Try.ntmps20
  go_wp2
  go_loop [3] (fun i => ∃ j : Nat, j ≤ N ∧ i = .int .i64 j ∧ Hid ((xs.take j).all okE = true)) (fun i => N - (intOf i).toNat)
  case atStart => exact ⟨0, Nat.zero_le _, rfl, Lib.hid rfl⟩
  case round =>
    obtain ⟨j, hj, rfl, hx⟩ := hrel
    by_cases hlt : j < N
    · obtain ⟨b, off, rfl, c1, c2, hb⟩ := HC.out j hlt
      have hs := Lib.hid (HS.out j hlt)
      have hno := Lib.hid (HN.out j hlt)
      generalize xs.getD j (0, 0) = r at *
      obtain ⟨k, ad⟩ := r
      have hI := Lib.hid (kind_s k w)
      have hA := Lib.hid (addr_s ad w)
      cases hk : isK k
      · have hok : ok = false := hno.out (by unfold okE; rw [hk]; rfl)
        rw [hk] at hI
        clear hk hno hs
        subst hok
        go_wp2_with (go_at_call 31; refine hI.out.mono ?_; rintro e w' ⟨rfl, rfl⟩)
        go_ret
        exact ⟨rfl, rfl⟩
      · rw [hk] at hI
        cases hb2 : isA ad
        · have hok : ok = false := hno.out (by unfold okE; rw [hk, hb2]; rfl)
          rw [hb2] at hA
          clear hk hb2 hno hs
          subst hok
          go_wp2_with (first | (go_at_call 31; refine hI.out.mono ?_; rintro e w' ⟨rfl, rfl⟩) | (go_at_call 32; refine hA.out.mono ?_; rintro e w' ⟨rfl, rfl⟩))
          go_ret
          exact ⟨rfl, rfl⟩
        · rw [hb2] at hA
          have hnew : Hid ((xs.take (j + 1)).all okE = true) := by show _ = _; rw [hs.out, hx.out]; unfold okE; rw [hk, hb2]; rfl
          clear hk hb2 hno hs
          go_wp2_with (first | (go_at_call 31; refine hI.out.mono ?_; rintro e w' ⟨rfl, rfl⟩) | (go_at_call 32; refine hA.out.mono ?_; rintro e w' ⟨rfl, rfl⟩))
          go_round
          case rel => exact ⟨j + 1, by omega, by go_num, hnew⟩
          case measure => simp [intOf]; omega
    · have e : j = N := by omega
      subst e
      have hok := HE.out hx.out
      by_cases h60 : j ≤ 60
      · have : ok = true := by rw [hok, decide_eq_true h60]
        clear hok HE HN
        subst this
        have h60' : (j : Int) ≤ 60 := by omega
        go_wp2
        go_ret
        exact ⟨ret_bool (by simp), rfl⟩
      · have : ok = false := by rw [hok, decide_eq_false h60]
        clear hok HE HN
        subst this
        have h60' : ¬ (j : Int) ≤ 60 := by omega
        go_wp2
        go_ret
        exact ⟨ret_bool (by simp), rfl⟩
set_option maxHeartbeats 2000000 in
theorem valid_i (a : Option Addr) (c : Nat) (xs : List (Int × Int)) (w : World) (hn : xs.length ≤ 1048576) (hr : RowA w a xs) :
    Calls Try.prog 14 #[.slice a xs.length c] w (BbA (okT xs) w) := by
  by_cases h60 : 60 < xs.length
  · have e : okT xs = false := by unfold okT; rw [decide_eq_false (by omega)]; rfl
    rw [e]
    generalize xs.length = N at *
    have h2 : (60 : Int) < (N : Int) := by omega
    go_enter Try.func14, Try.ntmps14
    go_wp2
    go_ret
    exact ⟨rfl, Below.refl _ _⟩
  have HC := Lib.hid hr
  have HS := Lib.hid (tk_all xs)
  have HN := Lib.hid (okT_no xs)
  have HE := Lib.hid (fun h => (show okT xs = true by rw [okT_end xs h, decide_eq_true (by omega)]))
  clear hr
  unfold RowA at HC
  generalize (okT xs) = ok at *
  generalize hN : xs.length = N at *
  clear hN
  go_enter Try.func14, Try.ntmps14
  go_wp2
  go_loopw [4, 10] (fun _ i wr => ∃ j : Nat, j ≤ N ∧ i = .int .i64 j ∧ Hid ((xs.take j).all okE = true) ∧ Hid (Below w.heap.size w wr)) (fun _ i _ => N - (intOf i).toNat)
  case atStart => exact ⟨0, Nat.zero_le _, rfl, Lib.hid rfl, Below.refl _ _⟩
  case round =>
    obtain ⟨j, hj, rfl, hx, hbw⟩ := hrel
    by_cases hlt : j < N
    · obtain ⟨b, off, rfl, g1, g2, hb⟩ := HC.out j hlt
      have c1 := (hbw.out.cell (p := ⟨b, off + j * 2, none⟩) hb).trans g1
      have c2 := (hbw.out.cell (p := ⟨b, off + j * 2 + 1, none⟩) hb).trans g2
      have hs := Lib.hid (HS.out j hlt)
      have hno := Lib.hid (HN.out j hlt)
      clear g1 g2
      generalize xs.getD j (0, 0) = r at *
      obtain ⟨k, ad⟩ := r
      have HB := Lib.hid (hbw.out.alloc hbw.out.size (.cells #[.int .i64 k, .int .i64 ad] 53))
      have hI := Lib.hid (kind_i k)
      have hA := Lib.hid (addr_ii ad)
      cases hk : isK k
      · have hok : ok = false := hno.out (by unfold okE; rw [hk]; rfl)
        rw [hk] at hI
        clear hk hno hs
        subst hok
        go_wp2_with (go_at_call 25; refine (hI.out _).mono ?_; rintro e w' ⟨rfl, rfl⟩)
        go_ret
        exact ⟨rfl, HB.out⟩
      · rw [hk] at hI
        cases hb2 : isA ad
        · have hok : ok = false := hno.out (by unfold okE; rw [hk, hb2]; rfl)
          rw [hb2] at hA
          clear hk hb2 hno hs
          subst hok
          go_wp2_with (first | (go_at_call 25; refine (hI.out _).mono ?_; rintro e w' ⟨rfl, rfl⟩) | (go_at_call 26; refine (hA.out _).mono ?_; rintro e w' ⟨rfl, rfl⟩))
          go_ret
          exact ⟨rfl, HB.out⟩
        · rw [hb2] at hA
          have hnew : Hid ((xs.take (j + 1)).all okE = true) := by show _ = _; rw [hs.out, hx.out]; unfold okE; rw [hk, hb2]; rfl
          clear hk hb2 hno hs
          go_wp2_with (first | (go_at_call 25; refine (hI.out _).mono ?_; rintro e w' ⟨rfl, rfl⟩) | (go_at_call 26; refine (hA.out _).mono ?_; rintro e w' ⟨rfl, rfl⟩))
          go_roundw
          case rel => exact ⟨j + 1, by omega, by go_num, hnew, HB⟩
          case measure => simp [intOf]; omega
    · have e : j = N := by omega
      subst e
      have hok := HE.out hx.out
      clear HE HN
      subst hok
      go_wp2
      go_ret
      exact ⟨rfl, hbw.out⟩
end Go.Proofs.Ytakjkbjooongkaa.Ac
