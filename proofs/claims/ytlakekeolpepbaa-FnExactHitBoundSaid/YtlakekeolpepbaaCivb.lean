/- Both IntervalsOf. -/
import Derived.Test.YtlakekeolpepbaaCivp
import Derived.Test.YtlakekeolpepbaaCo2
namespace Go.Proofs.Ytlakekeolpepbaa.Tr
open Go.RowKit
def prI (ps : List (Int × Int)) : List (List Int) := ps.map fun p => [p.1, p.2]
theorem prI_app (a b : List (Int × Int)) : prI (a ++ b) = prI a ++ prI b := by simp [prI]
theorem prI_length (a : List (Int × Int)) : (prI a).length = a.length := by simp [prI]
theorem getPI (ps : List (Int × Int)) (j : Nat) (h : j < ps.length) : ps[j] = ps.getD j (0, 0) := by rw [List.getD_eq_getElem?_getD, List.getElem?_eq_getElem h]; rfl
theorem prI_succ (ps : List (Int × Int)) (j : Nat) (h : j < ps.length) : prI (ps.take (j + 1)) = prI (ps.take j) ++ [[(ps.getD j (0, 0)).1, (ps.getD j (0, 0)).2]] := by
  rw [List.take_succ_eq_append_getElem h, prI_app, getPI ps j h]; rfl
theorem prI_sum (ps : List (Int × Int)) : ((prI ps).map List.length).sum = 2 * ps.length := by
  induction ps with
  | nil => rfl
  | cons r rs ih => show 2 + ((prI rs).map List.length).sum = _; rw [ih, List.length_cons]; omega
theorem OwnI.cells {w : World} {B : Nat} {a : Option Addr} {n c : Nat} {ps : List (Int × Int)} (h : OwnI w B (.slice a n c) ps) (j : Nat) (hj : j < ps.length) :
    ∃ g, a = some ⟨g, 0, none⟩ ∧ n ≤ c ∧ g < w.heap.size ∧ w.cell? ⟨g, j * 2, none⟩ = some (.int .i64 (ps.getD j (0, 0)).1) ∧ w.cell? ⟨g, j * 2 + 1, none⟩ = some (.int .i64 (ps.getD j (0, 0)).2) := by
  rcases h.cases with ⟨_, rfl⟩ | ⟨g, cap, e, hB, hg, h1, h2, h3⟩
  · simp at hj
  · injection e with e1 e2 e3
    subst e1 e2 e3
    exact ⟨g, rfl, h1, hg, h3 j hj⟩
set_option maxHeartbeats 2000000 in
set_option maxRecDepth 100000 in
theorem ivof_i {v : Value} {B : Nat} {xs : List Int} {w : World} (h : Own w B v xs) (hn : xs.length ≤ 1048576) (hok : okU xs = true) :
    Calls Try.prog 9 #[v] w (Res2 (prI (ivP xs)) true w) := by
  have hU := Lib.hid (uses_iR h.rd hn)
  rw [hok] at hU
  obtain ⟨a, c, rfl, _, _, hr⟩ := h.rd
  have HRU := Lib.hid (iv_i a c xs w hok hr)
  have HRL := ivS_len xs xs.length
  rw [show ivS xs xs.length = ivP xs from rfl] at HRL
  clear hok hr h
  generalize ivP xs = RS at *
  generalize xs.length = N at *
  go_enter Try.func9, Try.ntmps9
  go_wp2_with (go_at_call 24; refine hU.out.mono ?_; rintro e w' ⟨rfl, rfl⟩)
  refine HRU.out.mono ?_
  rintro e w4 ⟨v4, rfl, o4, b4⟩
  obtain ⟨a4, c4, hv4⟩ := o4.form
  subst hv4
  have HO4 := Lib.hid (fun (wr : World) (hb : Below w4.heap.size w4 wr) (j : Nat) (hj : j < RS.length) => OwnI.cells (o4.below hb (Nat.le_refl _)) j hj)
  have HCS := Lib.hid (fun j hj => prI_succ RS j hj)
  have HCL := Lib.hid (fun j => (show (prI (RS.take j)).length ≤ RS.length by rw [prI_length, List.length_take]; omega))
  have HCE : Hid (prI (RS.take RS.length) = prI RS) := by show _ = _; rw [List.take_length]
  have HB4 := Lib.hid b4
  clear o4 b4 HRU hU
  generalize hM : RS.length = M at *
  clear hM
  go_wp2
  go_loopw [4, 6, 13] (fun v _ i wr => ∃ j : Nat, j ≤ M ∧ i = .int .i64 j ∧ ∃ vs, Hid (Own2 wr w4.heap.size v vs (prI (RS.take j))) ∧ Hid (Below w4.heap.size w4 wr)) (fun _ _ i _ => M - (intOf i).toNat)
  case atStart => exact ⟨0, Nat.zero_le _, rfl, [], Own2.nil _ _, Below.refl _ _⟩
  case round =>
    obtain ⟨j, hj, rfl, vs, ho, hb⟩ := hrel
    by_cases hlt : j < M
    · obtain ⟨g, rfl, _, hgl, hc1, hc2⟩ := HO4.out wr hb.out j hlt
      have hs := HCS.out j hlt
      have hql := HCL.out j
      have hq : (prI (RS.take j)).length + 1 ≤ 1000000000 := by omega
      generalize RS.getD j (0, 0) = r at *
      obtain ⟨x, y⟩ := r
      have HS := Lib.hid hs
      have bA : Below wr.heap.size wr (wr.alloc (.cells #[.int .i64 x, .int .i64 y] 42)) := (Below.refl _ _).alloc (Nat.le_refl _) _
      have bI : Below wr.heap.size wr ((wr.alloc (.cells #[.int .i64 x, .int .i64 y] 42)).alloc (.cells #[.int .i64 x, .int .i64 y] 2)) := bA.alloc bA.size _
      have hszA : (wr.alloc (.cells #[.int .i64 x, .int .i64 y] 42)).heap.size = wr.heap.size + 1 := Array.size_push _
      have hI := (Own.lit2 (wr.alloc (.cells #[.int .i64 x, .int .i64 y] 42)) x y).mono (B' := w4.heap.size) (by have := hb.out.size; omega)
      rw [hszA] at hI
      have ho5 := Own2.below ho.out bI (Nat.le_refl _)
      obtain ⟨hf1, hf2⟩ := Own2.new (w' := wr) (g := wr.heap.size + 1) (n := 2) (c := 2) ho.out (by omega)
      have HB5 := Lib.hid (hb.out.trans (bI.mono hb.out.size))
      have hsz := HB5.out.size
      clear hs hql ho hb bA bI
      generalize prI (RS.take j) = l at *
      go_wp2_with (at_builtin; refine wpList_app2 _ rfl _ _ rfl w4.heap.size _ vs l _ [x, y] ?_ ?_ ho5 hI hf1 hf2 hq hsz ?_; rfl; exact (show Value.slice (some ⟨wr.heap.size + 1 + 1, 0, none⟩) 1 1 = Value.slice (some ⟨((wr.alloc _).alloc _).heap.size, 0, none⟩) 1 1 from by simp))
      intro v' w6 ho6 hb6
      go_wp2
      go_roundw
      case rel => exact ⟨j + 1, by omega, by go_num, _, (by rw [HS.out]; exact ho6), HB5.out.trans hb6⟩
      case measure => simp [intOf]; omega
    · have e : j = M := by omega
      subst e
      have hoo := ho.out
      rw [HCE.out] at hoo
      go_wp2
      go_ret2
      exact ⟨_, _, rfl, Own2.mono hoo HB4.out.size, HB4.out.trans (hb.out.mono HB4.out.size)⟩
theorem ivof_no_i {v : Value} {B : Nat} {xs : List Int} {w : World} (h : Own w B v xs) (hn : xs.length ≤ 1048576) (hok : okU xs = false) :
    Calls Try.prog 9 #[v] w (Res2 [] false w) := by
  have hU := Lib.hid (uses_iR h.rd hn)
  rw [hok] at hU
  go_enter Try.func9, Try.ntmps9
  go_wp2_with (go_at_call 24; refine hU.out.mono ?_; rintro e w' ⟨rfl, rfl⟩)
  go_ret2
  exact ⟨_, [], rfl, Own2.nil _ _, Below.refl _ _⟩
theorem ivof_no_s {v : Value} {B : Nat} {xs : List Int} {w : World} (h : Own w B v xs) (hn : xs.length ≤ 1048576) (hok : okU xs = false) :
    Calls Try.prog 7 #[v] w (Res2 [] false w) := by
  have hU := Lib.hid (uses_sR h.rd hn)
  rw [hok] at hU
  go_enter Try.func7, Try.ntmps7
  go_wp2_with (go_at_call 22; refine hU.out.mono ?_; rintro e w' ⟨rfl, rfl⟩)
  go_ret2
  exact ⟨_, [], rfl, Own2.nil _ _, Below.refl _ _⟩
/-- The next use of an address behind a use, or 60. -/
def nxt60 (xs : List Int) (x : Int) (i : Nat) : Int := if nextFrom xs x (i + 1) (xs.length - (i + 1)) < 0 then 60 else nextFrom xs x (i + 1) (xs.length - (i + 1))
set_option maxHeartbeats 1000000 in
theorem l05next_s (a : Option Addr) (c : Nat) (xs : List Int) (i : Nat) (x : Int) (w : World) (hn : xs.length ≤ 1048576) (hi : i < xs.length) (hr : Row w a xs) :
    Calls Try.prog 38 #[.slice a xs.length c, .int .i64 i, .int .i64 x] w (Nw (nxt60 xs x i) w) := by
  have HC := Lib.hid (fun (j : Nat) (hj : j < xs.length) => hr j hj)
  have HS := Lib.hid (fun k m => nextFrom_succ xs x k m)
  have HV := Lib.hid (show nxt60 xs x i = if nextFrom xs x (i + 1) (xs.length - (i + 1)) < 0 then 60 else nextFrom xs x (i + 1) (xs.length - (i + 1)) from rfl)
  have HZ := Lib.hid (fun k => show nextFrom xs x k 0 = -1 from rfl)
  clear hr
  generalize nxt60 xs x i = V at *
  generalize hF : nextFrom xs x = F at *
  clear hF
  generalize hN : xs.length = N at *
  clear hN
  go_enter Try.func38, Try.ntmps38
  go_wp2
  go_loop [7] (fun v => ∃ k : Nat, i + 1 ≤ k ∧ k ≤ N ∧ v = .int .i64 k ∧ Hid (F k (N - k) = F (i + 1) (N - (i + 1)))) (fun v => N - (intOf v).toNat)
  case atStart => exact ⟨i + 1, Nat.le_refl _, by omega, by go_num, Lib.hid rfl⟩
  case round =>
    obtain ⟨k, hk1, hk, rfl, hf⟩ := hrel
    by_cases hlt : k < N
    · obtain ⟨b, off, rfl, c1, hb⟩ := HC.out k hlt
      have hs := HS.out k (N - (k + 1))
      rw [show N - (k + 1) + 1 = N - k by omega, hf.out] at hs
      generalize xs.getD k 0 = u at *
      by_cases hu : u = x
      · rw [if_pos hu] at hs
        have e : V = (k : Int) := by rw [HV.out, hs, if_neg (by omega)]
        clear hs HV HS hf HZ
        subst e hu
        go_wp2
        go_ret
        exact ⟨rfl, rfl⟩
      · rw [if_neg hu] at hs
        have hnew := Lib.hid hs.symm
        clear hs
        go_wp2
        go_round
        case rel => exact ⟨k + 1, by omega, by omega, by go_num, hnew⟩
        case measure => simp [intOf] <;> omega
    · have e : k = N := by omega
      subst e
      have h := hf.out
      rw [Nat.sub_self, HZ.out] at h
      have e : V = 60 := by rw [HV.out, ← h, if_pos (by omega)]
      clear h hf HV HS HZ
      subst e
      go_wp2
      go_ret
      exact ⟨rfl, rfl⟩
theorem nxt60_own (xs : List Int) (i : Nat) : nxt60 xs (xs.getD i 0) i = if 0 ≤ nextAt xs i then nextAt xs i else 60 := by
  unfold nxt60 nextAt
  split
  · rw [if_neg (by omega)]
  · rw [if_pos (by omega)]
set_option maxHeartbeats 4000000 in
set_option maxRecDepth 100000 in
theorem l05iv_s (a : Option Addr) (c : Nat) (xs : List Int) (w : World) (hok : okU xs = true) (hr : Row w a xs) :
    Calls Try.prog 23 #[.slice a xs.length c] w fun e w' => ∃ v vs, e = .returned v ∧ Own2 w' w.heap.size v vs (prI (ivP xs)) ∧ Below w.heap.size w w' := by
  have hn := okU_len hok
  have HC := Lib.hid (fun (j : Nat) (hj : j < xs.length) => hr j hj)
  have HNX := Lib.hid (fun (wr : World) (hb : Below w.heap.size w wr) (i : Nat) (hi : i < xs.length) => l05next_s a c xs i (xs.getD i 0) wr (by omega) hi (hr.below hb))
  have HNV := Lib.hid (fun i => nxt60_own xs i)
  have HNR := Lib.hid (fun (i : Nat) (hi : i < xs.length) => (show -1 ≤ nextAt xs i ∧ nextAt xs i < xs.length from by have := nextFrom_rng xs (xs.getD i 0) (i + 1) (xs.length - (i + 1)); unfold nextAt; omega))
  have HL := Lib.hid (fun j => ivS_len xs j)
  have HS := Lib.hid (fun j => show prI (ivS xs (j + 1)) = prI (ivS xs j) ++ (if 0 ≤ nextAt xs j then [[(j : Int), nextAt xs j]] else []) by rw [ivS, prI_app]; split <;> rfl)
  have HE := Lib.hid (show prI (ivS xs xs.length) = prI (ivP xs) from rfl)
  clear hr hok
  generalize hN : xs.length = N at *
  clear hN
  go_enter Try.func23, Try.ntmps23
  go_wp2
  go_loopw [3, 4, 5] (fun v i _ wr => ∃ j : Nat, j ≤ N ∧ i = .int .i64 j ∧ ∃ vs, Hid (Own2 wr w.heap.size v vs (prI (ivS xs j))) ∧ Hid (Below w.heap.size w wr)) (fun _ i _ _ => N - (intOf i).toNat)
  case atStart => exact ⟨0, Nat.zero_le _, rfl, [], Own2.lit0 w, (Below.refl _ _).alloc (Nat.le_refl _) _⟩
  case round =>
    obtain ⟨j, hj, rfl, vs, ho, hb⟩ := hrel
    by_cases hlt : j < N
    · obtain ⟨b, off, rfl, c1, hbw⟩ := HC.out j hlt
      have c2 : wr.cell? ⟨b, off + j, none⟩ = some (.int .i64 (xs.getD j 0)) := (hb.out.cell (p := ⟨b, off + j, none⟩) hbw).trans c1
      have hx := Lib.hid (HNX.out wr hb.out j hlt)
      have hnv := HNV.out j
      have hnr := HNR.out j hlt
      have hs := HS.out j
      have hlen : (prI (ivS xs j)).length + 1 ≤ 1000000000 := by rw [prI_length]; have := HL.out j; omega
      clear c1
      generalize xs.getD j 0 = u at *
      by_cases h0 : 0 ≤ nextAt xs j
      · rw [if_pos h0] at hnv hs
        rw [hnv] at hx
        have HSS := Lib.hid hs
        clear hnv hs
        generalize nextAt xs j = y at *
        have h60 : y < 60 := by omega
        have bI : Below wr.heap.size wr (wr.alloc (.cells #[.int .i64 j, .int .i64 y] 2)) := (Below.refl _ _).alloc (Nat.le_refl _) _
        have hI := (Own.lit2 wr j y).mono (B' := w.heap.size) (hb.out.size)
        have ho5 := Own2.below ho.out bI (Nat.le_refl _)
        obtain ⟨hf1, hf2⟩ := Own2.new (w' := wr) (g := wr.heap.size) (n := 2) (c := 2) ho.out (Nat.le_refl _)
        have HB5 := Lib.hid (hb.out.trans (bI.mono hb.out.size))
        have hsz := HB5.out.size
        clear ho hb bI
        generalize prI (ivS xs j) = l at *
        go_wp2_with (first
          | (go_at_call 38; (with_reducible refine hx.out.mono ?_); rintro e w1 ⟨rfl, rfl⟩)
          | (at_builtin; refine wpList_app2 _ rfl _ _ rfl w.heap.size _ vs l _ [(j : Int), y] ?_ ?_ ho5 hI hf1 hf2 hlen hsz ?_; rfl; exact (show Value.slice (some ⟨wr.heap.size + 1, 0, none⟩) 1 1 = Value.slice (some ⟨(wr.alloc _).heap.size, 0, none⟩) 1 1 from by simp)))
        intro v' w6 ho6 hb6
        go_wp2
        go_roundw
        case rel => exact ⟨j + 1, by omega, by go_num, _, (by rw [HSS.out]; exact ho6), HB5.out.trans hb6⟩
        case measure => simp [intOf] <;> omega
      · rw [if_neg h0] at hnv hs
        rw [hnv] at hx
        rw [List.append_nil] at hs
        have HSS := Lib.hid hs
        clear hnv hs
        go_wp2_with (go_at_call 38; (with_reducible refine hx.out.mono ?_); rintro e w1 ⟨rfl, rfl⟩)
        go_roundw
        case rel => exact ⟨j + 1, by omega, by go_num, vs, (by rw [HSS.out]; exact ho), hb⟩
        case measure => simp [intOf] <;> omega
    · have e : j = N := by omega
      subst e
      have hoo := ho.out
      rw [HE.out] at hoo
      go_wp2
      go_ret
      exact ⟨_, _, rfl, hoo, hb.out⟩
theorem ivof_s {v : Value} {B : Nat} {xs : List Int} {w : World} (h : Own w B v xs) (hn : xs.length ≤ 1048576) (hok : okU xs = true) :
    Calls Try.prog 7 #[v] w (Res2 (prI (ivP xs)) true w) := by
  have hU := Lib.hid (uses_sR h.rd hn)
  rw [hok] at hU
  obtain ⟨a, c, rfl, _, _, hr⟩ := h.rd
  have HRU := Lib.hid (l05iv_s a c xs w hok hr)
  clear hok hr h
  generalize prI (ivP xs) = RS at *
  generalize xs.length = N at *
  go_enter Try.func7, Try.ntmps7
  go_wp2_with (go_at_call 22; refine hU.out.mono ?_; rintro e w' ⟨rfl, rfl⟩)
  refine HRU.out.mono ?_
  rintro e w1 ⟨v1, vs, rfl, o1, b1⟩
  go_wp2
  go_ret2
  exact ⟨_, _, rfl, o1, b1⟩
end Go.Proofs.Ytlakekeolpepbaa.Tr
