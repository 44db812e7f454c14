/- The program's rules of a policy: the contract of rulesOf. -/
import Derived.Test.YtakjkbjooongkaaCordi
import Derived.Test.YtakjkbjooongkaaCblk
namespace Go.Proofs.Ytakjkbjooongkaa.Pv
open Go.RowKit
theorem btw_i (x lo hi : Int) (w : World) : Calls Try.prog 34 #[.int .i64 x, .int .i64 lo, .int .i64 hi] w (Bl (decide (lo ≤ x) && decide (x ≤ hi)) w) := by
  by_cases h : lo ≤ x
  · go_enter Try.func34, Try.ntmps34
    go_wp2
    go_ret
    exact ⟨ret_bool (by simp [h]), rfl⟩
  · go_enter Try.func34, Try.ntmps34
    go_wp2
    go_ret
    exact ⟨ret_bool (by simp; omega), rfl⟩
theorem ways_i (x : Int) (w : World) : Calls Try.prog 35 #[.int .i64 x] w (Bl (decide (1 ≤ x) && decide (x ≤ 6)) w) := by
  have HB := Lib.hid (btw_i x 1 6)
  go_enter Try.func35, Try.ntmps35
  go_wp2_with (go_at_call 34; refine (HB.out _).mono ?_; rintro e w' ⟨rfl, rfl⟩)
  go_ret
  exact ⟨rfl, rfl⟩
theorem order_no (a : Option Addr) (c n L : Nat) (w : World) (hne : L ≠ n) (hL : L ≤ 1048576) (hn : n ≤ 1048576) :
    Calls Try.prog 36 #[.slice a L c, .int .i64 (n : Nat)] w (RetB (.tuple #[six 0 0 0 0 0 0, .bool false]) w) := by
  go_enter Try.func36, Try.ntmps36
  go_wp2
  refine bodyPost_ret (v := .tuple #[six 0 0 0 0 0 0, .bool false]) (by simp [six, results, Try.results36, go_sem]) rfl ⟨rfl, ?_⟩
  go_grown
def z6l : List Value := [.int .i64 0, .int .i64 0, .int .i64 0, .int .i64 0, .int .i64 0, .int .i64 0]
def z43 : List Value := .int .i64 0 :: (z6l ++ z6l ++ z6l ++ z6l ++ z6l ++ z6l ++ z6l)
def rowC (xs : List Int) : List Value := [.int .i64 (ordF xs 0), .int .i64 (ordF xs 1), .int .i64 (ordF xs 2), .int .i64 (ordF xs 3), .int .i64 (ordF xs 4), .int .i64 (ordF xs 5)]
def hitC (hs : List (List Int)) (j i : Nat) : List Value := if i < j then rowC (hs.getD i []) else z6l
/-- the cells of rules: the ways, the orders for the first j ages, the one for a miss -/
def rulesL (n : Nat) (hs : List (List Int)) (j : Nat) (m : List Value) : List Value := .int .i64 n :: (hitC hs j 0 ++ hitC hs j 1 ++ hitC hs j 2 ++ hitC hs j 3 ++ hitC hs j 4 ++ hitC hs j 5 ++ m)
theorem hitC_len (hs : List (List Int)) (j i : Nat) : (hitC hs j i).length = 6 := by unfold hitC; split <;> rfl
theorem rulesL_len (n : Nat) (hs : List (List Int)) (j : Nat) (m : List Value) (hm : m.length = 6) : (rulesL n hs j m).length = 43 := by simp [rulesL, hitC_len, hm]
theorem one_z6 : ∀ v ∈ z6l, v.oneCell' = true := fun v hv => by simp [z6l] at hv; rw [hv]; rfl
theorem one_row (xs : List Int) : ∀ v ∈ rowC xs, v.oneCell' = true := fun v hv => by
  simp [rowC] at hv
  rcases hv with rfl | rfl | rfl | rfl | rfl | rfl <;> rfl
theorem one_hit (hs : List (List Int)) (j i : Nat) : ∀ v ∈ hitC hs j i, v.oneCell' = true := by
  unfold hitC
  split
  · exact one_row _
  · exact one_z6
theorem one_rules (n : Nat) (hs : List (List Int)) (j : Nat) (m : List Value) (hm : ∀ v ∈ m, v.oneCell' = true) : ∀ v ∈ rulesL n hs j m, v.oneCell' = true := fun v hv => by
  simp only [rulesL, List.mem_cons, List.mem_append] at hv
  rcases hv with rfl | ((((((h | h) | h) | h) | h) | h) | h)
  · rfl
  · exact one_hit _ _ _ v h
  · exact one_hit _ _ _ v h
  · exact one_hit _ _ _ v h
  · exact one_hit _ _ _ v h
  · exact one_hit _ _ _ v h
  · exact one_hit _ _ _ v h
  · exact hm v h
theorem splice_miss (n : Nat) (hs : List (List Int)) (ms : List Int) : Go.splice (rulesL n hs 0 z6l) 37 (rowC ms) = rulesL n hs 0 (rowC ms) := rfl
theorem splice_hit (n : Nat) (hs : List (List Int)) (j : Nat) (hj : j < 6) (m : List Value) : Go.splice (rulesL n hs j m) (1 + j * 6) (rowC (hs.getD j [])) = rulesL n hs (j + 1) m := by
  rcases below6 hj with rfl | rfl | rfl | rfl | rfl | rfl <;> rfl
theorem splice_all (cs ds : List Value) (h : ds.length = cs.length) : Go.splice cs 0 ds = ds := by
  unfold Go.splice
  rw [Nat.zero_add, h, List.drop_length]; simp
theorem isz43 : (Try.prog.info? 63).map (·.size) = some 43 := by kernel_rfl
theorem isz6 : (Try.prog.info? 60).map (·.size) = some 6 := by kernel_rfl
theorem z43_len : z43.length = 43 := rfl
theorem und43 : ∃ d, Try.prog.underlying 63 = some d ∧ d.isRow = true := by
  cases h : Try.prog.underlying 63 with
  | none => exact absurd h (by decide +kernel)
  | some d =>
    refine ⟨d, rfl, ?_⟩
    have e : (Try.prog.underlying 63).map (fun d => d.isRow) = some true := by kernel_rfl
    rw [h] at e
    simpa using e
def rulV (b : Bool) (n : Nat) (hs : List (List Int)) (ms : List Int) : Value := .agg (if b then rulesL n hs n (rowC ms) else z43).toArray
/-- what orderOf returns for a list: its ages, or zeros where it has not as many -/
def rowD (n : Nat) (xs : List Int) : List Value := if xs.length = n then rowC xs else z6l
theorem rowD_yes {n : Nat} {xs : List Int} (h : ordB n xs = true) : rowD n xs = rowC xs := if_pos (ordB_len h)
theorem one_rowD (n : Nat) (xs : List Int) : ∀ v ∈ rowD n xs, v.oneCell' = true := by
  unfold rowD
  split
  · exact one_row _
  · exact one_z6
theorem rowD_len (n : Nat) (xs : List Int) : (rowD n xs).length = 6 := by unfold rowD; split <;> rfl
theorem order_any (a : Option Addr) (c n : Nat) (xs : List Int) (w : World) (h1 : 1 ≤ n) (h6 : n ≤ 6) (hl : xs.length ≤ 1048576) (hcap : xs.length ≤ c ∧ c ≤ 9223372036854775807) (hr : Row w a xs) :
    Calls Try.prog 36 #[.slice a xs.length c, .int .i64 (n : Nat)] w (RetB (.tuple #[.agg (rowD n xs).toArray, .bool (ordB n xs)]) w) := by
  by_cases h : xs.length = n
  · unfold rowD
    rw [if_pos h]
    have := order_i a c n xs w h h1 h6 (by omega) hr
    rw [← h] at this ⊢
    exact this
  · unfold rowD
    rw [if_neg h]
    have e : ordB n xs = false := by
      cases ho : ordB n xs
      · rfl
      · exact absurd (ordB_len ho) h
    rw [e]
    exact order_no a c n xs.length w h hl (by omega)
/-- What the loop of rulesOf keeps. -/
def RulI (Z N M c c' : Nat) (a a' : Option Addr) (hs : List (List Int)) (m : List Value) (j : Nat) (w w' : World) : Prop :=
  Blk w' Z [.slice a N c, .slice a' M c'] 32 ∧ Blk w' (Z + 1) z43 63 ∧ Blk w' (Z + 1 + 1) (rulesL M hs j m) 63 ∧ Below Z w w' ∧ Z + 3 ≤ w'.heap.size
theorem RulI.below {Z N M c c' : Nat} {a a' : Option Addr} {hs : List (List Int)} {m : List Value} {j : Nat} {w w' w2 : World} (h : RulI Z N M c c' a a' hs m j w w') (hb : Below w'.heap.size w' w2) : RulI Z N M c c' a a' hs m j w w2 := by
  obtain ⟨h1, h2, h3, h4, h5⟩ := h
  exact ⟨h1.below hb h1.lt, h2.below hb h2.lt, h3.below hb h3.lt, h4.trans (hb.mono (by omega)), Nat.le_trans h5 hb.size⟩
theorem RulI.step {Z N M c c' : Nat} {a a' : Option Addr} {hs : List (List Int)} {m : List Value} {j : Nat} {w w' w2 : World} (h : RulI Z N M c c' a a' hs m j w w') (hj : j < 6) (hb : Blk w2 (Z + 1 + 1) (Go.splice (rulesL M hs j m) (1 + j * 6) (rowC (hs.getD j []))) 63) (hk : Keep (Z + 1 + 1) w' w2) : RulI Z N M c c' a a' hs m (j + 1) w w2 := by
  obtain ⟨h1, h2, h3, h4, h5⟩ := h
  rw [splice_hit M hs j hj m] at hb
  exact ⟨hk.blk h1 (by omega), hk.blk h2 (by omega), hb, h4.trans (hk.below (by omega)), by rw [hk.size]; exact h5⟩
set_option maxHeartbeats 8000000 in
set_option maxRecDepth 100000 in
theorem rules_i (a a' : Option Addr) (c c' : Nat) (hs : List (List Int)) (ms : List Int) (w : World)
    (hr : Row w a' ms) (hcap : ms.length ≤ c' ∧ c' ≤ 9223372036854775807) (hm : ms.length ≤ 1048576) (hh : RdR w a hs) (hl : hs.length ≤ 1048576) :
    Calls Try.prog 27 #[.agg #[.slice a hs.length c, .slice a' ms.length c']] w (RetB (.tuple #[rulV (isP hs ms) ms.length hs ms, .bool (isP hs ms)]) w) := by
  obtain ⟨d43, hu43, hd43⟩ := und43
  have HL43 := Lib.hid (fun (w' : World) (b : Nat) (cs : List Value) (h : Blk w' b cs 63) (hc : cs.length = 43) => Blk.loadVar h 63 d43 hu43 hd43 (by rw [hc]; exact isz43))
  have HU := Lib.hid (And.intro hu43 hd43)
  clear hu43 hd43
  generalize hMM : ms.length = M at *
  generalize hNN : hs.length = N at *
  have HW := Lib.hid (fun w' => ways_i (M : Int) w')
  go_enter Try.func27, Try.ntmps27
  go_wp2_with (with_reducible refine wpList_storeB rfl 63 (.tmp 4) (.tmp 11) rfl (w.heap.size + 1 + 1) 0 (rulesL M hs 0 z6l) ?_ ?_ z43 63 ?_ ?_ ?_ ?_ ?_)
  · rfl
  · rfl
  · exact Blk.newAt _ _ _ _ (by simp)
  · rw [rulesL_len _ _ _ _ rfl]; decide
  · rw [rulesL_len _ _ _ _ rfl]; exact isz43
  · exact one_rules _ _ _ _ one_z6
  intro w2 hB hK
  rw [splice_all _ _ (by rw [rulesL_len _ _ _ _ rfl]; rfl)] at hB
  have hZ2 : Hid (Blk w2 (w.heap.size + 1) z43 63) := hK.out.blk (Blk.alloc (Blk.newAt _ _ _ _ (by simp)) _) (by omega)
  have hP2 : Hid (Blk w2 w.heap.size [.slice a N c, .slice a' M c'] 32) := hK.out.blk (Blk.alloc (Blk.alloc (Blk.newAt _ _ _ _ rfl) _) _) (by omega)
  have hb2 : Hid (Below w.heap.size w w2) := ((((Below.refl _ w).alloc (Nat.le_refl _) _).alloc (by simp) _).alloc (by simp; omega) _).trans (hK.out.below (by omega))
  have hs2 : w2.heap.size = w.heap.size + 3 := by rw [hK.out.size]; simp
  clear hK
  have cw : w2.cell? ⟨w.heap.size + 1 + 1, 0, none⟩ = some (.int .i64 M) := hB.out.cell 0
  have cp0 : w2.cell? ⟨w.heap.size, 0, none⟩ = some (.slice a N c) := hP2.out.cell 0
  have cp1 : w2.cell? ⟨w.heap.size, 1, none⟩ = some (.slice a' M c') := hP2.out.cell 1
  by_cases h16 : 1 ≤ M ∧ M ≤ 6
  · rw [show (decide ((1 : Int) ≤ (M : Int)) && decide ((M : Int) ≤ 6)) = true by rw [← Bool.decide_and]; simp; omega] at HW
    obtain ⟨h1, h6⟩ := h16
    by_cases hne : N = M
    · have d3 : ((N : Int) != (M : Int)) = false := by simp; omega
      have hI2 : Hid (RulI w.heap.size N M c c' a a' hs z6l 0 w w2) := ⟨hP2.out, hZ2.out, hB.out, hb2.out, Nat.le_of_eq hs2.symm⟩
      have HO := Lib.hid (order_any a' c' M ms w2 h1 h6 (by omega) (by omega) (hr.below hb2.out))
      rw [hMM] at HO
      go_wp2_with (first | (go_at_call 35; refine (HW.out _).mono ?_; rintro e w' ⟨rfl, rfl⟩) | (go_at_call 36; refine HO.out.mono ?_; rintro e w3 ⟨rfl, b3⟩; have hI3 := Lib.hid (hI2.out.below b3); have hB3 := Lib.hid hI3.out.2.2.1; clear b3) | (with_reducible refine wpList_storeB rfl 60 (.tmp 33) (.tmp 31) rfl (w.heap.size + 1 + 1) 37 (rowD M ms) ?_ ?_ (rulesL M hs 0 z6l) 63 hB3.out ?_ ?_ ?_ ?_))
      · rfl
      · rfl
      · rw [rulesL_len _ _ _ _ rfl, rowD_len]; decide
      · rw [rowD_len]; exact isz6
      · exact one_rowD _ _
      intro w4 hB4 hK4
      have cwr : RulI w.heap.size N M c c' a a' hs z6l 0 w w3 := hI3.out
      have hZ4 : Hid (Blk w4 (w.heap.size + 1) z43 63) := hK4.out.blk cwr.2.1 (by omega)
      have hb4 : Hid (Below w.heap.size w w4) := cwr.2.2.2.1.trans (hK4.out.below (by omega))
      have hP4 : Hid (Blk w4 w.heap.size [.slice a N c, .slice a' M c'] 32) := hK4.out.blk cwr.1 (by omega)
      have hs4 : w.heap.size + 3 ≤ w4.heap.size := by rw [hK4.out.size]; exact cwr.2.2.2.2
      clear cwr hI3 hB3 hK4 HO hI2 hB hZ2 hP2 hb2 hs2 cw cp0 cp1 d3 HW
      cases hom : ordB M ms
      · have hip : isP hs ms = false := isP_miss (by rw [hMM]; exact hom)
        clear hB4
        go_wp2_with (with_reducible refine wpList_storeB rfl 63 (.tmp 2) (.tmp 36) rfl (w.heap.size + 1) 0 z43 ?_ ?_ z43 63 hZ4.out ?_ ?_ ?_ ?_)
        · rfl
        · rfl
        · rw [z43_len]; decide
        · exact isz43
        · intro v hv; simp [z43, z6l] at hv; rw [hv]; rfl
        intro w5 hBx hKx
        rw [splice_all _ _ rfl] at hBx
        go_wp2
        refine bodyPost_ret (results2 (a := 2) (k := 3) (t := 63) (p := ⟨w.heap.size + 1, 0, none⟩) (by kernel_rfl) rfl (HL43.out _ _ _ hBx.out rfl) rfl) rfl ⟨?_, ?_⟩
        · rw [hip]; rfl
        · exact hb4.out.trans (hKx.out.below (by omega))
      · rw [rowD_yes hom, splice_miss] at hB4
        have hI4 : Hid (RulI w.heap.size N M c c' a a' hs (rowC ms) 0 w w4) := ⟨hP4.out, hZ4.out, hB4.out, hb4.out, hs4⟩
        have cp0 : w4.cell? ⟨w.heap.size, 0, none⟩ = some (.slice a N c) := hP4.out.cell 0
        clear hP4 hZ4 hB4 hb4 hs4
        go_wp2
        go_loopw [5, 6, 7, 40] (fun ok _ _ i wr => ∃ j : Nat, j ≤ N ∧ ok = .bool true ∧ i = .int .i64 (j : Nat) ∧ Hid ((hs.take j).all (ordB M) = true) ∧ Hid (RulI w.heap.size N M c c' a a' hs (rowC ms) j w wr)) (fun _ _ _ i _ => N - (intOf i).toNat)
        case atStart => exact ⟨0, Nat.zero_le _, rfl, rfl, Lib.hid rfl, hI4⟩
        case round =>
          obtain ⟨j, hj, rfl, rfl, hall, hI⟩ := hrel
          by_cases hlt : j < N
          · obtain ⟨b, off, A, C, rfl, c1, hrow, hbl, e5, e6, e7, _⟩ := hh j (by omega)
            have hbw : Below w.heap.size w wr := hI.out.2.2.2.1
            have c2 : wr.cell? ⟨b, off + j, none⟩ = some (.slice A (hs.getD j []).length C) := (hbw.cell (p := ⟨b, off + j, none⟩) hbl).trans c1
            have cw : wr.cell? ⟨w.heap.size + 1 + 1, 0, none⟩ = some (.int .i64 M) := hI.out.2.2.1.cell 0
            have HO := Lib.hid (order_any A C M (hs.getD j []) wr h1 h6 e5 ⟨e6, e7⟩ (hrow.below hbw))
            have HA := Lib.hid (all_take hs M j (by omega))
            have HN := Lib.hid (fun (h : ordB M (hs.getD j []) = false) => (isP_hit (hs := hs) (ms := ms) j (by omega) (by rw [hMM]; exact h)))
            have HRD := Lib.hid (fun (h : ordB M (hs.getD j []) = true) => rowD_yes h)
            have HRL := Lib.hid (rowD_len M (hs.getD j []))
            have HR1 := Lib.hid (one_rowD M (hs.getD j []))
            have hj6 : j < 6 := by omega
            have hj6i : (j : Int) < 6 := by omega
            clear c1 hrow hbl e5 e6 e7 hbw
            generalize (hs.getD j []).length = L at *
            generalize rowD M (hs.getD j []) = rd at *
            cases hob : ordB M (hs.getD j [])
            · have hip := HN.out hob
              rw [hob] at HO
              clear HN HRD HA hall hob
              go_wp2_with (first | (go_at_call 36; refine HO.out.mono ?_; rintro e w3 ⟨rfl, b3⟩; have hI3 := Lib.hid (hI.out.below b3); have hB3 := Lib.hid hI3.out.2.2.1; clear b3) | (with_reducible refine wpList_storeB rfl 60 (.tmp 54) (.tmp 51) rfl (w.heap.size + 1 + 1) (1 + j * 6) rd ?_ ?_ (rulesL M hs j (rowC ms)) 63 hB3.out ?_ ?_ ?_ ?_))
              · rfl
              · rfl
              · rw [rulesL_len _ _ _ _ rfl, HRL.out]; omega
              · rw [HRL.out]; exact isz6
              · exact HR1.out
              intro w4 hB4 hK4
              have hZ5 : Hid (Blk w4 (w.heap.size + 1) z43 63) := hK4.out.blk hI3.out.2.1 (by omega)
              have hb5 : Hid (Below w.heap.size w w4) := hI3.out.2.2.2.1.trans (hK4.out.below (by omega))
              clear hB4 hK4 hI3 hB3
              go_wp2_with (with_reducible refine wpList_storeB rfl 63 (.tmp 2) (.tmp 57) rfl (w.heap.size + 1) 0 z43 ?_ ?_ z43 63 hZ5.out ?_ ?_ ?_ ?_)
              · rfl
              · rfl
              · rw [z43_len]; decide
              · exact isz43
              · intro v hv; simp [z43, z6l] at hv; rw [hv]; rfl
              intro w5 hBx hKx
              rw [splice_all _ _ rfl] at hBx
              go_wp2
              refine bodyPost_ret (results2 (a := 2) (k := 3) (t := 63) (p := ⟨w.heap.size + 1, 0, none⟩) (by kernel_rfl) rfl (HL43.out _ _ _ hBx.out rfl) rfl) rfl ⟨?_, ?_⟩
              · rw [hip]; rfl
              · exact hb5.out.trans (hKx.out.below (by omega))
            · have hrd := Lib.hid (HRD.out hob)
              rw [hob] at HO
              have HA2 := HA.out
              rw [hob, hall.out] at HA2
              have HA3 := Lib.hid HA2
              clear HN HRD HA hall HA2 hob
              go_wp2_with (first | (go_at_call 36; refine HO.out.mono ?_; rintro e w3 ⟨rfl, b3⟩; have hI3 := Lib.hid (hI.out.below b3); have hB3 := Lib.hid hI3.out.2.2.1; clear b3) | (with_reducible refine wpList_storeB rfl 60 (.tmp 54) (.tmp 51) rfl (w.heap.size + 1 + 1) (1 + j * 6) rd ?_ ?_ (rulesL M hs j (rowC ms)) 63 hB3.out ?_ ?_ ?_ ?_))
              · rfl
              · rfl
              · rw [rulesL_len _ _ _ _ rfl, HRL.out]; omega
              · rw [HRL.out]; exact isz6
              · exact HR1.out
              intro w4 hB4 hK4
              rw [hrd.out] at hB4
              have hI4 := Lib.hid (hI3.out.step hj6 hB4.out hK4.out)
              clear hB4 hK4 hI3 hB3
              go_wp2
              go_roundw
              case rel => exact ⟨j + 1, by omega, rfl, by go_num, HA3, hI4⟩
              case measure => simp [intOf]; omega
          · have e : j = N := by omega
            subst e
            have hip : isP hs ms = true := isP_yes (by omega) (by omega) (by omega) (by rw [hMM]; exact hom) (by rw [hNN, hMM]; exact hall.out)
            have hZr := Lib.hid hI.out.2.1
            have hRr := Lib.hid hI.out.2.2.1
            have hbr := Lib.hid hI.out.2.2.2.1
            have hu1 := HU.out.1
            have hd1 := HU.out.2
            clear hI hall
            subst hne
            go_wp2_with (first | (with_reducible refine wpList_loadB rfl 63 (.tmp 4) rfl (w.heap.size + 1 + 1) ?_ (rulesL j hs j (rowC ms)) 63 hRr.out d43 HU.out.1 HU.out.2 ?_ ?_) | (with_reducible refine wpList_storeB rfl 63 (.tmp 2) (.tmp 59) rfl (w.heap.size + 1) 0 (rulesL j hs j (rowC ms)) ?_ ?_ z43 63 hZr.out ?_ ?_ ?_ ?_))
            · rfl
            · rw [rulesL_len _ _ _ _ rfl]; exact isz43
            · rw [rulesL_len _ _ _ _ rfl]; decide
            · rw [rulesL_len _ _ _ _ rfl]; exact isz43
            · exact one_rules _ _ _ _ (one_row _)
            intro w5 hBx hKx
            rw [splice_all _ _ (by rw [rulesL_len _ _ _ _ rfl]; rfl)] at hBx
            go_wp2
            refine bodyPost_ret (results2 (a := 2) (k := 3) (t := 63) (p := ⟨w.heap.size + 1, 0, none⟩) (by kernel_rfl) rfl (HL43.out _ _ _ hBx.out (rulesL_len _ _ _ _ rfl)) rfl) rfl ⟨?_, ?_⟩
            · rw [hip]; rfl
            · exact hbr.out.trans (hKx.out.below (by omega))
    · have d3 : ((N : Int) != (M : Int)) = true := by simp; omega
      have hip : isP hs ms = false := isP_len (by omega)
      go_wp2_with (first | (go_at_call 35; refine (HW.out _).mono ?_; rintro e w' ⟨rfl, rfl⟩) | (with_reducible refine wpList_storeB rfl 63 (.tmp 2) (.tmp 24) rfl (w.heap.size + 1) 0 z43 ?_ ?_ z43 63 hZ2.out ?_ ?_ ?_ ?_))
      · rfl
      · rfl
      · rw [z43_len]; decide
      · exact isz43
      · intro v hv; simp [z43, z6l] at hv; rw [hv]; rfl
      intro w3 hBx hKx
      rw [splice_all _ _ rfl] at hBx
      go_wp2
      refine bodyPost_ret (results2 (a := 2) (k := 3) (t := 63) (p := ⟨w.heap.size + 1, 0, none⟩) (by kernel_rfl) rfl (HL43.out _ _ _ hBx.out rfl) rfl) rfl ⟨?_, ?_⟩
      · rw [hip]; rfl
      · exact hb2.out.trans (hKx.out.below (by omega))
  · rw [show (decide ((1 : Int) ≤ (M : Int)) && decide ((M : Int) ≤ 6)) = false by rw [← Bool.decide_and]; simp; omega] at HW
    have hip : isP hs ms = false := by
      rcases Nat.lt_or_ge M 1 with h | h
      · exact isP_low (by omega)
      · exact isP_high (by omega)
    go_wp2_with (first | (go_at_call 35; refine (HW.out _).mono ?_; rintro e w' ⟨rfl, rfl⟩) | (with_reducible refine wpList_storeB rfl 63 (.tmp 2) (.tmp 24) rfl (w.heap.size + 1) 0 z43 ?_ ?_ z43 63 hZ2.out ?_ ?_ ?_ ?_))
    · rfl
    · rfl
    · rw [z43_len]; decide
    · exact isz43
    · intro v hv; simp [z43, z6l] at hv; rw [hv]; rfl
    intro w3 hB3 hK3
    rw [splice_all _ _ rfl] at hB3
    go_wp2
    refine bodyPost_ret (results2 (a := 2) (k := 3) (t := 63) (p := ⟨w.heap.size + 1, 0, none⟩) (by kernel_rfl) rfl (HL43.out _ _ _ hB3.out rfl) rfl) rfl ⟨?_, ?_⟩
    · rw [hip]; rfl
    · exact hb2.out.trans (hK3.out.below (by omega))
end Go.Proofs.Ytakjkbjooongkaa.Pv
