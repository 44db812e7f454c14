/- The program's tests of a root, of tables and of a buffer. -/
import Derived.Test.YtifjkjcgpghmhaaDoorCspe
import Derived.Test.YtifjkjcgpghmhaaDoorCblk
import Derived.WalkMore
import Derived.IntWalk
namespace Go.Proofs.YtifjkjcgpghmhaaDoor.Sp
open Go.RowKit
def tkL (n : Nat) (seen : List Int) : List Value := (List.range n).map fun i : Nat => Value.bool (decide ((i : Int) ∈ seen))
theorem tkL_length (n : Nat) (seen : List Int) : (tkL n seen).length = n := by simp [tkL]
theorem tkL_get (n : Nat) (seen : List Int) (m : Nat) (h : m < n) : (tkL n seen)[m]? = some (.bool (decide ((m : Int) ∈ seen))) := by
  unfold tkL
  rw [List.getElem?_map, List.getElem?_range h]; rfl
theorem tkL_set (n : Nat) (seen : List Int) (m : Nat) (h : m < n) : (tkL n seen).set m (.bool true) = tkL n (seen ++ [(m : Int)]) := by
  refine List.ext_getElem? fun i => ?_
  by_cases hi : i < n
  · rw [tkL_get n _ i hi]
    by_cases e : m = i
    · subst e
      rw [List.getElem?_set_self (by rw [tkL_length]; exact hi)]; simp
    · rw [List.getElem?_set_ne e, tkL_get n _ i hi]
      have : ¬ (i : Int) = (m : Int) := by omega
      simp [this]
  · rw [List.getElem?_eq_none (by rw [List.length_set, tkL_length]; omega), List.getElem?_eq_none (by rw [tkL_length]; omega)]
theorem tkL_neg (n : Nat) (seen : List Int) : tkL n (seen ++ [-1]) = tkL n seen := by
  unfold tkL
  refine List.map_congr_left fun i _ => ?_
  have : ¬ (i : Int) = -1 := by omega
  simp [this]
/-- What has been seen, in an array at g. -/
def ArrB (t : TypeId) (g n : Nat) (seen : List Int) (w : World) : Prop := Blk w g (tkL n seen) t
theorem ArrB.below {t : TypeId} {g n : Nat} {seen : List Int} {w w' : World} (h : ArrB t g n seen w) (hb : Below w.heap.size w w') : ArrB t g n seen w' := Blk.below h hb (Blk.lt h)
theorem ArrB.cell {t : TypeId} {g n : Nat} {seen : List Int} {w : World} (h : ArrB t g n seen w) (m : Nat) (hm : m < n) : w.cell? ⟨g, m, none⟩ = some (.bool (decide ((m : Int) ∈ seen))) := by
  rw [Blk.cell h m, tkL_get n seen m hm]
theorem ArrB.set {t : TypeId} {g n : Nat} {seen : List Int} {w : World} (h : ArrB t g n seen w) (m : Nat) (hm : m < n) : ArrB t g n (seen ++ [(m : Int)]) (w.setCell ⟨g, m, none⟩ (.bool true)) := by
  show Blk _ _ (tkL n _) _
  rw [← tkL_set n seen m hm]
  have h' : w.heap[g]? = some (.cells (tkL n seen).toArray t (0, 0)) := h
  have h2 := Go.heap_setCell_same w g m (tkL n seen).toArray t (.bool true) h'
  unfold Blk
  rw [h2]
  simp
set_option maxRecDepth 100000 in
set_option maxHeartbeats 4000000 in
theorem root_i (a : Option Addr) (c n : Nat) (root : List Int) (w : World) (hl : root.length ≤ 1048576) (hn : n ≤ 1048576) (hr : Row w a root) :
    Calls Tryd.prog 57 #[.slice a root.length c, .int .i64 (n : Nat)] w (Bb (okRoot root n) w) := by
  by_cases k1 : root.length = 8
  case neg =>
    have e : okRoot root n = false := by unfold okRoot; rw [decide_eq_false k1]; rfl
    rw [e]
    clear hr e
    generalize root.length = m at *
    have hne : ((m : Int) != 8) = true := by simp; omega
    go_enter Tryd.func57, Tryd.ntmps57
    go_wp2
    go_ret
    exact ⟨rfl, Below.refl _ _⟩
  by_cases k2 : n ≤ 8
  case neg =>
    have e : okRoot root n = false := by unfold okRoot; rw [decide_eq_false k2]; simp
    rw [e, k1]
    clear hr e
    have hne : (8 : Int) < (n : Int) := by omega
    go_enter Tryd.func57, Tryd.ntmps57
    go_wp2
    go_ret
    exact ⟨rfl, Below.refl _ _⟩
  have hok : okRoot root n = ((List.range 8).all (gd root n) && decide (cnt root = n)) := by unfold okRoot; rw [decide_eq_true k1, decide_eq_true k2, k1]; rfl
  have HC := Lib.hid (fun (w' : World) (bb : Below w.heap.size w w') => hr.below bb)
  have HN := Lib.hid (fun j (hj : j < 8) (h : gd root n j = false) => (show okRoot root n = false by rw [hok, range_all_no _ j _ hj h]; rfl))
  have HY := Lib.hid (fun (h : (List.range 8).all (gd root n) = true) => (show okRoot root n = decide (cnt (root.take 8) = n) by rw [hok, h, List.take_of_length_le (by omega)]; rfl))
  have HG := Lib.hid (fun j => (show gd root n j = (decide (root.getD j 0 = -1) || (decide (0 ≤ root.getD j 0) && decide (root.getD j 0 ≤ (n : Int) - 1) && !decide (root.getD j 0 ∈ root.take j))) from rfl))
  have HR := Lib.hid (fun j => range_all_succ j (gd root n))
  have HT := Lib.hid (fun j (hj : j < 8) => take_succ_getD root j (by omega))
  have HCN := Lib.hid (fun j (hj : j < 8) => cnt_succ root j (by omega))
  have HB := Lib.hid (fun (x : Int) w => Tr.btw_g x 0 ((n : Int) - 1) w)
  have k2' : ¬ (8 : Int) < (n : Int) := by omega
  unfold Row at HC
  clear hr hok
  rw [k1] at HC ⊢
  generalize okRoot root n = ok at *
  have HZ := Lib.hid (Blk.newAt w w.heap.size (tkL 8 []) 101 rfl)
  clear k1 hl
  go_enter Tryd.func57, Tryd.ntmps57
  go_wp2
  have hz := Lib.hid (show ArrB 101 w.heap.size 8 (root.take 0) (w.alloc (.cells #[.bool false, .bool false, .bool false, .bool false, .bool false, .bool false, .bool false, .bool false] 101)) from HZ.out)
  have hb0 := Lib.hid ((Below.refl w.heap.size w).alloc (Nat.le_refl _) (.cells #[.bool false, .bool false, .bool false, .bool false, .bool false, .bool false, .bool false, .bool false] 101))
  clear HZ
  go_loopw [6, 8, 18] (fun cn _ i wr => ∃ j c : Nat, j ≤ 8 ∧ c ≤ j ∧ i = .int .i64 (j : Nat) ∧ cn = .int .i64 (c : Nat) ∧ Hid (c = cnt (root.take j)) ∧ Hid ((List.range j).all (gd root n) = true) ∧ Hid (ArrB 101 w.heap.size 8 (root.take j) wr) ∧ Hid (Below w.heap.size w wr)) (fun _ _ i _ => 8 - (intOf i).toNat)
  case atStart => exact ⟨0, 0, Nat.zero_le _, Nat.zero_le _, rfl, rfl, Lib.hid rfl, Lib.hid rfl, hz, hb0⟩
  case round =>
    obtain ⟨j, cc, hj, hcj, rfl, rfl, hc, hx, ha, hbw⟩ := hrel
    by_cases hj8 : j < 8
    · obtain ⟨b, off, rfl, c1', _⟩ := HC.out wr hbw.out j hj8
      have hcs := HCN.out j hj8
      rw [← hc.out] at hcs
      have HCS := Lib.hid hcs
      have hg := Lib.hid (HG.out j)
      have hno := Lib.hid (HN.out j hj8)
      have hsu := Lib.hid (HR.out j)
      have htk := Lib.hid (HT.out j hj8)
      have hB := Lib.hid (HB.out (root.getD j 0))
      clear hcs hc
      generalize root.getD j 0 = u at *
      by_cases e : u = -1
      · have hx' := Lib.hid (show (List.range (j + 1)).all (gd root n) = true by rw [hsu.out, hx.out, hg.out, decide_eq_true e]; rfl)
        have hc' := Lib.hid (show cc = cnt (root.take (j + 1)) by rw [HCS.out, if_pos e]; rfl)
        have ha' := Lib.hid (show ArrB 101 w.heap.size 8 (root.take (j + 1)) wr by
          show Blk _ _ (tkL 8 _) _
          rw [htk.out, e, tkL_neg]; exact ha.out)
        clear hno hsu htk hg HCS hx ha
        subst e
        go_wp2
        go_roundw
        case rel => exact ⟨j + 1, cc, by omega, by omega, by go_num, rfl, hc', hx', ha', hbw⟩
        case measure => simp [intOf]; omega
      · have hb : (u == -1) = false := by simp [e]
        cases hin : (decide (0 ≤ u) && decide (u ≤ (n : Int) - 1))
        · rw [hin] at hB
          have hok := hno.out (by rw [hg.out, decide_eq_false e, hin]; rfl)
          clear hno hsu htk hg HCS hx
          subst hok
          go_wp2_with (go_at_call 68; refine (hB.out _).mono ?_; rintro e w' ⟨rfl, rfl⟩)
          go_ret
          exact ⟨rfl, hbw.out⟩
        · rw [hin] at hB
          rw [Bool.and_eq_true, decide_eq_true_eq, decide_eq_true_eq] at hin
          obtain ⟨m, rfl⟩ : ∃ m : Nat, u = (m : Int) := ⟨u.toNat, by omega⟩
          have hm8 : m < 8 := by omega
          have hcl := ha.out.cell m hm8
          have hfz := Blk.froz (show Blk wr w.heap.size (tkL 8 (root.take j)) 101 from ha.out) m
          by_cases hmem : (m : Int) ∈ root.take j
          · rw [decide_eq_true hmem] at hcl
            have hok := hno.out (by rw [hg.out, decide_eq_false e, decide_eq_true hin.1, decide_eq_true hin.2, decide_eq_true hmem]; rfl)
            clear hno hsu htk hg HCS hx hmem
            subst hok
            go_wp2_with (go_at_call 68; refine (hB.out _).mono ?_; rintro e w' ⟨rfl, rfl⟩)
            go_ret
            exact ⟨rfl, hbw.out⟩
          · rw [decide_eq_false hmem] at hcl
            have hx' := Lib.hid (show (List.range (j + 1)).all (gd root n) = true by rw [hsu.out, hx.out, hg.out, decide_eq_false e, decide_eq_true hin.1, decide_eq_true hin.2, decide_eq_false hmem]; rfl)
            have hc' := Lib.hid (show cc + 1 = cnt (root.take (j + 1)) by rw [HCS.out, if_neg e])
            have ha' := Lib.hid (show ArrB 101 w.heap.size 8 (root.take (j + 1)) (wr.setCell ⟨w.heap.size, m, none⟩ (.bool true)) by rw [htk.out]; exact ha.out.set m hm8)
            have hb' := Lib.hid (hbw.out.setCell (p := ⟨w.heap.size, m, none⟩) (Nat.le_refl _) (.bool true))
            clear hno hsu htk hg HCS hx hmem ha hbw
            go_wp2_with (go_at_call 68; refine (hB.out _).mono ?_; rintro e w' ⟨rfl, rfl⟩)
            go_roundw
            case rel => exact ⟨j + 1, cc + 1, by omega, by omega, by go_num, by go_num, hc', hx', ha', hb'⟩
            case measure => simp [intOf]; omega
    · have e : j = 8 := by omega
      subst e
      have hok := HY.out hx.out
      rw [← hc.out] at hok
      clear HY HN hc
      subst hok
      go_wp2
      go_ret
      exact ⟨ret_bool (by first | rfl | (rw [Bool.eq_iff_iff]; simp; done) | (rw [Bool.eq_iff_iff]; simp; omega) | (trace_state; rfl)), hbw.out⟩
set_option maxRecDepth 100000 in
set_option maxHeartbeats 8000000 in
theorem tables_i (a : Option Addr) (c : Nat) (tss : List (List TE)) (w : World) (hl : tss.length ≤ 1048576) (ht : En.RdT w a tss) (hlt8 : ∀ k, (tss.getD k []).length ≤ 1048576) :
    Calls Tryd.prog 58 #[.slice a tss.length c] w (Bb (len8 tss && okEnts tss) w) := by
  have HW := Lib.hid (fun K (hK : K < tss.length) => (show ∃ b off A C, a = some ⟨b, off, none⟩ ∧ ∀ w', Below w.heap.size w w' → w'.cell? ⟨b, off + K, none⟩ = some (.slice A (tss.getD K []).length C) ∧ ∀ j, j < (tss.getD K []).length → ∃ b2 off2, A = some ⟨b2, off2, none⟩ ∧ w'.cell? ⟨b2, off2 + j * 4, none⟩ = some (.int .i64 ((tss.getD K []).getD j dE).1) ∧
      w'.cell? ⟨b2, off2 + j * 4 + 1, none⟩ = some (.bool ((tss.getD K []).getD j dE).2.1) ∧ w'.cell? ⟨b2, off2 + j * 4 + 2, none⟩ = some (.bool ((tss.getD K []).getD j dE).2.2.1) ∧ w'.cell? ⟨b2, off2 + j * 4 + 3, none⟩ = some (.bool ((tss.getD K []).getD j dE).2.2.2) from by
    obtain ⟨b, off, A, C, e1, e2, e3, _, e5⟩ := ht.2 K hK
    refine ⟨b, off, A, C, e1, fun w' bb => ⟨(bb.cell (p := ⟨b, off + K, none⟩) e5).trans e2, fun j hj => ?_⟩⟩
    obtain ⟨b2, off2, f1, f2, f3, f4, f5, _⟩ := (e3.below bb) j hj
    exact ⟨b2, off2, f1, f2, f3, f4, f5⟩))
  have HNO := Lib.hid (fun K j (hK : K < tss.length) (hj : j < (tss.getD K []).length) (s0 seen : List Int) (g0 : tabF (some []) (tss.take K) = some s0) (g1 : rowF (some s0) ((tss.getD K []).take j) = some seen) (g2 : eOk seen ((tss.getD K []).getD j dE) = none) =>
    (show (len8 tss && okEnts tss) = false by rw [okEnts_no tss K j hK hj s0 seen g0 g1 g2]; simp))
  have HN8 := Lib.hid (fun K (hK : K < tss.length) (h : (tss.getD K []).length ≠ 8) => (show (len8 tss && okEnts tss) = false by
    have : len8 tss = false := by
      unfold len8
      rw [List.all_eq_false]
      refine ⟨tss[K], List.getElem_mem hK, ?_⟩
      rw [List.getD_eq_getElem?_getD, List.getElem?_eq_getElem hK] at h
      simpa using h
    rw [this]; rfl))
  have HYES := Lib.hid (fun (seen : List Int) (h : tabF (some []) (tss.take tss.length) = some seen) (h8 : ∀ K, K < tss.length → (tss.getD K []).length = 8) => (show (len8 tss && okEnts tss) = true by
    have : len8 tss = true := by
      unfold len8
      rw [List.all_eq_true]
      intro t ht
      obtain ⟨K, hK, e⟩ := List.mem_iff_getElem.1 ht
      have := h8 K hK
      rw [List.getD_eq_getElem?_getD, List.getElem?_eq_getElem hK] at this
      rw [← e]; simpa using this
    rw [this, okEnts_yes tss seen h]; rfl))
  have HRS := Lib.hid (fun K (s : Option (List Int)) j (hj : j < (tss.getD K []).length) => rowF_succ s (tss.getD K []) j hj)
  have HTS := Lib.hid (fun K (hK : K < tss.length) => tabF_succ (some []) tss K hK)
  have HTK := Lib.hid (fun K => (show (tss.getD K []).take (tss.getD K []).length = tss.getD K [] from List.take_length))
  have HL8 := Lib.hid hlt8
  clear ht hlt8
  generalize (len8 tss && okEnts tss) = ok at *
  generalize tss.length = N at *
  have HZ := Lib.hid (Blk.newAt w w.heap.size (tkL 16 []) 102 rfl)
  have hb0 := Lib.hid ((Below.refl w.heap.size w).alloc (Nat.le_refl _) (.cells (tkL 16 []).toArray 102))
  go_enter Tryd.func58, Tryd.ntmps58
  go_wp2
  go_loopw [2, 5, 7, 10] (fun _ _ _ k wr => ∃ (K : Nat) (seen : List Int), K ≤ N ∧ k = .int .i64 (K : Nat) ∧ Hid (tabF (some []) (tss.take K) = some seen) ∧ Hid (∀ K', K' < K → (tss.getD K' []).length = 8) ∧ Hid (ArrB 102 w.heap.size 16 seen wr) ∧ Hid (Below w.heap.size w wr)) (fun _ _ _ k _ => N - (intOf k).toNat)
  case atStart => exact ⟨0, [], Nat.zero_le _, rfl, Lib.hid rfl, Lib.hid (fun _ h => by omega), HZ, hb0⟩
  case round =>
    obtain ⟨K, s0, hK, rfl, hs0, h8, harr, hbw⟩ := hrel
    obtain ⟨wz, rfl⟩ : ∃ wz, wz = wr := ⟨_, rfl⟩
    by_cases hlt : K < N
    · obtain ⟨b, off, A, C, rfl, hW⟩ := HW.out K hlt
      obtain ⟨ct, _⟩ := hW wz hbw.out
      have HWK := Lib.hid (fun w' bb => (hW w' bb).2)
      have hnoK := Lib.hid (fun j seen hj g1 g2 => HNO.out K j hlt hj s0 seen hs0.out g1 g2)
      have hn8 := Lib.hid (HN8.out K hlt)
      have hrsK := Lib.hid (HRS.out K)
      have htsK := HTS.out K hlt
      rw [hs0.out, ← HTK.out K] at htsK
      have HTS' := Lib.hid htsK
      have h8' := Lib.hid (fun (h : (tss.getD K []).length = 8) => (show ∀ K', K' < K + 1 → (tss.getD K' []).length = 8 from fun K' hK' => by
        by_cases e : K' = K
        · rw [e]; exact h
        · exact h8.out K' (by omega)))
      have hll := HL8.out K
      clear htsK hW HNO HN8 HRS HTS HTK HYES HW hs0 HL8 h8
      generalize tss.getD K [] = row at *
      by_cases hr8 : row.length = 8
      case neg =>
        have hok := hn8.out hr8
        clear hnoK hn8 hrsK HTS' h8' HWK
        generalize row.length = L at *
        have hne : ((L : Int) != 8) = true := by simp; omega
        subst hok
        go_wp2
        go_ret
        exact ⟨rfl, hbw.out⟩
      have H8 := Lib.hid (h8'.out hr8)
      rw [hr8] at ct hnoK hrsK HTS' HWK
      clear h8' hn8 hll
      go_wp2
      go_loopw [2, 7, 19] (fun _ _ i wr => ∃ (j : Nat) (seen : List Int), j ≤ 8 ∧ i = .int .i64 (j : Nat) ∧ Hid (rowF (some s0) (row.take j) = some seen) ∧ Hid (ArrB 102 w.heap.size 16 seen wr) ∧ Hid (Below w.heap.size w wr)) (fun _ _ i _ => 8 - (intOf i).toNat)
      case atStart => exact ⟨0, s0, Nat.zero_le _, rfl, Lib.hid rfl, harr, hbw⟩
      case round =>
        obtain ⟨j, seen, hj, rfl, hsn, hrw, hbw2⟩ := hrel
        by_cases hj8 : j < 8
        · have hno := Lib.hid (fun g2 => hnoK.out j seen hj8 hsn.out g2)
          have hnx := Lib.hid (fun s' (h : eOk seen (row.getD j dE) = some s') => (show rowF (some s0) (row.take (j + 1)) = some s' by rw [hrsK.out _ j hj8, hsn.out]; exact h))
          obtain ⟨b2, off2, rfl, d0, d1, d2, d3⟩ := HWK.out wr hbw2.out j hj8
          clear HWK hnoK hrsK hsn HTS' harr hbw H8
          generalize row.getD j dE = u at *
          obtain ⟨f, wt, us, di⟩ := u
          have hba := hbw2.out.alloc hbw2.out.size (.cells #[.int .i64 f, .bool wt, .bool us, .bool di] 37)
          have hra := hrw.out.below ((Below.refl _ _).alloc (Nat.le_refl _) (.cells #[.int .i64 f, .bool wt, .bool us, .bool di] 37))
          have HB3 := Lib.hid (fun (w' : World) (bb : Below (wr.alloc (.cells #[.int .i64 f, .bool wt, .bool us, .bool di] 37)).heap.size (wr.alloc (.cells #[.int .i64 f, .bool wt, .bool us, .bool di] 37)) w') => hba.trans (bb.mono hba.size))
          have HR3 := Lib.hid (fun (w' : World) (bb : Below (wr.alloc (.cells #[.int .i64 f, .bool wt, .bool us, .bool di] 37)).heap.size (wr.alloc (.cells #[.int .i64 f, .bool wt, .bool us, .bool di] 37)) w') => hra.below bb)
          have hcf : (wr.alloc (.cells #[.int .i64 f, .bool wt, .bool us, .bool di] 37)).cell? ⟨wr.heap.size, 0, none⟩ = some (.int .i64 f) := (Blk.new wr [.int .i64 f, .bool wt, .bool us, .bool di] 37).cell 0
          have HCF := Lib.hid (fun (w' : World) (bb : Below (wr.alloc (.cells #[.int .i64 f, .bool wt, .bool us, .bool di] 37)).heap.size (wr.alloc (.cells #[.int .i64 f, .bool wt, .bool us, .bool di] 37)) w') => (bb.cell (p := ⟨wr.heap.size, 0, none⟩) (by simp)).trans hcf)
          have HE := Lib.hid (fun w => entry_i f wt us di w)
          clear hrw hbw2 hba hra hcf
          by_cases he : ((f, wt, us, di) : TE) = emp
          · have hx' := Lib.hid (hnx.out seen (by rw [he]; exact eOk_emp seen))
            have hE : isE (f, wt, us, di) = true := by unfold isE; rw [decide_eq_true he]; rfl
            rw [hE] at HE
            simp [emp] at he
            obtain ⟨rfl, rfl, rfl, rfl⟩ := he
            clear hno hnx hE
            go_wp2_with fail
            refine (HE.out _).mono ?_; rintro e w1 ⟨rfl, bb⟩
            have hb1 := Lib.hid (HB3.out w1 bb)
            have hr1 := Lib.hid (HR3.out w1 bb)
            have hc1 := HCF.out w1 bb
            clear bb HB3 HR3 HCF
            go_wp2
            go_roundw
            case rel => exact ⟨j + 1, seen, by omega, by go_num, hx', hr1, hb1⟩
            case measure => simp [intOf]; omega
          · have hE : isE (f, wt, us, di) = (isF f && (us || !di)) := by unfold isE; rw [decide_eq_false he]; rfl
            cases hF : (isF f && (us || !di))
            · have hok := hno.out (eOk_no seen f wt us di he (by
                rw [Bool.and_eq_false_iff] at hF
                rcases hF with h | h
                · exact .inl h
                · exact .inr (.inr h)))
              rw [hE, hF] at HE
              clear hno hnx hF hE he
              subst hok
              go_wp2_with fail
              refine (HE.out _).mono ?_; rintro e w1 ⟨rfl, bb⟩
              have hb1 := Lib.hid (HB3.out w1 bb)
              have hc1 := HCF.out w1 bb
              clear bb HB3 HR3 HCF
              go_wp2
              go_ret
              exact ⟨rfl, hb1.out⟩
            · rw [hE, hF] at HE
              rw [Bool.and_eq_true] at hF
              have hF2 : 0 ≤ f ∧ f ≤ 15 := by simpa [isF] using hF.1
              obtain ⟨m, rfl⟩ : ∃ m : Nat, f = (m : Int) := ⟨f.toNat, by omega⟩
              have hm16 : m < 16 := by omega
              have hnb : (((m : Int)) != -1) = true := by simp
              by_cases hin : (m : Int) ∈ seen
              · have hok := hno.out (eOk_no seen m wt us di he (.inr (.inl hin)))
                clear hno hnx hE he
                subst hok
                go_wp2_with fail
                refine (HE.out _).mono ?_; rintro e w1 ⟨rfl, bb⟩
                have hb1 := Lib.hid (HB3.out w1 bb)
                have hcl := (HR3.out w1 bb).cell m hm16
                rw [decide_eq_true hin] at hcl
                have hc1 := HCF.out w1 bb
                clear bb HB3 HR3 HCF hin hF
                go_wp2
                go_ret
                exact ⟨rfl, hb1.out⟩
              · have hx' := Lib.hid (hnx.out _ (eOk_yes seen m wt us di he hF.1 hin hF.2))
                clear hno hnx hE he
                go_wp2_with fail
                refine (HE.out _).mono ?_; rintro e w1 ⟨rfl, bb⟩
                have hb1 := Lib.hid ((HB3.out w1 bb).setCell (p := ⟨w.heap.size, m, none⟩) (Nat.le_refl _) (.bool true))
                have hr1 := Lib.hid ((HR3.out w1 bb).set m hm16)
                have hcl := (HR3.out w1 bb).cell m hm16
                have hfz := Blk.froz (show Blk w1 w.heap.size (tkL 16 seen) 102 from HR3.out w1 bb) m
                rw [decide_eq_false hin] at hcl
                have hc1 := HCF.out w1 bb
                clear bb HB3 HR3 HCF hin hF
                go_wp2
                go_roundw
                case rel => exact ⟨j + 1, _, by omega, by go_num, hx', hr1, hb1⟩
                case measure => simp [intOf]; omega
        · have e : j = 8 := by omega
          subst e
          have hx := Lib.hid (HTS'.out.trans hsn.out)
          go_wp2
          go_roundw
          case rel => exact ⟨K + 1, seen, by omega, by go_num, hx, H8, hrw, hbw2⟩
          case measure => simp [intOf]; omega
    · have e : K = N := by omega
      subst e
      have hok := HYES.out s0 hs0.out h8.out
      clear HYES
      subst hok
      go_wp2
      go_ret
      exact ⟨rfl, hbw.out⟩
end Go.Proofs.YtifjkjcgpghmhaaDoor.Sp
