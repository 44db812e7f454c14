/- The model's memory with ranks, and its RankContents. -/
import Derived.Test.YtbajnkojjeakgaaPlainMem
import Derived.Test.YtbajnkojjeakgaaConlyS
import Derived.Test.YtbajnkojjeakgaaCput
import Derived.Test.YtbajnkojjeakgaaCown
import Derived.Test.YtbajnkojjeakgaaCappg
import Derived.Test.YtbajnkojjeakgaaCrk
import Derived.Test.YtbajnkojjeakgaaCbtg
import Derived.Deep.QuietTactic
import Derived.BigQuiet
namespace Go.Proofs.Ytbajnkojjeakgaa.Tr
open Go.RowKit Go.Lib
theorem worst_one (rs L : List Int) : worstK rs L 1 = 0 := by
  show (if rkn rs (L.getD (worstK rs L 0) 0) < rkn rs (L.getD 0 0) then 0 else worstK rs L 0) = 0
  split <;> rfl
theorem worst_step (rs L : List Int) (k : Nat) : worstK rs L (k + 1) = if rkn rs (L.getD (worstK rs L k) 0) < rkn rs (L.getD k 0) then k else worstK rs L k := rfl
/-- What the memory leaves: the set of what is in it, and the misses. -/
def MemR (s : List Int) (m : Nat) (w : World) (e : Ending) (w' : World) : Prop := ∃ v, e = .returned (.tuple #[v, .int .i64 (m : Int)]) ∧ Own w' w.heap.size v s ∧ Below w.heap.size w w'
set_option maxHeartbeats 4000000 in
set_option maxRecDepth 100000 in
theorem mem_s {br offr cr : Nat} {rs : List Int} (a : Option Addr) (c : Nat) (xs : List Int) (n : Nat) (w : World) (hn1 : 1 ≤ n) (hn6 : n ≤ 60) (hok : okU xs = true) (hr : Row w a xs) (hbr : br < w.heap.size)
    (hrc : ∀ j, j < 64 → w.cell? ⟨br, offr + j, none⟩ = some (.int .i64 (rs.getD j 0))) :
    Calls Try.prog 35 #[.slice (some ⟨br, offr, none⟩) 64 cr, .slice a xs.length c, .int .i64 (n : Int)] w (MemR (setP (mem rs n xs)) (memC rs n xs xs.length) w) := by
  have hx := okU_len hok
  have hA := fun j (hj : j < xs.length) => okU_at hok j hj
  have HK := Lib.hid (fun j (hj : j ≤ xs.length) => mem_kept rs n hn1 xs hA j hj)
  have HST := Lib.hid (fun j (hj : j < xs.length) => mem_take rs n xs j hj)
  have HCS : Hid (∀ j, j < xs.length → memC rs n xs (j + 1) = memC rs n xs j + if xs.getD j 0 ∈ mem rs n (xs.take j) then 0 else 1) := Lib.hid (fun j _ => rfl)
  have HCL := Lib.hid (fun j => memC_le rs n xs j)
  have HC0 : Hid (memC rs n xs 0 = 0) := Lib.hid rfl
  have H0 : Hid (mem rs n (xs.take 0) = []) := Lib.hid (by rw [List.take_zero]; rfl)
  have HN : Hid (mem rs n (xs.take xs.length) = mem rs n xs) := Lib.hid (by rw [List.take_length])
  have HRC := Lib.hid (fun (w1 : World) (hb : Below w.heap.size w w1) (j : Nat) (hj : j < 64) => show w1.cell? ⟨br, offr + j, none⟩ = some (.int .i64 (rs.getD j 0)) from (hb.cell (p := ⟨br, offr + j, none⟩) hbr).trans (hrc j hj))
  have HC := Lib.hid hr
  clear hok hr hA hrc
  unfold Row at HC
  generalize mem rs n xs = MN at *
  generalize hM : (fun j => mem rs n (xs.take j)) = M at *
  have hM' : ∀ j, mem rs n (xs.take j) = M j := fun j => by rw [← hM]
  simp only [hM'] at HK HST HCS H0 HN
  clear hM hM'
  generalize memC rs n xs = C at *
  generalize hNN : xs.length = N at *
  clear hNN
  go_enter Try.func35, Try.ntmps35
  go_wp2
  go_loopw [8, 9, 10] (fun v mv i wr => ∃ j : Nat, j ≤ N ∧ i = .int .i64 j ∧ mv = .int .i64 (C j : Nat) ∧ Hid (Own wr w.heap.size v (M j)) ∧ Hid (Below w.heap.size w wr)) (fun _ _ i _ => N - (intOf i).toNat)
  case atStart => exact ⟨0, Nat.zero_le _, rfl, by rw [HC0.out]; rfl, Lib.hid (by rw [H0.out]; exact World.ownsRow_lit w #[] 0 (Nat.le_refl _) (by unfold maxLen; omega) rfl), Lib.hid ((Below.refl _ _).alloc (Nat.le_refl _) _)⟩
  case round =>
    obtain ⟨j, hj, rfl, rfl, hov, hB9⟩ := hrel
    by_cases hlt : j < N
    · obtain ⟨b0, off, rfl, c1, hb0⟩ := HC.out j hlt
      have c2 : wr.cell? ⟨b0, off + j, none⟩ = some (.int .i64 (xs.getD j 0)) := (hB9.out.cell (p := ⟨b0, off + j, none⟩) hb0).trans c1
      have hlt' : (j : Int) < N := by omega
      have hszr := hB9.out.size
      obtain ⟨k1, k2, k3⟩ := HK.out j (by omega)
      have hst := HST.out j hlt
      have hcs := HCS.out j hlt
      have hcl := HCL.out j
      obtain ⟨av, cv, ev⟩ := hov.out.form
      subst ev
      have hH : Calls Try.prog 61 #[.slice av (M j).length cv, .int .i64 (xs.getD j 0)] wr (Bl ((M j).contains (xs.getD j 0)) wr) := by
        obtain ⟨a9, c9, e9, _, _, r9⟩ := hov.out.rd
        cases e9
        exact has_s av cv (M j) (xs.getD j 0) wr (by omega) r9
      have hbx : ∀ w1, Below w.heap.size w w1 → w1.cell? ⟨b0, off + j, none⟩ = some (.int .i64 (xs.getD j 0)) := fun w1 hb => (hb.cell (p := ⟨b0, off + j, none⟩) hb0).trans c1
      have HBX := Lib.hid hbx
      clear c1 hbx
      generalize xs.getD j 0 = x at *
      generalize hL : M j = L at *
      clear hL
      by_cases hm : x ∈ L
      · rw [show L.contains x = true from by rw [List.contains_eq_mem]; exact decide_eq_true hm] at hH
        have hH := Lib.hid hH
        unfold memS at hst
        rw [if_pos hm] at hst
        rw [if_pos hm] at hcs
        have HH := Lib.hid hst
        have HHC := Lib.hid hcs
        clear hst hcs k1 k2 k3 hm
        generalize L.length = l at *
        go_wp2_with (go_at_call 61; (with_reducible refine hH.out.mono ?_); rintro e w3 ⟨rfl, rfl⟩)
        go_roundw
        case rel => exact ⟨j + 1, hlt, by go_num, by rw [HHC.out]; rfl, Lib.hid (by rw [HH.out]; exact hov.out), hB9⟩
        case measure => simp [intOf]; omega
      · rw [show L.contains x = false from by rw [List.contains_eq_mem]; exact decide_eq_false hm] at hH
        have hH := Lib.hid hH
        unfold memS at hst
        rw [if_neg hm] at hst
        rw [if_neg hm] at hcs
        have hw9 : IntKind.i64.wrap ((C j : Int) + 1) = (C j : Int) + 1 := by rw [IntKind.wrap_i64]; omega
        by_cases hl : L.length = n
        · rw [if_pos hl] at hst
          have HH := Lib.hid hst
          have HHC := Lib.hid hcs
          clear hst hcs hm
          obtain ⟨g, eg, hBg, hg, hcv, hcm, hcell⟩ : ∃ g, av = some ⟨g, 0, none⟩ ∧ w.heap.size ≤ g ∧ g < wr.heap.size ∧ L.length ≤ cv ∧ cv ≤ 9223372036854775807 ∧ ∀ i, i < L.length → wr.cell? ⟨g, i, none⟩ = some (.int .i64 (L.getD i 0)) := by
            obtain ⟨a9, c9, e9, r1, ⟨r2, _⟩, _⟩ := hov.out.rd
            cases e9
            rcases hov.out.cases with ⟨_, h⟩ | ⟨g, cap, hv, h1, h2, _, h3, _⟩
            · rw [h] at hl; simp at hl; omega
            · cases hv; exact ⟨g, rfl, h1, h2, r1, r2, h3⟩
          subst eg
          have hne : L ≠ [] := by rintro rfl; simp at hl; omega
          have HWL := Lib.hid (fun k (hk : k ≤ n) => show worstK rs L k < n from hl ▸ worst_lt rs L hne k (by omega))
          have HLA : Hid (∀ i, i < n → ∃ q : Nat, L.getD i 0 = (q : Int) ∧ q < 64) := Lib.hid (fun i hi => by
            have h1 := k2 (L.getD i 0) (by rw [getD_get' L i (by omega)]; exact List.getElem_mem _)
            obtain ⟨q, hq⟩ := Int.eq_ofNat_of_zero_le h1.1
            exact ⟨q, hq, by omega⟩)
          have HW1 := Lib.hid (worst_one rs L)
          have HWS := Lib.hid (worst_step rs L)
          rw [hl] at hcell hcv HH
          have HCE := Lib.hid hcell
          have HTL := Lib.hid (show ∀ k, k ≤ n → (L.take k).length = k from fun k hk => by rw [List.length_take]; omega)
          have HDL := Lib.hid (show ∀ k, (L.drop k).length = n - k from fun k => by rw [List.length_drop, hl])
          have HDG := Lib.hid (show ∀ k i, (L.drop k).getD i 0 = L.getD (k + i) 0 from fun k i => by simp [List.getD_eq_getElem?_getD, List.getElem?_drop])
          have HTG := Lib.hid (show ∀ k i, i < k → (L.take k).getD i 0 = L.getD i 0 from fun k i hi => by simp [List.getD_eq_getElem?_getD, List.getElem?_take, hi])
          clear k1 k2 k3 hne hcell hov
          generalize L.length = l at *
          subst hl
          have hn1i : (1 : Int) ≤ (l : Int) := by omega
          go_wp2_with (go_at_call 61; (with_reducible refine hH.out.mono ?_); rintro e w3 ⟨rfl, rfl⟩)
          obtain ⟨wq, rfl⟩ : ∃ wq, wq = wr := ⟨_, rfl⟩
          go_loopw [11, 12] (fun wv kv w2 => ∃ i q : Nat, 1 ≤ i ∧ i ≤ l ∧ kv = .int .i64 i ∧ wv = .int .i64 (worstK rs L i : Nat) ∧ w2 = wq.drewN q) (fun _ kv _ => l - (intOf kv).toNat)
          case atStart => exact ⟨1, 0, Nat.le_refl _, by omega, rfl, by rw [HW1.out]; rfl, rfl⟩
          case round =>
            obtain ⟨i, q, hi1, hil, rfl, rfl, rfl⟩ := hrel
            have hk0 := HWL.out i hil
            by_cases hilt : i < l
            · obtain ⟨qy, ey, hy⟩ := HLA.out i hilt
              obtain ⟨qz, ez, hz⟩ := HLA.out _ hk0
              have c5 := HCE.out i hilt
              have c6 := HCE.out _ hk0
              have hws := HWS.out i
              rw [ey] at c5 hws
              rw [ez] at c6 hws
              have c7 := HRC.out wq hB9.out qy hy
              have c8 := HRC.out wq hB9.out qz hz
              have hws : worstK rs L (i + 1) = if rs.getD qz 0 < rs.getD qy 0 then i else worstK rs L i := hws
              have hilt' : (i : Int) < (l : Int) := by omega
              have hy' : (qy : Int) < 64 := by omega
              have hz' : (qz : Int) < 64 := by omega
              generalize hk : worstK rs L i = k0 at *
              have HK0 := Lib.hid hk
              clear hk ey ez
              have hk0' : (k0 : Int) < (l : Int) := by omega
              generalize rs.getD qy 0 = y at *
              generalize rs.getD qz 0 = z at *
              by_cases hyz : z < y
              · rw [if_pos hyz] at hws
                have HWW := Lib.hid hws
                clear hws
                go_wp2
                go_quiet (fail)
                go_wp2
                go_roundw
                case rel => exact ⟨i + 1, _, by omega, by omega, by go_num, by rw [HWW.out], rfl⟩
                case measure => simp [intOf]; omega
              · rw [if_neg hyz] at hws
                have HWW := Lib.hid hws
                clear hws
                go_wp2
                go_quiet (fail)
                go_wp2
                go_roundw
                case rel => exact ⟨i + 1, _, by omega, by omega, by go_num, by rw [HWW.out], rfl⟩
                case measure => simp [intOf]; omega
            · have e : i = l := by omega
              subst e
              unfold cutAt at HH
              generalize worstK rs L i = k0 at *
              have hszq : wq.heap.size ≤ (wq.drewN q).heap.size := Nat.le_refl _
              have HOW := Lib.hid (show Calls Try.prog 46 #[.slice (some ⟨g, 0, none⟩) k0 cv] (wq.drewN q) (Lb (L.take k0) (wq.drewN q)) from by
                have h := own_any g 0 cv (L.take k0) (wq.drewN q) (by rw [HTL.out k0 (by omega)]; omega) (fun p hp => by
                  rw [HTL.out k0 (by omega)] at hp
                  exact ⟨g, 0, rfl, by rw [Nat.zero_add, HTG.out k0 p hp]; exact HCE.out p (by omega), hg⟩)
                rw [HTL.out k0 (by omega)] at h
                exact h)
              have HRW := Lib.hid (fun (w2 : World) (hb : Below (wq.drewN q).heap.size (wq.drewN q) w2) (p : Nat) (hp : p < i - (k0 + 1)) => show w2.cell? ⟨g, k0 + 1 + p, none⟩ = some (.int .i64 ((L.drop (k0 + 1)).getD p 0)) from by
                rw [HDG.out, hb.cell (p := ⟨g, k0 + 1 + p, none⟩) hg]
                exact HCE.out (k0 + 1 + p) (by omega))
              have hdl := HDL.out (k0 + 1)
              have htl := HTL.out k0 (by omega)
              have f1 : (0 : Int) ≤ (k0 : Int) + 1 := by omega
              have f2 : (k0 : Int) + 1 ≤ (i : Int) := by omega
              have f3 : ((k0 : Int) + 1).toNat = k0 + 1 := by omega
              have f4 : (i : Int) ≤ (cv : Int) := by omega
              have f5 : (k0 : Int) ≤ (cv : Int) := by omega
              have f6 : (0 : Int) ≤ (k0 : Int) := by omega
              have HFIN : Hid (∀ (v5 : Value) (w3 w4 w5 : World), Below (wq.drewN q).heap.size (wq.drewN q) w3 → Below w.heap.size w3 w4 → Below w.heap.size w4 w5 → Below w.heap.size w w5) := Lib.hid (fun v5 w3 w4 w5 h1 h2 h3 => ((((below_drewN q hB9.out).trans (h1.mono hszr)).trans h2).trans h3))
              have HB3 : Hid (∀ w3 w4, Below (wq.drewN q).heap.size (wq.drewN q) w3 → Below w.heap.size w3 w4 → Below w.heap.size w w4) := Lib.hid (fun w3 w4 h1 h2 => (((below_drewN q hB9.out).trans (h1.mono hszr)).trans h2))
              by_cases hsc : cv = k0 + 1
              · have hnil : L.drop (k0 + 1) = [] := by apply List.eq_nil_of_length_eq_zero; rw [hdl]; omega
                rw [hnil] at HH
                clear HRW
                subst hsc
                go_wp2_with (first | (go_at_call 46; (with_reducible refine HOW.out.mono ?_); rintro e w3 ⟨v3, rfl, o3, b3⟩) | (at_builtin; refine wpList_appL w3 rfl _ _ rfl w.heap.size _ (L.take k0) [] g 0 0 0 ?_ ?_ (o3.mono hszr) rfl (fun i hi => absurd hi (Nat.not_lt_zero _)) (by rw [htl]; simp; omega) (Nat.le_trans hszr b3.size) ?_; rfl; first | rfl | (simp [Act.eval, Act.put]; omega)))
                intro v4 w4 o4 b4
                have hB4 := HB3.out _ _ b3 b4
                have c9 := HBX.out w4 hB4
                have hq4 : (L.take k0).length + 1 ≤ 1000000000 := by rw [htl]; omega
                have hs4 := hB4.size
                go_wp2_with (at_builtin; refine wpList_app w4 rfl _ _ rfl w.heap.size _ (L.take k0) x ?_ ?_ o4 hq4 hs4 ?_; rfl; rfl)
                intro v5 w5 o5 b5
                go_wp2
                go_roundw
                case rel => exact ⟨j + 1, hlt, by go_num, by rw [HHC.out]; go_num, Lib.hid (by rw [HH.out, List.append_nil]; exact o5), Lib.hid (hB4.trans b5)⟩
                case measure => simp [intOf]; omega
              · go_wp2_with (first | (go_at_call 46; (with_reducible refine HOW.out.mono ?_); rintro e w3 ⟨v3, rfl, o3, b3⟩) | (at_builtin; refine wpList_appL w3 rfl _ _ rfl w.heap.size _ (L.take k0) (L.drop (k0 + 1)) g (k0 + 1) (i - (k0 + 1)) (cv - (k0 + 1)) ?_ ?_ (o3.mono hszr) hdl (HRW.out w3 b3) (by rw [htl, hdl]; omega) (Nat.le_trans hszr b3.size) ?_; rfl; first | rfl | (simp [Act.eval, Act.put]; omega)))
                intro v4 w4 o4 b4
                have hB4 := HB3.out _ _ b3 b4
                have c9 := HBX.out w4 hB4
                have hq4 : (L.take k0 ++ L.drop (k0 + 1)).length + 1 ≤ 1000000000 := by rw [List.length_append, htl, hdl]; omega
                have hs4 := hB4.size
                go_wp2_with (at_builtin; refine wpList_app w4 rfl _ _ rfl w.heap.size _ (L.take k0 ++ L.drop (k0 + 1)) x ?_ ?_ o4 hq4 hs4 ?_; rfl; rfl)
                intro v5 w5 o5 b5
                go_wp2
                go_roundw
                case rel => exact ⟨j + 1, hlt, by go_num, by rw [HHC.out]; go_num, Lib.hid (by rw [HH.out]; simpa using o5), Lib.hid (hB4.trans b5)⟩
                case measure => simp [intOf]; omega
        · rw [if_neg hl] at hst
          have HH := Lib.hid hst
          have HHC := Lib.hid hcs
          have hl' : ¬ ((L.length : Int) = (n : Int)) := by omega
          have hq : L.length + 1 ≤ 1000000000 := by omega
          clear hst hcs hm k1 k2 hl
          have HOV := Lib.hid hov.out
          generalize hLl : L.length = l at *
          have HLl := Lib.hid hLl
          clear hLl
          go_wp2_with (first | (go_at_call 61; (with_reducible refine hH.out.mono ?_); rintro e w3 ⟨rfl, rfl⟩) | (at_builtin; refine wpList_app wr rfl _ _ rfl w.heap.size _ L x ?_ ?_ HOV.out (by rw [HLl.out]; exact hq) hszr ?_; rfl; rfl))
          intro v1 w1 o1 b1
          go_wp2
          go_roundw
          case rel => exact ⟨j + 1, hlt, by go_num, by rw [HHC.out]; go_num, Lib.hid (by rw [HH.out]; exact o1), Lib.hid (hB9.out.trans b1)⟩
          case measure => simp [intOf]; omega
    · have e : j = N := by omega
      subst e
      have hov' := hov.out
      rw [HN.out] at hov'
      have hl6 : MN.length ≤ 1000 := by have := (HK.out j (Nat.le_refl _)).2.2; rw [HN.out] at this; omega
      have hSET := Lib.hid (set_sR hov'.rd hl6)
      go_wp2_with (go_at_call 62; (with_reducible refine hSET.out.mono ?_); rintro e w3 ⟨v3, rfl, o3, b3⟩)
      go_ret2
      exact ⟨_, rfl, o3.mono hB9.out.size, hB9.out.trans (b3.mono hB9.out.size)⟩
set_option maxHeartbeats 1000000 in
theorem rcon_yes_s {v u : Value} {rs xs : List Int} {w : World} (n : Nat) (hn1 : 1 ≤ n) (hn6 : n ≤ 60) (hq : Rd w v rs) (h : Rd w u xs) (hrk : okRk rs = true) (hok : okU xs = true) :
    Calls Try.prog 7 #[v, u, .int .i64 (n : Int)] w (Res (setP (mem rs n xs)) true w) := by
  have hx := okU_len hok
  have h64 := okRk_at hrk
  have hR := Lib.hid (ranks_s hq (by omega))
  rw [hrk] at hR
  obtain ⟨ar, cr, rfl, _, _, hrr⟩ := hq
  obtain ⟨a, c, rfl, _, _, hr⟩ := h
  have hU := Lib.hid (fun (w1 : World) (hb : Below w.heap.size w w1) => show Calls Try.prog 33 #[.slice a xs.length c] w1 (Bl true w1) from hok ▸ uses_s a c xs w1 (by omega) (hr.below hb))
  have e1 : (decide ((1 : Int) ≤ (n : Int)) && decide ((n : Int) ≤ 60)) = true := by rw [decide_eq_true (by omega), decide_eq_true (by omega)]; rfl
  have hZ := Lib.hid (fun (w1 : World) => show Calls Try.prog 34 #[.int .i64 (n : Int), .int .i64 1, .int .i64 60] w1 (Bl true w1) from e1 ▸ in_g (n : Int) 1 60 w1)
  obtain ⟨br, offr, rfl, _, hbr⟩ := hrr 0 (by omega)
  have hrc : ∀ j, j < 64 → w.cell? ⟨br, offr + j, none⟩ = some (.int .i64 (rs.getD j 0)) := fun j hj => by
    obtain ⟨b5, off5, e5, d5, _⟩ := hrr j (by omega)
    injection e5 with e5
    injection e5 with e6 e7
    subst e6 e7
    exact d5
  have hM := Lib.hid (fun (w1 : World) (hb : Below w.heap.size w w1) => mem_s (cr := cr) a c xs n w1 hn1 hn6 hok (hr.below hb) (Nat.lt_of_lt_of_le hbr hb.size) (fun j hj => (hb.cell (p := ⟨br, offr + j, none⟩) hbr).trans (hrc j hj)))
  rw [h64] at hR ⊢
  clear hok hrk hrr hr hrc e1
  generalize memC rs n xs xs.length = K at *
  generalize setP (mem rs n xs) = SN at *
  generalize xs.length = N at *
  go_enter Try.func7, Try.ntmps7
  go_wp2_with (first | (go_at_call 32; (with_reducible refine hR.out.mono ?_); rintro e w1 ⟨rfl, hb1⟩) | (go_at_call 33; (with_reducible refine (hU.out _ hb1).mono ?_); rintro e w2 ⟨rfl, rfl⟩) | (go_at_call 34; (with_reducible refine (hZ.out _).mono ?_); rintro e w2 ⟨rfl, rfl⟩) | (go_at_call 35; (with_reducible refine (hM.out _ hb1).mono ?_); rintro e w3 ⟨v3, rfl, o3, b3⟩))
  go_ret2
  exact ⟨_, rfl, o3.mono hb1.size, hb1.trans (b3.mono hb1.size)⟩
theorem rcon_no_s {v u : Value} {rs xs : List Int} {w : World} (x : Int) (hq : Rd w v rs) (h : Rd w u xs) (hn : rs.length ≤ 1048576) (hn2 : xs.length ≤ 1048576) (hno : ¬ (okRk rs = true ∧ okU xs = true ∧ 1 ≤ x ∧ x ≤ 60)) :
    Calls Try.prog 7 #[v, u, .int .i64 x] w (Res [] false w) := by
  have hR := Lib.hid (ranks_s hq hn)
  cases hrk : okRk rs
  · rw [hrk] at hR
    clear hno hrk
    go_enter Try.func7, Try.ntmps7
    go_wp2_with (go_at_call 32; (with_reducible refine hR.out.mono ?_); rintro e w1 ⟨rfl, hb1⟩)
    go_ret2
    exact ⟨_, rfl, Own.nil _ _, hb1⟩
  · rw [hrk] at hR
    obtain ⟨a, c, rfl, _, _, hr⟩ := h
    have hU := Lib.hid (fun (w1 : World) (hb : Below w.heap.size w w1) => uses_s a c xs w1 hn2 (hr.below hb))
    cases hok : okU xs
    · rw [hok] at hU
      clear hno hrk hok hr
      generalize xs.length = N at *
      go_enter Try.func7, Try.ntmps7
      go_wp2_with (first | (go_at_call 32; (with_reducible refine hR.out.mono ?_); rintro e w1 ⟨rfl, hb1⟩) | (go_at_call 33; (with_reducible refine (hU.out _ hb1).mono ?_); rintro e w2 ⟨rfl, rfl⟩))
      go_ret2
      exact ⟨_, rfl, Own.nil _ _, hb1⟩
    · rw [hok] at hU
      have e : (decide (1 ≤ x) && decide (x ≤ 60)) = false := by
        cases hb : (decide (1 ≤ x) && decide (x ≤ 60)) with
        | false => rfl
        | true => rw [Bool.and_eq_true] at hb; exact absurd ⟨hrk, hok, of_decide_eq_true hb.1, of_decide_eq_true hb.2⟩ hno
      have hZ := Lib.hid (fun (w1 : World) => show Calls Try.prog 34 #[.int .i64 x, .int .i64 1, .int .i64 60] w1 (Bl false w1) from e ▸ in_g x 1 60 w1)
      clear hno hrk hok hr e
      generalize xs.length = N at *
      go_enter Try.func7, Try.ntmps7
      go_wp2_with (first | (go_at_call 32; (with_reducible refine hR.out.mono ?_); rintro e w1 ⟨rfl, hb1⟩) | (go_at_call 33; (with_reducible refine (hU.out _ hb1).mono ?_); rintro e w2 ⟨rfl, rfl⟩) | (go_at_call 34; (with_reducible refine (hZ.out _).mono ?_); rintro e w2 ⟨rfl, rfl⟩))
      go_ret2
      exact ⟨_, rfl, Own.nil _ _, hb1⟩
theorem set_mem_len (rs : List Int) (n : Nat) (hn1 : 1 ≤ n) (hn6 : n ≤ 60) (xs : List Int) (hok : okU xs = true) : (setP (mem rs n xs)).length ≤ 60 := by
  have h := mem_kept rs n hn1 xs (fun j hj => okU_at hok j hj) xs.length (Nat.le_refl _)
  rw [List.take_length] at h
  have := setP_length (mem rs n xs)
  have := h.2.2
  omega
end Go.Proofs.Ytbajnkojjeakgaa.Tr
