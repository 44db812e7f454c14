/- The model's test of a space, whole. -/
import Derived.Test.YtifjkjcgpghmhaaDoorCsps
namespace Go.Proofs.YtifjkjcgpghmhaaDoor.Sp
open Go.RowKit
theorem infoB : (Tryd.prog.info? 4).map (fun i => (i.zero, i.size, i.bytes)) = some (some (.bool false), 1, 1) := by kernel_rfl
/-- Which of n frames or tables have been seen. -/
def tkB (n : Nat) (seen : List Int) : List Value := (List.range n).map fun i : Nat => Value.bool (decide ((i : Int) ∈ seen))
theorem tkB_length (n : Nat) (seen : List Int) : (tkB n seen).length = n := by simp [tkB]
theorem tkB_get (n : Nat) (seen : List Int) (m : Nat) (h : m < n) : (tkB n seen)[m]? = some (.bool (decide ((m : Int) ∈ seen))) := by
  unfold tkB
  rw [List.getElem?_map, List.getElem?_range h]; rfl
theorem tkB_zero (n : Nat) : tkB n [] = List.replicate n (.bool false) := by
  unfold tkB
  rw [List.eq_replicate_iff]
  refine ⟨by simp, fun v hv => ?_⟩
  obtain ⟨i, _, e⟩ := List.mem_map.1 hv
  rw [← e]; rfl
theorem tkB_set (n : Nat) (seen : List Int) (m : Nat) (h : m < n) : (tkB n seen).set m (.bool true) = tkB n (seen ++ [(m : Int)]) := by
  refine List.ext_getElem? fun i => ?_
  by_cases hi : i < n
  · rw [tkB_get n _ i hi]
    by_cases e : m = i
    · subst e
      rw [List.getElem?_set_self (by rw [tkB_length]; exact hi)]; simp
    · rw [List.getElem?_set_ne e, tkB_get n _ i hi]
      have : ¬ (i : Int) = (m : Int) := by omega
      simp [this]
  · rw [List.getElem?_eq_none (by rw [List.length_set, tkB_length]; omega), List.getElem?_eq_none (by rw [tkB_length]; omega)]
/-- The row of what has been seen, in a block g. -/
def RowB (g n : Nat) (seen : List Int) (w : World) : Prop := w.ownsRow g 4 1 (.slice (some ⟨g, 0, none⟩) n n) n (tkB n seen)
theorem RowB.below {g n : Nat} {seen : List Int} {w w' : World} (h : RowB g n seen w) (hb : Below w.heap.size w w') : RowB g n seen w' := by
  refine ⟨h.1, ?_⟩
  rcases h.2 with hn | ⟨g', cap, cur, hv, hg, hh, r⟩
  · exact .inl hn
  · exact .inr ⟨g', cap, cur, hv, hg, by rw [hb.block g' (Array.getElem?_eq_some_iff.1 hh).1]; exact hh, r⟩
theorem RowB.cell {g n : Nat} {seen : List Int} {w : World} (h : RowB g n seen w) (m : Nat) (hm : m < n) : w.cell? ⟨g, m, none⟩ = some (.bool (decide ((m : Int) ∈ seen))) := by
  rw [World.ownsRow.cellAt h m (by omega), tkB_get n seen m hm]
theorem RowB.set {g n : Nat} {seen : List Int} {w : World} (h : RowB g n seen w) (m : Nat) (hm : m < n) : RowB g n (seen ++ [(m : Int)]) (w.setCell ⟨g, m, none⟩ (.bool true)) := by
  have s := (World.ownsRow.stored h m (.bool true)).1
  rw [tkB_set n seen m hm] at s
  exact s
theorem okTab_row {root : List Int} {tss : List (List TE)} (h : okTab root tss = true) : root.length = 8 ∧ tss.length ≤ 8 ∧ ∀ k, k < tss.length → (tss.getD k []).length = 8 := by
  unfold okTab at h
  simp only [Bool.and_eq_true, decide_eq_true_eq, List.all_eq_true, List.mem_range] at h
  refine ⟨h.1.1, h.1.2, fun k hk => ?_⟩
  have := h.2.1 k hk
  simp only [kOk, Bool.and_eq_true, decide_eq_true_eq] at this
  exact this.2
set_option maxRecDepth 100000 in
set_option maxHeartbeats 8000000 in
theorem is_s (p : Nat) (a1 a2 a3 : Option Addr) (c1 c2 c3 : Nat) (root : List Int) (tss : List (List TE)) (buf : List TC) (w : World) (hp : p < w.heap.size) (hl1 : root.length ≤ 1048576) (hl2 : tss.length ≤ 1048576) (hl3 : buf.length ≤ 1048576)
    (h0 : w.cell? ⟨p, 0, none⟩ = some (.slice a1 root.length c1)) (h1 : w.cell? ⟨p, 1, none⟩ = some (.slice a2 tss.length c2)) (h2 : w.cell? ⟨p, 2, none⟩ = some (.slice a3 buf.length c3)) (hr : Row w a1 root) (ht : En.RdT w a2 tss) (hb : Ch.RdR w a3 buf) (hcap : buf.length ≤ c3 ∧ c3 ≤ 9223372036854775807) :
    Calls Tryd.prog 29 #[.pointer (some ⟨p, 0, none⟩)] w (Bb (okSpace root tss buf) w) := by
  have HT0 := Lib.hid (tabs_s p a1 a2 c1 c2 root tss w hl1 hl2 h0 h1 hr ht)
  cases hok : okTab root tss
  case false =>
    rw [hok] at HT0
    have e : okSpace root tss buf = false := by unfold okSpace; rw [hok]; rfl
    rw [e]
    clear hr ht hb h0 h1 h2 e hok
    go_enter Tryd.func29, Tryd.ntmps29
    go_wp2_with fail
    refine HT0.out.mono ?_; rintro e w1 ⟨rfl, q, rfl⟩
    go_wp2
    go_ret
    exact ⟨rfl, below_drewN q (Below.refl _ _)⟩
  rw [hok] at HT0
  obtain ⟨k1, k2, k3⟩ := okTab_row hok
  by_cases k4 : buf.length ≤ 4
  case neg =>
    have e : okSpace root tss buf = false := by unfold okSpace okBuf; rw [decide_eq_false k4]; simp
    rw [e]
    have h2q : ∀ q, (w.drewN q).cell? ⟨p, 2, none⟩ = some (.slice a3 buf.length c3) := fun q => h2
    clear hr ht hb h0 h1 h2 e hok
    generalize buf.length = n at *
    have hne : (4 : Int) < (n : Int) := by omega
    go_enter Tryd.func29, Tryd.ntmps29
    go_wp2_with fail
    refine HT0.out.mono ?_; rintro e w1 ⟨rfl, q, rfl⟩
    have h2' := h2q q
    go_wp2
    go_ret
    exact ⟨rfl, below_drewN q (Below.refl _ _)⟩
  have hoks : okSpace root tss buf = (okEnts tss && (List.range buf.length).all (bOk buf)) := by unfold okSpace okBuf; rw [hok, decide_eq_true k4]; simp
  have HW := Lib.hid (fun (w' : World) (bb : Below w.heap.size w w') => (show w'.cell? ⟨p, 1, none⟩ = some (.slice a2 tss.length c2) ∧ w'.cell? ⟨p, 2, none⟩ = some (.slice a3 buf.length c3) ∧
      (∀ K, K < tss.length → ∃ b off A C, a2 = some ⟨b, off, none⟩ ∧ w'.cell? ⟨b, off + K, none⟩ = some (.slice A 8 C) ∧ ∀ j, j < 8 → ∃ b2 off2, A = some ⟨b2, off2, none⟩ ∧ w'.cell? ⟨b2, off2 + j * 4, none⟩ = some (.int .i64 ((tss.getD K []).getD j dE).1) ∧
        w'.cell? ⟨b2, off2 + j * 4 + 1, none⟩ = some (.bool ((tss.getD K []).getD j dE).2.1) ∧ w'.cell? ⟨b2, off2 + j * 4 + 2, none⟩ = some (.bool ((tss.getD K []).getD j dE).2.2.1) ∧ w'.cell? ⟨b2, off2 + j * 4 + 3, none⟩ = some (.bool ((tss.getD K []).getD j dE).2.2.2)) ∧ Ch.RdR w' a3 buf from by
    refine ⟨(bb.cell (p := ⟨p, 1, none⟩) hp).trans h1, (bb.cell (p := ⟨p, 2, none⟩) hp).trans h2, fun K hK => ?_, hb.below bb⟩
    obtain ⟨b, off, A, C, e1, e2, e3, _⟩ := (ht.below bb).2 K hK
    rw [k3 K hK] at e2
    refine ⟨b, off, A, C, e1, e2, fun j hj => ?_⟩
    obtain ⟨b2, off2, f1, f2, f3, f4, f5, _⟩ := e3 j (by rw [k3 K hK]; exact hj)
    exact ⟨b2, off2, f1, f2, f3, f4, f5⟩))
  have HNO := Lib.hid (fun K j (hK : K < tss.length) (hj : j < 8) (s0 seen : List Int) (g0 : tabF (some []) (tss.take K) = some s0) (g1 : rowF (some s0) ((tss.getD K []).take j) = some seen) (g2 : eOk seen ((tss.getD K []).getD j dE) = none) =>
    (show okSpace root tss buf = false by rw [hoks, okEnts_no tss K j hK (by rw [k3 K hK]; exact hj) s0 seen g0 g1 g2]; rfl))
  have HYES := Lib.hid (fun (seen : List Int) (h : tabF (some []) (tss.take tss.length) = some seen) => (show okSpace root tss buf = (List.range buf.length).all (bOk buf) by rw [hoks, okEnts_yes tss seen h]; rfl))
  have HRS := Lib.hid (fun K (hK : K < tss.length) (s : Option (List Int)) j (hj : j < 8) => rowF_succ s (tss.getD K []) j (by rw [k3 K hK]; exact hj))
  have HTS := Lib.hid (fun K (hK : K < tss.length) => tabF_succ (some []) tss K hK)
  have HR8 := Lib.hid (fun K (hK : K < tss.length) => (show (tss.getD K []).take 8 = tss.getD K [] by rw [List.take_of_length_le (by rw [k3 K hK]; exact Nat.le_refl _)]))
  have HBS := Lib.hid (fun j => range_all_succ j (bOk buf))
  have HBN := Lib.hid (fun j (hj : j < buf.length) (h : bOk buf j = false) => range_all_no _ j _ hj h)
  have HBO := Lib.hid (fun j => (show bOk buf j = (isPg (buf.getD j dC).1 && isF (buf.getD j dC).2.1 && !decide ((buf.getD j dC).1 ∈ (buf.take j).map (·.1))) from rfl))
  have hbl : ¬ (4 : Int) < (buf.length : Int) := by omega
  have h2q : ∀ q, (w.drewN q).cell? ⟨p, 2, none⟩ = some (.slice a3 buf.length c3) := fun q => h2
  obtain ⟨hc1, hc2⟩ := hcap
  obtain ⟨i0, hi, hz0, hz1, hz2⟩ := info_parts infoB
  have H0 := Lib.hid (show (madeCells #[Value.bool false] 16).toList = tkB 16 [] by rw [toList_madeCells_one, tkB_zero])
  have HBL := Lib.hid (fun j (hj : j < buf.length) (x : Int) (w' : World) (c' m : Nat) (hR : Ch.RdR w' a3 buf) => (show Calls Tryd.prog 53 #[.slice a3 j c', .int .i64 x] (w'.drewN m) (fun e w2 => e = .returned (.int .i64 (pos x (buf.take j) 0)) ∧ ∃ m, w2 = w'.drewN m) from
    (find_s a3 c' j (buf.take j) x (w'.drewN m) (by rw [List.length_take]; omega) (by omega) (show Ch.RdR (w'.drewN m) a3 (buf.take j) from Ch.RdR.take hR j)).mono fun e w2 ⟨he, hw⟩ => ⟨he, m, hw.symm⟩))
  clear hr ht hb h0 h1 h2 hok hoks k1 k3 hl1 hl2
  generalize okSpace root tss buf = ok at *
  generalize tss.length = N at *
  generalize hM : buf.length = M at *
  have HM := Lib.hid hM
  clear hM
  go_enter Tryd.func29, Tryd.ntmps29
  go_wp2_with fail
  refine HT0.out.mono ?_; rintro e w1 ⟨rfl, q, hw1⟩
  have h2' := h2q q
  rw [← hw1] at h2'
  have B1 := Lib.hid (show Below w.heap.size w w1 by rw [hw1]; exact below_drewN q (Below.refl _ _))
  have HSZ := Lib.hid (show w.heap.size ≤ w1.heap.size by rw [hw1]; exact Nat.le_refl _)
  have HS1 := Lib.hid (show w1.heap.size = w.heap.size by rw [hw1]; rfl)
  clear hw1 h2q HT0
  go_wp2_with (at_make; refine wpList_make_full _ rfl _ _ 78 rfl w1.heap.size 4 i0 (.bool false) 1 Tryd.underlying78 hi hz0 hz1 .i64 .i64 (16 : Int) (16 : Int) 16 ?_ ?_ rfl rfl ?_ ?_ ?_ ?_; rfl; rfl)
  · rw [hz2]; omega
  · unfold maxLen; omega
  · exact Nat.le_refl _
  intro w2 hown hgr
  rw [HS1.out] at hown ⊢
  have hr2 := Lib.hid (show RowB w.heap.size 16 [] w2 by
    have h3 : w2.ownsRow w.heap.size 4 1 (.slice (some ⟨w.heap.size, 0, none⟩) 16 16) 16 (madeCells #[Value.bool false] 16).toList := hown
    rw [H0.out] at h3
    exact h3)
  have hb2 := Lib.hid (B1.out.grown hgr HSZ.out (by simp))
  clear hown hgr H0 h2' B1 HSZ HS1
  go_wp2
  go_loopw [2, 4, 5, 6] (fun _ k _ _ wr => ∃ (K : Nat) (seen : List Int), K ≤ N ∧ k = .int .i64 (K : Nat) ∧ Hid (tabF (some []) (tss.take K) = some seen) ∧ Hid (RowB w.heap.size 16 seen wr) ∧ Hid (Below w.heap.size w wr)) (fun _ k _ _ _ => N - (intOf k).toNat)
  case atStart => exact ⟨0, [], Nat.zero_le _, rfl, Lib.hid rfl, hr2, hb2⟩
  case round =>
    obtain ⟨K, s0, hK, rfl, hs0, hrow, hbw⟩ := hrel
    obtain ⟨cp1, cp2, _, _⟩ := HW.out wr hbw.out
    obtain ⟨wz, rfl⟩ : ∃ wz, wz = wr := ⟨_, rfl⟩
    by_cases hlt : K < N
    · have hnoK := Lib.hid (fun j seen hj g1 g2 => HNO.out K j hlt hj s0 seen hs0.out g1 g2)
      have hrsK := Lib.hid (HRS.out K hlt)
      have htsK := HTS.out K hlt
      rw [hs0.out] at htsK
      have hr8 := HR8.out K hlt
      have HWK := Lib.hid (fun (w' : World) (bb : Below w.heap.size w w') => (⟨(HW.out w' bb).1, (HW.out w' bb).2.2.1 K hlt⟩ : _ ∧ _))
      clear HW HNO HRS HTS HR8 HYES HBS HBN HBO HBL HM
      generalize tss.getD K [] = row at *
      have HTK := Lib.hid (show tabF (some []) (tss.take (K + 1)) = rowF (some s0) (row.take 8) by rw [htsK, hr8])
      clear htsK hr8
      go_wp2
      go_loopw [2, 5, 6] (fun _ i _ w3 => ∃ (j : Nat) (seen : List Int), j ≤ 8 ∧ i = .int .i64 (j : Nat) ∧ Hid (rowF (some s0) (row.take j) = some seen) ∧ Hid (RowB w.heap.size 16 seen w3) ∧ Hid (Below w.heap.size w w3)) (fun _ i _ _ => 8 - (intOf i).toNat)
      case atStart => exact ⟨0, s0, Nat.zero_le _, rfl, Lib.hid rfl, hrow, hbw⟩
      case round =>
        obtain ⟨j, seen, hj, rfl, hsn, hrw, hbw2⟩ := hrel
        obtain ⟨cq, b, off, A, C, rfl, ct, hE⟩ := HWK.out wr hbw2.out
        by_cases hj8 : j < 8
        · have hno := Lib.hid (fun g2 => hnoK.out j seen hj8 hsn.out g2)
          have hnx := Lib.hid (fun s' (h : eOk seen (row.getD j dE) = some s') => (show rowF (some s0) (row.take (j + 1)) = some s' by rw [hrsK.out _ j hj8, hsn.out]; exact h))
          obtain ⟨b2, off2, rfl, d0, d1, d2, d3⟩ := hE j hj8
          clear hE HWK hnoK hrsK hsn HTK hrow hbw hs0
          generalize row.getD j dE = u at *
          obtain ⟨f, wt, us, di⟩ := u
          have HB3 := Lib.hid (hbw2.out.alloc hbw2.out.size (.cells #[.int .i64 f, .bool wt, .bool us, .bool di] 37))
          have HR3 := Lib.hid (hrw.out.below ((Below.refl _ _).alloc (Nat.le_refl _) (.cells #[.int .i64 f, .bool wt, .bool us, .bool di] 37)))
          have HF := Lib.hid (fun w => frame_s f w)
          clear hrw hbw2
          by_cases he : ((f, wt, us, di) : TE) = emp
          · have hx' := Lib.hid (hnx.out seen (by rw [he]; exact eOk_emp seen))
            simp [emp] at he
            obtain ⟨rfl, rfl, rfl, rfl⟩ := he
            clear hno hnx
            go_wp2
            go_roundw
            case rel => exact ⟨j + 1, seen, by omega, by go_num, hx', HR3, HB3⟩
            case measure => simp [intOf]; omega
          · cases hF : isF f
            · have hok := hno.out (eOk_no seen f wt us di he (.inl hF))
              rw [hF] at HF
              clear hno hnx hF
              subst hok
              by_cases hm : f = -1
              · subst hm
                cases wt <;> cases us <;> cases di
                case false.false.false => exact absurd rfl he
                all_goals
                  clear he
                  go_wp2_with (go_at_call 52; refine (HF.out _).mono ?_; rintro e w' ⟨rfl, rfl⟩)
                  go_ret
                  exact ⟨rfl, HB3.out⟩
              · have hb : (f == -1) = false := by simp [hm]
                clear he
                go_wp2_with (go_at_call 52; refine (HF.out _).mono ?_; rintro e w' ⟨rfl, rfl⟩)
                go_ret
                exact ⟨rfl, HB3.out⟩
            · have hF2 : 0 ≤ f ∧ f ≤ 15 := by simpa [isF] using hF
              obtain ⟨m, rfl⟩ : ∃ m : Nat, f = (m : Int) := ⟨f.toNat, by omega⟩
              have hm16 : m < 16 := by omega
              have hb : (((m : Int)) == -1) = false := by simp
              have hc := HR3.out.cell m hm16
              have hz := World.ownsRow.frozenAt HR3.out m
              rw [hF] at HF
              by_cases hin : (m : Int) ∈ seen
              · have hok := hno.out (eOk_no seen m wt us di he (.inr (.inl hin)))
                rw [decide_eq_true hin] at hc
                clear hno hnx hF he hin
                subst hok
                go_wp2_with (go_at_call 52; refine (HF.out _).mono ?_; rintro e w' ⟨rfl, rfl⟩)
                go_ret
                exact ⟨rfl, HB3.out⟩
              · rw [decide_eq_false hin] at hc
                cases hus : (us || !di)
                · have hok := hno.out (eOk_no seen m wt us di he (.inr (.inr hus)))
                  clear hno hnx hF he hin
                  subst hok
                  cases us <;> cases di <;> simp at hus
                  go_wp2_with (go_at_call 52; refine (HF.out _).mono ?_; rintro e w' ⟨rfl, rfl⟩)
                  go_ret
                  exact ⟨rfl, HB3.out⟩
                · have hx' := Lib.hid (hnx.out _ (eOk_yes seen m wt us di he hF hin hus))
                  have HR4 := Lib.hid (RowB.set HR3.out m hm16)
                  have HB4 := Lib.hid (HB3.out.setCell (p := ⟨w.heap.size, m, none⟩) (Nat.le_refl _) (.bool true))
                  clear hno hnx hF he hin HR3 HB3
                  cases us <;> cases di <;> simp at hus
                  all_goals
                    go_wp2_with (go_at_call 52; refine (HF.out _).mono ?_; rintro e w' ⟨rfl, rfl⟩)
                    go_roundw
                    case rel => exact ⟨j + 1, _, by omega, by go_num, hx', HR4, HB4⟩
                    case measure => simp [intOf]; omega
        · have e : j = 8 := by omega
          subst e
          have hx := Lib.hid (HTK.out.trans hsn.out)
          go_wp2
          go_roundw
          case rel => exact ⟨K + 1, seen, by omega, by go_num, hx, hrw, hbw2⟩
          case measure => simp [intOf]; omega
    · have e : K = N := by omega
      subst e
      have hok := Lib.hid (HYES.out s0 hs0.out)
      have HRB := Lib.hid (fun (w' : World) (q : Nat) (e : w' = wz.drewN q) => (show Ch.RdR w' a3 buf from by rw [e]; exact (HW.out wz hbw.out).2.2.2))
      clear HW HNO HRS HTS HR8 HYES hrow hs0
      go_wp2
      go_loopw [7] (fun i wr => ∃ j : Nat, j ≤ M ∧ i = .int .i64 (j : Nat) ∧ Hid (∃ q, wr = wz.drewN q) ∧ Hid ((List.range j).all (bOk buf) = true)) (fun i _ => M - (intOf i).toNat)
      case atStart => exact ⟨0, Nat.zero_le _, rfl, Lib.hid ⟨0, rfl⟩, Lib.hid rfl⟩
      case round =>
        obtain ⟨j, hj, rfl, hq, hx⟩ := hrel
        have p2 : wr.cell? ⟨p, 2, none⟩ = some (.slice a3 M c3) := by obtain ⟨q, rfl⟩ := hq.out; exact cp2
        by_cases hlt : j < M
        · have hR : Ch.RdR wr a3 buf := by obtain ⟨q, e⟩ := hq.out; exact HRB.out wr q e
          have hQ := Lib.hid (fun m => (show Below w.heap.size w (wr.drewN m) from by obtain ⟨q, rfl⟩ := hq.out; exact below_drewN m (below_drewN q hbw.out)))
          have hQ2 := Lib.hid (fun m => (show ∃ q, wr.drewN m = wz.drewN q from by obtain ⟨q, rfl⟩ := hq.out; exact ⟨q + m, World.drewN_drewN ..⟩))
          have hG := Lib.hid (fun c' m => HBL.out j hlt (buf.getD j dC).1 wr c' m hR)
          have hA := Lib.hid (fun m => (page_s (buf.getD j dC).1 (wr.drewN m)).mono (R' := fun e w' => e = .returned (.bool (isPg (buf.getD j dC).1)) ∧ ∃ m, w' = wr.drewN m) fun e w' ⟨he, hw⟩ => ⟨he, m, hw.symm⟩)
          have hF := Lib.hid (fun m => (frame_s (buf.getD j dC).2.1 (wr.drewN m)).mono (R' := fun e w' => e = .returned (.bool (isF (buf.getD j dC).2.1)) ∧ ∃ m, w' = wr.drewN m) fun e w' ⟨he, hw⟩ => ⟨he, m, hw.symm⟩)
          obtain ⟨b, off, rfl, d0, d1, _⟩ := (show ∃ b off, a3 = some ⟨b, off, none⟩ ∧ wr.cell? ⟨b, off + j * 3, none⟩ = some (.int .i64 (buf.getD j dC).1) ∧ wr.cell? ⟨b, off + j * 3 + 1, none⟩ = some (.int .i64 (buf.getD j dC).2.1) ∧ True from by
            obtain ⟨b, off, e, h1, h2, _⟩ := hR j (by rw [HM.out]; exact hlt)
            exact ⟨b, off, e, h1, h2, trivial⟩)
          have hbo := Lib.hid (HBO.out j)
          have hno := Lib.hid (HBN.out j hlt)
          have hsu := Lib.hid (HBS.out j)
          have hps := Lib.hid (pos_ge (buf.getD j dC).1 (buf.take j))
          have hjc : j ≤ c3 := by omega
          have hjc2 : (j : Int) ≤ c3 := by omega
          clear hR hq HRB HBO HBN HBS HBL
          generalize buf.getD j dC = u at *
          obtain ⟨x0, x1, x2⟩ := u
          simp only at d0 d1 hG hA hF hbo hps
          generalize hpv : pos x0 (buf.take j) 0 = pv at *
          cases hPg : isPg x0
          · rw [hPg] at hA
            have hf := hok.out
            rw [hno.out (by rw [hbo.out, hPg]; rfl)] at hf
            clear hno hbo hsu hps hok hpv
            subst hf
            go_wp2
            go_quiet (first | exact hA.out _ | exact hF.out _ | exact hG.out _ _)
            go_wp2
            go_ret
            exact ⟨rfl, hQ.out _⟩
          · rw [hPg] at hA
            cases hFr : isF x1
            · rw [hFr] at hF
              have hf := hok.out
              rw [hno.out (by rw [hbo.out, hPg, hFr]; rfl)] at hf
              clear hno hbo hsu hps hok hpv
              subst hf
              go_wp2
              go_quiet (first | exact hA.out _ | exact hF.out _ | exact hG.out _ _)
              go_wp2
              go_ret
              exact ⟨rfl, hQ.out _⟩
            · rw [hFr] at hF
              by_cases hin : x0 ∈ (buf.take j).map (·.1)
              · have hf := hok.out
                rw [hno.out (by rw [hbo.out, decide_eq_true hin]; simp)] at hf
                have hp := hps.out
                rw [decide_eq_true hin, decide_eq_true_eq] at hp
                clear hno hbo hsu hps hok hpv hin
                subst hf
                go_wp2
                go_quiet (first | exact hA.out _ | exact hF.out _ | exact hG.out _ _)
                go_wp2
                go_ret
                exact ⟨rfl, hQ.out _⟩
              · have hx' := Lib.hid (show (List.range (j + 1)).all (bOk buf) = true by rw [hsu.out, hx.out, hbo.out, hPg, hFr, decide_eq_false hin]; rfl)
                have hp := hps.out
                rw [decide_eq_false hin, decide_eq_false_iff_not] at hp
                clear hno hbo hsu hps hpv hin
                go_wp2
                go_quiet (first | exact hA.out _ | exact hF.out _ | exact hG.out _ _)
                go_wp2
                go_roundw
                case rel => exact ⟨j + 1, by omega, by go_num, Lib.hid (hQ2.out _), hx'⟩
                case measure => simp [intOf]; omega
        · have e : j = M := by omega
          subst e
          have hf := hok.out
          rw [hx.out] at hf
          have hQ : Below w.heap.size w wr := by obtain ⟨q, rfl⟩ := hq.out; exact below_drewN q hbw.out
          clear hok
          subst hf
          go_wp2
          go_ret
          exact ⟨rfl, hQ⟩
end Go.Proofs.YtifjkjcgpghmhaaDoor.Sp
