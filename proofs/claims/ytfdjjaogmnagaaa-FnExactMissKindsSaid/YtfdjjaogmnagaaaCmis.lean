/- The program's useHistory.misses. -/
import Derived.Test.YtfdjjaogmnagaaaChistW
import Derived.Test.YtfdjjaogmnagaaaCones
import Derived.Deep.RegionLaw
import Derived.Deep.CutRange
namespace Go.Proofs.Ytfdjjaogmnagaaa.Ix
open Go.RowKit Tr Bt
theorem i64_andU (a b : Nat) (ha : a < 18446744073709551616) (hb : b < 18446744073709551616) : bits .and .u64 (a : Int) (b : Int) = ((a &&& b : Nat) : Int) := by
  have hx : a &&& b < 18446744073709551616 := Nat.lt_of_le_of_lt Nat.and_le_left ha
  show IntKind.u64.wrap ((BitVec.ofInt 64 (a : Int) &&& BitVec.ofInt 64 (b : Int)).toNat : Int) = _
  rw [BitVec.toNat_and, ofInt_u64 a ha, ofInt_u64 b hb, u64_wrap]
  omega
theorem pc_le : ∀ (k s : Nat), pc k s ≤ k
  | 0, _ => Nat.le_refl _
  | k + 1, s => by
    have := pc_le k (s / 2)
    rw [pc]; omega
theorem OwnU.at {w : World} {B : Nat} {v : Value} {rs : List (Nat × Nat)} (h : OwnU w B v rs) (i : Nat) (hi : i < rs.length) :
    ∃ g c, v = .slice (some ⟨g, 0, none⟩) rs.length c ∧ g < w.heap.size ∧ w.cell? ⟨g, i * 2, none⟩ = some (.int .i64 ((rs.getD i (0, 0)).1 : Int)) ∧ w.cell? ⟨g, i * 2 + 1, none⟩ = some (.int .u64 ((rs.getD i (0, 0)).2 : Int)) := by
  have h0 : w.ownsRow B 62 2 v rs.length (ucells rs) := h
  rcases h0.2 with ⟨rfl, hn⟩ | ⟨g, cap, cur, rfl, hg, hh, h1, h2, h3, h4⟩
  · omega
  · obtain ⟨u1, u2⟩ := ucells_get rs i hi
    have e : ∀ k, k < rs.length * 2 → cur[k]? = (ucells rs)[k]? := fun k hk => by
      rw [← h4, List.getElem?_take, if_pos hk, Array.getElem?_toList]
    refine ⟨g, cap, rfl, (Array.getElem?_eq_some_iff.1 hh).1, ?_, ?_⟩
    · rw [cell_of_row w g (i * 2) _ _ (0, 0) hh, e _ (by omega), u1]
    · rw [cell_of_row w g (i * 2 + 1) _ _ (0, 0) hh, e _ (by omega), u2]
theorem allocDrew {W w9 : World} {cs : List Value} {t : TypeId} (bb : Below (W.alloc (.cells cs.toArray t)).drew.heap.size (W.alloc (.cells cs.toArray t)).drew w9) : Below W.heap.size W w9 ∧ Kb w9 W.heap.size cs t := by
  have e : (W.alloc (.cells cs.toArray t)).drew.heap.size = W.heap.size + 1 := Array.size_push _
  refine ⟨(((Below.refl _ W).alloc (Nat.le_refl _) _).drew).trans (bb.mono (by rw [e]; omega)), ?_⟩
  have k : Kb (W.alloc (.cells cs.toArray t)).drew W.heap.size cs t := Kb.new W W.heap.size cs t rfl
  exact k.below bb (by rw [e]; omega)
theorem Kb.set8 {W : World} {b : Nat} {t : TypeId} {z0 z1 z2 z3 z4 z5 z6 z7 : Value} (h : Kb W b [z0, z1, z2, z3, z4, z5, z6, z7] t) (s0 s1 s2 s3 s4 s5 s6 s7 : Value) : Kb ((((((((W.setCell ⟨b, 0, none⟩ s0).setCell ⟨b, 1, none⟩ s1).setCell ⟨b, 2, none⟩ s2).setCell ⟨b, 3, none⟩ s3).setCell ⟨b, 4, none⟩ s4).setCell ⟨b, 5, none⟩ s5).setCell ⟨b, 6, none⟩ s6).setCell ⟨b, 7, none⟩ s7) b [s0, s1, s2, s3, s4, s5, s6, s7] t :=
  (((((((h.set 0 s0).set 1 s1).set 2 s2).set 3 s3).set 4 s4).set 5 s5).set 6 s6).set 7 s7
theorem Kb.off8 {W : World} {b c : Nat} {cs : List Value} {t : TypeId} (h : Kb W c cs t) (hne : c ≠ b) (s0 s1 s2 s3 s4 s5 s6 s7 : Value) : Kb ((((((((W.setCell ⟨b, 0, none⟩ s0).setCell ⟨b, 1, none⟩ s1).setCell ⟨b, 2, none⟩ s2).setCell ⟨b, 3, none⟩ s3).setCell ⟨b, 4, none⟩ s4).setCell ⟨b, 5, none⟩ s5).setCell ⟨b, 6, none⟩ s6).setCell ⟨b, 7, none⟩ s7) c cs t :=
  (((((((h.off 0 s0 hne).off 1 s1 hne).off 2 s2 hne).off 3 s3 hne).off 4 s4 hne).off 5 s5 hne).off 6 s6 hne).off 7 s7 hne
theorem below8 {B b : Nat} {a W : World} (h : Below B a W) (hb : B ≤ b) (s0 s1 s2 s3 s4 s5 s6 s7 : Value) : Below B a ((((((((W.setCell ⟨b, 0, none⟩ s0).setCell ⟨b, 1, none⟩ s1).setCell ⟨b, 2, none⟩ s2).setCell ⟨b, 3, none⟩ s3).setCell ⟨b, 4, none⟩ s4).setCell ⟨b, 5, none⟩ s5).setCell ⟨b, 6, none⟩ s6).setCell ⟨b, 7, none⟩ s7) :=
  (((((((h.setCell (p := ⟨b, 0, none⟩) hb s0).setCell (p := ⟨b, 1, none⟩) hb s1).setCell (p := ⟨b, 2, none⟩) hb s2).setCell (p := ⟨b, 3, none⟩) hb s3).setCell (p := ⟨b, 4, none⟩) hb s4).setCell (p := ⟨b, 5, none⟩) hb s5).setCell (p := ⟨b, 6, none⟩) hb s6).setCell (p := ⟨b, 7, none⟩) hb s7
/-- What stands while the reuses are looked through. -/
structure MisF (F : Nat) (v : Value) (r : Nat → Nat) (w : World) (b8 : Nat) (W9 : World) : Prop where
  k8 : Kb W9 b8 (setVals r 64) 63
  k0 : Kb W9 w.heap.size [.int .i64 (F : Int), v] 49
  k1 : Kb W9 (w.heap.size + 1) [.int .i64 ((r 0 : Nat) : Int), .int .i64 ((r 1 : Nat) : Int), .int .i64 ((r 2 : Nat) : Int)] 44
  bel : Below w.heap.size w W9
  gt : w.heap.size + 2 ≤ b8
theorem MisF.below {F : Nat} {v : Value} {r : Nat → Nat} {w : World} {b8 : Nat} {W9 w' : World} (h : MisF F v r w b8 W9) (hb : Below W9.heap.size W9 w') : MisF F v r w b8 w' :=
  { k8 := h.k8.below hb h.k8.lt, k0 := h.k0.below hb h.k0.lt, k1 := h.k1.below hb h.k1.lt, bel := bt h.bel hb, gt := h.gt }
def sumM (r : Nat → Nat) (pl : Nat) (rs : List (Nat × Nat)) (j : Nat) : Nat := ((rs.take j).map (missAt r pl)).sum
theorem sumM_succ (r : Nat → Nat) (pl : Nat) (rs : List (Nat × Nat)) (j : Nat) (hj : j < rs.length) : sumM r pl rs (j + 1) = sumM r pl rs j + missAt r pl (rs.getD j (0, 0)) := by
  unfold sumM
  rw [List.take_add_one, List.getElem?_eq_getElem hj, List.map_append, List.sum_append, List.getD_eq_getElem?_getD, List.getElem?_eq_getElem hj]
  simp
theorem sumM_le (r : Nat → Nat) (pl : Nat) (rs : List (Nat × Nat)) (j : Nat) : sumM r pl rs j ≤ j := by
  induction j with
  | zero => simp [sumM]
  | succ j ih =>
    by_cases h : j < rs.length
    · rw [sumM_succ _ _ _ _ h]; unfold missAt; split <;> omega
    · unfold sumM at *
      rw [List.take_of_length_le (by omega)] at *
      omega
set_option maxHeartbeats 4000000 in
theorem misses_i (F pl B : Nat) (r : Nat → Nat) (v : Value) (rs : List (Nat × Nat)) (w : World) (hO : OwnU w B v rs) (hF : F ≤ 60) (hpl : pl < 1000000) (hl : rs.length ≤ 60) (hm : ∀ p ∈ rs, p.1 < 64 ∧ p.2 < 18446744073709551616) (hr : ∀ i, i < 3 → r i < 64) :
    Calls Try.prog 25 #[.agg #[.int .i64 (F : Int), v], aggR r, .int .i64 (pl : Int)] w (fun e w' => e = .returned (.int .i64 ((F + sumM r pl rs rs.length : Nat) : Int)) ∧ Below w.heap.size w w') := by
  obtain ⟨va, vc, rfl⟩ := hO.form
  have HAT := Lib.hid (fun (i : Nat) (hi : i < rs.length) (w' : World) (hb : Below w.heap.size w w') => (show ∃ g, va = some ⟨g, 0, none⟩ ∧ w'.cell? ⟨g, i * 2, none⟩ = some (.int .i64 ((rs.getD i (0, 0)).1 : Int)) ∧ w'.cell? ⟨g, i * 2 + 1, none⟩ = some (.int .u64 ((rs.getD i (0, 0)).2 : Int)) from by
    obtain ⟨g, c, e, hg, c0, c1⟩ := hO.at i hi
    injection e with e1 e2 e3
    exact ⟨g, e1, (hb.cell (p := ⟨g, i * 2, none⟩) hg).trans c0, (hb.cell (p := ⟨g, i * 2 + 1, none⟩) hg).trans c1⟩))
  have HSM := Lib.hid (fun j hj => sumM_succ r pl rs j hj)
  have HSL := Lib.hid (fun j => sumM_le r pl rs j)
  have HM := Lib.hid (fun (j : Nat) (hj : j < rs.length) => hm (rs.getD j (0, 0)) (by rw [List.getD_eq_getElem?_getD, List.getElem?_eq_getElem hj]; exact List.getElem_mem hj))
  have HS := Lib.hid (fun w9 => sets_i r w9 hr)
  have HSO := Lib.hid (fun x w9 hx => setof_i r x w9 hr hx)
  have HV := Lib.hid (show aggS r = .agg #[.int .u64 ((setK r 64 0 : Nat) : Int), .int .u64 ((setK r 64 1 : Nat) : Int), .int .u64 ((setK r 64 2 : Nat) : Int), .int .u64 ((setK r 64 3 : Nat) : Int), .int .u64 ((setK r 64 4 : Nat) : Int), .int .u64 ((setK r 64 5 : Nat) : Int), .int .u64 ((setK r 64 6 : Nat) : Int), .int .u64 ((setK r 64 7 : Nat) : Int)] from rfl)
  have hz2 : (w.alloc (.cells [.int .i64 (F : Int), .slice va rs.length vc].toArray 49)).heap.size = w.heap.size + 1 := Array.size_push _
  have hz3 : ((w.alloc (.cells [.int .i64 (F : Int), .slice va rs.length vc].toArray 49)).alloc (.cells [.int .i64 ((r 0 : Nat) : Int), .int .i64 ((r 1 : Nat) : Int), .int .i64 ((r 2 : Nat) : Int)].toArray 44)).heap.size = w.heap.size + 2 := (Array.size_push _).trans (by rw [hz2])
  have x0 := (Kb.new w w.heap.size [.int .i64 (F : Int), .slice va rs.length vc] 49 rfl).alloc (.cells [.int .i64 ((r 0 : Nat) : Int), .int .i64 ((r 1 : Nat) : Int), .int .i64 ((r 2 : Nat) : Int)].toArray 44)
  have x1 := Kb.new (w.alloc (.cells [.int .i64 (F : Int), .slice va rs.length vc].toArray 49)) (w.heap.size + 1) [.int .i64 ((r 0 : Nat) : Int), .int .i64 ((r 1 : Nat) : Int), .int .i64 ((r 2 : Nat) : Int)] 44 hz2.symm
  have b0 : Below w.heap.size w ((w.alloc (.cells [.int .i64 (F : Int), .slice va rs.length vc].toArray 49)).alloc (.cells [.int .i64 ((r 0 : Nat) : Int), .int .i64 ((r 1 : Nat) : Int), .int .i64 ((r 2 : Nat) : Int)].toArray 44)) := ((Below.refl _ w).alloc (Nat.le_refl _) _).alloc (by omega) _
  have HX := Lib.hid (And.intro x0 (And.intro x1 b0))
  clear x0 x1 b0 hz2 hz3 hO hm hr
  unfold aggR at *
  generalize hN : rs.length = N at *
  clear hN
  go_enter Try.func25, Try.ntmps25
  go_upto_region 1 with fail
  generalize hWW : (w.alloc _).alloc _ = W at *
  have g0 : W.cell? ⟨w.heap.size, 0, none⟩ = some (.int .i64 (F : Int)) := HX.out.1.cell 0
  have g1 : W.cell? ⟨w.heap.size, 1, none⟩ = some (.slice va N vc) := HX.out.1.cell 1
  have g2 : W.cell? ⟨w.heap.size + 1, 0, none⟩ = some (.int .i64 ((r 0 : Nat) : Int)) := HX.out.2.1.cell 0
  have g3 : W.cell? ⟨w.heap.size + 1, 1, none⟩ = some (.int .i64 ((r 1 : Nat) : Int)) := HX.out.2.1.cell 1
  have g4 : W.cell? ⟨w.heap.size + 1, 2, none⟩ = some (.int .i64 ((r 2 : Nat) : Int)) := HX.out.2.1.cell 2
  have hlt0 := HX.out.1.lt
  have hlt1 := HX.out.2.1.lt
  have HC9 := Lib.hid (fun (w9 : World) (bb : Below W.heap.size W w9) => (show w9.cell? ⟨w.heap.size, 0, none⟩ = some (.int .i64 (F : Int)) ∧ w.heap.size < w9.heap.size from ⟨(bb.cell (p := ⟨w.heap.size, 0, none⟩) hlt0).trans g0, Nat.lt_of_lt_of_le hlt0 bb.size⟩))
  go_cut [7, 8] from 9 (fun m p wx => m = .int .i64 (F : Int) ∧ ∃ b8, p = .pointer (some ⟨b8, 0, none⟩) ∧ Hid (MisF F (.slice va N vc) r w b8 wx))
  case first =>
    go_region_law (go_simp; go_at_call 35; (with_reducible refine (HS.out _).mono ?_); rintro e w9 ⟨rfl, bb⟩; rw [HV.out]; first | (have bq : Below W.heap.size W w9 := (Below.refl _ W).drew.trans bb; obtain ⟨c9, l9⟩ := HC9.out w9 bq) | (have q := allocDrew (cs := [.int .u64 0, .int .u64 0, .int .u64 0, .int .u64 0, .int .u64 0, .int .u64 0, .int .u64 0, .int .u64 0]) bb; obtain ⟨bq, K9⟩ := q; obtain ⟨c9, l9⟩ := HC9.out w9 bq; have t0 := K9.cell 0; have f0 := K9.froz 0; have t1 := K9.cell 1; have f1 := K9.froz 1; have t2 := K9.cell 2; have f2 := K9.froz 2; have t3 := K9.cell 3; have f3 := K9.froz 3; have t4 := K9.cell 4; have f4 := K9.froz 4; have t5 := K9.cell 5; have f5 := K9.froz 5; have t6 := K9.cell 6; have f6 := K9.froz 6; have t7 := K9.cell 7; have f7 := K9.froz 7))
    all_goals
      first
      | (have HF := Lib.hid (show MisF F (.slice va N vc) r w W.heap.size ((((((((w9.setCell ⟨W.heap.size, 0, none⟩ (.int .u64 ((setK r 64 0 : Nat) : Int))).setCell ⟨W.heap.size, 1, none⟩ (.int .u64 ((setK r 64 1 : Nat) : Int))).setCell ⟨W.heap.size, 2, none⟩ (.int .u64 ((setK r 64 2 : Nat) : Int))).setCell ⟨W.heap.size, 3, none⟩ (.int .u64 ((setK r 64 3 : Nat) : Int))).setCell ⟨W.heap.size, 4, none⟩ (.int .u64 ((setK r 64 4 : Nat) : Int))).setCell ⟨W.heap.size, 5, none⟩ (.int .u64 ((setK r 64 5 : Nat) : Int))).setCell ⟨W.heap.size, 6, none⟩ (.int .u64 ((setK r 64 6 : Nat) : Int))).setCell ⟨W.heap.size, 7, none⟩ (.int .u64 ((setK r 64 7 : Nat) : Int))) from
          { k8 := K9.set8 _ _ _ _ _ _ _ _
            k0 := (HX.out.1.below bq hlt0).off8 (by omega) _ _ _ _ _ _ _ _
            k1 := (HX.out.2.1.below bq hlt1).off8 (by omega) _ _ _ _ _ _ _ _
            bel := below8 (HX.out.2.2.trans (bq.mono (Nat.le_of_lt hlt0))) (Nat.le_of_lt hlt0) _ _ _ _ _ _ _ _
            gt := hlt1 }))
      | (have HF := Lib.hid (show MisF F (.slice va N vc) r w w9.heap.size (w9.alloc (.cells #[.int .u64 ((setK r 64 0 : Nat) : Int), .int .u64 ((setK r 64 1 : Nat) : Int), .int .u64 ((setK r 64 2 : Nat) : Int), .int .u64 ((setK r 64 3 : Nat) : Int), .int .u64 ((setK r 64 4 : Nat) : Int), .int .u64 ((setK r 64 5 : Nat) : Int), .int .u64 ((setK r 64 6 : Nat) : Int), .int .u64 ((setK r 64 7 : Nat) : Int)] 63)) from
          { k8 := Kb.new w9 w9.heap.size (setVals r 64) 63 rfl
            k0 := (HX.out.1.below bq hlt0).alloc _
            k1 := (HX.out.2.1.below bq hlt1).alloc _
            bel := (HX.out.2.2.trans (bq.mono (Nat.le_of_lt hlt0))).alloc (Nat.le_of_lt l9) _
            gt := Nat.le_trans hlt1 bq.size }))
      go_step
      go_step
      go_meet
      exact ⟨rfl, _, rfl, HF⟩
  case rest =>
    obtain ⟨rfl, b8, rfl, HF⟩ := hcut
    clear HX HC9 HS HV g0 g1 g2 g3 g4 hlt0 hlt1
    have q1 : wc.cell? ⟨w.heap.size, 1, none⟩ = some (.slice va N vc) := HF.out.k0.cell 1
    go_wp2
    clear q1
    go_loopw [7, 19] (fun m i wr => ∃ j : Nat, j ≤ N ∧ i = .int .i64 j ∧ m = .int .i64 ((F + sumM r pl rs j : Nat) : Int) ∧ Hid (MisF F (.slice va N vc) r w b8 wr)) (fun _ i _ => N - (intOf i).toNat)
    case atStart => exact ⟨0, Nat.zero_le _, rfl, by simp [sumM], HF⟩
    case round =>
      obtain ⟨j, hj, rfl, rfl, hX⟩ := hrel
      clear HF
      have hsl := HSL.out j
      by_cases hlt : j < N
      · obtain ⟨g, rfl, c0, c1⟩ := HAT.out j hlt wr hX.out.bel
        have hsm := HSM.out j hlt
        obtain ⟨had, hot⟩ := HM.out j hlt
        unfold missAt at hsm
        generalize rs.getD j (0, 0) = p at *
        obtain ⟨ad, ot⟩ := p
        have had : ad < 64 := had
        have hot : ot < 18446744073709551616 := hot
        have c0 : wr.cell? ⟨g, j * 2, none⟩ = some (.int .i64 (ad : Int)) := c0
        have c1 : wr.cell? ⟨g, j * 2 + 1, none⟩ = some (.int .u64 (ot : Int)) := c1
        have hsm : sumM r pl rs (j + 1) = sumM r pl rs j + if pl ≤ pc 64 (ot &&& setK r 64 (setF r ad 3)) then 1 else 0 := hsm
        have hk8 : setF r ad 3 < 8 := setF_lt8 r ad
        have hkl := setK_lt r 64 (setF r ad 3) (Nat.le_refl _)
        have hst : wr.cell? ⟨b8, setF r ad 3, none⟩ = some (.int .u64 ((setK r 64 (setF r ad 3) : Nat) : Int)) := (hX.out.k8.cell _).trans (setVals_at r 64 _ hk8)
        have hor := i64_andU ot (setK r 64 (setF r ad 3)) hot hkl
        have hal : ot &&& setK r 64 (setF r ad 3) < 18446744073709551616 := Nat.lt_of_le_of_lt Nat.and_le_left hot
        have HS2 := Lib.hid (fun w9 => HSO.out ad w9 had)
        generalize setF r ad 3 = k at *
        generalize setK r 64 k = sk at *
        generalize ot &&& sk = an at *
        have HON := Lib.hid (fun w9 => ones64 an w9 hal)
        have hpc : pc 64 an ≤ 64 := pc_le 64 an
        generalize pc 64 an = q at *
        have g2 : wr.cell? ⟨w.heap.size + 1, 0, none⟩ = some (.int .i64 ((r 0 : Nat) : Int)) := hX.out.k1.cell 0
        have g3 : wr.cell? ⟨w.heap.size + 1, 1, none⟩ = some (.int .i64 ((r 1 : Nat) : Int)) := hX.out.k1.cell 1
        have g4 : wr.cell? ⟨w.heap.size + 1, 2, none⟩ = some (.int .i64 ((r 2 : Nat) : Int)) := hX.out.k1.cell 2
        have l1 := hX.out.k1.lt
        have l8 := hX.out.k8.lt
        have hk8' : (k : Int) < 8 := by omega
        have hz : (wr.alloc (.cells #[.int .i64 (ad : Int), .int .u64 (ot : Int)] 62)).heap.size = wr.heap.size + 1 := Array.size_push _
        have HC9 := Lib.hid (fun (w9 : World) (bb : Below (wr.alloc (.cells #[.int .i64 (ad : Int), .int .u64 (ot : Int)] 62)).heap.size (wr.alloc (.cells #[.int .i64 (ad : Int), .int .u64 (ot : Int)] 62)) w9) =>
          (show w9.cell? ⟨wr.heap.size, 0, none⟩ = some (.int .i64 (ad : Int)) ∧ w9.cell? ⟨wr.heap.size, 1, none⟩ = some (.int .u64 (ot : Int)) ∧ w9.cell? ⟨b8, k, none⟩ = some (.int .u64 (sk : Int)) ∧ Hid (MisF F (.slice (some ⟨g, 0, none⟩) N vc) r w b8 w9) from
          have kn := (Kb.new wr wr.heap.size [.int .i64 (ad : Int), .int .u64 (ot : Int)] 62 rfl).below bb (by rw [hz]; omega)
          have bA : Below wr.heap.size wr w9 := ((Below.refl _ wr).alloc (Nat.le_refl _) _).trans (bb.mono (by rw [hz]; omega))
          ⟨kn.cell 0, kn.cell 1, (bA.cell (p := ⟨b8, k, none⟩) l8).trans hst, Lib.hid (hX.out.below bA)⟩))
        clear hX hst hz HM HSM HSL HSO HAT
        go_wp2
        go_region_law (go_simp; go_at_call 36; (with_reducible refine (HS2.out _).mono ?_); rintro e w9 ⟨rfl, bb⟩; obtain ⟨x0, x1, x8, HF9⟩ := HC9.out w9 ((Below.refl _ _).drew.trans bb); clear bb)
        all_goals
          clear HC9 HS2
          by_cases hge : pl ≤ q
          · rw [if_pos hge] at hsm
            have HQ := Lib.hid hsm
            have hgi : (pl : Int) ≤ (q : Int) := by omega
            clear hsm
            go_wp2_with (go_at_call 37; refine (HON.out _).mono ?_; rintro e w' ⟨rfl, rfl⟩)
            go_roundw
            case rel => exact ⟨j + 1, by omega, by go_num, by rw [HQ.out]; go_num, HF9⟩
            case measure => simp [intOf] <;> omega
          · rw [if_neg hge] at hsm
            have HQ := Lib.hid hsm
            have hgi : (q : Int) < (pl : Int) := by omega
            clear hsm
            go_wp2_with (go_at_call 37; refine (HON.out _).mono ?_; rintro e w' ⟨rfl, rfl⟩)
            go_roundw
            case rel => exact ⟨j + 1, by omega, by go_num, by rw [HQ.out]; go_num, HF9⟩
            case measure => simp [intOf] <;> omega
      · obtain rfl : j = N := by omega
        have HB := Lib.hid hX.out.bel
        clear hX
        go_wp2
        go_ret
        exact ⟨rfl, HB.out⟩
end Go.Proofs.Ytfdjjaogmnagaaa.Ix
