/- The walk of the program's historyOf. -/
import Derived.Test.YtfdjjaogmnagaaaChist
import Derived.WalkMore
import Derived.Deep.CutRange
namespace Go.Proofs.Ytfdjjaogmnagaaa.Ix
open Go.RowKit Tr Bt
/-- What stands ahead of the range at the use j: the use is booked, the map still speaks of those before. -/
structure HiM (us : List Nat) (w : World) (j : Nat) (v : Value) (wr : World) : Prop where
  res : Kb wr w.heap.size [.int .i64 0, .slice none 0 0] 49
  his : Kb wr (w.heap.size + 1) [.int .i64 ((frst us (j + 1) : Nat) : Int), v] 49
  map : ∃ D : DataW Unit, wr.ownsMap Try.prog 2 (plainElem Try.prog 59) (w.heap.size + 2) j D ∧ MapS us j D
  own : OwnU wr (w.heap.size + 3) v (reus us (j + 1))
  big : w.heap.size + 3 ≤ wr.heap.size
  bel : Below w.heap.size w wr
theorem HiM.done {us : List Nat} {w W w2 : World} {j : Nat} {v : Value} {D : DataW Unit} (h : HiM us w j v W) (hg : W.grownBy w2 (some (w.heap.size + 2)))
    (hown : w2.ownsMap Try.prog 2 (plainElem Try.prog 59) (w.heap.size + 2) (j + 1) D) (hm : MapS us (j + 1) D) : HiR us w (j + 1) v w2 :=
  have hb : Below (w.heap.size + 2) W w2 := (Below.refl _ W).grown hg (by have := h.big; omega) (fun k hk => by injection hk with hk; omega)
  { res := h.res.below hb (by omega)
    his := h.his.below hb (by omega)
    map := ⟨D, hown, hm⟩
    own := h.own.kept hg (fun r hr => by injection hr with hr; omega)
    big := Nat.le_trans h.big hg.size
    bel := h.bel.grown hg (by have := h.big; omega) (fun k hk => by injection hk with hk; omega) }
theorem MapM.done' {us : List Nat} {j u : Nat} {left : Lit → Bool} {D : DataW Unit} (h : MapM us j u left D) (hu : us.getD j 0 = u) (hl : ∀ kl, left kl = false) :
    MapS us (j + 1) (D.put (.int .i64 (u : Int)) (.lit (.int .u64 0))) := by
  subst hu
  exact h.done hl
theorem grown_setX (w : World) (b i : Nat) (u : Value) : w.grownBy (w.setCell ⟨b, i, none⟩ u) (some b) :=
  ⟨rfl, rfl, rfl, by simp [World.setCell], fun k _ hk => Go.heap_setCell_other w ⟨b, i, none⟩ k u (fun e => hk (by simp [e]))⟩
theorem has_put_of {D : DataW Unit} {k x : Lit} {d : DataW Unit} (hD : Go.Maps.IsMap D) (hk : WideAt.IsKeyLit k) (h : Go.Maps.has D x = true) : Go.Maps.has (D.put k d) x = true := by
  by_cases e : x = k
  · subst e; exact Go.Maps.has_put_same hD hk d
  · rw [Go.Maps.has_put_other e]; exact h
set_option maxHeartbeats 4000000 in
theorem hist_i (a : Option Addr) (c : Nat) (us : List Nat) (w : World) (hn : us.length ≤ 60) (h64 : ∀ i, us.getD i 0 < 64) (hr : Row w a (castL us)) :
    Calls Try.prog 24 #[.slice a us.length c] w (fun e w' => ∃ v, e = .returned (.agg #[.int .i64 ((frst us us.length : Nat) : Int), v]) ∧ OwnU w' w.heap.size v (reus us us.length) ∧ Below w.heap.size w w') := by
  have HC := Lib.hid (fun (j : Nat) (hj : j < us.length) (w' : World) (hb : Below w.heap.size w w') => (show ∃ b off, a = some ⟨b, off, none⟩ ∧ w'.cell? ⟨b, off + j, none⟩ = some (.int .i64 ((us.getD j 0 : Nat) : Int)) from by
    obtain ⟨b, off, e, h1, hlt⟩ := hr j (by rw [castL_len]; exact hj)
    exact ⟨b, off, e, by rw [hb.cell (p := ⟨b, off + j, none⟩) hlt, h1, castL_get]⟩))
  have H64 := Lib.hid h64
  clear hr h64
  have hmm := @run_makeMap Try.prog
  generalize hN : us.length = N at *
  have HN := Lib.hid hN
  clear hN
  go_enter Try.func24, Try.ntmps24
  go_wp2
  clear hmm
  go_loopw [13] (fun i wr => ∃ (j : Nat) (v : Value), j ≤ N ∧ i = .int .i64 j ∧ Hid (HiR us w j v wr)) (fun i _ => N - (intOf i).toNat)
  case atStart =>
    have hz1 : (w.alloc (.cells #[.int .i64 0, .slice none 0 0] 49)).heap.size = w.heap.size + 1 := Array.size_push _
    have hz2 : ((w.alloc (.cells #[.int .i64 0, .slice none 0 0] 49)).alloc (.cells #[.int .i64 0, .slice none 0 0] 49)).heap.size = w.heap.size + 2 := (Array.size_push _).trans (by rw [hz1])
    have hz3 : (((w.alloc (.cells #[.int .i64 0, .slice none 0 0] 49)).alloc (.cells #[.int .i64 0, .slice none 0 0] 49)).alloc (.map #[] 0)).heap.size = w.heap.size + 3 := (Array.size_push _).trans (by rw [hz2])
    exact ⟨0, .slice none 0 0, Nat.zero_le _, rfl, Lib.hid
      { res := ((Kb.new w w.heap.size [.int .i64 0, .slice none 0 0] 49 rfl).alloc (.cells #[.int .i64 0, .slice none 0 0] 49)).alloc (.map #[] 0)
        his := (Kb.new (w.alloc (.cells #[.int .i64 0, .slice none 0 0] 49)) (w.heap.size + 1) [.int .i64 0, .slice none 0 0] 49 hz1.symm).alloc (.map #[] 0)
        map := ⟨_, hz2 ▸ World.ownsMap_made _ _ _ _, MapS.zero us⟩
        own := OwnU.nil _ _
        big := Nat.le_of_eq hz3.symm
        bel := (((Below.refl _ w).alloc (Nat.le_refl _) _).alloc (by omega) _).alloc (by omega) _ }⟩
  case round =>
    obtain ⟨j, v, hj, rfl, hH⟩ := hrel
    by_cases hlt : j < N
    · obtain ⟨b, off, rfl, c1⟩ := HC.out j hlt wr hH.out.bel
      have hu := H64.out j
      obtain ⟨D0, hown0, hMS0⟩ := hH.out.map
      have hhas := hMS0.2.1 (us.getD j 0)
      have hwf : (Lit.int .i64 ((us.getD j 0 : Nat) : Int)).wf = true := WalkArith.wf_i64 (by omega)
      have hjm : j < maxLen := by unfold maxLen; omega
      have g0 : wr.cell? ⟨w.heap.size + 1, 0, none⟩ = some (.int .i64 ((frst us j : Nat) : Int)) := hH.out.his.cell 0
      have g1 : wr.cell? ⟨w.heap.size + 1, 1, none⟩ = some v := hH.out.his.cell 1
      have f0 := hH.out.his.froz 0
      have f1 := hH.out.his.froz 1
      have hfr : frst us j ≤ 60 := by have := frst_le us j; omega
      cases hs : snc us j (us.getD j 0) with
      | none =>
        rw [hs] at hhas
        have hhas : Go.Maps.has D0 (.int .i64 ((us.getD j 0 : Nat) : Int)) = false := hhas
        have hf1 : frst us (j + 1) = frst us j + 1 := by rw [frst, hs]
        have hr1 : reus us (j + 1) = reus us j := by rw [reus, hs]; simp
        have hv1 : (Value.int .i64 (((frst us j : Nat) : Int) + 1)) = .int .i64 ((frst us (j + 1) : Nat) : Int) := by rw [hf1]; go_num
        have HM1 : Hid (HiM us w j v (wr.setCell ⟨w.heap.size + 1, 0, none⟩ (.int .i64 (((frst us j : Nat) : Int) + 1)))) := Lib.hid
          { res := hH.out.res.off 0 _ (by omega)
            his := by rw [← hv1]; exact hH.out.his.set 0 _
            map := ⟨D0, hown0.setCell (by show w.heap.size + 2 ≠ w.heap.size + 1; omega) _, hMS0⟩
            own := by rw [hr1]; exact hH.out.own.kept (row := some (w.heap.size + 1)) ⟨rfl, rfl, rfl, by simp [World.setCell], fun k _ hk => Go.heap_setCell_other wr ⟨w.heap.size + 1, 0, none⟩ k _ (fun e => hk (by simp [e]))⟩ (fun r hr => by injection hr with hr; omega)
            big := by have := hH.out.big; simpa [World.setCell] using this
            bel := hH.out.bel.setCell (p := ⟨w.heap.size + 1, 0, none⟩) (Nat.le_succ _) _ }
        clear hf1 hr1 hv1 hMS0 hs
        generalize hu0 : us.getD j 0 = u at *
        have HU := Lib.hid hu0
        clear hu0
        generalize frst us j = F at *
        go_upto_region 10 with (at_lookup; refine wpList_lookup_own_ok_int _ rfl _ _ 57 rfl 2 59 .u64 lawH Try.underlying57 Try.underlying59 (zeroH _) (w.heap.size + 2) j D0 rfl hown0 _ _ rfl (Go.Maps.keyOf_int_mk Try.underlying2 hwf) ?_; intro cL hat hwc; rw [hhas])
        generalize hWW : (wr.setCell ⟨w.heap.size + 1, 0, none⟩ (.int .i64 ((F : Int) + 1))) = W at *
        clear hWW
        obtain ⟨D, hmap, hMS⟩ := HM1.out.map
        have HMS := Lib.hid hMS
        have hbig := HM1.out.big
        clear hMS
        go_wp2_with (at_range; refine wpList_range_own _ rfl _ 57 rfl 2 59 lawH Try.underlying57 _ (w.heap.size + 2) j D rfl hmap ?_; intro w0 hrg0 hg0 hs0)
        go_frame
        go_loopw [9] (fun _ wl => ∃ (left : Lit → Bool) (cnt : Nat) (D' : DataW Unit), wl.ranges Try.prog 2 (plainElem Try.prog 59) (w.heap.size + 2) W.heap.size j D' left cnt ∧ Hid (MapM us j u left D' ∧ ∀ kl, left kl = true → Go.Maps.has D' kl = true) ∧ W.grownBy wl (some (w.heap.size + 2)))
          (fun _ wl => wl.rangeLeft (w.heap.size + 2) W.heap.size)
        case atStart => exact ⟨_, _, _, hrg0, Lib.hid ⟨HMS.out.start _, fun kl h => h⟩, hg0.but _⟩
        case round =>
          obtain ⟨left, cnt, D', hrg, hMM, hgw⟩ := hrel
          go_wp2_with (at_next; refine wpList_next_ranges_ii _ rfl _ rfl 2 59 .i64 .u64 lawH Try.underlying2 Try.underlying59 (w.heap.size + 2) W.heap.size j _ _ _ rfl hrg ?_ ?_)
          · intro _ hl0
            have hdone := Lib.hid (hMM.out.1.done' HU.out hl0)
            have hownD := hrg.owns
            go_wp2_with (at_mapUpdate; refine wpList_mapUpdate_own _ rfl _ _ _ 57 rfl 2 59 lawH Try.underlying57 _ (w.heap.size + 2) j D' rfl hownD hjm _ _ _ rfl rfl (Go.Maps.keyOf_int_mk Try.underlying2 hwf) _ [] (plainElem_int Try.underlying59 (by decide)) ?_; intro w2 hown2 hgrow2)
            go_roundw
            case rel => exact ⟨j + 1, v, by omega, by go_num, Lib.hid (HiM.done HM1.out (hgw.trans hgrow2) hown2 hdone.out)⟩
            case measure => simp [intOf] <;> omega
          · intro x c w1 cnt1 hwx hwc hlx hat hrg1 hlt1 hg1 hs1 hen
            obtain ⟨y, o, rfl, hso, hato⟩ := hMM.out.1.at x hlx (hMM.out.2 _ hlx)
            obtain rfl : c = (o : Int) := by
              have h := (hat (.lit (.int .u64 0))).symm.trans (hato (.lit (.int .u64 0)))
              injection h with h; injection h with _ h
            have ho : o < 18446744073709551616 := snc_lt H64.out j y o hso
            obtain ⟨hsh, hsl⟩ := shlU u hu
            have hor := i64_orU o (2 ^ u) ho hsl
            have hst := Lib.hid (hMM.out.1.step y o hso)
            have hin := hMM.out.2 _ hlx
            obtain ⟨c2, hrun, hat2, _⟩ := (hrg1.owns.drew).lookup_int (t := 57) lawH Try.underlying57 Try.underlying59 (zeroH _) (Go.Maps.keyOf_int_mk Try.underlying2 hwx)
            obtain rfl : c2 = (o : Int) := by
              have h := hat2.symm.trans (hato (.lit (.int .u64 0)))
              injection h with h; injection h with _ h
            have hol : o ||| 2 ^ u < 18446744073709551616 := Nat.or_lt_two_pow (n := 64) (by simpa using ho) (by simpa using hsl)
            obtain ⟨w2, hsto, hrg2, hg2, hs2⟩ := Mp.ranges_store (t := 57) (hrg1.kept (w' := w1.drew) (row := none) ⟨rfl, rfl, rfl, Nat.le_refl _, fun _ _ _ => rfl⟩ (by simp) (by simp)) lawH Try.underlying57 hjm (Go.Maps.keyOf_int_mk Try.underlying2 hwx) (plainU (o ||| 2 ^ u) hol) hin
            have HG := Lib.hid (show W.grownBy w2 (some (w.heap.size + 2)) from (hgw.andThen (hg1.trans ⟨rfl, rfl, rfl, Nat.le_refl _, fun _ _ _ => rfl⟩ : wr.grownBy w1.drew (some W.heap.size)) (fun k hk => .inl (by injection hk with hk; omega))).trans hg2)
            have HH : Hid (MapM us j u (fun z => left z && !z.sameKey (.int .i64 (y : Int))) (D'.put (.int .i64 (y : Int)) (.lit (.int .u64 ((o ||| 2 ^ u : Nat) : Int)))) ∧ ∀ kl, (left kl && !kl.sameKey (.int .i64 (y : Int))) = true → Go.Maps.has (D'.put (.int .i64 (y : Int)) (.lit (.int .u64 ((o ||| 2 ^ u : Nat) : Int)))) kl = true) := Lib.hid ⟨hst.out, fun kl hkl => by
              rw [Bool.and_eq_true] at hkl
              exact has_put_of hMM.out.1.1 (key_lit _) (hMM.out.2 kl hkl.1)⟩
            have hrun2 : (Instr.lookup 57 (.map (some (w.heap.size + 1 + 1))) (.int .i64 (y : Int)) false).run Try.prog w1.drew = .ok (.int .u64 (o : Int)) w1.drew := hrun
            have hsto2 : (Instr.mapUpdate 57 (.map (some (w.heap.size + 1 + 1))) (.int .i64 (y : Int)) (.int .u64 ((o ||| 2 ^ u : Nat) : Int))).run Try.prog w1.drew = .ok () w2 := hsto
            clear hrun hsto
            generalize o ||| 2 ^ u = p' at *
            generalize 2 ^ u = p at *
            go_wp2
            go_region
            all_goals
              go_roundw
              case rel => exact ⟨_, _, _, _, _, _, _, _, _, _, _, ⟨_, _, _, hrg2, HH.out, HG.out⟩, rfl⟩
              case measure => (rw [hrg2.left_eq, hrg.left_eq]; omega)
      | some o =>
        rw [hs] at hhas
        have hhas : Go.Maps.has D0 (.int .i64 ((us.getD j 0 : Nat) : Int)) = true := hhas
        have ho : o < 18446744073709551616 := snc_lt H64.out j _ o hs
        have hao := Lib.hid (hMS0.2.2.1 _ o hs)
        have hf1 : frst us (j + 1) = frst us j := by rw [frst, hs]; rfl
        have hr1 : reus us (j + 1) = reus us j ++ [(us.getD j 0, o)] := by rw [reus, hs]
        have hrl : (reus us j).length ≤ 60 := by have := reus_len us j; omega
        obtain ⟨va, vc, rfl⟩ := hH.out.own.form
        have HOW := Lib.hid hH.out.own
        have hbg := hH.out.big
        have HM9 := Lib.hid (fun (v1 : Value) (w1 : World) (ho1 : OwnU w1 (w.heap.size + 3) v1 (reus us j ++ [(us.getD j 0, o)])) (hb1 : Below (w.heap.size + 3) wr w1) (hs1 : wr.heap.size ≤ w1.heap.size) =>
          (show w1.cell? ⟨w.heap.size + 1, 1, none⟩ = some (.slice va (reus us j).length vc) ∧ w1.frozen? ⟨w.heap.size + 1, 1, none⟩ = false ∧ Hid (HiM us w j v1 (w1.setCell ⟨w.heap.size + 1, 1, none⟩ v1)) from
          have k1 := hH.out.his.below hb1 (by omega)
          have hm1 : w1.ownsMap Try.prog 2 (plainElem Try.prog 59) (w.heap.size + 2) j D0 := by
            obtain ⟨es, clock, q1, q2⟩ := hown0
            exact ⟨es, clock, (hb1.block _ (by omega)).trans q1, q2⟩
          ⟨k1.cell 1, k1.froz 1, Lib.hid
          { res := (hH.out.res.below hb1 (by omega)).off 1 _ (by omega)
            his := by rw [hf1]; exact k1.set 1 _
            map := ⟨D0, hm1.setCell (by show w.heap.size + 2 ≠ w.heap.size + 1; omega) _, hMS0⟩
            own := by rw [hr1]; exact ho1.kept (row := some (w.heap.size + 1)) ⟨rfl, rfl, rfl, by simp [World.setCell], fun k _ hk => Go.heap_setCell_other w1 ⟨w.heap.size + 1, 1, none⟩ k _ (fun e => hk (by simp [e]))⟩ (fun r hr => by injection hr with hr; omega)
            big := by have := hH.out.big; have e : (w1.setCell ⟨w.heap.size + 1, 1, none⟩ v1).heap.size = w1.heap.size := by simp [World.setCell]
                      omega
            bel := (hH.out.bel.trans (hb1.mono (by omega))).setCell (p := ⟨w.heap.size + 1, 1, none⟩) (Nat.le_succ _) _ }⟩))
        clear hf1 hr1 hMS0 hs
        generalize hu0 : us.getD j 0 = u at *
        have HU := Lib.hid hu0
        clear hu0
        generalize reus us j = R0 at *
        go_upto_region 10 with (first
          | (at_lookup; refine wpList_lookup_own_ok_int _ rfl _ _ 57 rfl 2 59 .u64 lawH Try.underlying57 Try.underlying59 (zeroH _) (w.heap.size + 2) j D0 rfl hown0 _ _ rfl (Go.Maps.keyOf_int_mk Try.underlying2 hwf) ?_; intro cL hat hwc; rw [hhas]; obtain rfl : cL = (o : Int) := (by have h := (hao.out (.lit (.int .u64 0))).symm.trans hat; injection h with h; injection h with _ h; exact h.symm))
          | (at_builtin; refine wpList_appU _ rfl _ _ rfl (w.heap.size + 3) _ R0 u o ?_ ?_ HOW.out (by omega) (by omega) ?_; rfl; rfl; intro v1 w1 ho1 hb1 hs1; obtain ⟨x1, x2, HM1⟩ := HM9.out v1 w1 ho1 hb1 hs1; obtain ⟨v1a, v1c, hv1⟩ := ho1.form; rw [show (R0 ++ [(u, o)]).length = R0.length + 1 by simp] at hv1; subst hv1; clear ho1 hb1 hs1))
        generalize hWW : (w1.setCell ⟨w.heap.size + 1, 1, none⟩ (.slice v1a (R0.length + 1) v1c)) = W at *
        clear hWW
        obtain ⟨D, hmap, hMS⟩ := HM1.out.map
        have HMS := Lib.hid hMS
        have hbig := HM1.out.big
        clear hMS
        go_wp2_with (at_range; refine wpList_range_own _ rfl _ 57 rfl 2 59 lawH Try.underlying57 _ (w.heap.size + 2) j D rfl hmap ?_; intro w0 hrg0 hg0 hs0)
        go_frame
        go_loopw [9] (fun _ wl => ∃ (left : Lit → Bool) (cnt : Nat) (D' : DataW Unit), wl.ranges Try.prog 2 (plainElem Try.prog 59) (w.heap.size + 2) W.heap.size j D' left cnt ∧ Hid (MapM us j u left D' ∧ ∀ kl, left kl = true → Go.Maps.has D' kl = true) ∧ W.grownBy wl (some (w.heap.size + 2)))
          (fun _ wl => wl.rangeLeft (w.heap.size + 2) W.heap.size)
        case atStart => exact ⟨_, _, _, hrg0, Lib.hid ⟨HMS.out.start _, fun kl h => h⟩, hg0.but _⟩
        case round =>
          obtain ⟨left, cnt, D', hrg, hMM, hgw⟩ := hrel
          go_wp2_with (at_next; refine wpList_next_ranges_ii _ rfl _ rfl 2 59 .i64 .u64 lawH Try.underlying2 Try.underlying59 (w.heap.size + 2) W.heap.size j _ _ _ rfl hrg ?_ ?_)
          · intro _ hl0
            have hdone := Lib.hid (hMM.out.1.done' HU.out hl0)
            have hownD := hrg.owns
            go_wp2_with (at_mapUpdate; refine wpList_mapUpdate_own _ rfl _ _ _ 57 rfl 2 59 lawH Try.underlying57 _ (w.heap.size + 2) j D' rfl hownD hjm _ _ _ rfl rfl (Go.Maps.keyOf_int_mk Try.underlying2 hwf) _ [] (plainElem_int Try.underlying59 (by decide)) ?_; intro w2 hown2 hgrow2)
            go_roundw
            case rel => exact ⟨j + 1, .slice v1a (R0.length + 1) v1c, by omega, by go_num, Lib.hid (HiM.done HM1.out (hgw.trans hgrow2) hown2 hdone.out)⟩
            case measure => simp [intOf] <;> omega
          · intro x c w1 cnt1 hwx hwc hlx hat hrg1 hlt1 hg1 hs1 hen
            obtain ⟨y, o, rfl, hso, hato⟩ := hMM.out.1.at x hlx (hMM.out.2 _ hlx)
            obtain rfl : c = (o : Int) := by
              have h := (hat (.lit (.int .u64 0))).symm.trans (hato (.lit (.int .u64 0)))
              injection h with h; injection h with _ h
            have ho : o < 18446744073709551616 := snc_lt H64.out j y o hso
            obtain ⟨hsh, hsl⟩ := shlU u hu
            have hor := i64_orU o (2 ^ u) ho hsl
            have hst := Lib.hid (hMM.out.1.step y o hso)
            have hin := hMM.out.2 _ hlx
            obtain ⟨c2, hrun, hat2, _⟩ := (hrg1.owns.drew).lookup_int (t := 57) lawH Try.underlying57 Try.underlying59 (zeroH _) (Go.Maps.keyOf_int_mk Try.underlying2 hwx)
            obtain rfl : c2 = (o : Int) := by
              have h := hat2.symm.trans (hato (.lit (.int .u64 0)))
              injection h with h; injection h with _ h
            have hol : o ||| 2 ^ u < 18446744073709551616 := Nat.or_lt_two_pow (n := 64) (by simpa using ho) (by simpa using hsl)
            obtain ⟨w2, hsto, hrg2, hg2, hs2⟩ := Mp.ranges_store (t := 57) (hrg1.kept (w' := w1.drew) (row := none) ⟨rfl, rfl, rfl, Nat.le_refl _, fun _ _ _ => rfl⟩ (by simp) (by simp)) lawH Try.underlying57 hjm (Go.Maps.keyOf_int_mk Try.underlying2 hwx) (plainU (o ||| 2 ^ u) hol) hin
            have HG := Lib.hid (show W.grownBy w2 (some (w.heap.size + 2)) from (hgw.andThen (hg1.trans ⟨rfl, rfl, rfl, Nat.le_refl _, fun _ _ _ => rfl⟩ : wr.grownBy w1.drew (some W.heap.size)) (fun k hk => .inl (by injection hk with hk; omega))).trans hg2)
            have HH : Hid (MapM us j u (fun z => left z && !z.sameKey (.int .i64 (y : Int))) (D'.put (.int .i64 (y : Int)) (.lit (.int .u64 ((o ||| 2 ^ u : Nat) : Int)))) ∧ ∀ kl, (left kl && !kl.sameKey (.int .i64 (y : Int))) = true → Go.Maps.has (D'.put (.int .i64 (y : Int)) (.lit (.int .u64 ((o ||| 2 ^ u : Nat) : Int)))) kl = true) := Lib.hid ⟨hst.out, fun kl hkl => by
              rw [Bool.and_eq_true] at hkl
              exact has_put_of hMM.out.1.1 (key_lit _) (hMM.out.2 kl hkl.1)⟩
            have hrun2 : (Instr.lookup 57 (.map (some (w.heap.size + 1 + 1))) (.int .i64 (y : Int)) false).run Try.prog w1.drew = .ok (.int .u64 (o : Int)) w1.drew := hrun
            have hsto2 : (Instr.mapUpdate 57 (.map (some (w.heap.size + 1 + 1))) (.int .i64 (y : Int)) (.int .u64 ((o ||| 2 ^ u : Nat) : Int))).run Try.prog w1.drew = .ok () w2 := hsto
            clear hrun hsto
            generalize o ||| 2 ^ u = p' at *
            generalize 2 ^ u = p at *
            go_wp2
            go_region
            all_goals
              go_roundw
              case rel => exact ⟨_, _, _, _, _, _, _, _, _, _, _, ⟨_, _, _, hrg2, HH.out, HG.out⟩, rfl⟩
              case measure => (rw [hrg2.left_eq, hrg.left_eq]; omega)
    · obtain rfl : j = N := by omega
      obtain ⟨va, vc, rfl⟩ := hH.out.own.form
      have k0 : wr.cell? ⟨w.heap.size + 1, 0, none⟩ = some (.int .i64 ((frst us j : Nat) : Int)) := hH.out.his.cell 0
      have k1 := hH.out.his.cell 1
      have r0 : wr.cell? ⟨w.heap.size, 0, none⟩ = some (.int .i64 0) := hH.out.res.cell 0
      have r1 : wr.cell? ⟨w.heap.size, 1, none⟩ = some (.slice none 0 0) := hH.out.res.cell 1
      have f0 := hH.out.res.froz 0
      have f1 := hH.out.res.froz 1
      have HOW := Lib.hid (((hH.out.own.mono (B' := w.heap.size + 1) (by omega)).kept (grown_setX wr w.heap.size 0 (.int .i64 ((frst us j : Nat) : Int))) (fun r hr => by injection hr with hr; omega)).kept (grown_setX _ w.heap.size 1 (.slice va (reus us j).length vc)) (fun r hr => by injection hr with hr; omega))
      have HB := Lib.hid (((hH.out.bel.setCell (p := ⟨w.heap.size, 0, none⟩) (Nat.le_refl _) (.int .i64 ((frst us j : Nat) : Int)))).setCell (p := ⟨w.heap.size, 1, none⟩) (Nat.le_refl _) (.slice va (reus us j).length vc))
      clear HC H64
      go_wp2
      refine bodyPost_ret (v := .agg #[.int .i64 ((frst us j : Nat) : Int), .slice va (reus us j).length vc]) (by simp [results, Try.results24, go_sem, r0, r1, f0, f1]) rfl ⟨_, rfl, HOW.out.mono (Nat.le_succ _), HB.out⟩
end Go.Proofs.Ytfdjjaogmnagaaa.Ix
