/- Both RunsOf: lists of pairs of the call's own. -/
import Derived.Test.YtonplmnopfmnmaaCrun
import Derived.Test.YtonplmnopfmnmaaCcnt
import Derived.Test.YtonplmnopfmnmaaCapp2
import Derived.Test.YtonplmnopfmnmaaCmark2
import Derived.Test.YtonplmnopfmnmaaClst
namespace Go.Proofs.Ytonplmnopfmnmaa.Tr
open Go.RowKit
def prs (rs : List (Int × Nat)) : List (List Int) := rs.map fun r => [r.1, ((r.2 : Nat) : Int)]
theorem prs_app (a b : List (Int × Nat)) : prs (a ++ b) = prs a ++ prs b := by simp [prs]
theorem prs_length (a : List (Int × Nat)) : (prs a).length = a.length := by simp [prs]
theorem prs_succ (rs : List (Int × Nat)) (j : Nat) (h : j < rs.length) : prs (rs.take (j + 1)) = prs (rs.take j) ++ [[(rs.getD j (0, 0)).1, (((rs.getD j (0, 0)).2 : Nat) : Int)]] := by
  rw [List.take_succ_eq_append_getElem h, prs_app, getP rs j h]; rfl
/-- What RunsOf leaves. -/
def Res2 (xss : List (List Int)) (ok : Bool) (w : World) (e : Ending) (w' : World) : Prop := ∃ v vs, e = .returned (.tuple #[v, .bool ok]) ∧ Own2 w' w.heap.size v vs xss ∧ Below w.heap.size w w'
theorem Own2.mono {w : World} {B B' : Nat} {v : Value} {vs : List Value} {xss : List (List Int)} (h : Own2 w B v vs xss) (hB : B' ≤ B) : Own2 w B' v vs xss :=
  ⟨h.1, ⟨h.2.1.1, by
    rcases h.2.1.2 with hn | ⟨g, cap, cur, hv, hg, r⟩
    · exact .inl hn
    · exact .inr ⟨g, cap, cur, hv, Nat.le_trans hB hg, r⟩⟩, fun i hi => (h.2.2.1 i hi).mono hB, h.2.2.2⟩
theorem Own2.kept {w w' : World} {B : Nat} {row : Option Nat} {v : Value} {vs : List Value} {xss : List (List Int)} (h : Own2 w B v vs xss) (hg : w.grownBy w' row) (hne : ∀ k, row = some k → k < B) : Own2 w' B v vs xss := by
  obtain ⟨h0, h1, h2, h3⟩ := h
  refine ⟨h0, World.ownsRow.kept h1 hg ?_, fun i hi => (h2 i hi).kept hg fun k hk e => ?_, h3⟩
  · cases hv : v.ownBlock with
    | none => exact .inl rfl
    | some k => exact .inr fun e => by have := hne k e.symm; have := (World.ownsRow.lt h1 k hv).1; omega
  · have := hne k e.symm
    have := ((h2 i hi).block k hk).1
    omega
theorem Own2.form {w : World} {B : Nat} {v : Value} {vs : List Value} {xss : List (List Int)} (h : Own2 w B v vs xss) : ∃ a c, v = .slice a xss.length c := by
  rcases h.cases with ⟨rfl, rfl⟩ | ⟨g, cap, rfl, _⟩
  · exact ⟨_, _, rfl⟩
  · exact ⟨_, _, rfl⟩
theorem Own.lit2 (w : World) (u t : Int) : Own (w.alloc (.cells #[.int .i64 u, .int .i64 t] 2)) w.heap.size (.slice (some ⟨w.heap.size, 0, none⟩) 2 2) [u, t] :=
  World.ownsRow_lit w #[.int .i64 u, .int .i64 t] 2 (Nat.le_refl _) (by unfold maxLen; omega) rfl
theorem Own2.new {w w' : World} {B g n c : Nat} {v : Value} {vs : List Value} {xss : List (List Int)} (h : Own2 w B v vs xss) (hg : w.heap.size ≤ g) :
    (∀ i k, i < xss.length → (vs.getD i s0).ownBlock = some k → (Value.slice (some ⟨g, 0, none⟩) n c).ownBlock ≠ some k) ∧ ∀ k, (Value.slice (some ⟨g, 0, none⟩) n c).ownBlock = some k → v.ownBlock ≠ some k := by
  refine ⟨fun i k hi hk e => ?_, fun k e hk => ?_⟩
  · have h1 := ((h.2.2.1 i hi).block k hk).2
    simp [Value.ownBlock] at e
    omega
  · have h1 := (World.ownsRow.lt h.2.1 k hk).2
    simp [Value.ownBlock] at e
    omega
set_option maxHeartbeats 2000000 in
set_option maxRecDepth 100000 in
theorem runsof_i {v : Value} {B : Nat} {xs : List Int} {w : World} (h : Own w B v xs) (hn : xs.length ≤ 1048576) (hok : Ls.okL xs = true) :
    Calls Try.prog 21 #[v] w (Res2 (prs (runsP xs)) true w) := by
  have hU := Lib.hid (Ls.impl_own h hn)
  rw [hok] at hU
  obtain ⟨a, c, rfl, _, _, hr⟩ := h.rd
  have HRU := Lib.hid (runs_i a c xs w hn hr)
  have HRL := runsP_len xs xs.length
  rw [List.take_length] at HRL
  clear hok hr h
  generalize runsP xs = RS at *
  generalize xs.length = N at *
  go_enter Try.func21, Try.ntmps21
  go_wp2_with (go_at_call 46; refine hU.out.mono ?_; rintro e w' ⟨rfl, rfl⟩)
  refine HRU.out.mono ?_
  rintro e w4 ⟨v4, rfl, o4, b4⟩
  obtain ⟨a4, c4, hv4⟩ := o4.form'
  subst hv4
  have HO4 := Lib.hid (fun (wr : World) (hb : Below w4.heap.size w4 wr) (j : Nat) (hj : j < RS.length) => OwnR.cells (o4.below hb (Nat.le_refl _)) j hj)
  have HCS := Lib.hid (fun j hj => prs_succ RS j hj)
  have HCL := Lib.hid (fun j => (show (prs (RS.take j)).length ≤ RS.length by rw [prs_length, List.length_take]; omega))
  have HCE : Hid (prs (RS.take RS.length) = prs RS) := by show _ = _; rw [List.take_length]
  have HB4 := Lib.hid b4
  clear o4 b4 HRU hU
  generalize hM : RS.length = M at *
  clear hM
  go_wp2
  go_loopw [4, 6, 13] (fun v _ i wr => ∃ j : Nat, j ≤ M ∧ i = .int .i64 j ∧ ∃ vs, Hid (Own2 wr w4.heap.size v vs (prs (RS.take j))) ∧ Hid (Below w4.heap.size w4 wr)) (fun _ _ i _ => M - (intOf i).toNat)
  case atStart => exact ⟨0, Nat.zero_le _, rfl, [], Own2.nil _ _, Below.refl _ _⟩
  case round =>
    obtain ⟨j, hj, rfl, vs, ho, hb⟩ := hrel
    by_cases hlt : j < M
    · obtain ⟨g, rfl, hgl, hc1, hc2⟩ := HO4.out wr hb.out j hlt
      have hs := HCS.out j hlt
      have hql := HCL.out j
      have hq : (prs (RS.take j)).length + 1 ≤ 1000000000 := by omega
      generalize RS.getD j (0, 0) = r at *
      obtain ⟨x, y⟩ := r
      have HS := Lib.hid hs
      have bA : Below wr.heap.size wr (wr.alloc (.cells #[.int .i64 x, .int .i64 (y : Nat)] 46)) := (Below.refl _ _).alloc (Nat.le_refl _) _
      have bI : Below wr.heap.size wr ((wr.alloc (.cells #[.int .i64 x, .int .i64 (y : Nat)] 46)).alloc (.cells #[.int .i64 x, .int .i64 (y : Nat)] 2)) := bA.alloc bA.size _
      have hszA : (wr.alloc (.cells #[.int .i64 x, .int .i64 (y : Nat)] 46)).heap.size = wr.heap.size + 1 := Array.size_push _
      have hI := (Own.lit2 (wr.alloc (.cells #[.int .i64 x, .int .i64 (y : Nat)] 46)) x (y : Nat)).mono (B' := w4.heap.size) (by have := hb.out.size; omega)
      rw [hszA] at hI
      have ho5 := Own2.below ho.out bI (Nat.le_refl _)
      obtain ⟨hf1, hf2⟩ := Own2.new (w' := wr) (g := wr.heap.size + 1) (n := 2) (c := 2) ho.out (by omega)
      have HB5 := Lib.hid (hb.out.trans (bI.mono hb.out.size))
      have hsz := HB5.out.size
      clear hs hql ho hb bA bI
      generalize prs (RS.take j) = l at *
      go_wp2_with (at_builtin; refine wpList_app2 _ rfl _ _ rfl w4.heap.size _ vs l _ [x, (y : Nat)] ?_ ?_ ho5 hI hf1 hf2 hq hsz ?_; rfl; exact (show Value.slice (some ⟨wr.heap.size + 1 + 1, 0, none⟩) 1 1 = Value.slice (some ⟨((wr.alloc _).alloc _).heap.size, 0, none⟩) 1 1 from by simp))
      intro v' w6 ho6 hb6
      go_wp2
      go_roundw
      case rel => exact ⟨j + 1, by omega, by go_num, _, (by rw [HS.out]; exact ho6), HB5.out.trans hb6⟩
      case measure => simp [intOf]; omega
    · have e : j = M := by omega
      subst e
      have hoo := ho.out
      rw [HCE.out] at hoo
      go_wp2
      go_ret2
      exact ⟨_, _, rfl, Own2.mono hoo HB4.out.size, HB4.out.trans (hb.out.mono HB4.out.size)⟩
theorem runsof_no_i {v : Value} {B : Nat} {xs : List Int} {w : World} (h : Own w B v xs) (hn : xs.length ≤ 1048576) (hok : Ls.okL xs = false) :
    Calls Try.prog 21 #[v] w (Res2 [] false w) := by
  have hU := Lib.hid (Ls.impl_own h hn)
  rw [hok] at hU
  go_enter Try.func21, Try.ntmps21
  go_wp2_with (go_at_call 46; refine hU.out.mono ?_; rintro e w' ⟨rfl, rfl⟩)
  go_ret2
  exact ⟨_, [], rfl, Own2.nil _ _, Below.refl _ _⟩
theorem runsof_no_s {v : Value} {B : Nat} {xs : List Int} {w : World} (h : Own w B v xs) (hn : xs.length ≤ 1048576) (hok : Ls.okL xs = false) :
    Calls Try.prog 20 #[v] w (Res2 [] false w) := by
  have hU := Lib.hid (Ls.spec_own h hn)
  rw [hok] at hU
  go_enter Try.func20, Try.ntmps20
  go_wp2_with (go_at_call 44; refine hU.out.mono ?_; rintro e w' ⟨rfl, rfl⟩)
  go_ret2
  exact ⟨_, [], rfl, Own2.nil _ _, Below.refl _ _⟩
theorem Own2.lit0 (w : World) : Own2 (w.alloc (.cells #[] 22)) w.heap.size (.slice (some ⟨w.heap.size, 0, none⟩) 0 0) [] [] :=
  ⟨rfl, World.ownsRow_lit w #[] 0 (Nat.le_refl _) (by unfold maxLen; omega) rfl, fun i h => by simp at h, fun i j k _ h => by simp at h, fun i k h => by simp at h⟩
/-- The last pair. -/
theorem Own2.last {w : World} {B : Nat} {v : Value} {vs : List Value} {ys : List (List Int)} {x c : Int} (h : Own2 w B v vs (ys ++ [[x, c]])) :
    ∃ g cap gu cu, v = .slice (some ⟨g, 0, none⟩) (ys.length + 1) cap ∧ w.cell? ⟨g, ys.length, none⟩ = some (.slice (some ⟨gu, 0, none⟩) 2 cu) ∧ B ≤ gu ∧ w.cell? ⟨gu, 1, none⟩ = some (.int .i64 c) ∧ w.frozen? ⟨gu, 1, none⟩ = false ∧
      ∀ c', Own2 (w.setCell ⟨gu, 1, none⟩ (.int .i64 c')) B v vs (ys ++ [[x, c']]) := by
  have hl1 : (ys ++ [[x, c]]).length = ys.length + 1 := by simp
  rcases h.cases with ⟨_, h0⟩ | ⟨g, cap, hv, hB, hg, hm, hc, _⟩
  · simp at h0
  · have hcl := hc ys.length (by omega)
    have hin := h.2.2.1 ys.length (by omega)
    have e : (ys ++ [[x, c]]).getD ys.length [] = [x, c] := by rw [List.getD_eq_getElem?_getD, List.getElem?_append_right (Nat.le_refl _)]; simp
    rw [e] at hin
    have hmk := fun w' zs ho hg => Own2.marked (w' := w') (zs := zs) h (j := ys.length) (by omega) ho hg
    generalize vs.getD ys.length s0 = u at *
    rcases hin.cases with ⟨_, h0⟩ | ⟨gu, cu, rfl, hBu, hgu, _, hcu, hfu⟩
    · simp at h0
    · refine ⟨g, cap, gu, cu, by rw [hv, hl1], hcl, hBu, hcu 1 (by simp), ?_, fun c' => ?_⟩
      · have h0 : w.ownsRow B 2 1 (.slice (some ⟨gu, 0, none⟩) 2 cu) 2 [.int .i64 x, .int .i64 c] := hin
        exact World.ownsRow.frozenAt h0 1
      · have h0 : w.ownsRow B 2 1 (.slice (some ⟨gu, 0, none⟩) 2 cu) 2 [.int .i64 x, .int .i64 c] := hin
        obtain ⟨h1, h2⟩ := World.ownsRow.stored h0 1 (.int .i64 c')
        have h3 := hmk _ [x, c'] h1 h2
        rw [List.set_append_right _ _ (Nat.le_refl _), Nat.sub_self] at h3
        exact h3
set_option maxHeartbeats 4000000 in
set_option maxRecDepth 100000 in
theorem runs_s (a : Option Addr) (c : Nat) (xs : List Int) (w : World) (hn : xs.length ≤ 1048576) (hr : Row w a xs) :
    Calls Try.prog 45 #[.slice a xs.length c] w fun e w' => ∃ v vs, e = .returned v ∧ Own2 w' w.heap.size v vs (prs (runsP xs)) ∧ Below w.heap.size w w' := by
  have HC := Lib.hid hr
  have HS := Lib.hid (fun j hj => runs_step xs j hj)
  have HE := Lib.hid (show runsP (xs.take xs.length) = runsP xs by rw [List.take_length])
  have HL := Lib.hid (fun j => runsP_len xs j)
  have HPOS := Lib.hid (fun j r hr => runsP_cnt xs j r hr)
  clear hr
  unfold Row at HC
  generalize runsP xs = RS at *
  generalize hN : xs.length = N at *
  clear hN
  go_enter Try.func45, Try.ntmps45
  go_wp2
  go_loopw [3, 4] (fun v i wr => ∃ j : Nat, j ≤ N ∧ i = .int .i64 j ∧ ∃ vs, Hid (Own2 wr w.heap.size v vs (prs (runsP (xs.take j)))) ∧ Hid (Below w.heap.size w wr)) (fun _ i _ => N - (intOf i).toNat)
  case atStart => exact ⟨0, Nat.zero_le _, rfl, [], Own2.lit0 w, (Below.refl _ _).alloc (Nat.le_refl _) _⟩
  case round =>
    obtain ⟨j, hj, rfl, vs, ho, hb⟩ := hrel
    by_cases hlt : j < N
    · obtain ⟨b, off, rfl, hc, hbl⟩ := HC.out j hlt
      have hcj := (hb.out.cell (p := ⟨b, off + j, none⟩) hbl).trans hc
      clear hc
      have hlen := HL.out j
      obtain ⟨hnew, hsame⟩ := HS.out j hlt
      have HNEW := Lib.hid hnew
      have HSAME := Lib.hid hsame
      clear hnew hsame
      generalize hx : xs.getD j 0 = x at *
      clear hx
      by_cases hj0 : j = 0
      · subst hj0
        have e1 := Lib.hid (HNEW.out (.inl rfl))
        rw [Nat.add_zero] at hcj
        generalize runsP (xs.take 0) = rs at *
        clear HNEW HSAME
        go_wp2
        go_quiet (fail)
        rename_i nq
        have o3 := Own2.drewN ho.out nq
        have hcj3 : (wr.drewN nq).cell? ⟨b, off, none⟩ = some (.int .i64 x) := hcj
        have hb3 : Below w.heap.size w (wr.drewN nq) := below_drewN _ hb.out
        clear ho hcj hb
        generalize wr.drewN nq = w3 at *
        have hI := (Own.lit2 w3 x 0).mono (B' := w.heap.size) hb3.size
        have bI : Below w3.heap.size w3 (w3.alloc (.cells #[.int .i64 x, .int .i64 0] 2)) := (Below.refl _ _).alloc (Nat.le_refl _) _
        have ho5 := Own2.below o3 bI (Nat.le_refl _)
        obtain ⟨hf1, hf2⟩ := Own2.new (w' := w3) (g := w3.heap.size) (n := 2) (c := 2) o3 (Nat.le_refl _)
        have HB5 := Lib.hid (hb3.trans (bI.mono hb3.size))
        have hsz := HB5.out.size
        have hpl : (prs rs).length ≤ 1048576 := by rw [prs_length]; omega
        have HP := Lib.hid (prs_app rs [(x, 1)])
        generalize prs rs = l at *
        have hq : l.length + 1 ≤ 1000000000 := by omega
        clear o3 bI hb3
        go_wp2_with (at_builtin; refine wpList_app2 _ rfl _ _ rfl w.heap.size _ vs l _ [x, 0] ?_ ?_ ho5 hI hf1 hf2 hq hsz ?_; rfl; exact (show Value.slice (some ⟨w3.heap.size + 1, 0, none⟩) 1 1 = Value.slice (some ⟨(w3.alloc _).heap.size, 0, none⟩) 1 1 from by simp))
        intro v' w6 ho6 hb6
        obtain ⟨g, cap, gu, cu, rfl, hcl, hBu, hcc, hfz, hnx⟩ := Own2.last ho6
        have HN := Lib.hid (hnx 1)
        have HB6 := Lib.hid (HB5.out.trans hb6)
        clear hnx ho6 hb6 ho5 hI hf1 hf2
        generalize l.length = M at *
        go_wp2
        go_roundw
        case rel => exact ⟨0 + 1, by omega, rfl, _, (by rw [e1.out, HP.out]; exact HN.out), HB6.out.setCell (p := ⟨gu, _, none⟩) hBu _⟩
        case measure => simp [intOf]; omega
      · obtain ⟨b', off', eb, hcp, hbp⟩ := HC.out (j - 1) (by omega)
        injection eb with eb
        injection eb with eb1 eb2
        subst eb1 eb2
        have hcq := (hb.out.cell (p := ⟨b, off + (j - 1), none⟩) hbp).trans hcp
        clear hcp
        generalize hxp : xs.getD (j - 1) 0 = y at *
        clear hxp
        have hj1 : ¬ (j : Int) = 0 := by omega
        have hj2 : ((j : Int) == 0) = false := by simp; omega
        have e9 : IntKind.i64.wrap ((j : Int) - 1) = (j : Int) - 1 := IntWalk.i64_in _ (by omega)
        by_cases hxy : x = y
        · obtain ⟨rs, q, e1, e2⟩ := HSAME.out hj0 hxy
          rw [e1] at ho hlen
          have hq := HPOS.out j
          rw [e1] at hq
          have hq2 : q ≤ 1048576 := by have := hq (x, q) (by simp); omega
          subst hxy
          clear HNEW HSAME hq e1
          have hlen2 : rs.length + 1 ≤ j := by simpa using hlen
          go_wp2
          go_quiet (fail)
          rename_i nq
          have o3 := Own2.drewN ho.out nq
          have hb3 : Below w.heap.size w (wr.drewN nq) := below_drewN _ hb.out
          have E2 := Lib.hid e2
          clear ho hcj hb hcq e2 hlen
          generalize wr.drewN nq = w3 at *
          rw [prs_app] at o3
          have hpl : (prs rs).length ≤ 1048576 := by rw [prs_length]; omega
          have HP := Lib.hid (prs_app rs [(x, q + 1)])
          generalize prs rs = l at *
          obtain ⟨g, cap, gu, cu, hv, hcl, hBu, hcc, hfz, hnx⟩ := Own2.last (c := (q : Nat)) o3
          subst hv
          have HN := Lib.hid (hnx ((q : Int) + 1))
          have HB6 := Lib.hid hb3
          clear hnx o3 hb3
          generalize l.length = M at *
          go_wp2
          go_roundw
          case rel => exact ⟨j + 1, by omega, by go_num, _, (by rw [E2.out, HP.out]; exact HN.out), HB6.out.setCell (p := ⟨gu, _, none⟩) hBu _⟩
          case measure => simp [intOf]; omega
        · have e1 := Lib.hid (HNEW.out (.inr hxy))
          have hne : (x != y) = true := bne_iff_ne.2 hxy
          generalize runsP (xs.take j) = rs at *
          clear HNEW HSAME
          go_wp2
          go_quiet (fail)
          rename_i nq
          have o3 := Own2.drewN ho.out nq
          have hcj3 : (wr.drewN nq).cell? ⟨b, off + j, none⟩ = some (.int .i64 x) := hcj
          have hb3 : Below w.heap.size w (wr.drewN nq) := below_drewN _ hb.out
          clear ho hcj hb hcq
          generalize wr.drewN nq = w3 at *
          have hI := (Own.lit2 w3 x 0).mono (B' := w.heap.size) hb3.size
          have bI : Below w3.heap.size w3 (w3.alloc (.cells #[.int .i64 x, .int .i64 0] 2)) := (Below.refl _ _).alloc (Nat.le_refl _) _
          have ho5 := Own2.below o3 bI (Nat.le_refl _)
          obtain ⟨hf1, hf2⟩ := Own2.new (w' := w3) (g := w3.heap.size) (n := 2) (c := 2) o3 (Nat.le_refl _)
          have HB5 := Lib.hid (hb3.trans (bI.mono hb3.size))
          have hsz := HB5.out.size
          have hpl : (prs rs).length ≤ 1048576 := by rw [prs_length]; omega
          have HP := Lib.hid (prs_app rs [(x, 1)])
          generalize prs rs = l at *
          have hq : l.length + 1 ≤ 1000000000 := by omega
          clear o3 bI hb3
          go_wp2_with (at_builtin; refine wpList_app2 _ rfl _ _ rfl w.heap.size _ vs l _ [x, 0] ?_ ?_ ho5 hI hf1 hf2 hq hsz ?_; rfl; exact (show Value.slice (some ⟨w3.heap.size + 1, 0, none⟩) 1 1 = Value.slice (some ⟨(w3.alloc _).heap.size, 0, none⟩) 1 1 from by simp))
          intro v' w6 ho6 hb6
          obtain ⟨g, cap, gu, cu, rfl, hcl, hBu, hcc, hfz, hnx⟩ := Own2.last ho6
          have HN := Lib.hid (hnx 1)
          have HB6 := Lib.hid (HB5.out.trans hb6)
          clear hnx ho6 hb6 ho5 hI hf1 hf2
          generalize l.length = M at *
          go_wp2
          go_roundw
          case rel => exact ⟨j + 1, by omega, by go_num, _, (by rw [e1.out, HP.out]; exact HN.out), HB6.out.setCell (p := ⟨gu, _, none⟩) hBu _⟩
          case measure => simp [intOf]; omega
    · have e : j = N := by omega
      subst e
      go_wp2
      go_ret
      exact ⟨_, _, rfl, by rw [← HE.out]; exact ho.out, hb.out⟩
theorem runsof_s {v : Value} {B : Nat} {xs : List Int} {w : World} (h : Own w B v xs) (hn : xs.length ≤ 1048576) (hok : Ls.okL xs = true) :
    Calls Try.prog 20 #[v] w (Res2 (prs (runsP xs)) true w) := by
  have hU := Lib.hid (Ls.spec_own h hn)
  rw [hok] at hU
  obtain ⟨a, c, rfl, _, _, hr⟩ := h.rd
  have HRU := Lib.hid (runs_s a c xs w hn hr)
  clear hok hr h
  generalize prs (runsP xs) = RS at *
  generalize xs.length = N at *
  go_enter Try.func20, Try.ntmps20
  go_wp2_with (go_at_call 44; refine hU.out.mono ?_; rintro e w' ⟨rfl, rfl⟩)
  refine HRU.out.mono ?_
  rintro e w1 ⟨v1, vs, rfl, o1, b1⟩
  go_wp2
  go_ret2
  exact ⟨_, _, rfl, o1, b1⟩
theorem prs_sum (rs : List (Int × Nat)) : ((prs rs).map List.length).sum = 2 * rs.length := by
  induction rs with
  | nil => rfl
  | cons r rs ih => show 2 + ((prs rs).map List.length).sum = _; rw [ih, List.length_cons]; omega
end Go.Proofs.Ytonplmnopfmnmaa.Tr
