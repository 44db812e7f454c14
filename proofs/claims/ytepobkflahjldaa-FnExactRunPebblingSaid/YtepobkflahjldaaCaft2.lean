/- One move of a pebbling: pebbleGame.after. -/
import Derived.Test.YtepobkflahjldaaCaft
import Derived.Deep.CutRange
import Derived.Deep.CutBlock
import Derived.Test.YtepobkflahjldaaCinv
namespace Go.Proofs.Ytepobkflahjldaa.Pb
open Go.RowKit Pv
/-- The blocks of after, ahead of its last comparison: b is that of the sets behind the move. -/
structure AfB (Z b n : Nat) (p : Int) (g : Nat → Nat) (s0 o0 f s F S : Nat) (k x : Int) (w w' : World) : Prop where
  kg : Blk w' Z (gm n p g s0 o0) 58
  kp : Blk w' (Z + 1) [.int .u8 (f : Int), .int .u8 (s : Int)] 62
  km : Blk w' (Z + 1 + 1) [.int .i64 k, .int .i64 x] 52
  kr : Blk w' (Z + 1 + 1 + 1) [.int .u8 0, .int .u8 0] 62
  kb : Blk w' b [.int .u8 (F : Int), .int .u8 (S : Int)] 62
  bel : Below Z w w'
  far : Z + 4 ≤ b
theorem AfB.dr {Z b n : Nat} {p : Int} {g : Nat → Nat} {s0 o0 f s F S : Nat} {k x : Int} {w w' : World} (h : AfB Z b n p g s0 o0 f s F S k x w w') : AfB Z b n p g s0 o0 f s F S k x w w'.drew :=
  ⟨h.kg, h.kp, h.km, h.kr, h.kb, h.bel.drew, h.far⟩
theorem AfB.put {Z b n : Nat} {p : Int} {g : Nat → Nat} {s0 o0 f s F S F' S' : Nat} {k x : Int} {w w' w2 : World} (h : AfB Z b n p g s0 o0 f s F S k x w w') (hb : Blk w2 b [.int .u8 (F' : Int), .int .u8 (S' : Int)] 62) (hk : Keep b w' w2) (hw : Z ≤ w.heap.size) : AfB Z b n p g s0 o0 f s F' S' k x w w2 := by
  have := h.far
  exact ⟨hk.blk h.kg (by omega), hk.blk h.kp (by omega), hk.blk h.km (by omega), hk.blk h.kr (by omega), hb, h.bel.trans (hk.below (by omega)), h.far⟩
def AftP (Z : Nat) (F S : Nat) (ok : Bool) (w : World) (e : Ending) (w' : World) : Prop := e = .returned (.tuple #[.agg #[.int .u8 (F : Int), .int .u8 (S : Int)], .bool ok]) ∧ Below w.heap.size w w'
theorem undP : ∃ d, Try.prog.underlying 62 = some d ∧ d.isRow = true := by
  cases h : Try.prog.underlying 62 with
  | none => exact absurd h (by decide +kernel)
  | some d =>
    refine ⟨d, rfl, ?_⟩
    have e : (Try.prog.underlying 62).map (fun d => d.isRow) = some true := by kernel_rfl
    rw [h] at e
    simpa using e
theorem isp2 : (Try.prog.info? 62).map (·.size) = some 2 := by kernel_rfl
theorem one_pb (a b : Nat) : ∀ v ∈ [Value.int .u8 (a : Int), .int .u8 (b : Int)], v.oneCell' = true := by
  intro v hv
  simp only [List.mem_cons, List.not_mem_nil, or_false] at hv
  rcases hv with rfl | rfl <;> rfl
def AF (bs : List (List Int)) (f s : Nat) (k x : Int) : Nat × Nat := if isN bs x then nx bs f s k x.toNat else (0, 0)
set_option maxHeartbeats 8000000 in
set_option maxRecDepth 100000 in
theorem after_i (bs : List (List Int)) (h6 : bs.length ≤ 6) (hnl : ∀ i, i < bs.length → nd bs i < 64) (p : Int) (o0 : Nat) (f s : Nat) (hf : f < 64) (hs : s < 64) (k x : Int) (w : World) :
    Calls Try.prog 47 #[.agg (gm bs.length p (ndF bs bs.length) (src bs bs.length) o0).toArray, .agg #[.int .u8 (f : Int), .int .u8 (s : Int)], .agg #[.int .i64 k, .int .i64 x]] w (AftP w.heap.size (AF bs f s k x).1 (AF bs f s k x).2 (okA bs p f s k x) w) := by
  have HI := Lib.hid (fun w9 => isn_i bs.length p x (ndF bs bs.length) (src bs bs.length) o0 h6 w9)
  have HFT := Lib.hid (fun F S hF w9 => fits_i bs.length p (ndF bs bs.length) (src bs bs.length) o0 F S hF w9)
  have hsl := src_lt bs bs.length h6
  have hz1 : (w.alloc (.cells (gm bs.length p (ndF bs bs.length) (src bs bs.length) o0).toArray 58)).heap.size = w.heap.size + 1 := Array.size_push _
  have hz2 : ((w.alloc (.cells (gm bs.length p (ndF bs bs.length) (src bs bs.length) o0).toArray 58)).alloc (.cells #[.int .u8 (f : Int), .int .u8 (s : Int)] 62)).heap.size = w.heap.size + 1 + 1 := (Array.size_push _).trans (by rw [hz1])
  have hz3 : (((w.alloc (.cells (gm bs.length p (ndF bs bs.length) (src bs bs.length) o0).toArray 58)).alloc (.cells #[.int .u8 (f : Int), .int .u8 (s : Int)] 62)).alloc (.cells #[.int .i64 k, .int .i64 x] 52)).heap.size = w.heap.size + 1 + 1 + 1 := (Array.size_push _).trans (by rw [hz2])
  have hz4 : ((((w.alloc (.cells (gm bs.length p (ndF bs bs.length) (src bs bs.length) o0).toArray 58)).alloc (.cells #[.int .u8 (f : Int), .int .u8 (s : Int)] 62)).alloc (.cells #[.int .i64 k, .int .i64 x] 52)).alloc (.cells #[.int .u8 0, .int .u8 0] 62)).heap.size = w.heap.size + 4 := (Array.size_push _).trans (by rw [hz3])
  have y0 := (((Blk.newAt w w.heap.size (gm bs.length p (ndF bs bs.length) (src bs bs.length) o0) 58 rfl).alloc (.cells #[.int .u8 (f : Int), .int .u8 (s : Int)] 62)).alloc (.cells #[.int .i64 k, .int .i64 x] 52)).alloc (.cells #[.int .u8 0, .int .u8 0] 62)
  have y1 := ((Blk.newAt (w.alloc (.cells (gm bs.length p (ndF bs bs.length) (src bs bs.length) o0).toArray 58)) (w.heap.size + 1) [.int .u8 (f : Int), .int .u8 (s : Int)] 62 hz1.symm).alloc (.cells #[.int .i64 k, .int .i64 x] 52)).alloc (.cells #[.int .u8 0, .int .u8 0] 62)
  have y2 := (Blk.newAt ((w.alloc (.cells (gm bs.length p (ndF bs bs.length) (src bs bs.length) o0).toArray 58)).alloc (.cells #[.int .u8 (f : Int), .int .u8 (s : Int)] 62)) (w.heap.size + 1 + 1) [.int .i64 k, .int .i64 x] 52 hz2.symm).alloc (.cells #[.int .u8 0, .int .u8 0] 62)
  have y3 := Blk.newAt (((w.alloc (.cells (gm bs.length p (ndF bs bs.length) (src bs bs.length) o0).toArray 58)).alloc (.cells #[.int .u8 (f : Int), .int .u8 (s : Int)] 62)).alloc (.cells #[.int .i64 k, .int .i64 x] 52)) (w.heap.size + 1 + 1 + 1) [.int .u8 0, .int .u8 0] 62 hz3.symm
  have b0 : Below w.heap.size w ((((w.alloc (.cells (gm bs.length p (ndF bs bs.length) (src bs bs.length) o0).toArray 58)).alloc (.cells #[.int .u8 (f : Int), .int .u8 (s : Int)] 62)).alloc (.cells #[.int .i64 k, .int .i64 x] 52)).alloc (.cells #[.int .u8 0, .int .u8 0] 62)) :=
    (((((Below.refl _ w).alloc (Nat.le_refl _) _).alloc (by omega) _).alloc (by omega) _).alloc (by omega) _)
  have HY := Lib.hid (And.intro (And.intro y0 (And.intro y1 (And.intro y2 y3))) (And.intro b0 hz4))
  clear y0 y1 y2 y3 b0 hz1 hz2 hz3 hz4
  have HW : ∃ W, W = ((((w.alloc (.cells (gm bs.length p (ndF bs bs.length) (src bs bs.length) o0).toArray 58)).alloc (.cells #[.int .u8 (f : Int), .int .u8 (s : Int)] 62)).alloc (.cells #[.int .i64 k, .int .i64 x] 52)).alloc (.cells #[.int .u8 0, .int .u8 0] 62)) := ⟨_, rfl⟩
  obtain ⟨W, hW⟩ := HW
  rw [← hW] at HY
  have HWW := Lib.hid hW
  clear hW
  have hlw : w.heap.size < W.heap.size := by have := HY.out.2.2; omega
  have gms : ∀ n p g s0 o0, (gm n p g s0 o0).toArray = #[.int .i64 (n : Nat), .int .i64 p, .int .u8 (g 0 : Nat), .int .u8 (g 1 : Nat), .int .u8 (g 2 : Nat), .int .u8 (g 3 : Nat), .int .u8 (g 4 : Nat), .int .u8 (g 5 : Nat), .int .u8 (s0 : Nat), .int .u8 (o0 : Nat)] := fun _ _ _ _ _ => rfl
  rw [gms] at HWW HI
  rw [gms]
  have HG0 : Hid (ndF bs bs.length 0 = ndF bs bs.length 0) := rfl
  have HG1 : Hid (ndF bs bs.length 1 = ndF bs bs.length 1) := rfl
  have HG2 : Hid (ndF bs bs.length 2 = ndF bs bs.length 2) := rfl
  have HG3 : Hid (ndF bs bs.length 3 = ndF bs bs.length 3) := rfl
  have HG4 : Hid (ndF bs bs.length 4 = ndF bs bs.length 4) := rfl
  have HG5 : Hid (ndF bs bs.length 5 = ndF bs bs.length 5) := rfl
  obtain ⟨dP, huP, hdP⟩ := undP
  have HLP := Lib.hid (fun (w' : World) (b : Nat) (cs : List Value) (h : Blk w' b cs 62) (hc : cs.length = 2) => Blk.loadVar h 62 dP huP hdP (by rw [hc]; exact isp2))
  clear huP hdP
  cases hin : isN bs x
  · have eA : AF bs f s k x = (0, 0) := by unfold AF; rw [hin]; rfl
    rw [eA, okA_no hin]
    have hin' : (decide (0 ≤ x) && decide (x < (bs.length : Int))) = false := hin
    rw [hin'] at HI
    clear eA hin hin' HFT
    go_enter Try.func47, Try.ntmps47
    go_wp2_with fail
    rw [← HWW.out]
    go_wp2_with (first | (go_at_call 43; (with_reducible refine (HI.out _).mono ?_); rintro e w1 ⟨rfl, b1⟩; have k3 := Lib.hid (HY.out.1.2.2.2.below b1 HY.out.1.2.2.2.lt); have B1 := Lib.hid (bt HY.out.2.1 b1); clear b1) | (with_reducible refine wpList_storeB rfl 62 (.tmp 6) (.tmp 16) rfl (w.heap.size + 1 + 1 + 1) 0 [.int .u8 ((0 : Nat) : Int), .int .u8 ((0 : Nat) : Int)] ?_ ?_ [.int .u8 0, .int .u8 0] 62 ?_ ?_ ?_ ?_ ?_))
    · rfl
    · rfl
    · exact k3.out
    · exact Nat.le_refl _
    · kernel_rfl
    · exact one_pb 0 0
    intro w8 k8 q8
    rw [splice_all _ _ (by rfl)] at k8
    go_wp2
    refine bodyPost_ret (results2 (a := 6) (k := 7) (t := 62) (p := ⟨w.heap.size + 1 + 1 + 1, 0, none⟩) (by kernel_rfl) rfl (HLP.out _ _ _ k8.out rfl) rfl) rfl ⟨rfl, ?_⟩
    exact B1.out.trans (q8.out.below (by omega))
  · obtain ⟨i, rfl, hil⟩ := isN_at hin
    have hin' : (decide (0 ≤ (i : Int)) && decide ((i : Int) < (bs.length : Int))) = true := hin
    have eA : AF bs f s k (i : Int) = nx bs f s k i := by unfold AF; rw [hin]; rfl
    rw [eA, okA_yes hil]
    rw [hin'] at HI
    have hi6 : i < 6 := by omega
    have hi6' : (i : Int) < 6 := by omega
    have hnd := hnl i hil
    have hnx := nx_lt bs f s k i hf hs hi6
    obtain ⟨q, hq⟩ : ∃ q, q = 2 ^ i := ⟨_, rfl⟩
    have hq64 : q < 64 := by rw [hq]; exact pow_lt i hi6
    have HM := Lib.hid (fun w9 => (show Calls Try.prog 44 #[.int .i64 (i : Int)] w9 (fun e w' => e = .returned (.int .u8 (q : Int)) ∧ w9 = w') from by rw [hq]; exact mask_i i hi6 w9))
    have HQ := Lib.hid hq
    clear hq
    have hgi : (gm bs.length p (ndF bs bs.length) (src bs bs.length) o0)[2 + i]? = some (.int .u8 ((nd bs i : Nat) : Int)) := by rw [gm_f _ _ _ _ _ i hi6]; unfold ndF; rw [if_pos hil]
    have HOK := Lib.hid (show okM bs p f s k i = (decide (nx bs f s k i ≠ (f, s)) && decide ((cnt (nx bs f s k i).1 : Int) ≤ p)) from rfl)
    clear eA hin hin' hnl
    go_enter Try.func47, Try.ntmps47
    go_wp2_with fail
    rw [← HWW.out]
    clear HWW
    have HC1 := Lib.hid (fun (w1 : World) (b1 : Below W.heap.size W w1) => (show (w1.cell? ⟨w.heap.size, 8, none⟩ = some (.int .u8 ((src bs bs.length : Nat) : Int)) ∧ w1.cell? ⟨w.heap.size, 2 + i, none⟩ = some (.int .u8 ((nd bs i : Nat) : Int)) ∧ w1.cell? ⟨w.heap.size + 1, 0, none⟩ = some (.int .u8 (f : Int)) ∧ w1.cell? ⟨w.heap.size + 1, 1, none⟩ = some (.int .u8 (s : Int)) ∧ w1.cell? ⟨w.heap.size + 1 + 1, 0, none⟩ = some (.int .i64 k) ∧ w1.cell? ⟨w.heap.size + 1 + 1, 1, none⟩ = some (.int .i64 (i : Int))) ∧
        Hid (AfB w.heap.size w1.heap.size bs.length p (ndF bs bs.length) (src bs bs.length) o0 f s f s k (i : Int) w (w1.alloc (.cells #[.int .u8 (f : Int), .int .u8 (s : Int)] 62))) from by
      obtain ⟨⟨y0, y1, y2, y3⟩, b0, hz⟩ := HY.out
      have z0 := y0.below b1 y0.lt
      have z1 := y1.below b1 y1.lt
      have z2 := y2.below b1 y2.lt
      have z3 := y3.below b1 y3.lt
      have s1 := b1.size
      exact ⟨⟨z0.cell 8, (z0.cell _).trans hgi, z1.cell 0, z1.cell 1, z2.cell 0, z2.cell 1⟩, Lib.hid ⟨z0.alloc _, z1.alloc _, z2.alloc _, z3.alloc _, Blk.newAt _ _ _ _ rfl, (bt b0 b1).alloc (by omega) _, by omega⟩⟩))
    go_wp2_with (first | (go_at_call 43; (with_reducible refine (HI.out _).mono ?_); rintro e w1 ⟨rfl, b1⟩; obtain ⟨⟨c8, cn, cf, cs, ck, cx⟩, HA⟩ := HC1.out w1 b1; clear b1))
    clear HC1 HI hgi
    have HAd := Lib.hid HA.out.dr
    go_cut [8, 9] from 17 to 24 (fun a8 a9 wx => a8 = .int .u8 (q : Int) ∧ a9 = .int .u8 ((nd bs i : Nat) : Int) ∧ wx = w1.drew)
    case first =>
      go_region_law (go_simp; go_at_call 44; (with_reducible refine (HM.out _).mono ?_); rintro e w9 ⟨rfl, rfl⟩)
      all_goals
        go_wp2_with fail
        go_meet
        exact ⟨rfl, rfl, rfl⟩
    case rest =>
      obtain ⟨rfl, rfl, rfl⟩ := hcut
      go_upto_region 5 with fail
      clear c8 cn cf cs ck cx HA HY
      generalize hB : w1.heap.size = B at *
      clear hB
      generalize (w1.alloc (.cells #[.int .u8 (f : Int), .int .u8 (s : Int)] 62)).drew = w3 at *
      have c_f : w3.cell? ⟨w.heap.size + 1, 0, none⟩ = some (.int .u8 (f : Int)) := HAd.out.kp.cell 0
      have c_s : w3.cell? ⟨w.heap.size + 1, 1, none⟩ = some (.int .u8 (s : Int)) := HAd.out.kp.cell 1
      have c_k : w3.cell? ⟨w.heap.size + 1 + 1, 0, none⟩ = some (.int .i64 k) := HAd.out.km.cell 0
      have c_8 : w3.cell? ⟨w.heap.size, 8, none⟩ = some (.int .u8 ((src bs bs.length : Nat) : Int)) := HAd.out.kg.cell 8
      have b_0 : w3.cell? ⟨B, 0, none⟩ = some (.int .u8 (f : Int)) := HAd.out.kb.cell 0
      have b_1 : w3.cell? ⟨B, 1, none⟩ = some (.int .u8 (s : Int)) := HAd.out.kb.cell 1
      have fr0 := HAd.out.kb.froz 0
      have fr1 := HAd.out.kb.froz 1
      go_upto_block 0 with fail
      go_cut [10] from 28 to 73 (fun pb wx => pb = .pointer (some ⟨B, 0, none⟩) ∧ Hid (AfB w.heap.size B bs.length p (ndF bs bs.length) (src bs bs.length) o0 f s (nx bs f s k i).1 (nx bs f s k i).2 k (i : Int) w wx))
      case first =>
        clear HFT HLP HM HOK
        have hwZ : w.heap.size ≤ w.heap.size := Nat.le_refl _
        have hnxk := fun (h : k ≠ 0) => h
        by_cases k0 : k = 0
        · subst k0
          have ha := and8 s q hs hq64
          have ho := or8 f (s &&& q) hf (and_lt _ _ hs)
          have HN : Hid (nx bs f s 0 i = (f ||| (s &&& q), s)) := by show _ = _; rw [nx0, HQ.out]
          have HE : Hid (AfB w.heap.size B bs.length p (ndF bs bs.length) (src bs bs.length) o0 f s (f ||| (s &&& q)) s 0 (i : Int) w (w3.setCell ⟨B, 0, none⟩ (.int .u8 ((f ||| (s &&& q) : Nat) : Int)))) := HAd.out.put (blk1 HAd.out.kb 0 _ (by simp)) (keep1 _ _ _ _) hwZ
          generalize f ||| (s &&& q) = r2 at *
          generalize s &&& q = r1 at *
          go_wp2
          go_meet
          exact ⟨rfl, by rw [HN.out]; exact HE⟩
        by_cases k1 : k = 1
        · subst k1
          have ha := and8 f q hf hq64
          have ho := or8 s (f &&& q) hs (and_lt _ _ hf)
          have HN : Hid (nx bs f s 1 i = (f, s ||| (f &&& q))) := by show _ = _; rw [nx1, HQ.out]
          have HE : Hid (AfB w.heap.size B bs.length p (ndF bs bs.length) (src bs bs.length) o0 f s f (s ||| (f &&& q)) 1 (i : Int) w (w3.setCell ⟨B, 1, none⟩ (.int .u8 ((s ||| (f &&& q) : Nat) : Int)))) := HAd.out.put (blk1 HAd.out.kb 1 _ (by simp)) (keep1 _ _ _ _) hwZ
          generalize s ||| (f &&& q) = r2 at *
          generalize f &&& q = r1 at *
          go_wp2
          go_meet
          exact ⟨rfl, by rw [HN.out]; exact HE⟩
        by_cases k2 : k = 2
        · subst k2
          have ha := and8 (src bs bs.length) q hsl hq64
          have hb := adn8 (nd bs i) f hnd hf
          have ho := or8 f q hf hq64
          have HN : Hid (nx bs f s 2 i = if (src bs bs.length &&& q) = 0 ∧ adn (nd bs i) f = 0 then (f ||| q, s) else (f, s)) := by
            show _ = _
            unfold nx
            rw [if_neg (by omega), if_neg (by omega), if_pos rfl, HQ.out]
          have HE : Hid (AfB w.heap.size B bs.length p (ndF bs bs.length) (src bs bs.length) o0 f s (f ||| q) s 2 (i : Int) w (w3.setCell ⟨B, 0, none⟩ (.int .u8 ((f ||| q : Nat) : Int)))) := HAd.out.put (blk1 HAd.out.kb 0 _ (by simp)) (keep1 _ _ _ _) hwZ
          generalize f ||| q = r3 at *
          generalize (src bs bs.length &&& q) = z1 at *
          generalize adn (nd bs i) f = z2 at *
          by_cases h1 : z1 = 0
          · have d1 : ((z1 : Int) == 0) = true := by subst h1; rfl
            by_cases h2 : z2 = 0
            · have d2 : ((z2 : Int) == 0) = true := by subst h2; rfl
              have HP := Lib.hid (And.intro h1 h2)
              clear h1 h2
              go_wp2
              go_meet
              exact ⟨rfl, by rw [HN.out, if_pos HP.out]; exact HE⟩
            · have d2 : ((z2 : Int) == 0) = false := by simp; omega
              have HP : Hid (¬ (z1 = 0 ∧ z2 = 0)) := fun h => h2 h.2
              clear h1 h2
              go_wp2
              go_meet
              exact ⟨rfl, by rw [HN.out, if_neg HP.out]; exact HAd⟩
          · have d1 : ((z1 : Int) == 0) = false := by simp; omega
            have HP : Hid (¬ (z1 = 0 ∧ z2 = 0)) := fun h => h1 h.1
            clear h1
            go_wp2
            go_meet
            exact ⟨rfl, by rw [HN.out, if_neg HP.out]; exact HAd⟩
        by_cases k3 : k = 3
        · subst k3
          have ha := adn8 f q hf hq64
          have HN : Hid (nx bs f s 3 i = (adn f q, s)) := by show _ = _; rw [nx3, HQ.out]
          have HE : Hid (AfB w.heap.size B bs.length p (ndF bs bs.length) (src bs bs.length) o0 f s (adn f q) s 3 (i : Int) w (w3.setCell ⟨B, 0, none⟩ (.int .u8 ((adn f q : Nat) : Int)))) := HAd.out.put (blk1 HAd.out.kb 0 _ (by simp)) (keep1 _ _ _ _) hwZ
          generalize adn f q = r2 at *
          go_wp2
          go_meet
          exact ⟨rfl, by rw [HN.out]; exact HE⟩
        · have e0 : (k == 0) = false := by simp [k0]
          have e1 : (k == 1) = false := by simp [k1]
          have e2 : (k == 2) = false := by simp [k2]
          have e3 : (k == 3) = false := by simp [k3]
          have HN : Hid (nx bs f s k i = (f, s)) := by
            show _ = _
            unfold nx
            rw [if_neg k0, if_neg k1, if_neg k2, if_neg k3]
          clear k0 k1 k2 k3
          go_wp2
          go_meet
          exact ⟨rfl, by rw [HN.out]; exact HAd⟩
      case rest =>
        obtain ⟨rfl, HA⟩ := hcut
        go_upto_region 15 with fail
        clear c_f c_s c_k c_8 b_0 b_1 fr0 fr1 HAd HM HQ hnd hq64 hsl hi6 hi6' hil h6 hlw
        generalize nx bs f s k i = N at *
        obtain ⟨F, S⟩ := N
        have hFl : F < 64 := hnx.1
        have HFF := Lib.hid (fun w9 => HFT.out F S hFl w9)
        have RWd : ∃ RW : World → Bool → World → Prop, RW = fun w0 d w9 => Blk w9 w.heap.size (gm bs.length p (ndF bs bs.length) (src bs bs.length) o0) 58 ∧ Blk w9 (w.heap.size + 1) [.int .u8 (f : Int), .int .u8 (s : Int)] 62 ∧ Blk w9 B [.int .u8 (F : Int), .int .u8 (S : Int)] 62 ∧ Blk w9 (w.heap.size + 1 + 1 + 1) (if d then [.int .u8 (F : Int), .int .u8 (S : Int)] else [.int .u8 0, .int .u8 0]) 62 ∧ Below w0.heap.size w0 w9 := ⟨_, rfl⟩
        obtain ⟨RW, hRW⟩ := RWd
        have hfar := HA.out.far
        have HR0 : Hid (RW w false wc.drew) := by rw [hRW]; exact ⟨HA.out.kg, HA.out.kp, HA.out.kb, HA.out.kr, HA.out.bel.drew⟩
        have HRW := Lib.hid (fun (d : Bool) (w9 : World) (h : RW w d w9) => (show (w9.cell? ⟨w.heap.size, 0, none⟩ = some (.int .i64 ((bs.length : Nat) : Int)) ∧ w9.cell? ⟨w.heap.size, 1, none⟩ = some (.int .i64 p) ∧ w9.cell? ⟨w.heap.size, 2, none⟩ = some (.int .u8 ((ndF bs bs.length 0 : Nat) : Int)) ∧ w9.cell? ⟨w.heap.size, 3, none⟩ = some (.int .u8 ((ndF bs bs.length 1 : Nat) : Int)) ∧ w9.cell? ⟨w.heap.size, 4, none⟩ = some (.int .u8 ((ndF bs bs.length 2 : Nat) : Int)) ∧ w9.cell? ⟨w.heap.size, 5, none⟩ = some (.int .u8 ((ndF bs bs.length 3 : Nat) : Int)) ∧ w9.cell? ⟨w.heap.size, 6, none⟩ = some (.int .u8 ((ndF bs bs.length 4 : Nat) : Int)) ∧ w9.cell? ⟨w.heap.size, 7, none⟩ = some (.int .u8 ((ndF bs bs.length 5 : Nat) : Int)) ∧ w9.cell? ⟨w.heap.size, 8, none⟩ = some (.int .u8 ((src bs bs.length : Nat) : Int)) ∧ w9.cell? ⟨w.heap.size, 9, none⟩ = some (.int .u8 (o0 : Int)) ∧ w9.cell? ⟨w.heap.size + 1, 0, none⟩ = some (.int .u8 (f : Int)) ∧ w9.cell? ⟨w.heap.size + 1, 1, none⟩ = some (.int .u8 (s : Int)) ∧ w9.cell? ⟨B, 0, none⟩ = some (.int .u8 (F : Int)) ∧ w9.cell? ⟨B, 1, none⟩ = some (.int .u8 (S : Int)) ∧ w9.frozen? ⟨B, 0, none⟩ = false ∧ w9.frozen? ⟨B, 1, none⟩ = false) from by
          rw [hRW] at h
          exact ⟨h.1.cell 0, h.1.cell 1, h.1.cell 2, h.1.cell 3, h.1.cell 4, h.1.cell 5, h.1.cell 6, h.1.cell 7, h.1.cell 8, h.1.cell 9, h.2.1.cell 0, h.2.1.cell 1, h.2.2.1.cell 0, h.2.2.1.cell 1, h.2.2.1.froz 0, h.2.2.1.froz 1⟩))
        have HRB := Lib.hid (fun (d : Bool) (w9 w8 : World) (h : RW w d w9) (bb : Below w9.heap.size w9 w8) => (show Hid (RW w d w8) from by
          rw [hRW] at h ⊢
          have h5 := h.2.2.2.2.size
          have hlt := h.1.lt
          exact ⟨h.1.below bb h.1.lt, h.2.1.below bb h.2.1.lt, h.2.2.1.below bb h.2.2.1.lt, h.2.2.2.1.below bb h.2.2.2.1.lt, h.2.2.2.2.trans (bb.mono h5)⟩))
        have HRZ := Lib.hid (fun (w9 : World) (h : RW w false w9) => (show w9.cell? ⟨w.heap.size + 1 + 1 + 1, 0, none⟩ = some (.int .u8 0) ∧ w9.cell? ⟨w.heap.size + 1 + 1 + 1, 1, none⟩ = some (.int .u8 0) ∧ w9.frozen? ⟨w.heap.size + 1 + 1 + 1, 0, none⟩ = false ∧ w9.frozen? ⟨w.heap.size + 1 + 1 + 1, 1, none⟩ = false ∧
            Hid (RW w true ((w9.setCell ⟨w.heap.size + 1 + 1 + 1, 0, none⟩ (.int .u8 (F : Int))).setCell ⟨w.heap.size + 1 + 1 + 1, 1, none⟩ (.int .u8 (S : Int)))) from by
          rw [hRW] at h ⊢
          have kk := Keep.trans' (keep1 (w.heap.size + 1 + 1 + 1) 0 (.int .u8 (F : Int)) w9) (keep1 (w.heap.size + 1 + 1 + 1) 1 (.int .u8 (S : Int)) _)
          exact ⟨h.2.2.2.1.cell 0, h.2.2.2.1.cell 1, h.2.2.2.1.froz 0, h.2.2.2.1.froz 1, kk.blk h.1 (by omega), kk.blk h.2.1 (by omega), kk.blk h.2.2.1 (by omega), blk1 (blk1 h.2.2.2.1 0 _ (by simp)) 1 _ (by simp), h.2.2.2.2.trans (kk.below (by omega))⟩))
        have HRE := Lib.hid (fun (w9 : World) (h : RW w true w9) => (show Blk w9 (w.heap.size + 1 + 1 + 1) [.int .u8 (F : Int), .int .u8 (S : Int)] 62 ∧ Below w.heap.size w w9 from by
          rw [hRW] at h
          exact ⟨h.2.2.2.1, h.2.2.2.2⟩))
        clear hRW hfar
        clear HFT hnx
        have hEq := eqU F S f s
        have hgt := guardU
        unfold gm at HFF
        by_cases hne : (F, S) = (f, s)
        · have hq' : ∀ w9, (Op.equalIn 10000 62 (.agg #[.int .u8 (F : Int), .int .u8 (S : Int)]) (.agg #[.int .u8 (f : Int), .int .u8 (s : Int)])).run Try.prog w9 = .ok true w9 := fun w9 => by rw [hEq w9, decide_eq_true hne]
          have hok : okM bs p f s k i = false := by
            have h := HOK.out
            rw [h]
            have : decide ((F, S) ≠ (f, s)) = false := by simp [hne]
            rw [this]; rfl
          have HKK := Lib.hid hok
          clear hok HOK hne hEq HFF HA
          refine wp_region_inv (by kernel_rfl) (fun listed a w9 => ∃ (b0 b1 b2 b3 b4 b5 b6 b7 b8 b9 b10 : Bool) (v7 v74 v75 v76 v77 v78 v79 v80 v81 v82 : Value), listed = #[b0, b1, b2, b3, b4, b5, b6, b7, b8, b9, b10] ∧ a = ({ tmps := #[.agg #[.int .i64 ((bs.length : Nat) : Int), .int .i64 p, .int .u8 ((ndF bs bs.length 0 : Nat) : Int), .int .u8 ((ndF bs bs.length 1 : Nat) : Int), .int .u8 ((ndF bs bs.length 2 : Nat) : Int), .int .u8 ((ndF bs bs.length 3 : Nat) : Int), .int .u8 ((ndF bs bs.length 4 : Nat) : Int), .int .u8 ((ndF bs bs.length 5 : Nat) : Int), .int .u8 ((src bs bs.length : Nat) : Int), .int .u8 (o0 : Int)], .agg #[.int .u8 (f : Int), .int .u8 (s : Int)], .agg #[.int .i64 k, .int .i64 (i : Int)], .pointer (some ⟨w.heap.size, 0, none⟩), .pointer (some ⟨w.heap.size + 1, 0, none⟩), .pointer (some ⟨w.heap.size + 1 + 1, 0, none⟩), .pointer (some ⟨w.heap.size + 1 + 1 + 1, 0, none⟩), v7, .int .u8 (q : Int), .int .u8 ((nd bs i : Nat) : Int), .pointer (some ⟨B, 0, none⟩), .agg #[.int .i64 ((bs.length : Nat) : Int), .int .i64 p, .int .u8 ((ndF bs bs.length 0 : Nat) : Int), .int .u8 ((ndF bs bs.length 1 : Nat) : Int), .int .u8 ((ndF bs bs.length 2 : Nat) : Int), .int .u8 ((ndF bs bs.length 3 : Nat) : Int), .int .u8 ((ndF bs bs.length 4 : Nat) : Int), .int .u8 ((ndF bs bs.length 5 : Nat) : Int), .int .u8 ((src bs bs.length : Nat) : Int), .int .u8 (o0 : Int)], .pointer (some ⟨w.heap.size + 1 + 1, 1, none⟩), .int .i64 (i : Int), .bool true, .bool false, undef, u17, u18, u19, u20, u21, u22, u23, u24, .agg #[.int .u8 (f : Int), .int .u8 (s : Int)], .pointer (some ⟨w.heap.size + 1 + 1, 0, none⟩), .int .i64 k, u28, u29, u30, u31, u32, u33, u34, u35, u36, u37, u38, u39, u40, u41, u42, u43, u44, u45, u46, u47, u48, u49, u50, u51, u52, u53, u54, u55, u56, u57, u58, u59, u60, u61, u62, u63, u64, u65, u66, u67, u68, u69, u70, u71, u72, u73, v74, v75, v76, v77, v78, v79, v80, v81, v82], defers := [] } : Act) ∧ Hid (RW w b9 w9) ∧ Hid ((b0 = true → v74 = .agg #[.int .u8 (F : Int), .int .u8 (S : Int)]) ∧ (b1 = true → v75 = .agg #[.int .u8 (F : Int), .int .u8 (S : Int)]) ∧ (b2 = true → v76 = .agg #[.int .u8 (f : Int), .int .u8 (s : Int)]) ∧ (b3 = true → v77 = .bool false) ∧ (b4 = true → v78 = .bool false) ∧ (b8 = true → v82 = .bool false) ∧ (b10 = true → v7 = .bool false))) ?_ ?_ ?_
          · exact ⟨false, false, false, false, false, false, false, false, false, false, false, .bool false, undef, undef, undef, undef, undef, undef, undef, undef, undef, rfl, rfl, HR0, ⟨(fun h => by cases h), (fun h => by cases h), (fun h => by cases h), (fun h => by cases h), (fun h => by cases h), (fun h => by cases h), (fun h => by cases h)⟩⟩
          · rintro listed a w1 ⟨b0, b1, b2, b3, b4, b5, b6, b7, b8, b9, b10, v7, v74, v75, v76, v77, v78, v79, v80, v81, v82, rfl, rfl, hR, hX⟩ i9 hi
            have hlt : i9 < 11 := by
              unfold Region.ready at hi
              rw [List.mem_filter] at hi
              exact List.mem_range.1 hi.1
            obtain ⟨x0, x1, x2, x3, x4, x8, x10⟩ := hX.out
            obtain ⟨c0, c1, c2, c3, c4, c5, c6, c7, c8, c9, p0, p1, n0, n1, r0, r1⟩ := HRW.out b9 w1 hR.out
            rcases (show i9 = 0 ∨ i9 = 1 ∨ i9 = 2 ∨ i9 = 3 ∨ i9 = 4 ∨ i9 = 5 ∨ i9 = 6 ∨ i9 = 7 ∨ i9 = 8 ∨ i9 = 9 ∨ i9 = 10 by omega) with rfl | rfl | rfl | rfl | rfl | rfl | rfl | rfl | rfl | rfl | rfl
            · have hb : b0 = false := by
                unfold Region.ready at hi
                rw [List.mem_filter] at hi
                have h9 := hi.2
                simp [Region.binds] at h9
                simp_all
              refine wpOp_step rfl fun K' hK' => ?_
              rw [if_pos (by simp [Region.wanted])]
              unfold Oper.wp
              simp only [execOp]
              go_simp
              refine hK' _ _ ⟨true, b1, b2, b3, b4, b5, b6, b7, b8, b9, b10, v7, _, v75, v76, v77, v78, v79, v80, v81, v82, rfl, rfl, hR, ⟨(fun _ => rfl), x1, x2, x3, x4, x8, x10⟩⟩
            · have hb : b1 = false := by
                unfold Region.ready at hi
                rw [List.mem_filter] at hi
                have h9 := hi.2
                simp [Region.binds] at h9
                simp_all
              refine wpOp_step rfl fun K' hK' => ?_
              rw [if_pos (by simp [Region.wanted])]
              unfold Oper.wp
              simp only [execOp]
              go_simp
              refine hK' _ _ ⟨b0, true, b2, b3, b4, b5, b6, b7, b8, b9, b10, v7, v74, _, v76, v77, v78, v79, v80, v81, v82, rfl, rfl, hR, ⟨x0, (fun _ => rfl), x2, x3, x4, x8, x10⟩⟩
            · have hb : b2 = false := by
                unfold Region.ready at hi
                rw [List.mem_filter] at hi
                have h9 := hi.2
                simp [Region.binds] at h9
                simp_all
              refine wpOp_step rfl fun K' hK' => ?_
              rw [if_pos (by simp [Region.wanted])]
              unfold Oper.wp
              simp only [execOp]
              go_simp
              refine hK' _ _ ⟨b0, b1, true, b3, b4, b5, b6, b7, b8, b9, b10, v7, v74, v75, _, v77, v78, v79, v80, v81, v82, rfl, rfl, hR, ⟨x0, x1, (fun _ => rfl), x3, x4, x8, x10⟩⟩
            · have hb : b3 = false := by
                unfold Region.ready at hi
                rw [List.mem_filter] at hi
                have h9 := hi.2
                simp [Region.binds] at h9
                simp_all
              have hd1 : b1 = true := by
                unfold Region.ready at hi
                rw [List.mem_filter] at hi
                have h9 := hi.2
                simp [Region.binds] at h9
                simp_all
              have hd2 : b2 = true := by
                unfold Region.ready at hi
                rw [List.mem_filter] at hi
                have h9 := hi.2
                simp [Region.binds] at h9
                simp_all
              have hv1 := x1 hd1
              subst hv1
              have hv2 := x2 hd2
              subst hv2
              refine wpOp_step rfl fun K' hK' => ?_
              rw [if_pos (by simp [Region.wanted])]
              unfold Oper.wp
              simp only [execOp]
              go_simp
              refine hK' _ _ ⟨b0, b1, b2, true, b4, b5, b6, b7, b8, b9, b10, v7, v74, _, _, _, v78, v79, v80, v81, v82, rfl, rfl, hR, ⟨x0, (fun _ => rfl), (fun _ => rfl), (fun _ => rfl), x4, x8, x10⟩⟩
            · have hb : b4 = false := by
                unfold Region.ready at hi
                rw [List.mem_filter] at hi
                have h9 := hi.2
                simp [Region.binds] at h9
                simp_all
              have hd3 : b3 = true := by
                unfold Region.ready at hi
                rw [List.mem_filter] at hi
                have h9 := hi.2
                simp [Region.binds] at h9
                simp_all
              have hv3 := x3 hd3
              subst hv3
              refine wpOp_step rfl fun K' hK' => ?_
              rw [if_pos (by simp [Region.wanted])]
              unfold Oper.wp
              simp only [execOp]
              go_simp
              refine hK' _ _ ⟨b0, b1, b2, b3, true, b5, b6, b7, b8, b9, b10, v7, v74, v75, v76, _, _, v79, v80, v81, v82, rfl, rfl, hR, ⟨x0, x1, x2, (fun _ => rfl), (fun _ => rfl), x8, x10⟩⟩
            · have hb : b5 = false := by
                unfold Region.ready at hi
                rw [List.mem_filter] at hi
                have h9 := hi.2
                simp [Region.binds] at h9
                simp_all
              have hd4 : b4 = true := by
                unfold Region.ready at hi
                rw [List.mem_filter] at hi
                have h9 := hi.2
                simp [Region.binds] at h9
                simp_all
              have hv4 := x4 hd4
              subst hv4
              refine wpOp_step rfl fun K' hK' => ?_
              rw [if_neg (by simp [Region.wanted, yielded])]
              refine hK' _ _ ⟨b0, b1, b2, b3, b4, true, b6, b7, b8, b9, b10, v7, v74, v75, v76, v77, _, _, v80, v81, v82, rfl, rfl, hR, ⟨x0, x1, x2, x3, (fun _ => rfl), x8, x10⟩⟩
            · have hb : b6 = false := by
                unfold Region.ready at hi
                rw [List.mem_filter] at hi
                have h9 := hi.2
                simp [Region.binds] at h9
                simp_all
              have hd4 : b4 = true := by
                unfold Region.ready at hi
                rw [List.mem_filter] at hi
                have h9 := hi.2
                simp [Region.binds] at h9
                simp_all
              have hv4 := x4 hd4
              subst hv4
              refine wpOp_step rfl fun K' hK' => ?_
              rw [if_neg (by simp [Region.wanted, yielded])]
              refine hK' _ _ ⟨b0, b1, b2, b3, b4, b5, true, b7, b8, b9, b10, v7, v74, v75, v76, v77, _, v79, _, v81, v82, rfl, rfl, hR, ⟨x0, x1, x2, x3, (fun _ => rfl), x8, x10⟩⟩
            · have hb : b7 = false := by
                unfold Region.ready at hi
                rw [List.mem_filter] at hi
                have h9 := hi.2
                simp [Region.binds] at h9
                simp_all
              have hd4 : b4 = true := by
                unfold Region.ready at hi
                rw [List.mem_filter] at hi
                have h9 := hi.2
                simp [Region.binds] at h9
                simp_all
              have hd5 : b5 = true := by
                unfold Region.ready at hi
                rw [List.mem_filter] at hi
                have h9 := hi.2
                simp [Region.binds] at h9
                simp_all
              have hd6 : b6 = true := by
                unfold Region.ready at hi
                rw [List.mem_filter] at hi
                have h9 := hi.2
                simp [Region.binds] at h9
                simp_all
              have hv4 := x4 hd4
              subst hv4
              refine wpOp_step rfl fun K' hK' => ?_
              rw [if_neg (by simp [Region.wanted, yielded])]
              refine hK' _ _ ⟨b0, b1, b2, b3, b4, b5, b6, true, b8, b9, b10, v7, v74, v75, v76, v77, _, v79, v80, _, v82, rfl, rfl, hR, ⟨x0, x1, x2, x3, (fun _ => rfl), x8, x10⟩⟩
            · have hb : b8 = false := by
                unfold Region.ready at hi
                rw [List.mem_filter] at hi
                have h9 := hi.2
                simp [Region.binds] at h9
                simp_all
              have hd4 : b4 = true := by
                unfold Region.ready at hi
                rw [List.mem_filter] at hi
                have h9 := hi.2
                simp [Region.binds] at h9
                simp_all
              have hv4 := x4 hd4
              subst hv4
              refine wpOp_step rfl fun K' hK' => ?_
              rw [if_pos (by simp [Region.wanted])]
              unfold Oper.wp
              simp only [execOp]
              go_simp
              refine hK' _ _ ⟨b0, b1, b2, b3, b4, b5, b6, b7, true, b9, b10, v7, v74, v75, v76, v77, _, v79, v80, v81, _, rfl, rfl, hR, ⟨x0, x1, x2, x3, (fun _ => rfl), (fun _ => rfl), x10⟩⟩
            · have hb : b9 = false := by
                unfold Region.ready at hi
                rw [List.mem_filter] at hi
                have h9 := hi.2
                simp [Region.binds] at h9
                simp_all
              have hd0 : b0 = true := by
                unfold Region.ready at hi
                rw [List.mem_filter] at hi
                have h9 := hi.2
                simp [Region.binds] at h9
                simp_all
              have hv0 := x0 hd0
              subst hv0
              refine wpOp_step rfl fun K' hK' => ?_
              rw [if_pos (by simp [Region.wanted])]
              subst hb
              obtain ⟨z0, z1, fz0, fz1, HZ⟩ := HRZ.out w1 hR.out
              unfold Oper.wp
              simp only [execOp]
              go_simp
              refine hK' _ _ ⟨b0, b1, b2, b3, b4, b5, b6, b7, b8, true, b10, v7, _, v75, v76, v77, v78, v79, v80, v81, v82, rfl, rfl, HZ, ⟨(fun _ => rfl), x1, x2, x3, x4, x8, x10⟩⟩
            · have hb : b10 = false := by
                unfold Region.ready at hi
                rw [List.mem_filter] at hi
                have h9 := hi.2
                simp [Region.binds] at h9
                simp_all
              have hd8 : b8 = true := by
                unfold Region.ready at hi
                rw [List.mem_filter] at hi
                have h9 := hi.2
                simp [Region.binds] at h9
                simp_all
              have hv8 := x8 hd8
              subst hv8
              refine wpOp_step rfl fun K' hK' => ?_
              rw [if_pos (by simp [Region.wanted])]
              unfold Oper.wp
              simp only [execOp]
              go_simp
              refine hK' _ _ ⟨b0, b1, b2, b3, b4, b5, b6, b7, b8, b9, true, _, v74, v75, v76, v77, v78, v79, v80, v81, _, rfl, rfl, hR, ⟨x0, x1, x2, x3, x4, (fun _ => rfl), (fun _ => rfl)⟩⟩
          · rintro listed a w1 ⟨b0, b1, b2, b3, b4, b5, b6, b7, b8, b9, b10, v7, v74, v75, v76, v77, v78, v79, v80, v81, v82, rfl, rfl, hR, hX⟩ hr
            have hn := fun i => List.eq_nil_iff_forall_not_mem.1 hr i
            unfold Region.ready at hn
            have q0 : b0 = true := by
              have := hn 0
              simpa [List.mem_filter, Region.binds] using this
            have q1 : b1 = true := by
              have := hn 1
              simpa [List.mem_filter, Region.binds, q0] using this
            have q2 : b2 = true := by
              have := hn 2
              simpa [List.mem_filter, Region.binds, q0, q1] using this
            have q3 : b3 = true := by
              have := hn 3
              simpa [List.mem_filter, Region.binds, q0, q1, q2] using this
            have q4 : b4 = true := by
              have := hn 4
              simpa [List.mem_filter, Region.binds, q0, q1, q2, q3] using this
            have q5 : b5 = true := by
              have := hn 5
              simpa [List.mem_filter, Region.binds, q0, q1, q2, q3, q4] using this
            have q6 : b6 = true := by
              have := hn 6
              simpa [List.mem_filter, Region.binds, q0, q1, q2, q3, q4, q5] using this
            have q7 : b7 = true := by
              have := hn 7
              simpa [List.mem_filter, Region.binds, q0, q1, q2, q3, q4, q5, q6] using this
            have q8 : b8 = true := by
              have := hn 8
              simpa [List.mem_filter, Region.binds, q0, q1, q2, q3, q4, q5, q6, q7] using this
            have q9 : b9 = true := by
              have := hn 9
              simpa [List.mem_filter, Region.binds, q0, q1, q2, q3, q4, q5, q6, q7, q8] using this
            have q10 : b10 = true := by
              have := hn 10
              simpa [List.mem_filter, Region.binds, q0, q1, q2, q3, q4, q5, q6, q7, q8, q9] using this
            obtain ⟨x0, x1, x2, x3, x4, x8, x10⟩ := hX.out
            have hv10 := x10 q10
            subst hv10
            subst q9
            have HZ := HRE.out w1 hR.out
            clear hn hr hX x0 x1 x2 x3 x4 x8
            go_wp2
            refine bodyPost_ret (results2 (a := 6) (k := 7) (t := 62) (p := ⟨w.heap.size + 1 + 1 + 1, 0, none⟩) (by kernel_rfl) rfl (HLP.out _ _ _ HZ.1 rfl) rfl) rfl ⟨by rw [HKK.out]; rfl, HZ.2⟩
        · have hq' : ∀ w9, (Op.equalIn 10000 62 (.agg #[.int .u8 (F : Int), .int .u8 (S : Int)]) (.agg #[.int .u8 (f : Int), .int .u8 (s : Int)])).run Try.prog w9 = .ok false w9 := fun w9 => by rw [hEq w9, decide_eq_false hne]
          have hok : okM bs p f s k i = decide ((cnt F : Int) ≤ p) := by
            have h := HOK.out
            rw [h]
            have : decide ((F, S) ≠ (f, s)) = true := by simp [hne]
            rw [this]; rfl
          have HKK := Lib.hid hok
          clear hok HOK hne hEq HA
          generalize decide ((cnt F : Int) ≤ p) = okv at *
          refine wp_region_inv (by kernel_rfl) (fun listed a w9 => ∃ (b0 b1 b2 b3 b4 b5 b6 b7 b8 b9 b10 : Bool) (v7 v74 v75 v76 v77 v78 v79 v80 v81 v82 : Value), listed = #[b0, b1, b2, b3, b4, b5, b6, b7, b8, b9, b10] ∧ a = ({ tmps := #[.agg #[.int .i64 ((bs.length : Nat) : Int), .int .i64 p, .int .u8 ((ndF bs bs.length 0 : Nat) : Int), .int .u8 ((ndF bs bs.length 1 : Nat) : Int), .int .u8 ((ndF bs bs.length 2 : Nat) : Int), .int .u8 ((ndF bs bs.length 3 : Nat) : Int), .int .u8 ((ndF bs bs.length 4 : Nat) : Int), .int .u8 ((ndF bs bs.length 5 : Nat) : Int), .int .u8 ((src bs bs.length : Nat) : Int), .int .u8 (o0 : Int)], .agg #[.int .u8 (f : Int), .int .u8 (s : Int)], .agg #[.int .i64 k, .int .i64 (i : Int)], .pointer (some ⟨w.heap.size, 0, none⟩), .pointer (some ⟨w.heap.size + 1, 0, none⟩), .pointer (some ⟨w.heap.size + 1 + 1, 0, none⟩), .pointer (some ⟨w.heap.size + 1 + 1 + 1, 0, none⟩), v7, .int .u8 (q : Int), .int .u8 ((nd bs i : Nat) : Int), .pointer (some ⟨B, 0, none⟩), .agg #[.int .i64 ((bs.length : Nat) : Int), .int .i64 p, .int .u8 ((ndF bs bs.length 0 : Nat) : Int), .int .u8 ((ndF bs bs.length 1 : Nat) : Int), .int .u8 ((ndF bs bs.length 2 : Nat) : Int), .int .u8 ((ndF bs bs.length 3 : Nat) : Int), .int .u8 ((ndF bs bs.length 4 : Nat) : Int), .int .u8 ((ndF bs bs.length 5 : Nat) : Int), .int .u8 ((src bs bs.length : Nat) : Int), .int .u8 (o0 : Int)], .pointer (some ⟨w.heap.size + 1 + 1, 1, none⟩), .int .i64 (i : Int), .bool true, .bool false, undef, u17, u18, u19, u20, u21, u22, u23, u24, .agg #[.int .u8 (f : Int), .int .u8 (s : Int)], .pointer (some ⟨w.heap.size + 1 + 1, 0, none⟩), .int .i64 k, u28, u29, u30, u31, u32, u33, u34, u35, u36, u37, u38, u39, u40, u41, u42, u43, u44, u45, u46, u47, u48, u49, u50, u51, u52, u53, u54, u55, u56, u57, u58, u59, u60, u61, u62, u63, u64, u65, u66, u67, u68, u69, u70, u71, u72, u73, v74, v75, v76, v77, v78, v79, v80, v81, v82], defers := [] } : Act) ∧ Hid (RW w b9 w9) ∧ Hid ((b0 = true → v74 = .agg #[.int .u8 (F : Int), .int .u8 (S : Int)]) ∧ (b1 = true → v75 = .agg #[.int .u8 (F : Int), .int .u8 (S : Int)]) ∧ (b2 = true → v76 = .agg #[.int .u8 (f : Int), .int .u8 (s : Int)]) ∧ (b3 = true → v77 = .bool true) ∧ (b4 = true → v78 = .bool true) ∧ (b5 = true → v79 = .agg #[.int .i64 ((bs.length : Nat) : Int), .int .i64 p, .int .u8 ((ndF bs bs.length 0 : Nat) : Int), .int .u8 ((ndF bs bs.length 1 : Nat) : Int), .int .u8 ((ndF bs bs.length 2 : Nat) : Int), .int .u8 ((ndF bs bs.length 3 : Nat) : Int), .int .u8 ((ndF bs bs.length 4 : Nat) : Int), .int .u8 ((ndF bs bs.length 5 : Nat) : Int), .int .u8 ((src bs bs.length : Nat) : Int), .int .u8 (o0 : Int)]) ∧ (b6 = true → v80 = .agg #[.int .u8 (F : Int), .int .u8 (S : Int)]) ∧ (b7 = true → v81 = .bool okv) ∧ (b8 = true → v82 = .bool okv) ∧ (b10 = true → v7 = .bool okv))) ?_ ?_ ?_
          · exact ⟨false, false, false, false, false, false, false, false, false, false, false, .bool false, undef, undef, undef, undef, undef, undef, undef, undef, undef, rfl, rfl, HR0, ⟨(fun h => by cases h), (fun h => by cases h), (fun h => by cases h), (fun h => by cases h), (fun h => by cases h), (fun h => by cases h), (fun h => by cases h), (fun h => by cases h), (fun h => by cases h), (fun h => by cases h)⟩⟩
          · rintro listed a w1 ⟨b0, b1, b2, b3, b4, b5, b6, b7, b8, b9, b10, v7, v74, v75, v76, v77, v78, v79, v80, v81, v82, rfl, rfl, hR, hX⟩ i9 hi
            have hlt : i9 < 11 := by
              unfold Region.ready at hi
              rw [List.mem_filter] at hi
              exact List.mem_range.1 hi.1
            obtain ⟨x0, x1, x2, x3, x4, x5, x6, x7, x8, x10⟩ := hX.out
            obtain ⟨c0, c1, c2, c3, c4, c5, c6, c7, c8, c9, p0, p1, n0, n1, r0, r1⟩ := HRW.out b9 w1 hR.out
            rcases (show i9 = 0 ∨ i9 = 1 ∨ i9 = 2 ∨ i9 = 3 ∨ i9 = 4 ∨ i9 = 5 ∨ i9 = 6 ∨ i9 = 7 ∨ i9 = 8 ∨ i9 = 9 ∨ i9 = 10 by omega) with rfl | rfl | rfl | rfl | rfl | rfl | rfl | rfl | rfl | rfl | rfl
            · have hb : b0 = false := by
                unfold Region.ready at hi
                rw [List.mem_filter] at hi
                have h9 := hi.2
                simp [Region.binds] at h9
                simp_all
              refine wpOp_step rfl fun K' hK' => ?_
              rw [if_pos (by simp [Region.wanted])]
              unfold Oper.wp
              simp only [execOp]
              go_simp
              refine hK' _ _ ⟨true, b1, b2, b3, b4, b5, b6, b7, b8, b9, b10, v7, _, v75, v76, v77, v78, v79, v80, v81, v82, rfl, rfl, hR, ⟨(fun _ => rfl), x1, x2, x3, x4, x5, x6, x7, x8, x10⟩⟩
            · have hb : b1 = false := by
                unfold Region.ready at hi
                rw [List.mem_filter] at hi
                have h9 := hi.2
                simp [Region.binds] at h9
                simp_all
              refine wpOp_step rfl fun K' hK' => ?_
              rw [if_pos (by simp [Region.wanted])]
              unfold Oper.wp
              simp only [execOp]
              go_simp
              refine hK' _ _ ⟨b0, true, b2, b3, b4, b5, b6, b7, b8, b9, b10, v7, v74, _, v76, v77, v78, v79, v80, v81, v82, rfl, rfl, hR, ⟨x0, (fun _ => rfl), x2, x3, x4, x5, x6, x7, x8, x10⟩⟩
            · have hb : b2 = false := by
                unfold Region.ready at hi
                rw [List.mem_filter] at hi
                have h9 := hi.2
                simp [Region.binds] at h9
                simp_all
              refine wpOp_step rfl fun K' hK' => ?_
              rw [if_pos (by simp [Region.wanted])]
              unfold Oper.wp
              simp only [execOp]
              go_simp
              refine hK' _ _ ⟨b0, b1, true, b3, b4, b5, b6, b7, b8, b9, b10, v7, v74, v75, _, v77, v78, v79, v80, v81, v82, rfl, rfl, hR, ⟨x0, x1, (fun _ => rfl), x3, x4, x5, x6, x7, x8, x10⟩⟩
            · have hb : b3 = false := by
                unfold Region.ready at hi
                rw [List.mem_filter] at hi
                have h9 := hi.2
                simp [Region.binds] at h9
                simp_all
              have hd1 : b1 = true := by
                unfold Region.ready at hi
                rw [List.mem_filter] at hi
                have h9 := hi.2
                simp [Region.binds] at h9
                simp_all
              have hd2 : b2 = true := by
                unfold Region.ready at hi
                rw [List.mem_filter] at hi
                have h9 := hi.2
                simp [Region.binds] at h9
                simp_all
              have hv1 := x1 hd1
              subst hv1
              have hv2 := x2 hd2
              subst hv2
              refine wpOp_step rfl fun K' hK' => ?_
              rw [if_pos (by simp [Region.wanted])]
              unfold Oper.wp
              simp only [execOp]
              go_simp
              refine hK' _ _ ⟨b0, b1, b2, true, b4, b5, b6, b7, b8, b9, b10, v7, v74, _, _, _, v78, v79, v80, v81, v82, rfl, rfl, hR, ⟨x0, (fun _ => rfl), (fun _ => rfl), (fun _ => rfl), x4, x5, x6, x7, x8, x10⟩⟩
            · have hb : b4 = false := by
                unfold Region.ready at hi
                rw [List.mem_filter] at hi
                have h9 := hi.2
                simp [Region.binds] at h9
                simp_all
              have hd3 : b3 = true := by
                unfold Region.ready at hi
                rw [List.mem_filter] at hi
                have h9 := hi.2
                simp [Region.binds] at h9
                simp_all
              have hv3 := x3 hd3
              subst hv3
              refine wpOp_step rfl fun K' hK' => ?_
              rw [if_pos (by simp [Region.wanted])]
              unfold Oper.wp
              simp only [execOp]
              go_simp
              refine hK' _ _ ⟨b0, b1, b2, b3, true, b5, b6, b7, b8, b9, b10, v7, v74, v75, v76, _, _, v79, v80, v81, v82, rfl, rfl, hR, ⟨x0, x1, x2, (fun _ => rfl), (fun _ => rfl), x5, x6, x7, x8, x10⟩⟩
            · have hb : b5 = false := by
                unfold Region.ready at hi
                rw [List.mem_filter] at hi
                have h9 := hi.2
                simp [Region.binds] at h9
                simp_all
              have hd4 : b4 = true := by
                unfold Region.ready at hi
                rw [List.mem_filter] at hi
                have h9 := hi.2
                simp [Region.binds] at h9
                simp_all
              have hv4 := x4 hd4
              subst hv4
              refine wpOp_step rfl fun K' hK' => ?_
              rw [if_pos (by simp [Region.wanted, yielded])]
              unfold Oper.wp
              simp only [execOp]
              go_simp
              refine hK' _ _ ⟨b0, b1, b2, b3, b4, true, b6, b7, b8, b9, b10, v7, v74, v75, v76, v77, _, _, v80, v81, v82, rfl, rfl, hR, ⟨x0, x1, x2, x3, (fun _ => rfl), (fun _ => rfl), x6, x7, x8, x10⟩⟩
            · have hb : b6 = false := by
                unfold Region.ready at hi
                rw [List.mem_filter] at hi
                have h9 := hi.2
                simp [Region.binds] at h9
                simp_all
              have hd4 : b4 = true := by
                unfold Region.ready at hi
                rw [List.mem_filter] at hi
                have h9 := hi.2
                simp [Region.binds] at h9
                simp_all
              have hv4 := x4 hd4
              subst hv4
              refine wpOp_step rfl fun K' hK' => ?_
              rw [if_pos (by simp [Region.wanted, yielded])]
              unfold Oper.wp
              simp only [execOp]
              go_simp
              refine hK' _ _ ⟨b0, b1, b2, b3, b4, b5, true, b7, b8, b9, b10, v7, v74, v75, v76, v77, _, v79, _, v81, v82, rfl, rfl, hR, ⟨x0, x1, x2, x3, (fun _ => rfl), x5, (fun _ => rfl), x7, x8, x10⟩⟩
            · have hb : b7 = false := by
                unfold Region.ready at hi
                rw [List.mem_filter] at hi
                have h9 := hi.2
                simp [Region.binds] at h9
                simp_all
              have hd4 : b4 = true := by
                unfold Region.ready at hi
                rw [List.mem_filter] at hi
                have h9 := hi.2
                simp [Region.binds] at h9
                simp_all
              have hd5 : b5 = true := by
                unfold Region.ready at hi
                rw [List.mem_filter] at hi
                have h9 := hi.2
                simp [Region.binds] at h9
                simp_all
              have hd6 : b6 = true := by
                unfold Region.ready at hi
                rw [List.mem_filter] at hi
                have h9 := hi.2
                simp [Region.binds] at h9
                simp_all
              have hv4 := x4 hd4
              subst hv4
              have hv5 := x5 hd5
              subst hv5
              have hv6 := x6 hd6
              subst hv6
              refine wpOp_step rfl fun K' hK' => ?_
              rw [if_pos (by simp [Region.wanted, yielded])]
              have hFF := Lib.hid (HFF.out w1)
              go_simp
              refine hFF.out.mono ?_; rintro e w2 ⟨rfl, q2⟩
              refine hK' _ _ ⟨b0, b1, b2, b3, b4, b5, b6, true, b8, b9, b10, v7, v74, v75, v76, v77, _, _, _, _, v82, rfl, rfl, HRB.out _ _ _ hR.out q2, ⟨x0, x1, x2, x3, (fun _ => rfl), (fun _ => rfl), (fun _ => rfl), (fun _ => rfl), x8, x10⟩⟩
            · have hb : b8 = false := by
                unfold Region.ready at hi
                rw [List.mem_filter] at hi
                have h9 := hi.2
                simp [Region.binds] at h9
                simp_all
              have hd4 : b4 = true := by
                unfold Region.ready at hi
                rw [List.mem_filter] at hi
                have h9 := hi.2
                simp [Region.binds] at h9
                simp_all
              have hd7 : b7 = true := by
                unfold Region.ready at hi
                rw [List.mem_filter] at hi
                have h9 := hi.2
                simp [Region.binds] at h9
                simp_all
              have hv4 := x4 hd4
              subst hv4
              have hv7 := x7 hd7
              subst hv7
              refine wpOp_step rfl fun K' hK' => ?_
              rw [if_pos (by simp [Region.wanted])]
              unfold Oper.wp
              simp only [execOp]
              go_simp
              refine hK' _ _ ⟨b0, b1, b2, b3, b4, b5, b6, b7, true, b9, b10, v7, v74, v75, v76, v77, _, v79, v80, _, _, rfl, rfl, hR, ⟨x0, x1, x2, x3, (fun _ => rfl), x5, x6, (fun _ => rfl), (fun _ => rfl), x10⟩⟩
            · have hb : b9 = false := by
                unfold Region.ready at hi
                rw [List.mem_filter] at hi
                have h9 := hi.2
                simp [Region.binds] at h9
                simp_all
              have hd0 : b0 = true := by
                unfold Region.ready at hi
                rw [List.mem_filter] at hi
                have h9 := hi.2
                simp [Region.binds] at h9
                simp_all
              have hv0 := x0 hd0
              subst hv0
              refine wpOp_step rfl fun K' hK' => ?_
              rw [if_pos (by simp [Region.wanted])]
              subst hb
              obtain ⟨z0, z1, fz0, fz1, HZ⟩ := HRZ.out w1 hR.out
              unfold Oper.wp
              simp only [execOp]
              go_simp
              refine hK' _ _ ⟨b0, b1, b2, b3, b4, b5, b6, b7, b8, true, b10, v7, _, v75, v76, v77, v78, v79, v80, v81, v82, rfl, rfl, HZ, ⟨(fun _ => rfl), x1, x2, x3, x4, x5, x6, x7, x8, x10⟩⟩
            · have hb : b10 = false := by
                unfold Region.ready at hi
                rw [List.mem_filter] at hi
                have h9 := hi.2
                simp [Region.binds] at h9
                simp_all
              have hd8 : b8 = true := by
                unfold Region.ready at hi
                rw [List.mem_filter] at hi
                have h9 := hi.2
                simp [Region.binds] at h9
                simp_all
              have hv8 := x8 hd8
              subst hv8
              refine wpOp_step rfl fun K' hK' => ?_
              rw [if_pos (by simp [Region.wanted])]
              unfold Oper.wp
              simp only [execOp]
              go_simp
              refine hK' _ _ ⟨b0, b1, b2, b3, b4, b5, b6, b7, b8, b9, true, _, v74, v75, v76, v77, v78, v79, v80, v81, _, rfl, rfl, hR, ⟨x0, x1, x2, x3, x4, x5, x6, x7, (fun _ => rfl), (fun _ => rfl)⟩⟩
          · rintro listed a w1 ⟨b0, b1, b2, b3, b4, b5, b6, b7, b8, b9, b10, v7, v74, v75, v76, v77, v78, v79, v80, v81, v82, rfl, rfl, hR, hX⟩ hr
            have hn := fun i => List.eq_nil_iff_forall_not_mem.1 hr i
            unfold Region.ready at hn
            have q0 : b0 = true := by
              have := hn 0
              simpa [List.mem_filter, Region.binds] using this
            have q1 : b1 = true := by
              have := hn 1
              simpa [List.mem_filter, Region.binds, q0] using this
            have q2 : b2 = true := by
              have := hn 2
              simpa [List.mem_filter, Region.binds, q0, q1] using this
            have q3 : b3 = true := by
              have := hn 3
              simpa [List.mem_filter, Region.binds, q0, q1, q2] using this
            have q4 : b4 = true := by
              have := hn 4
              simpa [List.mem_filter, Region.binds, q0, q1, q2, q3] using this
            have q5 : b5 = true := by
              have := hn 5
              simpa [List.mem_filter, Region.binds, q0, q1, q2, q3, q4] using this
            have q6 : b6 = true := by
              have := hn 6
              simpa [List.mem_filter, Region.binds, q0, q1, q2, q3, q4, q5] using this
            have q7 : b7 = true := by
              have := hn 7
              simpa [List.mem_filter, Region.binds, q0, q1, q2, q3, q4, q5, q6] using this
            have q8 : b8 = true := by
              have := hn 8
              simpa [List.mem_filter, Region.binds, q0, q1, q2, q3, q4, q5, q6, q7] using this
            have q9 : b9 = true := by
              have := hn 9
              simpa [List.mem_filter, Region.binds, q0, q1, q2, q3, q4, q5, q6, q7, q8] using this
            have q10 : b10 = true := by
              have := hn 10
              simpa [List.mem_filter, Region.binds, q0, q1, q2, q3, q4, q5, q6, q7, q8, q9] using this
            obtain ⟨x0, x1, x2, x3, x4, x5, x6, x7, x8, x10⟩ := hX.out
            have hv10 := x10 q10
            subst hv10
            subst q9
            have HZ := HRE.out w1 hR.out
            clear hn hr hX x0 x1 x2 x3 x4 x5 x6 x7 x8
            go_wp2
            refine bodyPost_ret (results2 (a := 6) (k := 7) (t := 62) (p := ⟨w.heap.size + 1 + 1 + 1, 0, none⟩) (by kernel_rfl) rfl (HLP.out _ _ _ HZ.1 rfl) rfl) rfl ⟨by rw [HKK.out]; rfl, HZ.2⟩
end Go.Proofs.Ytepobkflahjldaa.Pb
