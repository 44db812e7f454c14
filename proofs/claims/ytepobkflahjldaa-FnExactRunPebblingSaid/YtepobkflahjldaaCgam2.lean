/- The game of a graph: the program's loops over its nodes. -/
import Derived.Test.YtepobkflahjldaaCgam
import Derived.Handy
namespace Go.Proofs.Ytepobkflahjldaa.Pb
open Go.RowKit Pv
/-- What the first j nodes need. -/
def ndF (bs : List (List Int)) (j : Nat) : Nat → Nat := fun i => if i < j then nd bs i else 0
/-- The same, with the first k that the next one needs. -/
def ndK (bs : List (List Int)) (j k : Nat) : Nat → Nat := upn (ndF bs j) j (putL ((bs.getD j []).take k) 0)
theorem ndK_zero (bs : List (List Int)) (j : Nat) : ndK bs j 0 = ndF bs j := by
  funext i
  unfold ndK upn ndF
  by_cases e : i = j
  · rw [if_pos e, if_neg (by omega)]; rfl
  · rw [if_neg e]
theorem ndK_at (bs : List (List Int)) (j k : Nat) : ndK bs j k j = putL ((bs.getD j []).take k) 0 := by unfold ndK upn; rw [if_pos rfl]
theorem ndK_step (bs : List (List Int)) (j k : Nat) (h : k < (bs.getD j []).length) : upn (ndK bs j k) j (putL ((bs.getD j []).take k) 0 ||| 2 ^ ((bs.getD j []).getD k 0).toNat) = ndK bs j (k + 1) := by
  funext i
  unfold ndK upn
  by_cases e : i = j
  · rw [if_pos e, if_pos e, putL_take _ _ _ h]
  · rw [if_neg e, if_neg e, if_neg e]
theorem ndK_end (bs : List (List Int)) (j : Nat) : ndK bs j (bs.getD j []).length = ndF bs (j + 1) := by
  funext i
  unfold ndK upn ndF
  by_cases e : i = j
  · rw [if_pos e, List.take_length, if_pos (by omega), e]; rfl
  · rw [if_neg e]
    by_cases h : i < j
    · rw [if_pos h, if_pos (by omega)]
    · rw [if_neg h, if_neg (by omega)]
theorem okRow_split (j : Nat) (xs : List Int) : okRow j xs = (Tr.allR ((j : Int) - 1) xs xs.length && Tr.upB xs xs.length) := Tr.riseH_split _ _ _
theorem put_lt {j k : Nat} {xs : List Int} (h : Tr.allR ((j : Int) - 1) xs k = true) (hk : k ≤ xs.length) (hj : j ≤ 6) : putL (xs.take k) 0 < 64 := putL_lt _ _ (by omega) fun b hb => by
  obtain ⟨i, hi, rfl⟩ := List.getElem_of_mem hb
  have hi' : i < k ∧ i < xs.length := by rw [List.length_take] at hi; omega
  unfold Tr.allR at h
  have := List.all_eq_true.1 h i (by simpa using hi'.1)
  unfold Tr.isR at this
  simp only [Bool.and_eq_true, decide_eq_true_eq] at this
  rw [List.getD_eq_getElem?_getD, List.getElem?_eq_getElem hi'.2] at this
  simp at this ⊢
  omega
def inP (p : Int) : Bool := decide (1 ≤ p) && decide (p ≤ 6)
/-- What gameOf leaves. -/
def gmB (b : Bool) (bs : List (List Int)) (p : Int) : List Value := if b then gm bs.length p (ndF bs bs.length) (src bs bs.length) (out bs bs.length) else gm 0 0 (fun _ => 0) 0 0
def GamP (bs : List (List Int)) (p : Int) (w : World) (e : Ending) (w' : World) : Prop := e = .returned (.tuple #[.agg (gmB (okG bs && inP p) bs p).toArray, .bool (okG bs && inP p)]) ∧ Below w.heap.size w w'
theorem one_gm (n : Nat) (p : Int) (f : Nat → Nat) (s o : Nat) : ∀ v ∈ gm n p f s o, v.oneCell' = true := by
  intro v hv
  simp only [gm, List.mem_cons, List.not_mem_nil, or_false] at hv
  rcases hv with rfl | rfl | rfl | rfl | rfl | rfl | rfl | rfl | rfl | rfl <;> rfl
theorem gm_len (n : Nat) (p : Int) (f : Nat → Nat) (s o : Nat) : (gm n p f s o).length = 10 := rfl
theorem splice_all (xs ys : List Value) (h : ys.length = xs.length) : Go.splice xs 0 ys = ys := by
  unfold Go.splice
  simp
  omega


theorem undG : ∃ d, Try.prog.underlying 58 = some d ∧ d.isRow = true := by
  cases h : Try.prog.underlying 58 with
  | none => exact absurd h (by decide +kernel)
  | some d =>
    refine ⟨d, rfl, ?_⟩
    have e : (Try.prog.underlying 58).map (fun d => d.isRow) = some true := by kernel_rfl
    rw [h] at e
    simpa using e
theorem isg10 : (Try.prog.info? 58).map (·.size) = some 10 := by kernel_rfl
/-- The three blocks of gameOf. -/
def GaI (Z N c : Nat) (a : Option Addr) (gs : List Value) (w w' : World) : Prop :=
  Blk w' Z [.slice a N c] 31 ∧ Blk w' (Z + 1) (gm 0 0 (fun _ => 0) 0 0) 58 ∧ Blk w' (Z + 1 + 1) gs 58 ∧ Below Z w w' ∧ Z + 3 ≤ w'.heap.size
theorem GaI.below {Z N c : Nat} {a : Option Addr} {gs : List Value} {w w' w2 : World} (h : GaI Z N c a gs w w') (hb : Below w'.heap.size w' w2) : GaI Z N c a gs w w2 := by
  obtain ⟨h1, h2, h3, h4, h5⟩ := h
  exact ⟨h1.below hb h1.lt, h2.below hb h2.lt, h3.below hb h3.lt, h4.trans (hb.mono (by omega)), Nat.le_trans h5 hb.size⟩
theorem GaI.step {Z N c : Nat} {a : Option Addr} {gs gs' : List Value} {w w' w2 : World} (h : GaI Z N c a gs w w') (hb : Blk w2 (Z + 1 + 1) gs' 58) (hk : Keep (Z + 1 + 1) w' w2) : GaI Z N c a gs' w w2 := by
  obtain ⟨h1, h2, h3, h4, h5⟩ := h
  exact ⟨hk.blk h1 (by omega), hk.blk h2 (by omega), hb, h4.trans (hk.below (by omega)), by rw [hk.size]; exact h5⟩
theorem GaI.dr {Z N c : Nat} {a : Option Addr} {gs : List Value} {w w' : World} (h : GaI Z N c a gs w w') : GaI Z N c a gs w w'.drew := ⟨h.1, h.2.1, h.2.2.1, h.2.2.2.1.drew, h.2.2.2.2⟩
theorem range_no {r : Bool} (hr : okG [] = r) : r = false := hr.symm
set_option maxHeartbeats 8000000 in
set_option maxRecDepth 100000 in
theorem game_i (a : Option Addr) (c : Nat) (bs : List (List Int)) (p : Int) (w : World) (hh : RdR w a bs) (hl : bs.length ≤ 1048576) :
    Calls Try.prog 27 #[.agg #[.slice a bs.length c], .int .i64 p] w (GamP bs p w) := by
  obtain ⟨dg, hug, hdg⟩ := undG
  have HL := Lib.hid (fun (w' : World) (b : Nat) (cs : List Value) (h : Blk w' b cs 58) (hc : cs.length = 10) => Blk.loadVar h 58 dg hug hdg (by rw [hc]; exact isg10))
  have HU := Lib.hid (And.intro hug hdg)
  clear hug hdg
  unfold GamP
  generalize hbb : (okG bs && inP p) = bb
  have HBT := Lib.hid (fun x lo hi w9 => Tr.btw_g x lo hi w9)
  have HHR := Lib.hid hh
  generalize hNN : bs.length = N at *
  have BZ0 : Hid (Blk ((w.alloc (.cells #[.slice a N c] 31)).alloc (.cells (gm 0 0 (fun _ => 0) 0 0).toArray 58)) (w.heap.size + 1) (gm 0 0 (fun _ => 0) 0 0) 58 ∧ Below w.heap.size w ((w.alloc (.cells #[.slice a N c] 31)).alloc (.cells (gm 0 0 (fun _ => 0) 0 0).toArray 58))) :=
    ⟨Blk.newAt _ _ _ _ (by simp), ((Below.refl _ w).alloc (Nat.le_refl _) _).alloc (by simp) _⟩
  by_cases h16 : 1 ≤ N ∧ N ≤ 6
  · obtain ⟨h1, h6⟩ := h16
    have HB1 := Lib.hid (fun w9 => (show Calls Try.prog 41 #[.int .i64 (N : Int), .int .i64 1, .int .i64 6] w9 (Bl true w9) from by
      have := HBT.out (N : Int) 1 6 w9
      rwa [decide_eq_true (show (1 : Int) ≤ (N : Int) by omega), decide_eq_true (show (N : Int) ≤ 6 by omega)] at this))
    have HB2 := Lib.hid (fun w9 => (show Calls Try.prog 41 #[.int .i64 p, .int .i64 1, .int .i64 6] w9 (Bl (inP p) w9) from HBT.out p 1 6 w9))
    clear HBT
    cases hp : inP p
    · rw [hp] at HB2
      have hbb : bb = false := by rw [← hbb, hp]; simp
      subst hbb
      clear HHR hp
      go_enter Try.func27, Try.ntmps27
      go_wp2_with (first | (go_at_call 41; (with_reducible refine (HB1.out _).mono ?_); rintro e w' ⟨rfl, rfl⟩) | (go_at_call 41; (with_reducible refine (HB2.out _).mono ?_); rintro e w' ⟨rfl, rfl⟩) | (with_reducible refine wpList_storeB rfl 58 (.tmp 4) (.tmp 21) rfl (w.heap.size + 1) 0 (gm 0 0 (fun _ => 0) 0 0) ?_ ?_ (gm 0 0 (fun _ => 0) 0 0) 58 ?_ ?_ ?_ ?_ ?_))
      · rfl
      · rfl
      · exact BZ0.out.1
      · exact Nat.le_refl _
      · kernel_rfl
      · exact one_gm _ _ _ _ _
      intro w8 k8 q8
      rw [splice_all _ _ (by rfl)] at k8
      go_wp2
      refine bodyPost_ret (results2 (a := 4) (k := 5) (t := 58) (p := ⟨w.heap.size + 1, 0, none⟩) (by kernel_rfl) rfl (HL.out _ _ _ k8.out rfl) rfl) rfl ⟨rfl, ?_⟩
      exact BZ0.out.2.trans (q8.out.below (by omega))
    · have hall0 : okTo bs 0 = true := rfl
      have HK1 := Lib.hid (fun w9 (k : Nat) hk => mask_i k hk w9)
      have HB5 := Lib.hid (fun (h : ∃ j, j < N ∧ okRow j (bs.getD j []) = false) => (show bb = false from by
        obtain ⟨j, hj, h⟩ := h
        rw [← hbb, okG_no j (by omega) h]; rfl))
      have HB6 := Lib.hid (fun (h : okTo bs N = true) => (show bb = true from by
        rw [← hbb, okG_yes (by omega) (by omega) (by rw [hNN]; exact h), hp]; rfl))
      have HGV := Lib.hid (show gmB true bs p = gm N p (ndF bs N) (src bs N) (out bs N) by unfold gmB; rw [if_pos rfl, hNN])
      have HGF := Lib.hid (show gmB false bs p = gm 0 0 (fun _ => 0) 0 0 by rfl)
      clear hbb
      go_enter Try.func27, Try.ntmps27
      go_wp2_with (first | (go_at_call 41; (with_reducible refine (HB1.out _).mono ?_); rintro e w' ⟨rfl, rfl⟩) | (go_at_call 41; (with_reducible refine (HB2.out _).mono ?_); rintro e w' ⟨rfl, rfl⟩) | (with_reducible refine wpList_storeB rfl 58 (.tmp 6) (.tmp 23) rfl (w.heap.size + 1 + 1) 0 (gm 0 p (fun _ => 0) 0 0) ?_ ?_ (gm 0 0 (fun _ => 0) 0 0) 58 ?_ ?_ ?_ ?_ ?_))
      · rfl
      · rfl
      · exact Blk.newAt _ _ _ _ (by simp)
      · exact Nat.le_refl _
      · kernel_rfl
      · exact one_gm _ _ _ _ _
      intro w2 hB hK
      rw [splice_all _ _ (by rfl)] at hB
      have hI2 : Hid (GaI w.heap.size N c a (gm 0 p (fun _ => 0) 0 0) w w2) := ⟨hK.out.blk (Blk.alloc (Blk.alloc (Blk.newAt _ _ _ _ rfl) _) _) (by omega), hK.out.blk (Blk.alloc (Blk.newAt _ _ _ _ (by simp)) _) (by omega), hB.out, ((((Below.refl _ w).alloc (Nat.le_refl _) _).alloc (by simp) _).alloc (by simp; omega) _).trans (hK.out.below (by omega)), by rw [hK.out.size]; simp⟩
      have cp0 : w2.cell? ⟨w.heap.size, 0, none⟩ = some (.slice a N c) := hI2.out.1.cell 0
      clear hB hK
      go_wp2
      go_loopw [5, 7, 8, 10, 27] (fun _ _ _ _ i wr => ∃ j : Nat, j ≤ N ∧ i = .int .i64 (j : Nat) ∧ Hid (okTo bs j = true) ∧ Hid (GaI w.heap.size N c a (gm j p (ndF bs j) (src bs j) (out bs j)) w wr)) (fun _ _ _ _ i _ => N - (intOf i).toNat)
      case atStart => exact ⟨0, Nat.zero_le _, rfl, Lib.hid rfl, hI2⟩
      case round =>
        obtain ⟨j, hj, rfl, hall, hI⟩ := hrel
        by_cases hlt : j < N
        · obtain ⟨b, off, A, C, rfl, c0, hrow0, hbl, e5, e6, e7, _⟩ := HHR.out j (by omega)
          have c1 : wr.cell? ⟨b, off + j, none⟩ = some (.slice A (bs.getD j []).length C) := (hI.out.2.2.2.1.cell (p := ⟨b, off + j, none⟩) hbl).trans c0
          have hrow := hrow0.below hI.out.2.2.2.1
          have cp0 : wr.cell? ⟨w.heap.size, 0, none⟩ = some (.slice (some ⟨b, off, none⟩) N c) := hI.out.1.cell 0
          have HIN := Lib.hid (Tr.inc_i A C (bs.getD j []) wr e5 hrow)
          have HOS := okRow_split j (bs.getD j [])
          have HAS := okTo_succ bs j
          cases hup : Tr.upB (bs.getD j []) (bs.getD j []).length
          · have e := HB5.out ⟨j, hlt, by rw [HOS, hup]; simp⟩
            rw [hup] at HIN
            clear HOS HAS hup HB6 HB5
            subst e
            generalize (bs.getD j []).length = L at *
            go_wp2_with (first | (go_at_call 42; (with_reducible refine HIN.out.mono ?_); rintro e w3 ⟨rfl, b3⟩; have hI3 := Lib.hid (hI.out.below b3); clear b3) | (with_reducible refine wpList_storeB rfl 58 (.tmp 4) (.tmp 35) rfl (w.heap.size + 1) 0 (gm 0 0 (fun _ => 0) 0 0) ?_ ?_ (gm 0 0 (fun _ => 0) 0 0) 58 ?_ ?_ ?_ ?_ ?_))
            · rfl
            · rfl
            · exact hI3.out.2.1
            · exact Nat.le_refl _
            · kernel_rfl
            · exact one_gm _ _ _ _ _
            intro w8 k8 q8
            rw [splice_all _ _ (by rfl)] at k8
            go_wp2
            refine bodyPost_ret (results2 (a := 4) (k := 5) (t := 58) (p := ⟨w.heap.size + 1, 0, none⟩) (by kernel_rfl) rfl (HL.out _ _ _ k8.out rfl) rfl) rfl ⟨?_, ?_⟩
            · rw [HGF.out]; rfl
            · exact hI3.out.2.2.2.1.trans (q8.out.below (by omega))
          · rw [hup] at HIN HOS
            rw [HOS] at HAS
            have hrow' := Lib.hid (fun (w' : World) (hb : Below w.heap.size w w') => hrow0.below hb)
            clear hrow0 c0
            have HK := Lib.hid (fun k hk => put_lt (j := j) (k := k) (xs := bs.getD j []) hk)
            have HS0 := Lib.hid (ndK_zero bs j)
            have HSE := Lib.hid (ndK_end bs j)
            have HST := Lib.hid (fun k hk => ndK_step bs j k hk)
            have HAT := Lib.hid (fun k => ndK_at bs j k)
            have HAL := Lib.hid (fun k => Tr.allR_succ ((j : Int) - 1) (bs.getD j []) k)
            have HAN := Lib.hid (fun k hk h => (show Tr.allR ((j : Int) - 1) (bs.getD j []) (bs.getD j []).length = false from Tr.allR_no _ _ k _ hk h))
            have HB7 := Lib.hid (fun (h : Tr.allR ((j : Int) - 1) (bs.getD j []) (bs.getD j []).length = false) => HB5.out ⟨j, hlt, by rw [HOS, h]; rfl⟩)
            have HAS2 := Lib.hid (fun (h : Tr.allR ((j : Int) - 1) (bs.getD j []) (bs.getD j []).length = true) => (show okTo bs (j + 1) = true by rw [HAS, hall.out, h]; rfl))
            have HTK := Lib.hid (fun k hk => putL_take (bs.getD j []) 0 k hk)
            have hsl := src_lt bs j (by omega)
            have hol := out_lt bs j (by omega)
            have HSR := Lib.hid (show src bs (j + 1) = (if nd bs j = 0 then src bs j ||| 2 ^ j else src bs j) from rfl)
            have HOU := Lib.hid (show out bs (j + 1) = adn (out bs j) (nd bs j) ||| 2 ^ j from rfl)
            have HND := Lib.hid (show putL ((bs.getD j []).take (bs.getD j []).length) 0 = nd bs j by rw [List.take_length]; rfl)
            clear HOS HAS hup HB5 hrow
            generalize hLL : (bs.getD j []).length = L at *
            go_wp2_with (first | (go_at_call 42; (with_reducible refine HIN.out.mono ?_); rintro e w3 ⟨rfl, b3⟩; have hI3 := Lib.hid (hI.out.below b3)))
            have hI4 : Hid (GaI w.heap.size N c (some ⟨b, off, none⟩) (gm j p (ndK bs j 0) (src bs j) (out bs j)) w w3) := by rw [HS0.out]; exact hI3.out
            clear HS0 hI3 HIN cp0
            generalize wr = W9 at *
            go_loopw [5, 10, 38] (fun _ _ i wr => ∃ k : Nat, k ≤ L ∧ i = .int .i64 (k : Nat) ∧ Hid (Tr.allR ((j : Int) - 1) (bs.getD j []) k = true) ∧ Hid (GaI w.heap.size N c (some ⟨b, off, none⟩) (gm j p (ndK bs j k) (src bs j) (out bs j)) w wr)) (fun _ _ i _ => L - (intOf i).toNat)
            case atStart => exact ⟨0, Nat.zero_le _, rfl, Lib.hid rfl, hI4⟩
            case round =>
              obtain ⟨k, hk, rfl, hal, hI⟩ := hrel
              by_cases hkt : k < L
              · obtain ⟨b1, off1, eA, c3, hb1⟩ := hrow'.out wr hI.out.2.2.2.1 k (by omega)
                subst eA
                have x0 : wr.cell? ⟨w.heap.size + 1 + 1, 0, none⟩ = some (.int .i64 (j : Nat)) := hI.out.2.2.1.cell 0
                have x1 : wr.cell? ⟨w.heap.size + 1 + 1, 1, none⟩ = some (.int .i64 p) := hI.out.2.2.1.cell 1
                have x2 : wr.cell? ⟨w.heap.size + 1 + 1, 2, none⟩ = some (.int .u8 ((ndK bs j k 0 : Nat) : Int)) := hI.out.2.2.1.cell 2
                have x3 : wr.cell? ⟨w.heap.size + 1 + 1, 3, none⟩ = some (.int .u8 ((ndK bs j k 1 : Nat) : Int)) := hI.out.2.2.1.cell 3
                have x4 : wr.cell? ⟨w.heap.size + 1 + 1, 4, none⟩ = some (.int .u8 ((ndK bs j k 2 : Nat) : Int)) := hI.out.2.2.1.cell 4
                have x5 : wr.cell? ⟨w.heap.size + 1 + 1, 5, none⟩ = some (.int .u8 ((ndK bs j k 3 : Nat) : Int)) := hI.out.2.2.1.cell 5
                have x6 : wr.cell? ⟨w.heap.size + 1 + 1, 6, none⟩ = some (.int .u8 ((ndK bs j k 4 : Nat) : Int)) := hI.out.2.2.1.cell 6
                have x7 : wr.cell? ⟨w.heap.size + 1 + 1, 7, none⟩ = some (.int .u8 ((ndK bs j k 5 : Nat) : Int)) := hI.out.2.2.1.cell 7
                have x8 : wr.cell? ⟨w.heap.size + 1 + 1, 8, none⟩ = some (.int .u8 (src bs j : Nat)) := hI.out.2.2.1.cell 8
                have x9 : wr.cell? ⟨w.heap.size + 1 + 1, 9, none⟩ = some (.int .u8 (out bs j : Nat)) := hI.out.2.2.1.cell 9
                have HALk := HAL.out k
                rw [hal.out] at HALk
                have HNO := Lib.hid (fun h => HB7.out (HAN.out k (by omega) h))
                have HISN := Lib.hid (fun w9 => isn_i j p ((bs.getD j []).getD k 0) (ndK bs j k) (src bs j) (out bs j) (by omega) w9)
                have hATk := HAT.out k
                have hlt64 := HK.out k hal.out (by omega) (by omega)
                rw [← hATk] at hlt64
                have HSTk := HST.out k (by omega)
                rw [← hATk] at HSTk
                have hisR : Tr.isR ((j : Int) - 1) ((bs.getD j []).getD k 0) = (decide (0 ≤ (bs.getD j []).getD k 0) && decide ((bs.getD j []).getD k 0 < (j : Int))) := by
                  unfold Tr.isR
                  congr 1
                  exact decide_eq_decide.2 (by omega)
                rw [hisR] at HALk HNO
                by_cases hin : 0 ≤ (bs.getD j []).getD k 0 ∧ (bs.getD j []).getD k 0 < (j : Int)
                · obtain ⟨hx0, hxj⟩ := hin
                  rw [decide_eq_true hx0, decide_eq_true hxj] at HISN HALk
                  obtain ⟨bb', hbb'⟩ : ∃ n : Nat, (bs.getD j []).getD k 0 = (n : Int) := ⟨_, (Int.toNat_of_nonneg hx0).symm⟩
                  rw [hbb'] at HSTk c3 HISN hxj
                  have HAL1 : Hid (Tr.allR ((j : Int) - 1) (bs.getD j []) (k + 1) = true) := HALk
                  rw [show ((bb' : Int)).toNat = bb' from rfl] at HSTk
                  have hb6 : bb' < 6 := by omega
                  have hor := or8 _ (2 ^ bb') hlt64 (pow_lt bb' hb6)
                  have HM := Lib.hid (fun w9 => HK1.out w9 bb' hb6)
                  have hj6 : (j : Int) < 6 := by omega
                  have hj6' : j < 6 := by omega
                  have HC9 := Lib.hid (fun (w9 : World) (bb9 : Below wr.heap.size wr w9) => (show w9.cell? ⟨w.heap.size + 1 + 1, 2 + j, none⟩ = some (.int .u8 ((ndK bs j k j : Nat) : Int)) ∧ w9.frozen? ⟨w.heap.size + 1 + 1, 2 + j, none⟩ = false ∧
                      Hid (GaI w.heap.size N c (some ⟨b, off, none⟩) (gm j p (ndK bs j (k + 1)) (src bs j) (out bs j)) w (w9.setCell ⟨w.heap.size + 1 + 1, 2 + j, none⟩ (.int .u8 ((ndK bs j k j ||| 2 ^ bb' : Nat) : Int)))) from by
                    have hI9 := hI.out.below bb9
                    have k1 := blk1 hI9.2.2.1 (2 + j) (.int .u8 ((ndK bs j k j ||| 2 ^ bb' : Nat) : Int)) (by rw [gm_len]; omega)
                    rw [gm_set _ _ _ _ _ j hj6', HSTk] at k1
                    exact ⟨(hI9.2.2.1.cell _).trans (gm_f _ _ _ _ _ _ hj6'), hI9.2.2.1.froz _, Lib.hid (hI9.step k1 (keep1 _ _ _ _))⟩))
                  clear HALk HNO hisR hx0 HSTk HST HAT hATk HB7 HAN HAL HTK hbb' HGV HHR HB1 HB2 HB6 hI
                  unfold gm at HISN
                  generalize ndK bs j k j ||| 2 ^ bb' = s' at *
                  generalize ndK bs j k j = sv at *
                  generalize 2 ^ bb' = pw at *
                  generalize ndK bs j k 0 = n0 at *
                  generalize ndK bs j k 1 = n1 at *
                  generalize ndK bs j k 2 = n2 at *
                  generalize ndK bs j k 3 = n3 at *
                  generalize ndK bs j k 4 = n4 at *
                  generalize ndK bs j k 5 = n5 at *
                  go_wp2_with (first | (go_at_call 43; (with_reducible refine (HISN.out _).mono ?_); rintro e w3 ⟨rfl, b3⟩; obtain ⟨c9, f9, K9⟩ := HC9.out w3 b3; clear b3))
                  go_region_law (go_simp; go_at_call 44; (with_reducible refine (HM.out _).mono ?_); rintro e w9 ⟨rfl, rfl⟩)
                  all_goals
                    go_wp2
                    go_roundw
                    case rel => exact ⟨k + 1, by omega, by go_num, HAL1, Lib.hid K9.out.dr⟩
                    case measure => simp [intOf]; omega
                · have e := HNO.out (by rw [← Bool.decide_and, decide_eq_false hin])
                  rw [← Bool.decide_and, decide_eq_false hin] at HISN
                  clear HALk HNO hisR HSTk HST HAT hATk HB7 HAN HAL HTK HGV HHR HB1 HB2 HB6 hin HAS2
                  subst e
                  unfold gm at HISN
                  generalize ndK bs j k 0 = n0 at *
                  generalize ndK bs j k 1 = n1 at *
                  generalize ndK bs j k 2 = n2 at *
                  generalize ndK bs j k 3 = n3 at *
                  generalize ndK bs j k 4 = n4 at *
                  generalize ndK bs j k 5 = n5 at *
                  generalize (bs.getD j []).getD k 0 = xv at *
                  go_wp2_with (first | (go_at_call 43; (with_reducible refine (HISN.out _).mono ?_); rintro e w3 ⟨rfl, b3⟩; have hI3 := Lib.hid (hI.out.below b3); clear b3) | (with_reducible refine wpList_storeB rfl 58 (.tmp 4) (.tmp 46) rfl (w.heap.size + 1) 0 (gm 0 0 (fun _ => 0) 0 0) ?_ ?_ (gm 0 0 (fun _ => 0) 0 0) 58 ?_ ?_ ?_ ?_ ?_))
                  · rfl
                  · rfl
                  · exact hI3.out.2.1
                  · exact Nat.le_refl _
                  · kernel_rfl
                  · exact one_gm _ _ _ _ _
                  intro w8 k8 q8
                  rw [splice_all _ _ (by rfl)] at k8
                  go_wp2
                  refine bodyPost_ret (results2 (a := 4) (k := 5) (t := 58) (p := ⟨w.heap.size + 1, 0, none⟩) (by kernel_rfl) rfl (HL.out _ _ _ k8.out rfl) rfl) rfl ⟨?_, ?_⟩
                  · rw [HGF.out]; rfl
                  · exact hI3.out.2.2.2.1.trans (q8.out.below (by omega))
              · have e : k = L := by omega
                subst e
                have hT := HAS2.out hal.out
                have e : Hid (okTo bs (j + 1) = true) := hT
                clear hT
                have hHE : ndK bs j k = ndF bs (j + 1) := HSE.out
                have hnd : ndF bs (j + 1) j = nd bs j := by unfold ndF; rw [if_pos (by omega)]
                have hndl : nd bs j < 64 := by have := HK.out k hal.out (by omega) (by omega); rw [HND.out] at this; exact this
                have hj6' : j < 6 := by omega
                have hj6 : (j : Int) < 6 := by omega
                have cj : wr.cell? ⟨w.heap.size + 1 + 1, 2 + j, none⟩ = some (.int .u8 ((nd bs j : Nat) : Int)) := (hI.out.2.2.1.cell _).trans (by rw [hHE, gm_f _ _ _ _ _ _ hj6', hnd])
                have HAD := Lib.hid (add_i (w.heap.size + 1 + 1) j p (ndF bs (j + 1)) (src bs j) (out bs j) (nd bs j) hj6' hndl hsl hol wr (by rw [← hHE]; exact hI.out.2.2.1))
                rw [← HSR.out, ← HOU.out] at HAD
                clear HSE HK HST HAT HAL HAN HB7 HTK HND hHE hnd hndl hsl hol HSR HOU HAS2 HB6 HGV HB1 HB2 hrow' c1
                generalize nd bs j = m at *
                go_wp2_with (first | (go_at_call 45; (with_reducible refine HAD.out.mono ?_); rintro e9 w3 ⟨rfl, k3, q3⟩; have hI3 := Lib.hid (hI.out.step k3 q3)))
                go_roundw
                case rel => exact ⟨j + 1, by omega, by go_num, e, hI3⟩
                case measure => simp [intOf]; omega
        · have e : j = N := by omega
          subst e
          have e := HB6.out hall.out
          subst e
          have cg : Hid (GaI w.heap.size j c a (gm j p (ndF bs j) (src bs j) (out bs j)) w wr) := hI
          clear hI HHR HB1 HB2 HK1 HB5 HB6 HGF
          have x0 : wr.cell? ⟨w.heap.size + 1 + 1, 0, none⟩ = some (.int .i64 (j : Nat)) := cg.out.2.2.1.cell 0
          have x1 : wr.cell? ⟨w.heap.size + 1 + 1, 1, none⟩ = some (.int .i64 p) := cg.out.2.2.1.cell 1
          have x2 : wr.cell? ⟨w.heap.size + 1 + 1, 2, none⟩ = some (.int .u8 ((ndF bs j 0 : Nat) : Int)) := cg.out.2.2.1.cell 2
          have x3 : wr.cell? ⟨w.heap.size + 1 + 1, 3, none⟩ = some (.int .u8 ((ndF bs j 1 : Nat) : Int)) := cg.out.2.2.1.cell 3
          have x4 : wr.cell? ⟨w.heap.size + 1 + 1, 4, none⟩ = some (.int .u8 ((ndF bs j 2 : Nat) : Int)) := cg.out.2.2.1.cell 4
          have x5 : wr.cell? ⟨w.heap.size + 1 + 1, 5, none⟩ = some (.int .u8 ((ndF bs j 3 : Nat) : Int)) := cg.out.2.2.1.cell 5
          have x6 : wr.cell? ⟨w.heap.size + 1 + 1, 6, none⟩ = some (.int .u8 ((ndF bs j 4 : Nat) : Int)) := cg.out.2.2.1.cell 6
          have x7 : wr.cell? ⟨w.heap.size + 1 + 1, 7, none⟩ = some (.int .u8 ((ndF bs j 5 : Nat) : Int)) := cg.out.2.2.1.cell 7
          have x8 : wr.cell? ⟨w.heap.size + 1 + 1, 8, none⟩ = some (.int .u8 (src bs j : Nat)) := cg.out.2.2.1.cell 8
          have x9 : wr.cell? ⟨w.heap.size + 1 + 1, 9, none⟩ = some (.int .u8 (out bs j : Nat)) := cg.out.2.2.1.cell 9
          generalize src bs j = sj at *
          generalize out bs j = oj at *
          generalize ndF bs j = fj at *
          go_wp2_with (first | (with_reducible refine wpList_storeB rfl 58 (.tmp 4) (.tmp 63) rfl (w.heap.size + 1) 0 (gm j p fj sj oj) ?_ ?_ (gm 0 0 (fun _ => 0) 0 0) 58 ?_ ?_ ?_ ?_ ?_))
          · rfl
          · rfl
          · exact cg.out.2.1
          · exact Nat.le_refl _
          · kernel_rfl
          · exact one_gm _ _ _ _ _
          intro w8 k8 q8
          rw [splice_all _ _ (by rfl)] at k8
          go_wp2
          refine bodyPost_ret (results2 (a := 4) (k := 5) (t := 58) (p := ⟨w.heap.size + 1, 0, none⟩) (by kernel_rfl) rfl (HL.out _ _ _ k8.out rfl) rfl) rfl ⟨by rw [HGV.out]; rfl, ?_⟩
          exact cg.out.2.2.2.1.trans (q8.out.below (by omega))
  · have hbb : bb = false := by
      rw [← hbb]
      unfold okG
      rw [hNN]
      rcases Nat.lt_or_ge N 1 with h | h
      · rw [decide_eq_false (by omega)]; rfl
      · rw [decide_eq_false (show ¬ N ≤ 6 by omega)]; simp
    subst hbb
    have HB1 := Lib.hid (fun w9 => (show Calls Try.prog 41 #[.int .i64 (N : Int), .int .i64 1, .int .i64 6] w9 (Bl false w9) from by
      have := HBT.out (N : Int) 1 6 w9
      rwa [← Bool.decide_and, decide_eq_false (show ¬ ((1 : Int) ≤ (N : Int) ∧ (N : Int) ≤ 6) by omega)] at this))
    clear HBT HHR h16
    go_enter Try.func27, Try.ntmps27
    go_wp2_with (first | (go_at_call 41; (with_reducible refine (HB1.out _).mono ?_); rintro e w' ⟨rfl, rfl⟩) | (with_reducible refine wpList_storeB rfl 58 (.tmp 4) (.tmp 21) rfl (w.heap.size + 1) 0 (gm 0 0 (fun _ => 0) 0 0) ?_ ?_ (gm 0 0 (fun _ => 0) 0 0) 58 ?_ ?_ ?_ ?_ ?_))
    · rfl
    · rfl
    · exact BZ0.out.1
    · exact Nat.le_refl _
    · kernel_rfl
    · exact one_gm _ _ _ _ _
    intro w8 k8 q8
    rw [splice_all _ _ (by rfl)] at k8
    go_wp2
    refine bodyPost_ret (results2 (a := 4) (k := 5) (t := 58) (p := ⟨w.heap.size + 1, 0, none⟩) (by kernel_rfl) rfl (HL.out _ _ _ k8.out rfl) rfl) rfl ⟨rfl, ?_⟩
    exact BZ0.out.2.trans (q8.out.below (by omega))

end Go.Proofs.Ytepobkflahjldaa.Pb
