/- Whether moves are a pebbling, and where they lead: both sides. -/
import Derived.Test.YtepobkflahjldaaCrni
import Derived.Test.YtepobkflahjldaaCgmf
namespace Go.Proofs.Ytepobkflahjldaa.Pb
open Go.RowKit Pv
def pbQ (bs : List (List Int)) (p : Int) (ms : List Mo.R) : Option (Nat × Nat × Nat) := if okG bs && inP p then rvA bs p ms else none
def ispV (bs : List (List Int)) (p : Int) (ms : List Mo.R) : Bool := (pbQ bs p ms).isSome && decide (adn (out bs bs.length) (gS (pbQ bs p ms)) = 0)
theorem pbQ_no {bs : List (List Int)} {p : Int} {ms : List Mo.R} (h : (okG bs && inP p) = false) : pbQ bs p ms = none := by unfold pbQ; rw [h]; rfl
theorem pbQ_long {bs : List (List Int)} {p : Int} {ms : List Mo.R} (h : ¬ ms.length ≤ 60) : pbQ bs p ms = none := by unfold pbQ rvA; rw [if_neg h]; split <;> rfl
theorem pbQ_yes {bs : List (List Int)} {p : Int} {ms : List Mo.R} (h1 : okG bs = true) (h2 : inP p = true) (h : ms.length ≤ 60) : pbQ bs p ms = runA bs p ms ms.length := by unfold pbQ rvA; rw [h1, h2, if_pos h]; rfl
theorem gS_lt {bs : List (List Int)} (h6 : bs.length ≤ 6) {p : Int} {ms : List Mo.R} {j : Nat} : gS (runA bs p ms j) < 64 ∧ gF (runA bs p ms j) < 64 := by
  cases e : runA bs p ms j with
  | none => exact ⟨by show 0 < 64; omega, by show 0 < 64; omega⟩
  | some q =>
    obtain ⟨f, s, t⟩ := q
    have := runA_lt h6 e
    exact ⟨this.2.1, this.1⟩
theorem rv_lt {bs : List (List Int)} (h6 : bs.length ≤ 6) {p : Int} {ms : List Mo.R} : gS (rvA bs p ms) < 64 ∧ gF (rvA bs p ms) < 64 := by
  unfold rvA
  split
  · exact gS_lt h6
  · exact ⟨by show 0 < 64; omega, by show 0 < 64; omega⟩
theorem places_s (p : Int) (w : World) : Calls Try.prog 22 #[.int .i64 p] w (Bl (inP p) w) := by
  have H := Lib.hid (show Calls Try.prog 37 #[.int .i64 p, .int .i64 1, .int .i64 6] w (Bl (inP p) w) from Tr.in_g p 1 6 w)
  generalize inP p = r at *
  go_enter Try.func22, Try.ntmps22
  go_wp2_with (go_at_call 37; refine H.out.mono ?_; rintro e w1 ⟨rfl, rfl⟩)
  go_ret
  exact ⟨rfl, rfl⟩
theorem done_i (n : Nat) (p : Int) (g : Nat → Nat) (s0 o0 f s : Nat) (ho : o0 < 64) (hs : s < 64) (w : World) :
    Calls Try.prog 34 #[.agg (gm n p g s0 o0).toArray, .agg #[.int .u8 (f : Int), .int .u8 (s : Int)]] w (Bb (decide (adn o0 s = 0)) w) := by
  have ha := adn8 o0 s ho hs
  have b0 : Below w.heap.size w ((w.alloc (.cells (gm n p g s0 o0).toArray 58)).alloc (.cells #[.int .u8 (f : Int), .int .u8 (s : Int)] 62)) := ((Below.refl _ w).alloc (Nat.le_refl _) _).alloc (by simp) _
  have HB := Lib.hid b0
  have hd : ((((adn o0 s : Nat) : Int)) == 0) = decide (adn o0 s = 0) := by
    by_cases e : adn o0 s = 0
    · rw [e]; rfl
    · rw [decide_eq_false e]; simp; exact e
  unfold gm at *
  clear b0
  generalize decide (adn o0 s = 0) = r at *
  generalize adn o0 s = q at *
  go_enter Try.func34, Try.ntmps34
  go_wp2
  go_ret
  exact ⟨by first | rfl | simp [hd], HB.out⟩

set_option maxHeartbeats 4000000 in
theorem isp_s {v : Value} {bs : List (List Int)} {w : World} (h : RdG w v bs) (p : Int) (am : Option Addr) (cm : Nat) (ms : List Mo.R) (hm : Mo.RdR w am ms) (hl2 : ms.length ≤ 1048576) : Calls Try.prog 18 #[v, .int .i64 p, .slice am ms.length cm] w (Bb (ispV bs p ms) w) := by
  obtain ⟨a, c, rfl, h1, hl⟩ := h
  obtain ⟨⟨b0, b1, b2⟩, bb⟩ := RdG.boxed (c := c) h1 31
  have HG := Lib.hid (isg_s w.heap.size a c bs _ b2 b0 b1 hl)
  have HP := Lib.hid (fun w9 => places_s p w9)
  have HR := Lib.hid (fun (w' : World) (hb : Below (w.alloc (.cells #[.slice a bs.length c] 31)).heap.size (w.alloc (.cells #[.slice a bs.length c] 31)) w') => And.intro (Nat.lt_of_lt_of_le b2 hb.size) (And.intro ((hb.cell (p := ⟨w.heap.size, 0, none⟩) b2).trans b0) (RdR.below b1 hb)))
  have HM := Lib.hid (fun (w' : World) (hb : Below w.heap.size w w') => hm.below hb)
  clear b0 b1 b2 h1 hm
  cases hr : okG bs
  · rw [hr] at HG
    have hq : pbQ bs p ms = none := pbQ_no (by rw [hr]; rfl)
    have hv : ispV bs p ms = false := by unfold ispV; rw [hq]; rfl
    rw [hv]
    clear hv
    clear HR hr hl hq HM
    generalize bs.length = N at *
    generalize ms.length = L at *
    go_enter Try.func18, Try.ntmps18
    go_wp2_with (first | (go_at_call 21; (with_reducible refine HG.out.mono ?_); rintro e w1 ⟨rfl, b1⟩; have B1 := Lib.hid (bt bb b1); clear b1 bb))
    go_ret
    exact ⟨rfl, B1.out⟩
  · rw [hr] at HG
    cases hp : inP p
    · rw [hp] at HP
      have hq : pbQ bs p ms = none := pbQ_no (by rw [hp]; simp)
      have hv : ispV bs p ms = false := by unfold ispV; rw [hq]; rfl
      rw [hv]
      clear hv
      clear HR hr hl hq hp HM
      generalize bs.length = N at *
      generalize ms.length = L at *
      go_enter Try.func18, Try.ntmps18
      go_wp2_with (first | (go_at_call 21; (with_reducible refine HG.out.mono ?_); rintro e w1 ⟨rfl, b1⟩; have B1 := Lib.hid (bt bb b1); clear b1 bb) | (go_at_call 22; (with_reducible refine (HP.out _).mono ?_); rintro e w2 ⟨rfl, rfl⟩))
      go_ret
      exact ⟨rfl, B1.out⟩
    · rw [hp] at HP
      by_cases h60 : ms.length ≤ 60
      · have hq := pbQ_yes hr hp h60
        have h6 := (okG_len hr).2
        have HMV := Lib.hid (fun (w' : World) (hb : Below (w.alloc (.cells #[.slice a bs.length c] 31)).heap.size (w.alloc (.cells #[.slice a bs.length c] 31)) w') => (show Calls Try.prog 23 #[.pointer (some ⟨w.heap.size, 0, none⟩), .int .i64 p, .slice am ms.length cm] w' (MsP (runA bs p ms ms.length) w') from by
          obtain ⟨x0, x1, x2⟩ := HR.out w' hb
          exact moves_s w.heap.size a c bs w' x0 x1 h6 x2 hr p am cm ms (HM.out w' (bt bb hb)) h60))
        have HOU := Lib.hid (fun (w' : World) (hb : Below (w.alloc (.cells #[.slice a bs.length c] 31)).heap.size (w.alloc (.cells #[.slice a bs.length c] 31)) w') => (show Calls Try.prog 33 #[.pointer (some ⟨w.heap.size, 0, none⟩)] w' (NwG ((out bs bs.length : Nat) : Int) w') from by
          obtain ⟨_, x1, x2⟩ := HR.out w' hb
          rw [← out_same hr]
          exact out_s w.heap.size a c bs w' x1 x2 h6 fun j hj => okG_row hr j hj))
        have hgl := gS_lt h6 (p := p) (ms := ms) (j := ms.length)
        have hol := out_lt bs bs.length h6
        have hd60 : decide ((60 : Int) < (ms.length : Int)) = false := by simp; omega
        have hn60 : ¬ 60 < ms.length := by omega
        unfold ispV
        rw [hq]
        have had := adn64 _ _ hol hgl.1
        have hd : ((((adn (out bs bs.length) (gS (runA bs p ms ms.length)) : Nat) : Int)) == 0) = decide (adn (out bs bs.length) (gS (runA bs p ms ms.length)) = 0) := by
          by_cases e : adn (out bs bs.length) (gS (runA bs p ms ms.length)) = 0
          · rw [e]; rfl
          · rw [decide_eq_false e]; simp; exact e
        clear HR hr hl hq hp HM h60 hgl hol
        generalize runA bs p ms ms.length = q at *
        generalize decide (adn (out bs bs.length) (gS q) = 0) = dd at *
        generalize adn (out bs bs.length) (gS q) = dq at *
        generalize out bs bs.length = ov at *
        generalize bs.length = N at *
        unfold MsP at HMV
        generalize gS q = qs at *
        generalize gF q = qf at *
        generalize gT q = qt at *
        generalize ms.length = L at *
        cases hqs : q.isSome
        · rw [hqs] at HMV
          go_enter Try.func18, Try.ntmps18
          go_wp2_with (first | (go_at_call 21; (with_reducible refine HG.out.mono ?_); rintro e w1 ⟨rfl, b1⟩; have B1 := Lib.hid (bt bb b1); have HM1 := Lib.hid (HMV.out w1 b1); clear b1 bb) | (go_at_call 22; (with_reducible refine (HP.out _).mono ?_); rintro e w2 ⟨rfl, rfl⟩) | (go_at_call 23; (with_reducible refine HM1.out.mono ?_); rintro e w3 ⟨rfl, b3⟩; have B3 := Lib.hid (bt B1.out b3); clear b3))
          go_ret
          exact ⟨rfl, B3.out⟩
        · rw [hqs] at HMV
          go_enter Try.func18, Try.ntmps18
          go_wp2_with (first | (go_at_call 21; (with_reducible refine HG.out.mono ?_); rintro e w1 ⟨rfl, b1⟩; have B1 := Lib.hid (bt bb b1); have HB1 := Lib.hid b1; have HM1 := Lib.hid (HMV.out w1 b1); clear b1 bb) | (go_at_call 22; (with_reducible refine (HP.out _).mono ?_); rintro e w2 ⟨rfl, rfl⟩) | (go_at_call 23; (with_reducible refine HM1.out.mono ?_); rintro e w3 ⟨rfl, b3⟩; have B3 := Lib.hid (bt B1.out b3); have HO3 := Lib.hid (HOU.out w3 (bt HB1.out b3)); clear b3) | (go_at_call 33; (with_reducible refine HO3.out.mono ?_); rintro e w4 ⟨rfl, rfl⟩))
          go_ret
          exact ⟨by first | rfl | simp [hd], B3.out⟩
      · have hq : pbQ bs p ms = none := pbQ_long h60
        have hv : ispV bs p ms = false := by unfold ispV; rw [hq]; rfl
        rw [hv]
        clear hv
        have hd60 : decide ((60 : Int) < (ms.length : Int)) = true := by simp; omega
        have hn60 : 60 < ms.length := by omega
        clear HR hr hl hq hp HM h60
        generalize bs.length = N at *
        generalize ms.length = L at *
        go_enter Try.func18, Try.ntmps18
        go_wp2_with (first | (go_at_call 21; (with_reducible refine HG.out.mono ?_); rintro e w1 ⟨rfl, b1⟩; have B1 := Lib.hid (bt bb b1); clear b1 bb) | (go_at_call 22; (with_reducible refine (HP.out _).mono ?_); rintro e w2 ⟨rfl, rfl⟩))
        go_ret
        exact ⟨rfl, B1.out⟩
set_option maxHeartbeats 4000000 in
theorem isp_i {v : Value} {bs : List (List Int)} {w : World} (h : RdG w v bs) (p : Int) (am : Option Addr) (cm : Nat) (ms : List Mo.R) (hm : Mo.RdR w am ms) (hl2 : ms.length ≤ 1048576) : Calls Try.prog 19 #[v, .int .i64 p, .slice am ms.length cm] w (Bb (ispV bs p ms) w) := by
  obtain ⟨a, c, rfl, h1, hl⟩ := h
  obtain ⟨⟨b0, b1, b2⟩, bb⟩ := RdG.boxed (c := c) h1 31
  have HG0 := game_i a c bs p _ b1 hl
  unfold GamP at HG0
  have HM := Lib.hid (fun (w' : World) (hb : Below w.heap.size w w') => hm.below hb)
  clear b0 b1 b2 h1 hm
  cases hr : (okG bs && inP p)
  · rw [hr] at HG0
    have HG := Lib.hid HG0
    have hq : pbQ bs p ms = none := pbQ_no hr
    have hgb : gmB false bs p = gm 0 0 (fun _ => 0) 0 0 := rfl
    rw [hgb] at HG
    have hv : ispV bs p ms = false := by unfold ispV; rw [hq]; rfl
    rw [hv]
    clear hv
    clear HG0 hr hl hq HM hgb
    generalize bs.length = N at *
    generalize ms.length = L at *
    go_enter Try.func19, Try.ntmps19
    go_wp2_with (first | (go_at_call 27; (with_reducible refine HG.out.mono ?_); rintro e w1 ⟨rfl, b1⟩; have B1 := Lib.hid (bt bb b1); clear b1 bb) | (with_reducible refine wpList_storeB rfl 58 (.tmp 7) (.tmp 15) rfl w1.heap.size 0 (gm 0 0 (fun _ => 0) 0 0) ?_ ?_ (gm 0 0 (fun _ => 0) 0 0) 58 ?_ ?_ ?_ ?_ ?_))
    · rfl
    · rfl
    · exact Blk.newAt _ _ _ _ rfl
    · exact Nat.le_refl _
    · kernel_rfl
    · exact one_gm _ _ _ _ _
    intro w2 k2 q2
    have B2 : Hid (Below w.heap.size w w2) := (B1.out.alloc B1.out.size _).trans (q2.out.below B1.out.size)
    clear k2 q2 HG
    go_wp2
    go_ret
    exact ⟨rfl, B2.out⟩
  · rw [hr] at HG0
    have hr1 : okG bs = true := by rw [Bool.and_eq_true] at hr; exact hr.1
    have hr2 : inP p = true := by rw [Bool.and_eq_true] at hr; exact hr.2
    have h6 := (okG_len hr1).2
    have hgb : gmB true bs p = gm bs.length p (ndF bs bs.length) (src bs bs.length) (out bs bs.length) := rfl
    rw [hgb] at HG0
    have HG := Lib.hid HG0
    have hq : pbQ bs p ms = rvA bs p ms := by unfold pbQ; rw [hr]; rfl
    have HRN := Lib.hid (fun (w' : World) (hb : Below w.heap.size w w') => run_i bs h6 (fun i hi => nd_lt (okG_row hr1 i hi) (by omega)) p (out bs bs.length) am cm ms w' (HM.out w' hb) hl2)
    have hgl := rv_lt h6 (p := p) (ms := ms)
    have hol := out_lt bs bs.length h6
    have gms : ∀ n p g s0 o0, (gm n p g s0 o0).toArray = #[.int .i64 (n : Nat), .int .i64 p, .int .u8 (g 0 : Nat), .int .u8 (g 1 : Nat), .int .u8 (g 2 : Nat), .int .u8 (g 3 : Nat), .int .u8 (g 4 : Nat), .int .u8 (g 5 : Nat), .int .u8 (s0 : Nat), .int .u8 (o0 : Nat)] := fun _ _ _ _ _ => rfl
    unfold ispV
    rw [hq]
    have HDN := Lib.hid (fun w9 => done_i bs.length p (ndF bs bs.length) (src bs bs.length) (out bs bs.length) (gF (rvA bs p ms)) (gS (rvA bs p ms)) hol hgl.1 w9)
    rw [gms] at HRN HDN
    clear HG0 hr hl hq HM hgb hr1 hr2 hgl hol h6
    generalize rvA bs p ms = q at *
    generalize decide (adn (out bs bs.length) (gS q) = 0) = dd at *
    generalize out bs bs.length = ov at *
    generalize src bs bs.length = sv at *
    generalize ndF bs bs.length = fv at *
    unfold RnP at HRN
    generalize gS q = qs at *
    generalize gF q = qf at *
    generalize gT q = qt at *
    generalize bs.length = N at *
    generalize ms.length = L at *
    cases hqs : q.isSome
    all_goals
      rw [hqs] at HRN
      go_enter Try.func19, Try.ntmps19
      go_wp2_with (first | (go_at_call 27; (with_reducible refine HG.out.mono ?_); rintro e w1 ⟨rfl, b1⟩; have B1 := Lib.hid (bt bb b1); clear b1 bb) | (with_reducible refine wpList_storeB rfl 58 (.tmp 7) (.tmp 15) rfl w1.heap.size 0 (gm N p fv sv ov) ?_ ?_ (gm 0 0 (fun _ => 0) 0 0) 58 ?_ ?_ ?_ ?_ ?_))
      · rfl
      · rfl
      · exact Blk.newAt _ _ _ _ rfl
      · exact Nat.le_refl _
      · kernel_rfl
      · exact one_gm _ _ _ _ _
      intro w2 k2 q2
      rw [splice_all _ _ (by rfl)] at k2
      have B2 : Hid (Below w.heap.size w w2) := (B1.out.alloc B1.out.size _).trans (q2.out.below B1.out.size)
      have hl2' := k2.out.lt
      generalize w1.heap.size = GBk at *
      have g_0 : w2.cell? ⟨GBk, 0, none⟩ = some (.int .i64 ((N : Nat) : Int)) := k2.out.cell 0
      have g_1 : w2.cell? ⟨GBk, 1, none⟩ = some (.int .i64 p) := k2.out.cell 1
      have g_2 : w2.cell? ⟨GBk, 2, none⟩ = some (.int .u8 ((fv 0 : Nat) : Int)) := k2.out.cell 2
      have g_3 : w2.cell? ⟨GBk, 3, none⟩ = some (.int .u8 ((fv 1 : Nat) : Int)) := k2.out.cell 3
      have g_4 : w2.cell? ⟨GBk, 4, none⟩ = some (.int .u8 ((fv 2 : Nat) : Int)) := k2.out.cell 4
      have g_5 : w2.cell? ⟨GBk, 5, none⟩ = some (.int .u8 ((fv 3 : Nat) : Int)) := k2.out.cell 5
      have g_6 : w2.cell? ⟨GBk, 6, none⟩ = some (.int .u8 ((fv 4 : Nat) : Int)) := k2.out.cell 6
      have g_7 : w2.cell? ⟨GBk, 7, none⟩ = some (.int .u8 ((fv 5 : Nat) : Int)) := k2.out.cell 7
      have g_8 : w2.cell? ⟨GBk, 8, none⟩ = some (.int .u8 (sv : Int)) := k2.out.cell 8
      have g_9 : w2.cell? ⟨GBk, 9, none⟩ = some (.int .u8 (ov : Int)) := k2.out.cell 9
      have HC3 := Lib.hid (fun (w3 : World) (b3 : Below w2.heap.size w2 w3) => (show w3.cell? ⟨GBk, 0, none⟩ = some (.int .i64 ((N : Nat) : Int)) ∧ w3.cell? ⟨GBk, 1, none⟩ = some (.int .i64 p) ∧ w3.cell? ⟨GBk, 2, none⟩ = some (.int .u8 ((fv 0 : Nat) : Int)) ∧ w3.cell? ⟨GBk, 3, none⟩ = some (.int .u8 ((fv 1 : Nat) : Int)) ∧ w3.cell? ⟨GBk, 4, none⟩ = some (.int .u8 ((fv 2 : Nat) : Int)) ∧ w3.cell? ⟨GBk, 5, none⟩ = some (.int .u8 ((fv 3 : Nat) : Int)) ∧ w3.cell? ⟨GBk, 6, none⟩ = some (.int .u8 ((fv 4 : Nat) : Int)) ∧ w3.cell? ⟨GBk, 7, none⟩ = some (.int .u8 ((fv 5 : Nat) : Int)) ∧ w3.cell? ⟨GBk, 8, none⟩ = some (.int .u8 (sv : Int)) ∧ w3.cell? ⟨GBk, 9, none⟩ = some (.int .u8 (ov : Int)) ∧ GBk < w3.heap.size ∧ Hid (Below w.heap.size w w3) from by
        have h := k2.out.below b3 k2.out.lt
        exact ⟨h.cell 0, h.cell 1, h.cell 2, h.cell 3, h.cell 4, h.cell 5, h.cell 6, h.cell 7, h.cell 8, h.cell 9, h.lt, bt B2.out b3⟩))
      clear q2 HG k2
      go_wp2_with (first | (go_at_call 28; (with_reducible refine (HRN.out _ B2.out).mono ?_); rintro e w3 ⟨rfl, b3⟩; obtain ⟨e_0, e_1, e_2, e_3, e_4, e_5, e_6, e_7, e_8, e_9, elt, B3⟩ := HC3.out w3 b3; clear b3) | (go_at_call 34; (with_reducible refine (HDN.out _).mono ?_); rintro e w4 ⟨rfl, b4⟩))
      go_ret
      first
      | exact ⟨rfl, (B3.out.alloc B3.out.size _).trans (b4.mono (by have := B3.out.size; simp; omega))⟩
      | exact ⟨rfl, B3.out.alloc B3.out.size _⟩
end Go.Proofs.Ytepobkflahjldaa.Pb
