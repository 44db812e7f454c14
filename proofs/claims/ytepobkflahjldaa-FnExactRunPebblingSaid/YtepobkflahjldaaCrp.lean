/- Where moves lead: both RunPebbling. -/
import Derived.Test.YtepobkflahjldaaCisp
import Derived.Deep.RegionHeld3
namespace Go.Proofs.Ytepobkflahjldaa.Pb
open Go.RowKit Pv
/-- What RunPebbling leaves: two lists of its own, apart, a number, and whether it succeeded. -/
def RpP (y1 y2 : List Int) (n : Int) (r : Bool) (w : World) (e : Ending) (w' : World) : Prop :=
  ∃ v1 v2, e = .returned (.tuple #[v1, v2, .int .i64 n, .bool r]) ∧ OwnW w' w.heap.size v1 y1 ∧ OwnW w' w.heap.size v2 y2 ∧ (∀ k, v1.ownBlock = some k → v2.ownBlock ≠ some k) ∧ Below w.heap.size w w'
def RqP (q : Option (Nat × Nat × Nat)) : World → Ending → World → Prop := RpP (bitL (gF q) 6) (bitL (gS q) 6) ((gT q : Nat) : Int) q.isSome
theorem rq_none {w w' : World} (hb : Below w.heap.size w w') : RqP none w (.returned (.tuple #[.slice none 0 0, .slice none 0 0, .int .i64 0, .bool false])) w' := by
  unfold RqP
  have e1 : bitL (gF none) 6 = [] := bitL_zero
  have e2 : bitL (gS none) 6 = [] := bitL_zero
  rw [e1, e2]
  exact ⟨_, _, rfl, OwnW.nil _ _, OwnW.nil _ _, (fun k h => by simp [Value.ownBlock] at h), hb⟩
theorem rq_make {f s : Nat} {q : Option (Nat × Nat × Nat)} {n : Int} {r : Bool} {w wa wb wc w' : World} {v1 v2 : Value} (hf : gF q = f) (hs : gS q = s) (hn : ((gT q : Nat) : Int) = n) (hr : q.isSome = r)
    (h1 : Own wa wb.heap.size v1 (bitL f 6)) (h2 : Own w' wc.heap.size v2 (bitL s 6)) (hab : Below wa.heap.size wa w') (hac : wa.heap.size ≤ wc.heap.size) (hb : w.heap.size ≤ wb.heap.size) (hc : w.heap.size ≤ wc.heap.size) (hB : Below w.heap.size w w') :
    RqP q w (.returned (.tuple #[v1, v2, .int .i64 n, .bool r])) w' := by
  subst hf hs hn hr
  refine ⟨v1, v2, rfl, ((h1.below hab (Nat.le_refl _)).mono hb).weak, (h2.mono hc).weak, fun k hk hk2 => ?_, hB⟩
  have h3 := (h1.block k hk).2
  have h4 := (h2.block k hk2).1
  omega
theorem rq_make2 {f s : Nat} {q : Option (Nat × Nat × Nat)} {n : Int} {r : Bool} {w wa wb wc w' : World} {v1 v2 : Value} (hf : gF q = f) (hs : gS q = s) (hn : ((gT q : Nat) : Int) = n) (hr : q.isSome = r)
    (h2 : Own wa wb.heap.size v2 (bitL s 6)) (h1 : Own w' wc.heap.size v1 (bitL f 6)) (hab : Below wa.heap.size wa w') (hac : wa.heap.size ≤ wc.heap.size) (hb : w.heap.size ≤ wb.heap.size) (hc : w.heap.size ≤ wc.heap.size) (hB : Below w.heap.size w w') :
    RqP q w (.returned (.tuple #[v1, v2, .int .i64 n, .bool r])) w' := by
  subst hf hs hn hr
  refine ⟨v1, v2, rfl, (h1.mono hc).weak, ((h2.below hab (Nat.le_refl _)).mono hb).weak, fun k hk hk2 => ?_, hB⟩
  have h3 := (h2.block k hk2).2
  have h4 := (h1.block k hk).1
  omega

set_option maxHeartbeats 4000000 in
theorem rp_s {v : Value} {bs : List (List Int)} {w : World} (h : RdG w v bs) (p : Int) (am : Option Addr) (cm : Nat) (ms : List Mo.R) (hm : Mo.RdR w am ms) (hl2 : ms.length ≤ 1048576) : Calls Try.prog 7 #[v, .int .i64 p, .slice am ms.length cm] w (RqP (pbQ bs p ms) w) := by
  obtain ⟨a, c, rfl, h1, hl⟩ := h
  obtain ⟨⟨b0, b1, b2⟩, bb⟩ := RdG.boxed (c := c) h1 31
  have HG := Lib.hid (isg_s w.heap.size a c bs _ b2 b0 b1 hl)
  have HP := Lib.hid (fun w9 => places_s p w9)
  have HR := Lib.hid (fun (w' : World) (hb : Below (w.alloc (.cells #[.slice a bs.length c] 31)).heap.size (w.alloc (.cells #[.slice a bs.length c] 31)) w') => And.intro (Nat.lt_of_lt_of_le b2 hb.size) (And.intro ((hb.cell (p := ⟨w.heap.size, 0, none⟩) b2).trans b0) (RdR.below b1 hb)))
  have HM := Lib.hid (fun (w' : World) (hb : Below w.heap.size w w') => hm.below hb)
  clear b0 b1 b2 h1 hm
  cases hr : okG bs
  · rw [hr] at HG
    have hq : pbQ bs p ms = none := pbQ_no (by rw [hr]; rfl)
    rw [hq]
    clear HR hr hl hq HM
    generalize bs.length = N at *
    generalize ms.length = L at *
    go_enter Try.func7, Try.ntmps7
    go_wp2_with (first | (go_at_call 21; (with_reducible refine HG.out.mono ?_); rintro e w1 ⟨rfl, b1⟩; have B1 := Lib.hid (bt bb b1); clear b1 bb))
    refine bodyPost_ret (v := .tuple #[.slice none 0 0, .slice none 0 0, .int .i64 0, .bool false]) (by simp [results, Try.results7, go_sem]) rfl (rq_none B1.out)
  · rw [hr] at HG
    cases hp : inP p
    · rw [hp] at HP
      have hq : pbQ bs p ms = none := pbQ_no (by rw [hp]; simp)
      rw [hq]
      clear HR hr hl hq hp HM
      generalize bs.length = N at *
      generalize ms.length = L at *
      go_enter Try.func7, Try.ntmps7
      go_wp2_with (first | (go_at_call 21; (with_reducible refine HG.out.mono ?_); rintro e w1 ⟨rfl, b1⟩; have B1 := Lib.hid (bt bb b1); clear b1 bb) | (go_at_call 22; (with_reducible refine (HP.out _).mono ?_); rintro e w2 ⟨rfl, rfl⟩))
      refine bodyPost_ret (v := .tuple #[.slice none 0 0, .slice none 0 0, .int .i64 0, .bool false]) (by simp [results, Try.results7, go_sem]) rfl (rq_none B1.out)
    · rw [hp] at HP
      by_cases h60 : ms.length ≤ 60
      · have hq := pbQ_yes hr hp h60
        have h6 := (okG_len hr).2
        have HMV := Lib.hid (fun (w' : World) (hb : Below (w.alloc (.cells #[.slice a bs.length c] 31)).heap.size (w.alloc (.cells #[.slice a bs.length c] 31)) w') => (show Calls Try.prog 23 #[.pointer (some ⟨w.heap.size, 0, none⟩), .int .i64 p, .slice am ms.length cm] w' (MsP (runA bs p ms ms.length) w') from by
          obtain ⟨x0, x1, x2⟩ := HR.out w' hb
          exact moves_s w.heap.size a c bs w' x0 x1 h6 x2 hr p am cm ms (HM.out w' (bt bb hb)) h60))
        have HOU := Lib.hid (fun (w' : World) (hb : Below (w.alloc (.cells #[.slice a bs.length c] 31)).heap.size (w.alloc (.cells #[.slice a bs.length c] 31)) w') => (show Calls Try.prog 33 #[.pointer (some ⟨w.heap.size, 0, none⟩)] w' (NwG ((out bs bs.length : Nat) : Int) w') from by
          obtain ⟨_, x1, x2⟩ := HR.out w' hb
          rw [← out_same hr]
          exact out_s w.heap.size a c bs w' x1 x2 h6 fun j hj => okG_row hr j hj))
        have hgl := gS_lt h6 (p := p) (ms := ms) (j := ms.length)
        have hol := out_lt bs bs.length h6
        have hd60 : decide ((60 : Int) < (ms.length : Int)) = false := by simp; omega
        have hn60 : ¬ 60 < ms.length := by omega
        rw [hq]
        clear HOU hol HR hr hl hq HM h60
        generalize runA bs p ms ms.length = q at *
        generalize hLL : ms.length = L at *
        unfold MsP at HMV
        generalize bs.length = N at *
        cases q with
        | none =>
          have e1 : gF none = 0 := rfl
          have e2 : gS none = 0 := rfl
          have e3 : gT none = 0 := rfl
          have e4 : (none : Option (Nat × Nat × Nat)).isSome = false := rfl
          rw [e1, e2, e3, e4] at HMV
          clear e1 e2 e3 e4
          go_enter Try.func7, Try.ntmps7
          go_wp2_with (first | (go_at_call 21; (with_reducible refine HG.out.mono ?_); rintro e w1 ⟨rfl, b1⟩; have B1 := Lib.hid (bt bb b1); have HM1 := Lib.hid (HMV.out w1 b1); clear b1 bb) | (go_at_call 22; (with_reducible refine (HP.out _).mono ?_); rintro e w2 ⟨rfl, rfl⟩) | (go_at_call 23; (with_reducible refine HM1.out.mono ?_); rintro e w3 ⟨rfl, b3⟩; have B3 := Lib.hid (bt B1.out b3); clear b3))
          refine bodyPost_ret (v := .tuple #[.slice none 0 0, .slice none 0 0, .int .i64 0, .bool false]) (by simp [results, Try.results7, go_sem]) rfl (rq_none B3.out)
        | some q =>
          obtain ⟨f, s, t⟩ := q
          have hs64 : s < 64 := hgl.1
          have hf64 : f < 64 := hgl.2
          have e1 : gF (some (f, s, t)) = f := rfl
          have e2 : gS (some (f, s, t)) = s := rfl
          have e3 : gT (some (f, s, t)) = t := rfl
          have e4 : (some (f, s, t) : Option (Nat × Nat × Nat)).isSome = true := rfl
          rw [e1, e2, e3, e4] at HMV
          clear e1 e2 e3 e4 hgl
          have HT1 := Lib.hid (fun w9 => set_s f hf64 w9)
          have HT2 := Lib.hid (fun w9 => set_s s hs64 w9)
          go_enter Try.func7, Try.ntmps7
          go_upto_region 6 with (first | (go_at_call 21; (with_reducible refine HG.out.mono ?_); rintro e w1 ⟨rfl, b1⟩; have B1 := Lib.hid (bt bb b1); have HM1 := Lib.hid (HMV.out w1 b1); clear b1 bb) | (go_at_call 22; (with_reducible refine (HP.out _).mono ?_); rintro e w2 ⟨rfl, rfl⟩) | (go_at_call 23; (with_reducible refine HM1.out.mono ?_); rintro e w3 ⟨rfl, b3⟩; have B3 := Lib.hid (bt B1.out b3); clear b3))
          go_wp2_with fail
          refine (HT1.out _).mono ?_; rintro e w4 ⟨v4, rfl, o4, b4⟩
          go_wp2_with fail
          refine (HT2.out _).mono ?_; rintro e w5 ⟨v5, rfl, o5, b5⟩
          go_wp2
          refine bodyPost_ret (v := .tuple #[v4, v5, .int .i64 (t : Int), .bool true]) (by simp [results, Try.results7, go_sem]) rfl ?_
          exact rq_make rfl rfl rfl rfl o4 o5 b5 (Nat.le_refl _) B3.out.size (Nat.le_trans B3.out.size b4.size) (bt (bt B3.out b4) b5)
      · have hq : pbQ bs p ms = none := pbQ_long h60
        rw [hq]
        have hd60 : decide ((60 : Int) < (ms.length : Int)) = true := by simp; omega
        have hn60 : 60 < ms.length := by omega
        clear HR hr hl hq hp HM h60
        generalize bs.length = N at *
        generalize ms.length = L at *
        go_enter Try.func7, Try.ntmps7
        go_wp2_with (first | (go_at_call 21; (with_reducible refine HG.out.mono ?_); rintro e w1 ⟨rfl, b1⟩; have B1 := Lib.hid (bt bb b1); clear b1 bb) | (go_at_call 22; (with_reducible refine (HP.out _).mono ?_); rintro e w2 ⟨rfl, rfl⟩))
        refine bodyPost_ret (v := .tuple #[.slice none 0 0, .slice none 0 0, .int .i64 0, .bool false]) (by simp [results, Try.results7, go_sem]) rfl (rq_none B1.out)
set_option maxHeartbeats 4000000 in
theorem rp_i {v : Value} {bs : List (List Int)} {w : World} (h : RdG w v bs) (p : Int) (am : Option Addr) (cm : Nat) (ms : List Mo.R) (hm : Mo.RdR w am ms) (hl2 : ms.length ≤ 1048576) : Calls Try.prog 10 #[v, .int .i64 p, .slice am ms.length cm] w (RqP (pbQ bs p ms) w) := by
  obtain ⟨a, c, rfl, h1, hl⟩ := h
  obtain ⟨⟨b0, b1, b2⟩, bb⟩ := RdG.boxed (c := c) h1 31
  have HG0 := game_i a c bs p _ b1 hl
  unfold GamP at HG0
  have HM := Lib.hid (fun (w' : World) (hb : Below w.heap.size w w') => hm.below hb)
  clear b0 b1 b2 h1 hm
  cases hr : (okG bs && inP p)
  · rw [hr] at HG0
    have HG := Lib.hid HG0
    have hq : pbQ bs p ms = none := pbQ_no hr
    have hgb : gmB false bs p = gm 0 0 (fun _ => 0) 0 0 := rfl
    rw [hgb] at HG
    rw [hq]
    clear HG0 hr hl hq HM hgb
    generalize bs.length = N at *
    generalize ms.length = L at *
    go_enter Try.func10, Try.ntmps10
    go_wp2_with (first | (go_at_call 27; (with_reducible refine HG.out.mono ?_); rintro e w1 ⟨rfl, b1⟩; have B1 := Lib.hid (bt bb b1); clear b1 bb) | (with_reducible refine wpList_storeB rfl 58 (.tmp 10) (.tmp 18) rfl w1.heap.size 0 (gm 0 0 (fun _ => 0) 0 0) ?_ ?_ (gm 0 0 (fun _ => 0) 0 0) 58 ?_ ?_ ?_ ?_ ?_))
    · rfl
    · rfl
    · exact Blk.newAt _ _ _ _ rfl
    · exact Nat.le_refl _
    · kernel_rfl
    · exact one_gm _ _ _ _ _
    intro w2 k2 q2
    have B2 : Hid (Below w.heap.size w w2) := (B1.out.alloc B1.out.size _).trans (q2.out.below B1.out.size)
    clear k2 q2 HG
    go_wp2
    refine bodyPost_ret (v := .tuple #[.slice none 0 0, .slice none 0 0, .int .i64 0, .bool false]) (by simp [results, Try.results10, go_sem]) rfl (rq_none B2.out)
  · rw [hr] at HG0
    have hr1 : okG bs = true := by rw [Bool.and_eq_true] at hr; exact hr.1
    have hr2 : inP p = true := by rw [Bool.and_eq_true] at hr; exact hr.2
    have h6 := (okG_len hr1).2
    have hgb : gmB true bs p = gm bs.length p (ndF bs bs.length) (src bs bs.length) (out bs bs.length) := rfl
    rw [hgb] at HG0
    have HG := Lib.hid HG0
    have hq : pbQ bs p ms = rvA bs p ms := by unfold pbQ; rw [hr]; rfl
    have HRN := Lib.hid (fun (w' : World) (hb : Below w.heap.size w w') => run_i bs h6 (fun i hi => nd_lt (okG_row hr1 i hi) (by omega)) p (out bs bs.length) am cm ms w' (HM.out w' hb) hl2)
    have hgl := rv_lt h6 (p := p) (ms := ms)
    have hol := out_lt bs bs.length h6
    have gms : ∀ n p g s0 o0, (gm n p g s0 o0).toArray = #[.int .i64 (n : Nat), .int .i64 p, .int .u8 (g 0 : Nat), .int .u8 (g 1 : Nat), .int .u8 (g 2 : Nat), .int .u8 (g 3 : Nat), .int .u8 (g 4 : Nat), .int .u8 (g 5 : Nat), .int .u8 (s0 : Nat), .int .u8 (o0 : Nat)] := fun _ _ _ _ _ => rfl
    rw [hq]
    rw [gms] at HRN
    have hs64 : gS (rvA bs p ms) < 64 := hgl.1
    have hf64 : gF (rvA bs p ms) < 64 := hgl.2
    have HT1 := Lib.hid (fun w9 => list_i _ hf64 w9)
    have HT2 := Lib.hid (fun w9 => list_i _ hs64 w9)
    clear HG0 hr hl hq HM hgb hr1 hr2 hgl hol h6
    generalize rvA bs p ms = q at *
    generalize out bs bs.length = ov at *
    generalize src bs bs.length = sv at *
    generalize ndF bs bs.length = fv at *
    unfold RnP at HRN
    have hqs : ∃ x, x = gS q := ⟨_, rfl⟩
    have hqf : ∃ x, x = gF q := ⟨_, rfl⟩
    have hqt : ∃ x, x = gT q := ⟨_, rfl⟩
    have hqr : ∃ x, x = q.isSome := ⟨_, rfl⟩
    obtain ⟨qs, hqs⟩ := hqs
    obtain ⟨qf, hqf⟩ := hqf
    obtain ⟨qt, hqt⟩ := hqt
    obtain ⟨qr, hqr⟩ := hqr
    rw [← hqs, ← hqf, ← hqt, ← hqr] at HRN
    rw [← hqf] at HT1
    rw [← hqs] at HT2
    have HQQ := Lib.hid (And.intro hqf (And.intro hqs (And.intro hqt hqr)))
    clear hqs hqf hqt hqr hs64 hf64
    generalize bs.length = N at *
    generalize ms.length = L at *
    go_enter Try.func10, Try.ntmps10
    go_wp2_with (first | (go_at_call 27; (with_reducible refine HG.out.mono ?_); rintro e w1 ⟨rfl, b1⟩; have B1 := Lib.hid (bt bb b1); clear b1 bb) | (with_reducible refine wpList_storeB rfl 58 (.tmp 10) (.tmp 18) rfl w1.heap.size 0 (gm N p fv sv ov) ?_ ?_ (gm 0 0 (fun _ => 0) 0 0) 58 ?_ ?_ ?_ ?_ ?_))
    · rfl
    · rfl
    · exact Blk.newAt _ _ _ _ rfl
    · exact Nat.le_refl _
    · kernel_rfl
    · exact one_gm _ _ _ _ _
    intro w2 k2 q2
    rw [splice_all _ _ (by rfl)] at k2
    have B2 : Hid (Below w.heap.size w w2) := (B1.out.alloc B1.out.size _).trans (q2.out.below B1.out.size)
    generalize w1.heap.size = GBk at *
    have g_0 : w2.cell? ⟨GBk, 0, none⟩ = some (.int .i64 ((N : Nat) : Int)) := k2.out.cell 0
    have g_1 : w2.cell? ⟨GBk, 1, none⟩ = some (.int .i64 p) := k2.out.cell 1
    have g_2 : w2.cell? ⟨GBk, 2, none⟩ = some (.int .u8 ((fv 0 : Nat) : Int)) := k2.out.cell 2
    have g_3 : w2.cell? ⟨GBk, 3, none⟩ = some (.int .u8 ((fv 1 : Nat) : Int)) := k2.out.cell 3
    have g_4 : w2.cell? ⟨GBk, 4, none⟩ = some (.int .u8 ((fv 2 : Nat) : Int)) := k2.out.cell 4
    have g_5 : w2.cell? ⟨GBk, 5, none⟩ = some (.int .u8 ((fv 3 : Nat) : Int)) := k2.out.cell 5
    have g_6 : w2.cell? ⟨GBk, 6, none⟩ = some (.int .u8 ((fv 4 : Nat) : Int)) := k2.out.cell 6
    have g_7 : w2.cell? ⟨GBk, 7, none⟩ = some (.int .u8 ((fv 5 : Nat) : Int)) := k2.out.cell 7
    have g_8 : w2.cell? ⟨GBk, 8, none⟩ = some (.int .u8 (sv : Int)) := k2.out.cell 8
    have g_9 : w2.cell? ⟨GBk, 9, none⟩ = some (.int .u8 (ov : Int)) := k2.out.cell 9
    clear q2 HG k2
    go_wp2_with (first | (go_at_call 28; (with_reducible refine (HRN.out _ B2.out).mono ?_); rintro e w3 ⟨rfl, b3⟩; have B3 := Lib.hid (bt B2.out b3); clear b3))
    have x0 : (w3.alloc (.cells #[.int .u8 (qf : Int), .int .u8 (qs : Int)] 62)).cell? ⟨w3.heap.size, 0, none⟩ = some (.int .u8 (qf : Int)) := (Blk.newAt w3 _ [.int .u8 (qf : Int), .int .u8 (qs : Int)] 62 rfl).cell 0
    have x1 : (w3.alloc (.cells #[.int .u8 (qf : Int), .int .u8 (qs : Int)] 62)).cell? ⟨w3.heap.size, 1, none⟩ = some (.int .u8 (qs : Int)) := (Blk.newAt w3 _ [.int .u8 (qf : Int), .int .u8 (qs : Int)] 62 rfl).cell 1
    have B4 := Lib.hid (B3.out.alloc B3.out.size (.cells #[.int .u8 (qf : Int), .int .u8 (qs : Int)] 62))
    have hlt : w3.heap.size < (w3.alloc (.cells #[.int .u8 (qf : Int), .int .u8 (qs : Int)] 62)).heap.size := by simp
    generalize w3.heap.size = E at *
    generalize (w3.alloc (.cells #[.int .u8 (qf : Int), .int .u8 (qs : Int)] 62)) = W4 at *
    have HC := Lib.hid (fun (w' : World) (bb : Below W4.heap.size W4 w') => (show w'.cell? ⟨E, 0, none⟩ = some (.int .u8 (qf : Int)) ∧ w'.cell? ⟨E, 1, none⟩ = some (.int .u8 (qs : Int)) from ⟨(bb.cell (p := ⟨E, 0, none⟩) hlt).trans x0, (bb.cell (p := ⟨E, 1, none⟩) hlt).trans x1⟩))
    have hT1 := Lib.hid (fun w9 => HT1.out w9)
    go_region_law (go_simp; first | (go_at_call 29; (with_reducible refine (HT1.out _).mono ?_); rintro e w5 ⟨v5, rfl, o5, b5⟩; first | (have c5 := HC.out w5 (drewBB b5)) | (have c5 := HC.out w5 (bt (drewBB b6) b5)); obtain ⟨y0, y1⟩ := c5) | (go_at_call 29; (with_reducible refine (HT2.out _).mono ?_); rintro e w6 ⟨v6, rfl, o6, b6⟩; first | (have c6 := HC.out w6 (drewBB b6)) | (have c6 := HC.out w6 (bt (drewBB b5) b6)); obtain ⟨u0, u1⟩ := c6))
    all_goals
      obtain ⟨z1, z2, z3, z4⟩ := HQQ.out
      go_wp2
      refine bodyPost_ret (v := .tuple #[v5, v6, .int .i64 (qt : Int), .bool qr]) (by simp [results, Try.results10, go_sem]) rfl ?_
      first
      | exact rq_make z1.symm z2.symm (by rw [z3]) z4.symm o5 o6 b6 (Nat.le_refl _) B4.out.size (Nat.le_trans B4.out.size b5.size) (bt (bt B4.out (drewBB b5)) b6)
      | exact rq_make2 z1.symm z2.symm (by rw [z3]) z4.symm o6 o5 b5 (Nat.le_refl _) B4.out.size (Nat.le_trans B4.out.size b6.size) (bt (bt B4.out (drewBB b6)) b5)
end Go.Proofs.Ytepobkflahjldaa.Pb
