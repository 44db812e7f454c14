/- The program's test of a buffer. -/
import Derived.Test.YtifjkjcgpghmhaaDoorCspr
import Derived.Test.YtifjkjcgpghmhaaDoorCspk
import Derived.WalkMore
import Derived.Deep.QuietTactic
import Derived.Deep.RegionHeld3
namespace Go.Proofs.YtifjkjcgpghmhaaDoor.Sp
open Go.RowKit
theorem same_pg (pg fr p : Int) (m : Bool) (X : Nat) (w : World) (hX : X < w.heap.size) (hx : w.cell? ⟨X, 0, none⟩ = some (.int .i64 p)) :
    Calls Tryd.prog 77 #[.agg #[.int .i64 pg, .int .i64 fr, .bool m], .pointer (some ⟨X, 0, none⟩)] w (Bb (pg == p) w) := by
  go_enter Tryd.func77, Tryd.ntmps77
  go_wp2
  go_ret
  exact ⟨rfl, (Below.refl _ _).alloc (Nat.le_refl _) _⟩
set_option maxRecDepth 100000 in
set_option maxHeartbeats 2000000 in
theorem index_i (a : Option Addr) (c n : Nat) (buf : List TC) (p : Int) (X : Nat) (w : World) (hl : buf.length = n) (hn : n ≤ 1048576) (hr : Ch.RdR w a buf) (hX : X < w.heap.size) (hx : w.cell? ⟨X, 0, none⟩ = some (.int .i64 p)) :
    Calls Tryd.prog 63 #[.slice a n c, .func (.func 77) #[] #[.pointer (some ⟨X, 0, none⟩)]] w (Nb (pos p buf 0) w) := by
  have HC := Lib.hid (fun (w' : World) (bb : Below w.heap.size w w') j (h : j < n) => (show ∃ b off, a = some ⟨b, off, none⟩ ∧ w'.cell? ⟨b, off + j * 3, none⟩ = some (.int .i64 (buf.getD j dC).1) ∧ w'.cell? ⟨b, off + j * 3 + 1, none⟩ = some (.int .i64 (buf.getD j dC).2.1) ∧ w'.cell? ⟨b, off + j * 3 + 2, none⟩ = some (.bool (buf.getD j dC).2.2) from by
    obtain ⟨b, off, e, h1, h2, h3, _⟩ := (hr.below bb) j (by omega)
    exact ⟨b, off, e, h1, h2, h3⟩))
  have HSP := Lib.hid (fun (w' : World) (bb : Below w.heap.size w w') (pg fr : Int) (m : Bool) => same_pg pg fr p m X w' (Nat.lt_of_lt_of_le hX bb.size) ((bb.cell (p := ⟨X, 0, none⟩) hX).trans hx))
  have HY := Lib.hid (fun j (h : j < n) (hn : ∀ t, t < j → (buf.getD t dC).1 ≠ p) (e : (buf.getD j dC).1 = p) => (show pos p buf 0 = (j : Int) by rw [pos_at p buf 0 j (by omega) hn e]; simp))
  have HE := Lib.hid (fun (hn : ∀ t, t < n → (buf.getD t dC).1 ≠ p) => pos_end p buf 0 (by rw [hl]; exact hn))
  clear hr hx hl
  generalize pos p buf 0 = r at *
  go_enter Tryd.func63, Tryd.ntmps63
  go_wp2
  go_loopw [5, 8] (fun _ i wr => ∃ j : Nat, j ≤ n ∧ i = .int .i64 (j : Int) ∧ Hid (∀ t, t < j → (buf.getD t dC).1 ≠ p) ∧ Hid (Below w.heap.size w wr)) (fun _ i _ => n - (intOf i).toNat)
  case atStart => exact ⟨0, Nat.zero_le _, rfl, Lib.hid (fun i hi => by omega), Lib.hid (Below.refl _ _)⟩
  case round =>
    obtain ⟨j, hj, rfl, hne, hb⟩ := hrel
    by_cases hlt : j < n
    · obtain ⟨g, off, rfl, k0, k1, k2⟩ := HC.out wr hb.out j hlt
      have HBB := Lib.hid (fun (w2 : World) (h2 : Below wr.heap.size wr w2) => hb.out.trans (h2.mono hb.out.size))
      have HS := Lib.hid (HSP.out wr hb.out)
      have hy := Lib.hid (HY.out j hlt hne.out)
      have hs := Lib.hid (fun (e : (buf.getD j dC).1 ≠ p) => (show ∀ t, t < j + 1 → (buf.getD t dC).1 ≠ p from fun t ht => by
        by_cases e2 : t = j
        · rw [e2]; exact e
        · exact hne.out t (by omega)))
      clear HC HSP HY
      generalize buf.getD j dC = u at *
      obtain ⟨pg, fr, m⟩ := u
      by_cases he : pg = p
      · have hrj := hy.out he
        have hxb : (pg == p) = true := by simpa using he
        have HS2 := Lib.hid (HS.out pg fr m)
        rw [hxb] at HS2
        subst hrj
        clear hy hs HE HS hxb he
        go_wp2_with fail
        refine HS2.out.mono ?_; rintro e w2 ⟨rfl, b2⟩
        have HB2 := Lib.hid (HBB.out w2 b2)
        clear b2
        go_wp2
        go_ret
        exact ⟨rfl, HB2.out⟩
      · have hs' := Lib.hid (hs.out he)
        have hxb : (pg == p) = false := by simpa using he
        have HS2 := Lib.hid (HS.out pg fr m)
        rw [hxb] at HS2
        clear hy hs HS hxb he
        go_wp2_with fail
        refine HS2.out.mono ?_; rintro e w2 ⟨rfl, b2⟩
        have HB2 := Lib.hid (HBB.out w2 b2)
        clear b2
        go_wp2
        go_roundw
        case rel => exact ⟨j + 1, by omega, by go_num, hs', HB2⟩
        case measure => simp [intOf]; omega
    · have e : j = n := by omega
      subst e
      have hrj := HE.out hne.out
      subst hrj
      clear HE HY
      go_wp2
      go_ret
      exact ⟨rfl, hb.out⟩
theorem place_i (a : Option Addr) (c n : Nat) (buf : List TC) (p : Int) (w : World) (hl : buf.length = n) (hn : n ≤ 1048576) (hr : Ch.RdR w a buf) :
    Calls Tryd.prog 76 #[.slice a n c, .int .i64 p] w (Nb (pos p buf 0) w) := by
  have b0 := (Below.refl w.heap.size w).alloc (Nat.le_refl _) (.cells #[.int .i64 p] 2)
  have HI := Lib.hid (index_i a c n buf p w.heap.size _ hl hn (hr.below b0) (by simp) ((Blk.new w [.int .i64 p] 2).cell 0))
  have HB := Lib.hid b0
  clear hr b0 hl
  generalize pos p buf 0 = r at *
  go_enter Tryd.func76, Tryd.ntmps76
  go_wp2_with fail
  refine HI.out.mono ?_; rintro e w1 ⟨rfl, b1⟩
  have HB1 := Lib.hid (bt HB.out b1)
  clear b1
  go_wp2
  go_ret
  exact ⟨rfl, HB1.out⟩
set_option maxRecDepth 100000 in
set_option maxHeartbeats 4000000 in
theorem buffer_i (a : Option Addr) (c : Nat) (buf : List TC) (w : World) (hl : buf.length ≤ 1048576) (hr : Ch.RdR w a buf) (hcap : buf.length ≤ c ∧ c ≤ 9223372036854775807) :
    Calls Tryd.prog 59 #[.slice a buf.length c] w (Bb (okBuf buf) w) := by
  by_cases k4 : buf.length ≤ 4
  case neg =>
    have e : okBuf buf = false := by unfold okBuf; rw [decide_eq_false k4]; rfl
    rw [e]
    clear hr e
    generalize buf.length = m at *
    have hne : (4 : Int) < (m : Int) := by omega
    go_enter Tryd.func59, Tryd.ntmps59
    go_wp2
    go_ret
    exact ⟨rfl, Below.refl _ _⟩
  have hok : okBuf buf = (List.range buf.length).all (bOk buf) := by unfold okBuf; rw [decide_eq_true k4]; rfl
  have HR := Lib.hid (fun (w' : World) (bb : Below w.heap.size w w') => hr.below bb)
  have HBS := Lib.hid (fun j => range_all_succ j (bOk buf))
  have HBN := Lib.hid (fun j (hj : j < buf.length) (h : bOk buf j = false) => (show okBuf buf = false by rw [hok]; exact range_all_no _ j _ hj h))
  have HY := Lib.hid (fun (h : (List.range buf.length).all (bOk buf) = true) => (show okBuf buf = true by rw [hok]; exact h))
  have HBO := Lib.hid (fun j => (show bOk buf j = (isPg (buf.getD j dC).1 && isF (buf.getD j dC).2.1 && !decide ((buf.getD j dC).1 ∈ (buf.take j).map (·.1))) from rfl))
  have HBL := Lib.hid (fun j (hj : j < buf.length) (x : Int) (w' : World) (c' : Nat) (hR : Ch.RdR w' a buf) => (show Calls Tryd.prog 76 #[.slice a j c', .int .i64 x] w' (Nb (pos x (buf.take j) 0) w') from
    place_i a c' j (buf.take j) x w' (by rw [List.length_take]; omega) (by omega) (hR.take j)))
  obtain ⟨hc1, hc2⟩ := hcap
  have hbl : ¬ (4 : Int) < (buf.length : Int) := by omega
  clear hr hok hl
  generalize okBuf buf = ok at *
  generalize hM : buf.length = M at *
  have HM := Lib.hid hM
  clear hM
  go_enter Tryd.func59, Tryd.ntmps59
  go_wp2
  go_loopw [3, 4, 10] (fun _ _ i wr => ∃ j : Nat, j ≤ M ∧ i = .int .i64 (j : Nat) ∧ Hid ((List.range j).all (bOk buf) = true) ∧ Hid (Below w.heap.size w wr)) (fun _ _ i _ => M - (intOf i).toNat)
  case atStart => exact ⟨0, Nat.zero_le _, rfl, Lib.hid rfl, Lib.hid (Below.refl _ _)⟩
  case round =>
    obtain ⟨j, hj, rfl, hx, hbw⟩ := hrel
    by_cases hlt : j < M
    · have hR : Ch.RdR wr a buf := HR.out wr hbw.out
      obtain ⟨b, off, rfl, d0, d1, d2⟩ := (show ∃ b off, a = some ⟨b, off, none⟩ ∧ wr.cell? ⟨b, off + j * 3, none⟩ = some (.int .i64 (buf.getD j dC).1) ∧ wr.cell? ⟨b, off + j * 3 + 1, none⟩ = some (.int .i64 (buf.getD j dC).2.1) ∧ wr.cell? ⟨b, off + j * 3 + 2, none⟩ = some (.bool (buf.getD j dC).2.2) from by
        obtain ⟨b, off, e, h1, h2, h3, _⟩ := hR j (by rw [HM.out]; exact hlt)
        exact ⟨b, off, e, h1, h2, h3⟩)
      have hbo := Lib.hid (HBO.out j)
      have hno := Lib.hid (HBN.out j hlt)
      have hsu := Lib.hid (HBS.out j)
      have hps := Lib.hid (pos_ge (buf.getD j dC).1 (buf.take j))
      have hG := Lib.hid (fun (w' : World) (c' : Nat) (bb : Below wr.heap.size wr w') => HBL.out j hlt (buf.getD j dC).1 w' c' (hR.below bb))
      have hjc : j ≤ c := by omega
      have hjc2 : (j : Int) ≤ c := by omega
      clear hR HR HBO HBN HBS HBL HM
      generalize buf.getD j dC = u at *
      obtain ⟨x0, x1, x2⟩ := u
      simp only at d0 d1 d2 hG hbo hps
      generalize hpv : pos x0 (buf.take j) 0 = pv at *
      have hA := Lib.hid (fun w => page_i x0 w)
      have hF := Lib.hid (fun w => frame_i x1 w)
      obtain ⟨W1, hW1⟩ : ∃ W1, W1 = wr.alloc (.cells #[.int .i64 x0, .int .i64 x1, .bool x2] 53) := ⟨_, rfl⟩
      have b1 : Below wr.heap.size wr W1 := by rw [hW1]; exact (Below.refl _ _).alloc (Nat.le_refl _) _
      have kk : Blk W1 wr.heap.size [.int .i64 x0, .int .i64 x1, .bool x2] 53 := by rw [hW1]; exact Blk.newAt wr _ _ _ rfl
      have k0 : W1.cell? ⟨wr.heap.size, 0, none⟩ = some (.int .i64 x0) := kk.cell 0
      have k1 : W1.cell? ⟨wr.heap.size, 1, none⟩ = some (.int .i64 x1) := kk.cell 1
      have HK := Lib.hid (fun (w' : World) (bb : Below W1.heap.size W1 w') => (show w'.cell? ⟨wr.heap.size, 0, none⟩ = some (.int .i64 x0) ∧ w'.cell? ⟨wr.heap.size, 1, none⟩ = some (.int .i64 x1) from ⟨(bb.cell (p := ⟨_, 0, none⟩) kk.lt).trans k0, (bb.cell (p := ⟨_, 1, none⟩) kk.lt).trans k1⟩))
      have HB1 := Lib.hid (fun (w' : World) (bb : Below W1.heap.size W1 w') => hbw.out.trans ((bt b1 bb).mono hbw.out.size))
      have hG1 := Lib.hid (fun (w' : World) (c' : Nat) (bb : Below W1.heap.size W1 w') => hG.out w' c' (bt b1 bb))
      clear kk b1 hG
      cases hPg : isPg x0
      · rw [hPg] at hA
        have hA' := Lib.hid (fun m => (hA.out (W1.drewN m)).mono (R' := fun e w' => e = .returned (.bool false) ∧ ∃ m, w' = W1.drewN m) fun e w' ⟨he, hw⟩ => ⟨he, m, hw.symm⟩)
        have hf := hno.out (by rw [hbo.out, hPg]; rfl)
        have HQ := Lib.hid (fun m => HB1.out (W1.drewN m) (below_drewN m (Below.refl _ _)))
        clear hno hbo hsu hps hpv HB1 hG1 HK hF hA
        subst hf
        go_wp2
        rw [← hW1]
        clear hW1
        go_quiet (exact hA'.out _)
        go_wp2
        go_ret
        exact ⟨rfl, HQ.out _⟩
      · rw [hPg] at hA
        have hA' := Lib.hid (fun m => (hA.out (W1.drewN m)).mono (R' := fun e w' => e = .returned (.bool true) ∧ ∃ m, w' = W1.drewN m) fun e w' ⟨he, hw⟩ => ⟨he, m, hw.symm⟩)
        cases hFr : isF x1
        · rw [hFr] at hF
          have hF' := Lib.hid (fun m => (hF.out (W1.drewN m)).mono (R' := fun e w' => e = .returned (.bool false) ∧ ∃ m, w' = W1.drewN m) fun e w' ⟨he, hw⟩ => ⟨he, m, hw.symm⟩)
          have hf := hno.out (by rw [hbo.out, hPg, hFr]; rfl)
          have HQ := Lib.hid (fun m => HB1.out (W1.drewN m) (below_drewN m (Below.refl _ _)))
          clear hno hbo hsu hps hpv HB1 hG1 HK hF hA
          subst hf
          go_wp2
          rw [← hW1]
          clear hW1
          go_quiet (first | exact hA'.out _ | exact hF'.out _)
          go_wp2
          go_ret
          exact ⟨rfl, HQ.out _⟩
        · rw [hFr] at hF
          clear hA'
          by_cases hin : x0 ∈ (buf.take j).map (·.1)
          · have hf := hno.out (by rw [hbo.out, decide_eq_true hin]; simp)
            have hp := hps.out
            rw [decide_eq_true hin, decide_eq_true_eq] at hp
            clear hno hbo hsu hps hpv hin
            subst hf
            go_wp2
            rw [← hW1]
            clear hW1
            go_region_held3 (fun w' => w'.cell? ⟨wr.heap.size, 0, none⟩ = some (.int .i64 x0) ∧ w'.cell? ⟨wr.heap.size, 1, none⟩ = some (.int .i64 x1)) (first | exact ⟨k0, k1⟩ | (exact HK.out _ (below_drewN 1 (Below.refl _ _))) | exact HK.out _ (drew_below bb)) (first | (go_at_call 40; (with_reducible refine (hA.out _).mono ?_); rintro e w' ⟨rfl, rfl⟩) | (go_at_call 75; (with_reducible refine (hF.out _).mono ?_); rintro e w' ⟨rfl, rfl⟩) | (go_at_call 76; (with_reducible refine (hG1.out _ _ ((Below.refl _ W1).drew)).mono ?_); rintro e w1 ⟨rfl, bb⟩))
            go_wp2
            go_ret
            exact ⟨rfl, HB1.out _ (drew_below bb)⟩
          · have hx' := Lib.hid (show (List.range (j + 1)).all (bOk buf) = true by rw [hsu.out, hx.out, hbo.out, hPg, hFr, decide_eq_false hin]; rfl)
            have hp := hps.out
            rw [decide_eq_false hin, decide_eq_false_iff_not] at hp
            clear hno hbo hsu hps hpv hin
            go_wp2
            rw [← hW1]
            clear hW1
            go_region_held3 (fun w' => w'.cell? ⟨wr.heap.size, 0, none⟩ = some (.int .i64 x0) ∧ w'.cell? ⟨wr.heap.size, 1, none⟩ = some (.int .i64 x1)) (first | exact ⟨k0, k1⟩ | (exact HK.out _ (below_drewN 1 (Below.refl _ _))) | exact HK.out _ (drew_below bb)) (first | (go_at_call 40; (with_reducible refine (hA.out _).mono ?_); rintro e w' ⟨rfl, rfl⟩) | (go_at_call 75; (with_reducible refine (hF.out _).mono ?_); rintro e w' ⟨rfl, rfl⟩) | (go_at_call 76; (with_reducible refine (hG1.out _ _ ((Below.refl _ W1).drew)).mono ?_); rintro e w1 ⟨rfl, bb⟩))
            have HBW := Lib.hid (HB1.out _ (drew_below bb))
            go_wp2
            go_roundw
            case rel => exact ⟨j + 1, by omega, by go_num, hx', HBW⟩
            case measure => simp [intOf]; omega
    · have e : j = M := by omega
      subst e
      have hf := HY.out hx.out
      subst hf
      go_wp2
      go_ret
      exact ⟨rfl, hbw.out⟩
end Go.Proofs.YtifjkjcgpghmhaaDoor.Sp
