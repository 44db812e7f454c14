/- Several moves of a pebbling: pebbleGame.run. -/
import Derived.Test.YtepobkflahjldaaCrni0
namespace Go.Proofs.Ytepobkflahjldaa.Pb
open Go.RowKit Pv
theorem results3c {P : Program} {fn : Func} {tmps : Array Value} {w : World} {a k l : Nat} {t : TypeId} (hr : fn.results = #[.cell a t, .tmp k, .tmp l]) {p : Addr} (hp : tmps.getD a undef = .pointer (some p)) {v : Value}
    (hl : (loadVar t p).run P w = .ok v w) {u u2 : Value} (hu : tmps.getD k undef = u) (hu2 : tmps.getD l undef = u2) : (results fn tmps).run P w = .ok (.tuple #[v, u, u2]) w := by
  subst hu hu2
  unfold results
  rw [hr]
  have hp' : tmps[a]?.getD undef = .pointer (some p) := by simpa using hp
  simp [asAddr, hp', hl]
def rvA (bs : List (List Int)) (p : Int) (ms : List Mo.R) : Option (Nat × Nat × Nat) := if ms.length ≤ 60 then runA bs p ms ms.length else none
def RnP (q : Option (Nat × Nat × Nat)) (w : World) (e : Ending) (w' : World) : Prop := e = .returned (.tuple #[.agg #[.int .u8 ((gF q : Nat) : Int), .int .u8 ((gS q : Nat) : Int)], .int .i64 ((gT q : Nat) : Int), .bool q.isSome]) ∧ Below w.heap.size w w'
structure RnI (Z B : Nat) (gs : List Value) (f s : Nat) (w w' : World) : Prop where
  kg : Blk w' Z gs 58
  kr : Blk w' (Z + 1) [.int .u8 0, .int .u8 0] 62
  kb : Blk w' B [.int .u8 (f : Int), .int .u8 (s : Int)] 62
  bel : Below Z w w'
  far : Z + 2 ≤ B
theorem RnI.below {Z B : Nat} {gs : List Value} {f s : Nat} {w w' w2 : World} (h : RnI Z B gs f s w w') (hb : Below w'.heap.size w' w2) (hZ : Z ≤ w'.heap.size) : RnI Z B gs f s w w2 :=
  ⟨h.kg.below hb h.kg.lt, h.kr.below hb h.kr.lt, h.kb.below hb h.kb.lt, h.bel.trans (hb.mono hZ), h.far⟩
theorem RnI.put {Z B : Nat} {gs : List Value} {f s f' s' : Nat} {w w' w2 : World} (h : RnI Z B gs f s w w') (hb : Blk w2 B [.int .u8 (f' : Int), .int .u8 (s' : Int)] 62) (hk : Keep B w' w2) : RnI Z B gs f' s' w w2 := by
  have := h.far
  exact ⟨hk.blk h.kg (by omega), hk.blk h.kr (by omega), hb, h.bel.trans (hk.below (by omega)), h.far⟩
theorem RnI.dr {Z B : Nat} {gs : List Value} {f s : Nat} {w w' : World} (h : RnI Z B gs f s w w') : RnI Z B gs f s w w'.drew := ⟨h.kg, h.kr, h.kb, h.bel.drew, h.far⟩
set_option maxHeartbeats 8000000 in
set_option maxRecDepth 100000 in
theorem run_i (bs : List (List Int)) (h6 : bs.length ≤ 6) (hnl : ∀ i, i < bs.length → nd bs i < 64) (p : Int) (o0 : Nat) (am : Option Addr) (cm : Nat) (ms : List Mo.R) (w : World) (hm : Mo.RdR w am ms) (hl : ms.length ≤ 1048576) :
    Calls Try.prog 28 #[.agg (gm bs.length p (ndF bs bs.length) (src bs bs.length) o0).toArray, .slice am ms.length cm] w (RnP (rvA bs p ms) w) := by
  obtain ⟨dP, huP, hdP⟩ := undP
  have HLP := Lib.hid (fun (w' : World) (b : Nat) (cs : List Value) (h : Blk w' b cs 62) (hc : cs.length = 2) => Blk.loadVar h 62 dP huP hdP (by rw [hc]; exact isp2))
  have HST := Lib.hid (fun w9 => start_i bs.length p (ndF bs bs.length) (src bs bs.length) o0 w9)
  have HAF := Lib.hid (fun f s (hf : f < 64) (hs : s < 64) k x w9 => after_i bs h6 hnl p o0 f s hf hs k x w9)
  have HCO := Lib.hid (fun k x w9 => costm_i k x w9)
  have HMS := Lib.hid (fun (w' : World) (hb : Below w.heap.size w w') => hm.below hb)
  have HLT := Lib.hid (fun (j f s t : Nat) (h : runA bs p ms j = some (f, s, t)) => runA_lt h6 h)
  have HY := Lib.hid (fun (j f s t : Nat) (h : runA bs p ms j = some (f, s, t)) hk => runA_yes h hk)
  have HN := Lib.hid (fun (j f s t : Nat) (h : runA bs p ms j = some (f, s, t)) hk (hj : j < ms.length) => runA_no h hk hj)
  have HR0 := Lib.hid (show runA bs p ms 0 = some (0, src bs bs.length, 0) from rfl)
  have hz1 : (w.alloc (.cells (gm bs.length p (ndF bs bs.length) (src bs bs.length) o0).toArray 58)).heap.size = w.heap.size + 1 := Array.size_push _
  have hz2 : ((w.alloc (.cells (gm bs.length p (ndF bs bs.length) (src bs bs.length) o0).toArray 58)).alloc (.cells #[.int .u8 0, .int .u8 0] 62)).heap.size = w.heap.size + 2 := (Array.size_push _).trans (by rw [hz1])
  have y0 := (Blk.newAt w w.heap.size (gm bs.length p (ndF bs bs.length) (src bs bs.length) o0) 58 rfl).alloc (.cells #[.int .u8 0, .int .u8 0] 62)
  have y1 := Blk.newAt (w.alloc (.cells (gm bs.length p (ndF bs bs.length) (src bs bs.length) o0).toArray 58)) (w.heap.size + 1) [.int .u8 0, .int .u8 0] 62 hz1.symm
  have b0 : Below w.heap.size w ((w.alloc (.cells (gm bs.length p (ndF bs bs.length) (src bs bs.length) o0).toArray 58)).alloc (.cells #[.int .u8 0, .int .u8 0] 62)) := ((Below.refl _ w).alloc (Nat.le_refl _) _).alloc (by omega) _
  have HY0 := Lib.hid (And.intro (And.intro y0 y1) (And.intro b0 hz2))
  clear y0 y1 b0 hz1 hz2 huP hdP hm
  obtain ⟨W, hW⟩ : ∃ W, W = ((w.alloc (.cells (gm bs.length p (ndF bs bs.length) (src bs bs.length) o0).toArray 58)).alloc (.cells #[.int .u8 0, .int .u8 0] 62)) := ⟨_, rfl⟩
  rw [← hW] at HY0
  have HWW := Lib.hid hW
  clear hW
  have gms : ∀ n p g s0 o0, (gm n p g s0 o0).toArray = #[.int .i64 (n : Nat), .int .i64 p, .int .u8 (g 0 : Nat), .int .u8 (g 1 : Nat), .int .u8 (g 2 : Nat), .int .u8 (g 3 : Nat), .int .u8 (g 4 : Nat), .int .u8 (g 5 : Nat), .int .u8 (s0 : Nat), .int .u8 (o0 : Nat)] := fun _ _ _ _ _ => rfl
  rw [gms] at HWW HST
  rw [gms]
  by_cases h60 : ms.length ≤ 60
  · have HRV := Lib.hid (show rvA bs p ms = runA bs p ms ms.length by unfold rvA; rw [if_pos h60])
    rw [HRV.out]
    clear HRV
    generalize hLL : ms.length = L at *
    have HLL := Lib.hid hLL
    clear hLL
    generalize runA bs p ms = ru at *
    go_enter Try.func28, Try.ntmps28
    go_wp2_with fail
    rw [← HWW.out]
    clear HWW
    have HW1 := Lib.hid (fun (w9 : World) (bb : Below W.heap.size W w9) => (show (w9.cell? ⟨w.heap.size, 0, none⟩ = some (.int .i64 ((bs.length : Nat) : Int)) ∧ w9.cell? ⟨w.heap.size, 1, none⟩ = some (.int .i64 p) ∧ w9.cell? ⟨w.heap.size, 2, none⟩ = some (.int .u8 ((ndF bs bs.length 0 : Nat) : Int)) ∧ w9.cell? ⟨w.heap.size, 3, none⟩ = some (.int .u8 ((ndF bs bs.length 1 : Nat) : Int)) ∧ w9.cell? ⟨w.heap.size, 4, none⟩ = some (.int .u8 ((ndF bs bs.length 2 : Nat) : Int)) ∧ w9.cell? ⟨w.heap.size, 5, none⟩ = some (.int .u8 ((ndF bs bs.length 3 : Nat) : Int)) ∧ w9.cell? ⟨w.heap.size, 6, none⟩ = some (.int .u8 ((ndF bs bs.length 4 : Nat) : Int)) ∧ w9.cell? ⟨w.heap.size, 7, none⟩ = some (.int .u8 ((ndF bs bs.length 5 : Nat) : Int)) ∧ w9.cell? ⟨w.heap.size, 8, none⟩ = some (.int .u8 ((src bs bs.length : Nat) : Int)) ∧ w9.cell? ⟨w.heap.size, 9, none⟩ = some (.int .u8 (o0 : Int))) from by
      have h := HY0.out.1.1.below bb HY0.out.1.1.lt
      exact ⟨h.cell 0, h.cell 1, h.cell 2, h.cell 3, h.cell 4, h.cell 5, h.cell 6, h.cell 7, h.cell 8, h.cell 9⟩))
    have HW2 := Lib.hid (fun (w9 : World) (bb : Below W.heap.size W w9) => (show Hid (RnI w.heap.size w9.heap.size (gm bs.length p (ndF bs bs.length) (src bs bs.length) o0) 0 (src bs bs.length) w (w9.alloc (.cells #[.int .u8 ((0 : Nat) : Int), .int .u8 ((src bs bs.length : Nat) : Int)] 62))) from
      ⟨(HY0.out.1.1.below bb HY0.out.1.1.lt).alloc _, (HY0.out.1.2.below bb HY0.out.1.2.lt).alloc _, Blk.newAt _ _ _ _ rfl, (bt HY0.out.2.1 bb).alloc (by have := bb.size; have := HY0.out.2.2; omega) _, by have := bb.size; have := HY0.out.2.2; omega⟩))
    obtain ⟨c0, c1, c2, c3, c4, c5, c6, c7, c8, c9⟩ := HW1.out W (Below.refl _ _)
    have h60' : (L : Int) ≤ 60 := by omega
    have hd60 : decide ((60 : Int) < (L : Int)) = false := by simp; omega
    go_wp2_with (first | (go_at_call 46; (with_reducible refine (HST.out _).mono ?_); rintro e w1 ⟨rfl, b1⟩; have hI1 := HW2.out w1 b1; clear b1))
    clear c0 c1 c2 c3 c4 c5 c6 c7 c8 c9 HW1 HW2 HST HY0
    generalize w1.heap.size = B at *
    generalize (w1.alloc (.cells #[.int .u8 ((0 : Nat) : Int), .int .u8 ((src bs bs.length : Nat) : Int)] 62)) = W1 at *
    go_loopw [5, 6, 8, 10, 11, 12, 21] (fun _ _ vc _ _ _ vi wr => ∃ j f s t : Nat, j ≤ L ∧ vi = .int .i64 (j : Nat) ∧ vc = .int .i64 ((61 * t + j : Nat) : Int) ∧ Hid (ru j = some (f, s, t)) ∧ Hid (RnI w.heap.size B (gm bs.length p (ndF bs bs.length) (src bs bs.length) o0) f s w wr)) (fun _ _ _ _ _ _ vi _ => L - (intOf vi).toNat)
    case atStart => exact ⟨0, 0, src bs bs.length, 0, Nat.zero_le _, rfl, rfl, HR0, hI1⟩
    case round =>
      obtain ⟨j, f, s, t, hj, rfl, rfl, hx, hI⟩ := hrel
      obtain ⟨hf, hs, ht⟩ := HLT.out j f s t hx.out
      have hfar := hI.out.far
      have hzl : w.heap.size ≤ wr.heap.size := by have := hI.out.kg.lt; omega
      by_cases hlt : j < L
      · obtain ⟨b, off, rfl, c1, c2, hbl⟩ := HMS.out wr hI.out.bel j (by rw [HLL.out]; exact hlt)
        have hy := HY.out j f s t hx.out
        have hn := HN.out j f s t hx.out
        have hA := Lib.hid (fun w9 => HAF.out f s hf hs (ms.getD j Mo.dR).1 (ms.getD j Mo.dR).2 w9)
        have hC := Lib.hid (fun w9 => HCO.out (ms.getD j Mo.dR).1 (ms.getD j Mo.dR).2 w9)
        have hAl := AF_lt h6 hf hs (ms.getD j Mo.dR).1 (ms.getD j Mo.dR).2
        clear HLT HY HN HAF HCO HR0
        generalize AF bs f s (ms.getD j Mo.dR).1 (ms.getD j Mo.dR).2 = af at *
        obtain ⟨F, S⟩ := af
        have g_0 : wr.cell? ⟨w.heap.size, 0, none⟩ = some (.int .i64 ((bs.length : Nat) : Int)) := hI.out.kg.cell 0
        have g_1 : wr.cell? ⟨w.heap.size, 1, none⟩ = some (.int .i64 p) := hI.out.kg.cell 1
        have g_2 : wr.cell? ⟨w.heap.size, 2, none⟩ = some (.int .u8 ((ndF bs bs.length 0 : Nat) : Int)) := hI.out.kg.cell 2
        have g_3 : wr.cell? ⟨w.heap.size, 3, none⟩ = some (.int .u8 ((ndF bs bs.length 1 : Nat) : Int)) := hI.out.kg.cell 3
        have g_4 : wr.cell? ⟨w.heap.size, 4, none⟩ = some (.int .u8 ((ndF bs bs.length 2 : Nat) : Int)) := hI.out.kg.cell 4
        have g_5 : wr.cell? ⟨w.heap.size, 5, none⟩ = some (.int .u8 ((ndF bs bs.length 3 : Nat) : Int)) := hI.out.kg.cell 5
        have g_6 : wr.cell? ⟨w.heap.size, 6, none⟩ = some (.int .u8 ((ndF bs bs.length 4 : Nat) : Int)) := hI.out.kg.cell 6
        have g_7 : wr.cell? ⟨w.heap.size, 7, none⟩ = some (.int .u8 ((ndF bs bs.length 5 : Nat) : Int)) := hI.out.kg.cell 7
        have g_8 : wr.cell? ⟨w.heap.size, 8, none⟩ = some (.int .u8 ((src bs bs.length : Nat) : Int)) := hI.out.kg.cell 8
        have g_9 : wr.cell? ⟨w.heap.size, 9, none⟩ = some (.int .u8 (o0 : Int)) := hI.out.kg.cell 9
        have p0 : wr.cell? ⟨B, 0, none⟩ = some (.int .u8 (f : Int)) := hI.out.kb.cell 0
        have p1 : wr.cell? ⟨B, 1, none⟩ = some (.int .u8 (s : Int)) := hI.out.kb.cell 1
        have hzl2 : w.heap.size < wr.heap.size := hI.out.kg.lt
        have hBl : B < wr.heap.size := hI.out.kb.lt
        rw [gms] at hA
        cases hk : okA bs p f s (ms.getD j Mo.dR).1 (ms.getD j Mo.dR).2
        · have e := hn hk (by first | exact hlt | (rw [HLL.out]; exact hlt))
          rw [hk] at hA
          have HE := Lib.hid e
          clear hy hn hk e hx
          generalize (ms.getD j Mo.dR).1 = mk at *
          generalize (ms.getD j Mo.dR).2 = mx at *
          have HFN := Lib.hid (fun (w9 : World) (bb : Below wr.heap.size wr w9) => (show (w9.cell? ⟨w.heap.size + 1, 0, none⟩ = some (.int .u8 0) ∧ w9.cell? ⟨w.heap.size + 1, 1, none⟩ = some (.int .u8 0) ∧ w9.frozen? ⟨w.heap.size + 1, 0, none⟩ = false ∧ w9.frozen? ⟨w.heap.size + 1, 1, none⟩ = false) ∧ Hid (Blk ((w9.setCell ⟨w.heap.size + 1, 0, none⟩ (.int .u8 0)).setCell ⟨w.heap.size + 1, 1, none⟩ (.int .u8 0)) (w.heap.size + 1) [.int .u8 0, .int .u8 0] 62 ∧ Below w.heap.size w ((w9.setCell ⟨w.heap.size + 1, 0, none⟩ (.int .u8 0)).setCell ⟨w.heap.size + 1, 1, none⟩ (.int .u8 0))) from by
            have h := hI.out.below bb hzl
            exact ⟨⟨h.kr.cell 0, h.kr.cell 1, h.kr.froz 0, h.kr.froz 1⟩, Lib.hid ⟨blk1 (blk1 h.kr 0 (.int .u8 0) (by simp)) 1 (.int .u8 0) (by simp), (h.bel.setCell (p := ⟨w.heap.size + 1, 0, none⟩) (by show w.heap.size ≤ w.heap.size + 1; omega) _).setCell (p := ⟨w.heap.size + 1, 1, none⟩) (by show w.heap.size ≤ w.heap.size + 1; omega) _⟩⟩))
          have hbA : Below wr.heap.size wr (wr.alloc (.cells #[.int .i64 mk, .int .i64 mx] 52)) := (Below.refl _ wr).alloc (Nat.le_refl _) _
          clear hI
          go_wp2_with (first | (go_at_call 47; (with_reducible refine (hA.out _).mono ?_); rintro e w1 ⟨rfl, b1⟩; have b2 := ((bt hbA b1).alloc (by have := b1.size; have := hbA.size; omega) (.cells #[.int .u8 (F : Int), .int .u8 (S : Int)] 62)); obtain ⟨⟨r0, r1, f0, f1⟩, HK⟩ := HFN.out _ b2; clear b1 b2))
          refine bodyPost_ret (results3c (a := 4) (k := 5) (l := 6) (t := 62) (p := ⟨w.heap.size + 1, 0, none⟩) (by kernel_rfl) rfl (HLP.out _ _ _ HK.out.1 rfl) rfl rfl) rfl ⟨by rw [HE.out]; rfl, HK.out.2⟩
        · have hy2 := Lib.hid (hy hk)
          rw [hk] at hA
          clear hy hn hk hx
          generalize (ms.getD j Mo.dR).1 = mk at *
          generalize (ms.getD j Mo.dR).2 = mx at *
          have hbA : Below wr.heap.size wr (wr.alloc (.cells #[.int .i64 mk, .int .i64 mx] 52)) := (Below.refl _ wr).alloc (Nat.le_refl _) _
          have zA : Blk (wr.alloc (.cells #[.int .i64 mk, .int .i64 mx] 52)) wr.heap.size [.int .i64 mk, .int .i64 mx] 52 := Blk.newAt wr _ [.int .i64 mk, .int .i64 mx] 52 rfl
          have hsA : (wr.alloc (.cells #[.int .i64 mk, .int .i64 mx] 52)).heap.size = wr.heap.size + 1 := Array.size_push _
          have HK9 := Lib.hid (fun (w1 : World) (b1 : Below (wr.alloc (.cells #[.int .i64 mk, .int .i64 mx] 52)).heap.size (wr.alloc (.cells #[.int .i64 mk, .int .i64 mx] 52)) w1) (w9 : World) (b9 : Below (w1.alloc (.cells #[.int .u8 (F : Int), .int .u8 (S : Int)] 62)).heap.size (w1.alloc (.cells #[.int .u8 (F : Int), .int .u8 (S : Int)] 62)) w9) => (show
              (w9.cell? ⟨w1.heap.size, 0, none⟩ = some (.int .u8 (F : Int)) ∧ w9.cell? ⟨w1.heap.size, 1, none⟩ = some (.int .u8 (S : Int)) ∧ w9.cell? ⟨wr.heap.size, 0, none⟩ = some (.int .i64 mk) ∧ w9.cell? ⟨wr.heap.size, 1, none⟩ = some (.int .i64 mx) ∧ w9.cell? ⟨B, 0, none⟩ = some (.int .u8 (f : Int)) ∧ w9.cell? ⟨B, 1, none⟩ = some (.int .u8 (s : Int)) ∧ w9.frozen? ⟨B, 0, none⟩ = false ∧ w9.frozen? ⟨B, 1, none⟩ = false) ∧
              Hid (RnI w.heap.size B (gm bs.length p (ndF bs bs.length) (src bs bs.length) o0) F S w ((w9.setCell ⟨B, 0, none⟩ (.int .u8 (F : Int))).setCell ⟨B, 1, none⟩ (.int .u8 (S : Int)))) from by
            have s1 := b1.size
            have bw1 : Below wr.heap.size wr w1 := bt hbA b1
            have bw2 : Below wr.heap.size wr (w1.alloc (.cells #[.int .u8 (F : Int), .int .u8 (S : Int)] 62)) := bw1.alloc (by omega) _
            have h9 := hI.out.below (bt bw2 b9) hzl
            have n1 := (Blk.newAt w1 _ [.int .u8 (F : Int), .int .u8 (S : Int)] 62 rfl).below b9 (by simp)
            have m1 := ((zA.below b1 zA.lt).alloc (.cells #[.int .u8 (F : Int), .int .u8 (S : Int)] 62)).below b9 (by simp; omega)
            exact ⟨⟨n1.cell 0, n1.cell 1, m1.cell 0, m1.cell 1, h9.kb.cell 0, h9.kb.cell 1, h9.kb.froz 0, h9.kb.froz 1⟩, Lib.hid (h9.put (blk1 (blk1 h9.kb 0 _ (by simp)) 1 _ (by simp)) (Keep.trans' (keep1 _ _ _ _) (keep1 _ _ _ _)))⟩))
          clear hI zA hsA
          have hnext : ∃ c : Int, c = (if mk = 0 ∨ mk = 1 then (62 : Int) else 1) ∧ ∃ t' : Nat, Hid (ru (j + 1) = some (F, S, t')) ∧ ((61 * t' + (j + 1) : Nat) : Int) = ((61 * t + j : Nat) : Int) + c ∧ t' ≤ j + 1 := by
            by_cases h01 : mk = 0 ∨ mk = 1
            · refine ⟨_, rfl, t + 1, ?_, ?_, by omega⟩
              · have := hy2.out; rw [if_pos h01] at this; exact this
              · rw [if_pos h01]; omega
            · refine ⟨_, rfl, t, ?_, ?_, by omega⟩
              · have := hy2.out; rw [if_neg h01] at this; exact this
              · rw [if_neg h01]; omega
          obtain ⟨cc, hcc, t', hru, hsum, ht'⟩ := hnext
          have hC2 := Lib.hid (fun w9 => (show Calls Try.prog 48 #[.agg #[.int .i64 mk, .int .i64 mx]] w9 (fun e w' => e = .returned (.int .i64 cc) ∧ Below w9.heap.size w9 w') from by rw [hcc]; exact hC.out w9))
          have HSUM := Lib.hid hsum
          have hwc : IntKind.i64.wrap (((61 * t + j : Nat) : Int) + cc) = ((61 * t + j : Nat) : Int) + cc := IntWalk.i64_in _ (by omega)
          clear hC hcc hy2 hsum hbA
          generalize (61 * t + j) = co at *
          go_wp2_with (first | (go_at_call 47; (with_reducible refine (hA.out _).mono ?_); rintro e w1 ⟨rfl, b1⟩; obtain ⟨⟨n0, n1, m0, m1, q0, q1, g0, g1⟩, _⟩ := HK9.out w1 b1 _ (Below.refl _ _)))
          go_region_law (go_simp; go_at_call 48; (with_reducible refine (hC2.out _).mono ?_); rintro e w9 ⟨rfl, b9⟩; obtain ⟨⟨d0, d1, d2, d3, d4, d5, d6, d7⟩, HF⟩ := HK9.out w1 b1 w9 (drewBB b9); clear b9)
          all_goals
            go_wp2
            go_roundw
            case rel => exact ⟨j + 1, F, S, t', by omega, by go_num, by rw [HSUM.out], hru, by first | exact HF | exact Lib.hid HF.out.dr⟩
            case measure => simp [intOf]; omega
      · have e : j = L := by omega
        subst e
        have hT := Lib.hid (trans_i ((61 * t + j : Nat) : Int))
        have hdiv : ((61 * t + j : Nat) : Int) / 61 = (t : Int) := by omega
        have hco0 : (0 : Int) ≤ ((61 * t + j : Nat) : Int) := by omega
        have hco1 : ((61 * t + j : Nat) : Int) ≤ 100000 := by omega
        have HTR := Lib.hid (fun w9 => (show Calls Try.prog 49 #[.int .i64 ((61 * t + j : Nat) : Int)] w9 (NwG (t : Int) w9) from by
          have := trans_i ((61 * t + j : Nat) : Int) w9 hco0 hco1
          rwa [hdiv] at this))
        have p0 : wr.cell? ⟨B, 0, none⟩ = some (.int .u8 (f : Int)) := hI.out.kb.cell 0
        have p1 : wr.cell? ⟨B, 1, none⟩ = some (.int .u8 (s : Int)) := hI.out.kb.cell 1
        have r0 : wr.cell? ⟨w.heap.size + 1, 0, none⟩ = some (.int .u8 0) := hI.out.kr.cell 0
        have r1 : wr.cell? ⟨w.heap.size + 1, 1, none⟩ = some (.int .u8 0) := hI.out.kr.cell 1
        have f0 := hI.out.kr.froz 0
        have f1 := hI.out.kr.froz 1
        have HE := Lib.hid (blk1 (blk1 hI.out.kr 0 (.int .u8 (f : Int)) (by simp)) 1 (.int .u8 (s : Int)) (by simp))
        have HED : Hid (Blk (((wr.setCell ⟨w.heap.size + 1, 0, none⟩ (.int .u8 (f : Int))).setCell ⟨w.heap.size + 1, 1, none⟩ (.int .u8 (s : Int))).drew) (w.heap.size + 1) [.int .u8 (f : Int), .int .u8 (s : Int)] 62) := HE.out
        have HEB := Lib.hid ((hI.out.bel.setCell (p := ⟨w.heap.size + 1, 0, none⟩) (by show w.heap.size ≤ w.heap.size + 1; omega) (.int .u8 (f : Int))).setCell (p := ⟨w.heap.size + 1, 1, none⟩) (by show w.heap.size ≤ w.heap.size + 1; omega) (.int .u8 (s : Int)))
        clear HLT HY HN HAF HCO HR0 hT hdiv hco0 hco1 HMS hI
        generalize (61 * t + j) = co at *
        go_wp2
        go_region_law (go_simp; go_at_call 49; (with_reducible refine (HTR.out _).mono ?_); rintro e w9 ⟨rfl, rfl⟩)
        all_goals
          go_wp2
          refine bodyPost_ret (results3c (a := 4) (k := 5) (l := 6) (t := 62) (p := ⟨w.heap.size + 1, 0, none⟩) (by kernel_rfl) rfl (HLP.out _ _ _ HED.out rfl) rfl rfl) rfl ⟨by rw [hx.out]; rfl, HEB.out.drew⟩
  · have HRV : Hid (rvA bs p ms = none) := by show _ = _; unfold rvA; rw [if_neg h60]
    rw [HRV.out]
    clear HRV HY HN HR0 HLT HMS HCO HAF HST
    generalize ms.length = L at *
    have hd60 : decide ((60 : Int) < (L : Int)) = true := by simp; omega
    go_enter Try.func28, Try.ntmps28
    go_wp2_with fail
    rw [← HWW.out]
    clear HWW
    have r0 : W.cell? ⟨w.heap.size + 1, 0, none⟩ = some (.int .u8 0) := HY0.out.1.2.cell 0
    have r1 : W.cell? ⟨w.heap.size + 1, 1, none⟩ = some (.int .u8 0) := HY0.out.1.2.cell 1
    have f0 := HY0.out.1.2.froz 0
    have f1 := HY0.out.1.2.froz 1
    go_wp2
    refine bodyPost_ret (results3c (a := 4) (k := 5) (l := 6) (t := 62) (p := ⟨w.heap.size + 1, 0, none⟩) (by kernel_rfl) rfl (HLP.out _ _ _ HY0.out.1.2 rfl) rfl rfl) rfl ⟨rfl, HY0.out.2.1⟩
end Go.Proofs.Ytepobkflahjldaa.Pb
