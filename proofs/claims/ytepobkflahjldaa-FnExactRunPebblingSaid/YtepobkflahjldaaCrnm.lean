/- Several moves of a pebbling: the sets behind them; the model. -/
import Derived.Test.YtepobkflahjldaaCmvs2
import Derived.Test.YtepobkflahjldaaCaft2
import Derived.Test.YtepobkflahjldaaCmov
namespace Go.Proofs.Ytepobkflahjldaa.Pb
open Go.RowKit Pv
theorem AF_yes {bs : List (List Int)} {f s i : Nat} {k : Int} (h : i < bs.length) : AF bs f s k (i : Int) = nx bs f s k i := by
  have : isN bs (i : Int) = true := by unfold isN; rw [decide_eq_true (by omega), decide_eq_true (by omega)]; rfl
  unfold AF; rw [this]; rfl
theorem move_s (g : Nat) (a : Option Addr) (c : Nat) (bs : List (List Int)) (w : World) (hg : g < w.heap.size) (h0 : w.cell? ⟨g, 0, none⟩ = some (.slice a bs.length c)) (h6 : bs.length ≤ 6) (hh : RdR w a bs) (hok : okG bs = true) (p : Int) (f s : Nat) (hf : f < 64) (hs : s < 64) (k x : Int) :
    Calls Try.prog 39 #[.pointer (some ⟨g, 0, none⟩), .int .i64 p, .int .i64 (f : Int), .int .i64 (s : Int), .agg #[.int .i64 k, .int .i64 x]] w (MoP (AF bs f s k x).1 (AF bs f s k x).2 (okA bs p f s k x) w) := by
  cases hin : isN bs x
  · have e : AF bs f s k x = (0, 0) := by unfold AF; rw [hin]; rfl
    rw [e, okA_no hin]
    exact move_out g a c bs w hg h0 h6 p f s hf hs k x hin
  · obtain ⟨i, rfl, hi⟩ := isN_at hin
    rw [AF_yes hi, okA_yes hi]
    by_cases k0 : k = 0
    · subst k0
      cases h1 : f.testBit i
      · cases h2 : s.testBit i
        · exact mv_load_s g a c bs w hg h0 h6 p f s hf hs i hi h1 h2
        · exact mv_load_go g a c bs w hg h0 h6 p f s hf hs i hi h1 h2
      · exact mv_load_f g a c bs w hg h0 h6 p f s hf hs i hi h1
    by_cases k1 : k = 1
    · subst k1
      cases h1 : f.testBit i
      · exact mv_store_f g a c bs w hg h0 h6 p f s hf hs i hi h1
      · cases h2 : s.testBit i
        · exact mv_store_go g a c bs w hg h0 h6 p f s hf hs i hi h1 h2
        · exact mv_store_s g a c bs w hg h0 h6 p f s hf hs i hi h1 h2
    by_cases k2 : k = 2
    · subst k2
      cases h1 : f.testBit i
      · by_cases h2 : bs.getD i [] = []
        · exact mv_comp_s g a c bs w hg h0 h6 p f s hf hs i hi hh hok h1 h2
        · exact mv_comp_go g a c bs w hg h0 h6 p f s hf hs i hi hh hok h1 h2
      · exact mv_comp_f g a c bs w hg h0 h6 p f s hf hs i hi h1
    by_cases k3 : k = 3
    · subst k3
      cases h1 : f.testBit i
      · exact mv_drop_f g a c bs w hg h0 h6 p f s hf hs i hi h1
      · exact mv_drop_go g a c bs w hg h0 h6 p f s hf hs i hi h1
    · exact mv_other_s g a c bs w hg h0 h6 p f s hf hs k i hi k0 k1 k2 k3
/-- The sets behind the first j moves, and how many of these were transfers. -/
def runA (bs : List (List Int)) (p : Int) (ms : List Mo.R) : Nat → Option (Nat × Nat × Nat)
  | 0 => some (0, src bs bs.length, 0)
  | j + 1 => match runA bs p ms j with
    | none => none
    | some (f, s, t) => if okA bs p f s (ms.getD j Mo.dR).1 (ms.getD j Mo.dR).2 then some ((AF bs f s (ms.getD j Mo.dR).1 (ms.getD j Mo.dR).2).1, (AF bs f s (ms.getD j Mo.dR).1 (ms.getD j Mo.dR).2).2, if (ms.getD j Mo.dR).1 = 0 ∨ (ms.getD j Mo.dR).1 = 1 then t + 1 else t) else none
theorem runA_yes {bs : List (List Int)} {p : Int} {ms : List Mo.R} {j f s t : Nat} (h : runA bs p ms j = some (f, s, t)) (hk : okA bs p f s (ms.getD j Mo.dR).1 (ms.getD j Mo.dR).2 = true) :
    runA bs p ms (j + 1) = some ((AF bs f s (ms.getD j Mo.dR).1 (ms.getD j Mo.dR).2).1, (AF bs f s (ms.getD j Mo.dR).1 (ms.getD j Mo.dR).2).2, if (ms.getD j Mo.dR).1 = 0 ∨ (ms.getD j Mo.dR).1 = 1 then t + 1 else t) := by
  rw [runA, h]
  exact if_pos hk
theorem runA_stay {bs : List (List Int)} {p : Int} {ms : List Mo.R} {j : Nat} (h : runA bs p ms j = none) : ∀ d, runA bs p ms (j + d) = none
  | 0 => h
  | d + 1 => by rw [← Nat.add_assoc, runA, runA_stay h d]
theorem runA_no {bs : List (List Int)} {p : Int} {ms : List Mo.R} {j f s t n : Nat} (h : runA bs p ms j = some (f, s, t)) (hk : okA bs p f s (ms.getD j Mo.dR).1 (ms.getD j Mo.dR).2 = false) (hj : j < n) : runA bs p ms n = none := by
  have h1 : runA bs p ms (j + 1) = none := by
    rw [runA, h]
    exact if_neg (by rw [hk]; simp)
  have := runA_stay h1 (n - (j + 1))
  rwa [show j + 1 + (n - (j + 1)) = n by omega] at this
theorem AF_lt {bs : List (List Int)} (h6 : bs.length ≤ 6) {f s : Nat} (hf : f < 64) (hs : s < 64) (k x : Int) : (AF bs f s k x).1 < 64 ∧ (AF bs f s k x).2 < 64 := by
  unfold AF
  cases hin : isN bs x
  · exact ⟨by simp, by simp⟩
  · obtain ⟨i, rfl, hi⟩ := isN_at hin
    exact nx_lt bs f s k i hf hs (by omega)
theorem runA_lt {bs : List (List Int)} (h6 : bs.length ≤ 6) {p : Int} {ms : List Mo.R} : ∀ {j f s t : Nat}, runA bs p ms j = some (f, s, t) → f < 64 ∧ s < 64 ∧ t ≤ j
  | 0, f, s, t, h => by
    have h1 := src_lt bs bs.length h6
    simp [runA] at h
    obtain ⟨rfl, rfl, rfl⟩ := h
    exact ⟨by omega, h1, by omega⟩
  | j + 1, f, s, t, h => by
    cases e : runA bs p ms j with
    | none => rw [runA, e] at h; cases h
    | some q =>
      obtain ⟨f0, s0, t0⟩ := q
      obtain ⟨hf, hs, ht⟩ := runA_lt h6 e
      cases hk : okA bs p f0 s0 (ms.getD j Mo.dR).1 (ms.getD j Mo.dR).2
      · rw [runA_no e hk (Nat.lt_succ_self j)] at h; cases h
      · rw [runA_yes e hk] at h
        have hl := AF_lt h6 hf hs (ms.getD j Mo.dR).1 (ms.getD j Mo.dR).2
        simp only [Option.some.injEq, Prod.mk.injEq] at h
        obtain ⟨rfl, rfl, rfl⟩ := h
        refine ⟨hl.1, hl.2, ?_⟩
        split <;> omega
def gF (q : Option (Nat × Nat × Nat)) : Nat := match q with | some (f, _, _) => f | none => 0
def gS (q : Option (Nat × Nat × Nat)) : Nat := match q with | some (_, s, _) => s | none => 0
def gT (q : Option (Nat × Nat × Nat)) : Nat := match q with | some (_, _, t) => t | none => 0
/-- What the model's moves leave. -/
def MsP (q : Option (Nat × Nat × Nat)) (w : World) (e : Ending) (w' : World) : Prop := e = .returned (.tuple #[.int .i64 ((gF q : Nat) : Int), .int .i64 ((gS q : Nat) : Int), .int .i64 ((gT q : Nat) : Int), .bool q.isSome]) ∧ Below w.heap.size w w'
set_option maxHeartbeats 4000000 in
theorem moves_s (g : Nat) (a : Option Addr) (c : Nat) (bs : List (List Int)) (w : World) (hg : g < w.heap.size) (h0 : w.cell? ⟨g, 0, none⟩ = some (.slice a bs.length c)) (h6 : bs.length ≤ 6) (hh : RdR w a bs) (hok : okG bs = true) (p : Int) (am : Option Addr) (cm : Nat) (ms : List Mo.R) (hm : Mo.RdR w am ms) (hl : ms.length ≤ 60) :
    Calls Try.prog 23 #[.pointer (some ⟨g, 0, none⟩), .int .i64 p, .slice am ms.length cm] w (MsP (runA bs p ms ms.length) w) := by
  have HSR := Lib.hid (src_s g a c bs w h0 hh h6)
  have HMV := Lib.hid (fun (w' : World) (hb : Below w.heap.size w w') f s (hf : f < 64) (hs : s < 64) k x => move_s g a c bs w' (Nat.lt_of_lt_of_le hg hb.size) ((hb.cell (p := ⟨g, 0, none⟩) hg).trans h0) h6 (RdR.below hh hb) hok p f s hf hs k x)
  have HMS := Lib.hid (fun (w' : World) (hb : Below w.heap.size w w') => hm.below hb)
  have HLT := Lib.hid (fun (j f s t : Nat) (h : runA bs p ms j = some (f, s, t)) => runA_lt h6 h)
  have HY := Lib.hid (fun (j f s t : Nat) (h : runA bs p ms j = some (f, s, t)) hk => runA_yes h hk)
  have HN := Lib.hid (fun (j f s t : Nat) (h : runA bs p ms j = some (f, s, t)) hk (hj : j < ms.length) => runA_no h hk hj)
  have HR0 := Lib.hid (show runA bs p ms 0 = some (0, src bs bs.length, 0) from rfl)
  clear hh hm h0
  generalize src bs bs.length = s0 at *
  generalize hru : runA bs p ms = ru at *
  clear hru
  generalize hLL : ms.length = L at *
  have HLL := Lib.hid hLL
  clear hLL
  go_enter Try.func23, Try.ntmps23
  go_wp2_with (first | (go_at_call 38; (with_reducible refine HSR.out.mono ?_); rintro e w1 ⟨rfl, rfl⟩))
  go_loopw [10, 11, 12, 13, 14, 15, 16] (fun vf vs vt vi _ _ _ wr => ∃ j f s t : Nat, j ≤ L ∧ vi = .int .i64 (j : Nat) ∧ vf = .int .i64 (f : Nat) ∧ vs = .int .i64 (s : Nat) ∧ vt = .int .i64 (t : Nat) ∧ Hid (ru j = some (f, s, t)) ∧ Hid (Below w.heap.size w wr)) (fun _ _ _ vi _ _ _ _ => L - (intOf vi).toNat)
  case atStart => exact ⟨0, 0, s0, 0, Nat.zero_le _, rfl, rfl, rfl, rfl, HR0, Below.refl _ _⟩
  case round =>
    obtain ⟨j, f, s, t, hj, rfl, rfl, rfl, rfl, hx, hb⟩ := hrel
    obtain ⟨hf, hs, ht⟩ := HLT.out j f s t hx.out
    by_cases hlt : j < L
    · obtain ⟨b, off, rfl, c1, c2, hbl⟩ := HMS.out wr hb.out j (by rw [HLL.out]; exact hlt)
      have hy := HY.out j f s t hx.out
      have hn := HN.out j f s t hx.out
      have hM := Lib.hid (HMV.out wr hb.out f s hf hs (ms.getD j Mo.dR).1 (ms.getD j Mo.dR).2)
      clear HLT HY HN HMV HSR HR0
      have HCL := Lib.hid (fun (w' : World) (bb : Below wr.heap.size wr w') => (show w'.cell? ⟨b, off + j * 2, none⟩ = some (.int .i64 (ms.getD j Mo.dR).1) from (bb.cell (p := ⟨b, off + j * 2, none⟩) hbl).trans c1))
      generalize AF bs f s (ms.getD j Mo.dR).1 (ms.getD j Mo.dR).2 = af at *
      cases hk : okA bs p f s (ms.getD j Mo.dR).1 (ms.getD j Mo.dR).2
      · have e := hn hk (by first | exact hlt | (rw [HLL.out]; exact hlt))
        rw [hk] at hM
        rw [e]
        clear hy hn hk e
        generalize (ms.getD j Mo.dR).1 = mk at *
        generalize (ms.getD j Mo.dR).2 = mx at *
        go_wp2_with (first | (go_at_call 39; (with_reducible refine hM.out.mono ?_); rintro e w1 ⟨ra, rb, rfl, _, b1⟩))
        refine bodyPost_ret (v := .tuple #[.int .i64 0, .int .i64 0, .int .i64 0, .bool false]) (by simp [results, Try.results23, go_sem]) rfl ⟨rfl, bt hb.out b1⟩
      · have hy2 := Lib.hid (hy hk)
        rw [hk] at hM
        clear hy hn hk
        generalize (ms.getD j Mo.dR).1 = mk at *
        generalize (ms.getD j Mo.dR).2 = mx at *
        by_cases k0 : mk = 0
        · have e0 : (mk == 0) = true := by rw [k0]; rfl
          have hy3 : Hid (ru (j + 1) = some (af.1, af.2, t + 1)) := by show _ = _; rw [hy2.out, if_pos (Or.inl k0)]
          clear hy2 k0
          go_wp2_with (first | (go_at_call 39; (with_reducible refine hM.out.mono ?_); rintro e w1 ⟨ra, rb, rfl, hab, b1⟩; obtain ⟨rfl, rfl⟩ := hab rfl; have c3 := HCL.out w1 b1))
          go_roundw
          case rel => exact ⟨j + 1, af.1, af.2, t + 1, by omega, by go_num, rfl, rfl, by go_num, hy3, Lib.hid (bt hb.out b1)⟩
          case measure => simp [intOf]; omega
        · have e0 : (mk == 0) = false := by simp [k0]
          by_cases k1 : mk = 1
          · have e1 : (mk == 1) = true := by rw [k1]; rfl
            have hy3 : Hid (ru (j + 1) = some (af.1, af.2, t + 1)) := by show _ = _; rw [hy2.out, if_pos (Or.inr k1)]
            clear hy2 k0 k1
            go_wp2_with (first | (go_at_call 39; (with_reducible refine hM.out.mono ?_); rintro e w1 ⟨ra, rb, rfl, hab, b1⟩; obtain ⟨rfl, rfl⟩ := hab rfl; have c3 := HCL.out w1 b1))
            go_roundw
            case rel => exact ⟨j + 1, af.1, af.2, t + 1, by omega, by go_num, rfl, rfl, by go_num, hy3, Lib.hid (bt hb.out b1)⟩
            case measure => simp [intOf]; omega
          · have e1 : (mk == 1) = false := by simp [k1]
            have hy3 : Hid (ru (j + 1) = some (af.1, af.2, t)) := by show _ = _; rw [hy2.out, if_neg (fun h => h.elim k0 k1)]
            clear hy2 k0 k1
            go_wp2_with (first | (go_at_call 39; (with_reducible refine hM.out.mono ?_); rintro e w1 ⟨ra, rb, rfl, hab, b1⟩; obtain ⟨rfl, rfl⟩ := hab rfl; have c3 := HCL.out w1 b1))
            go_roundw
            case rel => exact ⟨j + 1, af.1, af.2, t, by omega, by go_num, rfl, rfl, by go_num, hy3, Lib.hid (bt hb.out b1)⟩
            case measure => simp [intOf]; omega
    · have e : j = L := by omega
      subst e
      clear HLT HY HN HMV HSR HR0 HMS
      go_wp2
      refine bodyPost_ret (v := .tuple #[.int .i64 (f : Int), .int .i64 (s : Int), .int .i64 (t : Int), .bool true]) (by simp [results, Try.results23, go_sem]) rfl ⟨by first | rfl | (rw [hx.out]; rfl), hb.out⟩
end Go.Proofs.Ytepobkflahjldaa.Pb
