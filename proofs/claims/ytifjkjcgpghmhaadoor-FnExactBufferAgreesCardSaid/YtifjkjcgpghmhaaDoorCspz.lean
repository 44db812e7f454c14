/- Both BufferAgrees. -/
import Derived.Test.YtifjkjcgpghmhaaDoorCspy
import Derived.Deep.QuietTactic
namespace Go.Proofs.YtifjkjcgpghmhaaDoor.Sp
open Go.RowKit
/-- Where an element is of which something holds. -/
def posq (q : TC → Bool) : List TC → Nat → Int
  | [], _ => -1
  | c :: r, i => if q c then (i : Int) else posq q r (i + 1)
theorem posq_at (q : TC → Bool) : ∀ (l : List TC) (i j : Nat), j < l.length → (∀ t, t < j → q (l.getD t dC) = false) → q (l.getD j dC) = true → posq q l i = (i : Int) + j
  | [], _, j, h, _, _ => by simp at h
  | c :: r, i, 0, _, _, h => by
    have h : q c = true := h
    rw [posq, if_pos h]; simp
  | c :: r, i, j + 1, hj, hn, h => by
    have h0 : q c = false := hn 0 (by omega)
    rw [posq, if_neg (by rw [h0]; simp), posq_at q r (i + 1) j (by simpa using hj) (fun t ht => hn (t + 1) (by omega)) h]
    omega
theorem posq_end (q : TC → Bool) : ∀ (l : List TC) (i : Nat), (∀ t, t < l.length → q (l.getD t dC) = false) → posq q l i = -1
  | [], _, _ => rfl
  | c :: r, i, h => by
    have h0 : q c = false := h 0 (by simp)
    rw [posq, if_neg (by rw [h0]; simp)]
    exact posq_end q r (i + 1) fun t ht => h (t + 1) (by simpa using ht)
theorem posq_ge (q : TC → Bool) (l : List TC) : decide (0 ≤ posq q l 0) = l.any q := by
  have key : ∀ (l : List TC) (i : Nat), decide (0 ≤ posq q l i) = l.any q := by
    intro l
    induction l with
    | nil => intro i; rfl
    | cons c r ih =>
      intro i
      rw [posq, List.any_cons]
      cases hq : q c
      · rw [if_neg (by simp)]; simpa using ih (i + 1)
      · rw [if_pos rfl]; simp
  exact key l 0
/-- The tables translate the page of an element as the element does. -/
def agr (root : List Int) (tss : List (List TE)) (c : TC) : Bool := decide ((entAt root tss c.1.toNat).1 = c.2.1) && decide ((entAt root tss c.1.toNat).2.1 = c.2.2)
def agS (root : List Int) (tss : List (List TE)) (buf : List TC) : Bool := okSpace root tss buf && buf.all (agr root tss)
theorem okBuf_at {buf : List TC} (h : okBuf buf = true) (j : Nat) (hj : j < buf.length) : (∃ P : Nat, (buf.getD j dC).1 = (P : Int) ∧ P < 64) ∧ 0 ≤ (buf.getD j dC).2.1 := by
  unfold okBuf at h
  rw [Bool.and_eq_true, List.all_eq_true] at h
  have := h.2 j (List.mem_range.2 hj)
  unfold bOk at this
  rw [Bool.and_eq_true, Bool.and_eq_true] at this
  have hF : 0 ≤ (buf.getD j dC).2.1 ∧ (buf.getD j dC).2.1 ≤ 15 := by have h := this.1.2; unfold isF at h; rw [Bool.and_eq_true, decide_eq_true_eq, decide_eq_true_eq] at h; exact h
  exact ⟨isPg_nat this.1.1, hF.1⟩
theorem step_nb (d : Nat) (xs ys : Array Value) (f : Field) (fs : List Field) (x y : Int) (w : World) (hn : (f.name == "_") = false) (ht : f.type = 2) (hx : xs[f.offset]? = some (.int .i64 x)) (hy : ys[f.offset]? = some (.int .i64 y)) :
    (Op.eqFields (d + 1) xs ys (f :: fs)).run Tryd.prog w = if x = y then (Op.eqFields (d + 1) xs ys fs).run Tryd.prog w else .ok false w := step_i d xs ys f fs x y w hn ht hx hy
theorem fieldsC : Tryd.prog.fieldsOf 53 = #[⟨"Page", 2, 0, false, "", "", 0⟩, ⟨"Frame", 2, 1, false, "", "", 8⟩, ⟨"Writes", 4, 2, false, "", "", 16⟩] := by kernel_rfl
theorem underC : Tryd.prog.underlying 53 = some (.struct (Tryd.prog.fieldsOf 53)) := by kernel_rfl
theorem stoodC : Tryd.prog.stoodInHeld 53 = false := by kernel_rfl
theorem eqC (x0 x1 y0 y1 : Int) (x2 y2 : Bool) (w : World) :
    (Op.equalIn 10000 53 (.agg #[.int .i64 x0, .int .i64 x1, .bool x2]) (.agg #[.int .i64 y0, .int .i64 y1, .bool y2])).run Tryd.prog w = .ok (decide (((x0, x1, x2) : TC) = (y0, y1, y2))) w := by
  rw [run_equalIn_struct w 9999 53 _ _ underC stoodC, fieldsC]
  show (Op.eqFields 9999 _ _ [_, _, _]).run _ w = _
  rw [step_i 9998 _ _ _ _ x0 y0 w rfl rfl rfl rfl, step_i 9998 _ _ _ _ x1 y1 w rfl rfl rfl rfl, step_b 9998 _ _ _ _ x2 y2 w rfl rfl rfl rfl]
  by_cases h0 : x0 = y0
  · by_cases h1 : x1 = y1
    · by_cases h2 : x2 = y2
      · simp [h0, h1, h2, Op.eqFields]
      · simp [h0, h1, h2]
    · simp [h0, h1]
  · simp [h0]
theorem guardC : Tryd.prog.eqGuardType Tryd.prog.depth 53 = false := by kernel_rfl
theorem builtC (p f : Int) (wt : Bool) : Tryd.prog.built 53 [(0, .int .i64 p), (1, .int .i64 f), (2, .bool wt)] = some #[.int .i64 p, .int .i64 f, .bool wt] := by kernel_rfl
def TrP (p f : Int) (wt : Bool) (w : World) (e : Ending) (w' : World) : Prop := e = .returned (.agg #[.int .i64 p, .int .i64 f, .bool wt]) ∧ Below w.heap.size w w'
theorem tran_i (p f : Int) (wt us di : Bool) (w : World) : Calls Tryd.prog 64 #[.int .i64 p, .agg #[.int .i64 f, .bool wt, .bool us, .bool di]] w (TrP p f wt w) := by
  go_enter Tryd.func64, Tryd.ntmps64
  go_wp2
  refine bodyPost_ret (v := .agg #[.int .i64 p, .int .i64 f, .bool wt]) (by simp [results, Tryd.results64, go_sem]) rfl ?_
  exact ⟨rfl, ((Below.refl _ _).alloc (Nat.le_refl _) _).alloc (by simp) _⟩
set_option maxRecDepth 100000 in
set_option maxHeartbeats 2000000 in
theorem index_c (a : Option Addr) (c n : Nat) (buf : List TC) (q : TC → Bool) (X : Nat) (w : World) (hl : buf.length = n) (hn : n ≤ 1048576) (hr : Ch.RdR w a buf) (hq : ∀ w', Below w.heap.size w w' → ∀ j, j < n → Calls Tryd.prog 36 #[.pointer (some ⟨X, 0, none⟩), .agg #[.int .i64 (buf.getD j dC).1, .int .i64 (buf.getD j dC).2.1, .bool (buf.getD j dC).2.2]] w' (Bb (q (buf.getD j dC)) w')) :
    Calls Tryd.prog 63 #[.slice a n c, .func (.func 36) #[.pointer (some ⟨X, 0, none⟩)] #[]] w (Nb (posq q buf 0) w) := by
  have HC := Lib.hid (fun (w' : World) (bb : Below w.heap.size w w') j (h : j < n) => (show ∃ b off, a = some ⟨b, off, none⟩ ∧ w'.cell? ⟨b, off + j * 3, none⟩ = some (.int .i64 (buf.getD j dC).1) ∧ w'.cell? ⟨b, off + j * 3 + 1, none⟩ = some (.int .i64 (buf.getD j dC).2.1) ∧ w'.cell? ⟨b, off + j * 3 + 2, none⟩ = some (.bool (buf.getD j dC).2.2) from by
    obtain ⟨b, off, e, h1, h2, h3, _⟩ := (hr.below bb) j (by omega)
    exact ⟨b, off, e, h1, h2, h3⟩))
  have HSP := Lib.hid hq
  have HY := Lib.hid (fun j (h : j < n) (hn : ∀ t, t < j → q (buf.getD t dC) = false) (e : q (buf.getD j dC) = true) => (show posq q buf 0 = (j : Int) by rw [posq_at q buf 0 j (by omega) hn e]; simp))
  have HE := Lib.hid (fun (hn : ∀ t, t < n → q (buf.getD t dC) = false) => posq_end q buf 0 (by rw [hl]; exact hn))
  clear hr hq hl
  generalize posq q buf 0 = r at *
  go_enter Tryd.func63, Tryd.ntmps63
  go_wp2
  go_loopw [5, 8] (fun _ i wr => ∃ j : Nat, j ≤ n ∧ i = .int .i64 (j : Int) ∧ Hid (∀ t, t < j → q (buf.getD t dC) = false) ∧ Hid (Below w.heap.size w wr)) (fun _ i _ => n - (intOf i).toNat)
  case atStart => exact ⟨0, Nat.zero_le _, rfl, Lib.hid (fun i hi => by omega), Lib.hid (Below.refl _ _)⟩
  case round =>
    obtain ⟨j, hj, rfl, hne, hb⟩ := hrel
    by_cases hlt : j < n
    · obtain ⟨g, off, rfl, k0, k1, k2⟩ := HC.out wr hb.out j hlt
      have HBB := Lib.hid (fun (w2 : World) (h2 : Below wr.heap.size wr w2) => hb.out.trans (h2.mono hb.out.size))
      have HS := Lib.hid (HSP.out wr hb.out j hlt)
      have hy := Lib.hid (HY.out j hlt hne.out)
      have hs := Lib.hid (fun (e : q (buf.getD j dC) = false) => (show ∀ t, t < j + 1 → q (buf.getD t dC) = false from fun t ht => by
        by_cases e2 : t = j
        · rw [e2]; exact e
        · exact hne.out t (by omega)))
      clear HC HSP HY
      generalize buf.getD j dC = u at *
      obtain ⟨pg, fr, m⟩ := u
      by_cases he : q (pg, fr, m) = true
      · have hrj := hy.out he
        have HS2 := Lib.hid HS.out
        rw [he] at HS2
        subst hrj
        clear hy hs HE HS he
        go_wp2_with fail
        refine HS2.out.mono ?_; rintro e w2 ⟨rfl, b2⟩
        have HB2 := Lib.hid (HBB.out w2 b2)
        clear b2
        go_wp2
        go_ret
        exact ⟨rfl, HB2.out⟩
      · have he : q (pg, fr, m) = false := by simpa using he
        have hs' := Lib.hid (hs.out he)
        have HS2 := Lib.hid HS.out
        rw [he] at HS2
        clear hy hs HS he
        go_wp2_with fail
        refine HS2.out.mono ?_; rintro e w2 ⟨rfl, b2⟩
        have HB2 := Lib.hid (HBB.out w2 b2)
        clear b2
        go_wp2
        go_roundw
        case rel => exact ⟨j + 1, by omega, by go_num, hs', HB2⟩
        case measure => simp [intOf]; omega
    · have e : j = n := by omega
      subst e
      have hrj := HE.out hne.out
      subst hrj
      clear HE HY
      go_wp2
      go_ret
      exact ⟨rfl, hb.out⟩

set_option maxRecDepth 100000 in
theorem cont_i (a : Option Addr) (c n : Nat) (buf : List TC) (q : TC → Bool) (X : Nat) (w : World) (hl : buf.length = n) (hn : n ≤ 1048576) (hr : Ch.RdR w a buf) (hq : ∀ w', Below w.heap.size w w' → ∀ j, j < n → Calls Tryd.prog 36 #[.pointer (some ⟨X, 0, none⟩), .agg #[.int .i64 (buf.getD j dC).1, .int .i64 (buf.getD j dC).2.1, .bool (buf.getD j dC).2.2]] w' (Bb (q (buf.getD j dC)) w')) :
    Calls Tryd.prog 35 #[.slice a n c, .func (.func 36) #[.pointer (some ⟨X, 0, none⟩)] #[]] w (Bb (buf.any q) w) := by
  have HI := Lib.hid (index_c a c n buf q X w hl hn hr hq)
  have HG := Lib.hid (posq_ge q buf)
  clear hr hq hl
  generalize posq q buf 0 = r at *
  generalize buf.any q = b at *
  go_enter Tryd.func35, Tryd.ntmps35
  go_wp2_with fail
  refine HI.out.mono ?_; rintro e w1 ⟨rfl, b1⟩
  have B1 := Lib.hid b1
  clear b1
  go_wp2
  go_ret
  exact ⟨ret_bool HG.out, B1.out⟩
set_option maxRecDepth 100000 in
set_option maxHeartbeats 4000000 in
theorem contr_i (X N : Nat) (a1 a2 : Option Addr) (c1 c2 : Nat) (root : List Int) (tss : List (List TE)) (c : TC) (w : World) (hN : tss.length = N) (h0 : w.cell? ⟨X, 1, none⟩ = some (.slice a1 8 c1)) (h1 : w.cell? ⟨X, 2, none⟩ = some (.slice a2 N c2)) (hr : Row w a1 root) (ht : En.RdT w a2 tss) (ok : OkT root tss) (he : okEnts tss = true) (her : Er w) (hc : (∃ P : Nat, c.1 = (P : Int) ∧ P < 64) ∧ 0 ≤ c.2.1) :
    Calls Tryd.prog 36 #[.pointer (some ⟨X, 0, none⟩), .agg #[.int .i64 c.1, .int .i64 c.2.1, .bool c.2.2]] w (Bb (!agr root tss c) w) := by
  obtain ⟨⟨P, hP, hP64⟩, hfr⟩ := hc
  have hlo := (ok.2.1 (P / 8) (by omega)).1
  have hag : agr root tss c = (decide ((entAt root tss P).1 = c.2.1) && decide ((entAt root tss P).2.1 = c.2.2)) := by unfold agr; rw [hP]; rfl
  rw [hag, hP]
  obtain ⟨cp, cf, cw⟩ := c
  simp only at hfr ⊢
  have b0 := (Below.refl w.heap.size w).alloc (Nat.le_refl _) (.cells #[.int .i64 (P : Nat), .int .i64 cf, .bool cw] 53)
  have kc := Blk.newAt w w.heap.size [.int .i64 (P : Nat), .int .i64 cf, .bool cw] 53 rfl
  have hX : X < w.heap.size := World.block_lt_of_cell? w _ h0
  have HE := Lib.hid (entryOf_i X N a1 a2 c1 c2 root tss (w.alloc (.cells #[.int .i64 (P : Nat), .int .i64 cf, .bool cw] 53)) hN ((b0.cell (p := ⟨X, 1, none⟩) hX).trans h0) ((b0.cell (p := ⟨X, 2, none⟩) hX).trans h1) P hP64 (entC (hr.below b0) (ht.below b0) ok P hP64) (hN ▸ ok.2.2.2) (her.below b0) hlo)
  have HKC := Lib.hid (fun (w' : World) (bb : Below (w.alloc (.cells #[.int .i64 (P : Nat), .int .i64 cf, .bool cw] 53)).heap.size (w.alloc (.cells #[.int .i64 (P : Nat), .int .i64 cf, .bool cw] 53)) w') => (⟨(kc.below bb kc.lt).cell 0, (kc.below bb kc.lt).cell 1, (kc.below bb kc.lt).cell 2, (kc.below bb kc.lt).lt, bt b0 bb⟩ : (w'.cell? ⟨w.heap.size, 0, none⟩ = some (.int .i64 (P : Nat))) ∧ (w'.cell? ⟨w.heap.size, 1, none⟩ = some (.int .i64 cf)) ∧ (w'.cell? ⟨w.heap.size, 2, none⟩ = some (.bool cw)) ∧ w.heap.size < w'.heap.size ∧ Below w.heap.size w w'))
  have hemp : entAt root tss P = emp → (decide ((entAt root tss P).1 = cf) && decide ((entAt root tss P).2.1 = cw)) = false := fun h => by
    rw [h, decide_eq_false (show ¬ emp.1 = cf from fun e => by rw [← e] at hfr; exact absurd hfr (by decide))]; rfl
  have HEMP := Lib.hid hemp
  clear hemp hr ht ok her kc b0 h0 h1 he hag hN hlo hP
  generalize entAt root tss P = u at *
  obtain ⟨f, wt, us, di⟩ := u
  obtain ⟨R, hR⟩ : ∃ R : Bool, (!(decide (f = cf) && decide (wt = cw))) = R := ⟨_, rfl⟩
  have HRR := Lib.hid hR
  simp only
  rw [hR]
  clear hR
  go_enter Tryd.func36, Tryd.ntmps36
  go_wp2_with fail
  refine HE.out.mono ?_; rintro e w1 ⟨hcase, b1⟩
  obtain ⟨p0, p1, p2, hlt, hB⟩ := HKC.out w1 b1
  rcases hcase with ⟨hem, ae, rfl⟩ | ⟨hne, rfl⟩
  · have hRt : R = true := by rw [← HRR.out]; exact congrArg (fun b => !b) (HEMP.out hem)
    subst hRt
    have hn1 : ∀ w : World, (binOp .neq 68 (.iface 105 (.pointer (some ae))) Value.nilIface).run Tryd.prog w = .ok (.bool true) w := fun _ => rfl
    have HBQ := Lib.hid (fun (o : Obj) m => (show Below w.heap.size w ((w1.alloc o).drewN m) from below_drewN m (hB.alloc hB.size o)))
    clear HRR HEMP hem HE HKC hB b1
    go_wp2
    go_quiet (fail)
    go_wp2
    go_ret
    exact ⟨rfl, HBQ.out _ _⟩
  · have hn1 : ∀ w : World, (binOp .neq 68 Value.nilIface Value.nilIface).run Tryd.prog w = .ok (.bool false) w := fun _ => rfl
    obtain ⟨W2, hW2⟩ : ∃ W2, W2 = w1.alloc (.cells #[.int .i64 f, .bool wt, .bool us, .bool di] 37) := ⟨_, rfl⟩
    have b2 : Below w1.heap.size w1 W2 := by rw [hW2]; exact (Below.refl _ _).alloc (Nat.le_refl _) _
    have ke : Blk W2 w1.heap.size [.int .i64 f, .bool wt, .bool us, .bool di] 37 := by rw [hW2]; exact Blk.newAt w1 _ _ _ rfl
    have k0 : W2.cell? ⟨w1.heap.size, 0, none⟩ = some (.int .i64 f) := ke.cell 0
    have k1 : W2.cell? ⟨w1.heap.size, 1, none⟩ = some (.bool wt) := ke.cell 1
    have k2 : W2.cell? ⟨w1.heap.size, 2, none⟩ = some (.bool us) := ke.cell 2
    have k3 : W2.cell? ⟨w1.heap.size, 3, none⟩ = some (.bool di) := ke.cell 3
    have q0 : W2.cell? ⟨w.heap.size, 0, none⟩ = some (.int .i64 (P : Nat)) := (b2.cell (p := ⟨_, 0, none⟩) hlt).trans p0
    have q1 : W2.cell? ⟨w.heap.size, 1, none⟩ = some (.int .i64 cf) := (b2.cell (p := ⟨_, 1, none⟩) hlt).trans p1
    have q2 : W2.cell? ⟨w.heap.size, 2, none⟩ = some (.bool cw) := (b2.cell (p := ⟨_, 2, none⟩) hlt).trans p2
    have hlt2 : w.heap.size < W2.heap.size := Nat.lt_of_lt_of_le hlt b2.size
    have HK := Lib.hid (fun (w' : World) (bb : Below W2.heap.size W2 w') => (⟨(ke.below bb ke.lt).cell 0, (ke.below bb ke.lt).cell 1, (ke.below bb ke.lt).cell 2, (ke.below bb ke.lt).cell 3, (bb.cell (p := ⟨_, 0, none⟩) hlt2).trans q0, (bb.cell (p := ⟨_, 1, none⟩) hlt2).trans q1, (bb.cell (p := ⟨_, 2, none⟩) hlt2).trans q2⟩ : w'.cell? ⟨w1.heap.size, 0, none⟩ = some (.int .i64 f) ∧ w'.cell? ⟨w1.heap.size, 1, none⟩ = some (.bool wt) ∧ w'.cell? ⟨w1.heap.size, 2, none⟩ = some (.bool us) ∧ w'.cell? ⟨w1.heap.size, 3, none⟩ = some (.bool di) ∧ w'.cell? ⟨w.heap.size, 0, none⟩ = some (.int .i64 (P : Nat)) ∧ w'.cell? ⟨w.heap.size, 1, none⟩ = some (.int .i64 cf) ∧ w'.cell? ⟨w.heap.size, 2, none⟩ = some (.bool cw)))
    have HB := Lib.hid (fun (w' : World) (bb : Below W2.heap.size W2 w') => bt (bt hB b2) bb)
    have HTR := Lib.hid (fun w => tran_i P f wt us di w)
    have HQ : ∀ w, (Op.equalIn 10000 53 (.agg #[.int .i64 (P : Nat), .int .i64 f, .bool wt]) (.agg #[.int .i64 (P : Nat), .int .i64 cf, .bool cw])).run Tryd.prog w = .ok (!R) w := fun w => by
      rw [eqC, ← HRR.out]
      congr 1
      rw [Bool.eq_iff_iff]
      simp
    have hgt := guardC
    clear HRR HEMP HE HKC hB b1 ke b2 hne p0 p1 p2
    cases R
    all_goals
      go_wp2
      rw [← hW2]
      clear hW2
      go_region_held3 (fun w' => w'.cell? ⟨w1.heap.size, 0, none⟩ = some (.int .i64 f) ∧ w'.cell? ⟨w1.heap.size, 1, none⟩ = some (.bool wt) ∧ w'.cell? ⟨w1.heap.size, 2, none⟩ = some (.bool us) ∧ w'.cell? ⟨w1.heap.size, 3, none⟩ = some (.bool di) ∧ w'.cell? ⟨w.heap.size, 0, none⟩ = some (.int .i64 (P : Nat)) ∧ w'.cell? ⟨w.heap.size, 1, none⟩ = some (.int .i64 cf) ∧ w'.cell? ⟨w.heap.size, 2, none⟩ = some (.bool cw)) (first | exact ⟨k0, k1, k2, k3, q0, q1, q2⟩ | exact HK.out _ (drew_below bb)) (first | (go_at_call 64; (with_reducible refine (HTR.out _).mono ?_); rintro e w3 ⟨rfl, bb⟩))
      go_wp2
      go_ret
      exact ⟨rfl, HB.out _ (drew_below bb)⟩
end Go.Proofs.YtifjkjcgpghmhaaDoor.Sp
