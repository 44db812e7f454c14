/- Both FromRuns. -/
import Derived.Test.YthfgaoojgdikpaaCtoM
import Derived.Test.YthfgaoojgdikpaaClst
import Derived.Test.YthfgaoojgdikpaaCappg
import Derived.Deep.RegionHeld3
namespace Go.Proofs.Ythfgaoojgdikpaa.Fr
open Go.RowKit
open Ls (inR)
def r0 (r : List Int) : Int := r.getD 0 0
def r1 (r : List Int) : Int := r.getD 1 0
/-- May the run j stand behind the numbers out? -/
def okR (R : List (List Int)) (j : Nat) (out : List Int) : Bool :=
  decide ((R.getD j []).length = 2) && decide (1 ≤ r1 (R.getD j [])) && decide ((out.length : Int) + r1 (R.getD j []) ≤ 80) && (decide (j = 0) || decide (r0 (R.getD j []) ≠ r0 (R.getD (j - 1) [])))
def frs (R : List (List Int)) : Nat → Option (List Int)
  | 0 => some []
  | j + 1 => match frs R j with
    | none => none
    | some out => if okR R j out then some (out ++ List.replicate (r1 (R.getD j [])).toNat (r0 (R.getD j []))) else none
def frV (R : List (List Int)) : List Int × Bool := match frs R R.length with
  | none => ([], false)
  | some out => if out.all inR then (out, true) else ([], false)
theorem frs_yes (R : List (List Int)) (j : Nat) (out : List Int) (h : frs R j = some out) (ho : okR R j out = true) : frs R (j + 1) = some (out ++ List.replicate (r1 (R.getD j [])).toNat (r0 (R.getD j []))) := by
  rw [frs, h]; exact if_pos ho
theorem frs_none (R : List (List Int)) (j : Nat) (h : frs R j = none) : ∀ n, j ≤ n → frs R n = none := by
  intro n hn
  induction n with
  | zero => have : j = 0 := by omega
            subst this; exact h
  | succ n ih =>
    rcases Nat.lt_or_eq_of_le hn with hlt | rfl
    · rw [frs, ih (by omega)]
    · exact h
theorem frV_no (R : List (List Int)) (j : Nat) (out : List Int) (h : frs R j = some out) (hj : j < R.length) (ho : okR R j out = false) : frV R = ([], false) := by
  have h1 : frs R (j + 1) = none := by rw [frs, h]; exact if_neg (by rw [ho]; decide)
  unfold frV
  rw [frs_none R (j + 1) h1 R.length hj]
theorem frs_prev (R : List (List Int)) (j : Nat) (out : List Int) (h : frs R (j + 1) = some out) : (R.getD j []).length = 2 := by
  rw [frs] at h
  cases e : frs R j with
  | none => rw [e] at h; cases h
  | some o =>
    rw [e] at h
    replace h : (if okR R j o then some (o ++ List.replicate (r1 (R.getD j [])).toNat (r0 (R.getD j []))) else none) = some out := h
    split at h
    · rename_i hh; unfold okR at hh; simp only [Bool.and_eq_true, decide_eq_true_eq] at hh; exact hh.1.1.1
    · cases h
theorem frs_pre (R : List (List Int)) (j : Nat) (out : List Int) (h : frs R j = some out) : ∀ n out', j ≤ n → frs R n = some out' → ∀ x ∈ out, x ∈ out' := by
  intro n
  induction n with
  | zero => intro out' hn h' x hx
            have : j = 0 := by omega
            subst this; rw [h] at h'; injection h' with h'; rw [← h']; exact hx
  | succ n ih =>
    intro out' hn h' x hx
    rcases Nat.lt_or_eq_of_le hn with hlt | rfl
    · rw [frs] at h'
      cases e : frs R n with
      | none => rw [e] at h'; cases h'
      | some o =>
        rw [e] at h'
        replace h' : (if okR R n o then some (o ++ List.replicate (r1 (R.getD n [])).toNat (r0 (R.getD n []))) else none) = some out' := h'
        split at h'
        · injection h' with h'
          rw [← h']
          exact List.mem_append_left _ (ih o (by omega) e x hx)
        · cases h'
    · rw [h] at h'; injection h' with h'; rw [← h']; exact hx
theorem frV_bad (R : List (List Int)) (j : Nat) (out : List Int) (h : frs R j = some out) (hj : j ≤ R.length) (x : Int) (hx : x ∈ out) (hb : inR x = false) : frV R = ([], false) := by
  unfold frV
  cases e : frs R R.length with
  | none => rfl
  | some o =>
    have hm := frs_pre R j out h R.length o hj e x hx
    have ha : o.all inR = false := by rw [List.all_eq_false]; exact ⟨x, hm, by simp [hb]⟩
    show (if o.all inR then _ else _) = _
    rw [ha]; rfl
/-- A number that is too great stands in a run: then the whole fails, whatever comes. -/
theorem frV_num (R : List (List Int)) (j : Nat) (out : List Int) (h : frs R j = some out) (hj : j < R.length) (hl : (R.getD j []).length = 2) (hb : inR (r0 (R.getD j [])) = false) : frV R = ([], false) := by
  cases ho : okR R j out
  · exact frV_no R j out h hj ho
  · refine frV_bad R (j + 1) _ (frs_yes R j out h ho) hj (r0 (R.getD j [])) ?_ hb
    unfold okR at ho
    simp only [Bool.and_eq_true, decide_eq_true_eq] at ho
    refine List.mem_append_right _ ?_
    rw [List.mem_replicate]
    exact ⟨by omega, rfl⟩
theorem frs_len (R : List (List Int)) : ∀ j out, frs R j = some out → out.length ≤ 80
  | 0, out, h => by rw [frs] at h; injection h with h; rw [← h]; simp
  | j + 1, out, h => by
    rw [frs] at h
    cases e : frs R j with
    | none => rw [e] at h; cases h
    | some o =>
      rw [e] at h
      replace h : (if okR R j o then some (o ++ List.replicate (r1 (R.getD j [])).toNat (r0 (R.getD j []))) else none) = some out := h
      split at h
      · rename_i hh
        unfold okR at hh; simp only [Bool.and_eq_true, decide_eq_true_eq] at hh
        injection h with h
        rw [← h, List.length_append, List.length_replicate]
        omega
      · cases h
theorem frV_end (R : List (List Int)) (out : List Int) (h : frs R R.length = some out) : frV R = if out.all inR then (out, true) else ([], false) := by unfold frV; rw [h]
theorem frV_len (R : List (List Int)) : (frV R).1.length ≤ 80 := by
  unfold frV
  cases e : frs R R.length with
  | none => simp
  | some o =>
    show (if o.all inR then (o, true) else ([], false)).1.length ≤ 80
    split
    · exact frs_len R _ o e
    · simp
theorem okR_len {R : List (List Int)} {j : Nat} {out : List Int} (h : (R.getD j []).length ≠ 2) : okR R j out = false := by unfold okR; rw [decide_eq_false h]; rfl
theorem okR_low {R : List (List Int)} {j : Nat} {out : List Int} (h : ¬ 1 ≤ r1 (R.getD j [])) : okR R j out = false := by unfold okR; rw [decide_eq_false h]; simp
theorem okR_high {R : List (List Int)} {j : Nat} {out : List Int} (h : ¬ (out.length : Int) + r1 (R.getD j []) ≤ 80) : okR R j out = false := by unfold okR; rw [decide_eq_false h]; simp
theorem okR_eq {R : List (List Int)} {j : Nat} {out : List Int} (h0 : j ≠ 0) (h : r0 (R.getD j []) = r0 (R.getD (j - 1) [])) : okR R j out = false := by
  unfold okR
  have e1 : decide (r0 (R.getD j []) ≠ r0 (R.getD (j - 1) [])) = false := decide_eq_false (fun hn => hn h)
  rw [decide_eq_false h0, e1]; simp
theorem okR_yes {R : List (List Int)} {j : Nat} {out : List Int} (h1 : (R.getD j []).length = 2) (h2 : 1 ≤ r1 (R.getD j [])) (h3 : (out.length : Int) + r1 (R.getD j []) ≤ 80) (h4 : j = 0 ∨ r0 (R.getD j []) ≠ r0 (R.getD (j - 1) [])) : okR R j out = true := by
  unfold okR
  rw [decide_eq_true h1, decide_eq_true h2, decide_eq_true h3]
  rcases h4 with h | h
  · rw [decide_eq_true h]; rfl
  · rw [decide_eq_true h]; simp
/-- Lists of lists that are read. -/
def RdM (w : World) (a : Option Addr) (R : List (List Int)) : Prop :=
  ∀ i, i < R.length → ∃ b off A C, a = some ⟨b, off, none⟩ ∧ w.cell? ⟨b, off + i, none⟩ = some (.slice A (R.getD i []).length C) ∧ Row w A (R.getD i []) ∧ b < w.heap.size
theorem RdM.below {w w' : World} {a : Option Addr} {R : List (List Int)} (h : RdM w a R) (hb : Below w.heap.size w w') : RdM w' a R := fun i hi => by
  obtain ⟨b, off, A, C, h1, h2, h3, h4⟩ := h i hi
  exact ⟨b, off, A, C, h1, (hb.cell (p := ⟨b, off + i, none⟩) h4).trans h2, h3.below hb, Nat.lt_of_lt_of_le h4 hb.size⟩
theorem Own2.rdM {w : World} {B : Nat} {v : Value} {vs : List Value} {R : List (List Int)} (h : Own2 w B v vs R) : ∃ a c, v = .slice a R.length c ∧ RdM w a R := by
  rcases h.cases with ⟨rfl, rfl⟩ | ⟨g, cap, rfl, _, hg, _, hc, _⟩
  · exact ⟨none, 0, rfl, fun i hi => by simp at hi⟩
  · refine ⟨_, cap, rfl, fun i hi => ?_⟩
    obtain ⟨A, C, e, _, _, hr⟩ := (h.2.2.1 i hi).rd
    exact ⟨g, 0, A, C, rfl, by rw [Nat.zero_add, hc i hi, e], hr, hg⟩
/-- The two numbers of a run. -/
theorem two_cells {w : World} {A : Option Addr} {r : List Int} (h : Row w A r) (hl : r.length = 2) : ∃ b off, A = some ⟨b, off, none⟩ ∧ w.cell? ⟨b, off, none⟩ = some (.int .i64 (r0 r)) ∧ w.cell? ⟨b, off + 1, none⟩ = some (.int .i64 (r1 r)) := by
  obtain ⟨b, off, e, c0, _⟩ := h 0 (by omega)
  obtain ⟨b', off', e', c1, _⟩ := h 1 (by omega)
  rw [e] at e'
  injection e' with e'
  injection e' with e1 e2
  subst e1 e2
  exact ⟨b, off, e, c0, c1⟩
def in80 (x : Int) : Bool := decide (1 ≤ x) && decide (x ≤ 80)
theorem in80_s (x : Int) (w : World) : Calls Try.prog 52 #[.int .i64 x, .int .i64 1, .int .i64 80] w (Bl (in80 x) w) := by
  unfold in80
  by_cases h : 1 ≤ x
  · go_enter Try.func52, Try.ntmps52
    go_wp2
    go_ret
    exact ⟨ret_bool (by simp [h]), rfl⟩
  · go_enter Try.func52, Try.ntmps52
    go_wp2
    go_ret
    exact ⟨ret_bool (by simp; omega), rfl⟩
def inRoom (x room : Int) : Bool := decide (1 ≤ x) && decide (x ≤ room)
theorem room_i (x room : Int) (w : World) : Calls Try.prog 56 #[.int .i64 x, .int .i64 1, .int .i64 room] w (Bl (inRoom x room) w) := by
  unfold inRoom
  by_cases h : 1 ≤ x
  · go_enter Try.func56, Try.ntmps56
    go_wp2
    go_ret
    exact ⟨ret_bool (by simp [h]), rfl⟩
  · go_enter Try.func56, Try.ntmps56
    go_wp2
    go_ret
    exact ⟨ret_bool (by simp; omega), rfl⟩
theorem l01List_own {w : World} {B : Nat} {v : Value} {xs : List Int} (h : Own w B v xs) (hn : xs.length ≤ 80) : Calls Try.prog 53 #[v] w (Bl (xs.all inR) w) := by
  have e : Ls.okL xs = xs.all inR := by unfold Ls.okL; rw [decide_eq_true hn, Bool.true_and]
  rw [← e]
  rcases h.cases with ⟨rfl, rfl⟩ | ⟨g, c, rfl, _, _, _, hc, _⟩
  · exact Ls.spec_zero none 0 w
  · exact Ls.spec_cells g c xs w (by omega) hc
/-- append of one number; what other blocks there are stay. -/
theorem wpList_appH {ops : Array Oper} {rest : List Oper} {o : Oper} {a : Act} {Q : Exit → Act → World → Prop} (wr : World) (hgd : o.guard = none) (s x : Operand)
    (ho : o.op = .call { callee := .builtin .append, args := #[s, x], argTypes := #[23, 23] })
    (B : Nat) (v : Value) (xs : List Int) (u : Int) (hs : a.eval s = v) (hx : a.eval x = .slice (some ⟨wr.heap.size, 0, none⟩) 1 1) (hown : Own wr B v xs)
    (hlen : xs.length + 1 ≤ 1000000000) (hB : B ≤ wr.heap.size)
    (h : ∀ v' w', Own w' B v' (xs ++ [u]) → Below B wr w' → (∀ b, b < wr.heap.size → v.ownBlock ≠ some b → w'.heap[b]? = wr.heap[b]?) → (∀ q, v'.ownBlock = some q → v.ownBlock = some q ∨ wr.heap.size ≤ q) → wr.heap.size ≤ w'.heap.size → wpList Try.prog ops Q rest (a.put o.dst v') w') :
    wpList Try.prog ops Q (o :: rest) a (wr.alloc (.cells #[.int .i64 u] 2)) := by
  obtain ⟨i0, hi, hz0, hz1, hz2⟩ := info_parts infoI
  refine wpList_append_own_at _ hgd s x 23 ho B 2 i0 (.int .i64 0) 1 8 Try.underlying23 hi hz0 hz1 hz2 rfl (by decide) v xs.length (xs.map (Value.int .i64)) hs (World.ownsRow.alloc hown _)
    ⟨wr.heap.size, 0, none⟩ 1 1 [.int .i64 u] hx rfl (cell_one_new _ _ _) ?_ ?_ ?_ ?_ ?_
  · intro u' hu; simp at hu; subst hu; rfl
  · unfold maxLen; omega
  · omega
  · simp; omega
  · intro v' w' hown' hgrow _ hblk
    have hsz : (wr.alloc (.cells #[.int .i64 u] 2)).heap.size = wr.heap.size + 1 := Array.size_push _
    refine h v' w' ?_ ?_ ?_ ?_ ?_
    · show World.ownsRow _ _ _ _ _ (xs ++ [u]).length _
      rw [List.length_append, List.map_append]
      exact hown'
    · exact ((Below.refl B wr).alloc hB _).grown hgrow (by omega) (fun k hk => (Own.block hown k hk).1)
    · exact fun b hb hne => (hgrow.block b (by omega) (fun e => hne e.symm)).trans (Below.heap_alloc wr _ b hb)
    · intro q hq
      rcases hblk with hb | hb
      · exact .inl (hb ▸ hq)
      · rw [hb] at hq; injection hq with hq; right; omega
    · have := hgrow.size; omega
set_option maxHeartbeats 1000000 in
/-- appendRun: the items, and those of the run behind them. -/
theorem append_i (B : Nat) (v : Value) (xs : List Int) (x : Int) (k : Nat) (w : World) (hB : B ≤ w.heap.size) (ho : Own w B v xs) (hl : xs.length + k ≤ 1000000) :
    Calls Try.prog 57 #[v, .agg #[.int .i64 x, .int .i64 (k : Nat)]] w fun e w' => ∃ v', e = .returned v' ∧ Own w' B v' (xs ++ List.replicate k x) ∧ Below B w w' := by
  have hz : (w.alloc (.cells #[.int .i64 x, .int .i64 (k : Nat)] 57)).heap.size = w.heap.size + 1 := Array.size_push _
  have h0 := Lib.hid (ho.below ((Below.refl w.heap.size w).alloc (Nat.le_refl _) (.cells #[.int .i64 x, .int .i64 (k : Nat)] 57)) (Nat.le_refl _))
  have hb0 := Lib.hid ((Below.refl B w).alloc hB (.cells #[.int .i64 x, .int .i64 (k : Nat)] 57))
  have hc0 : Hid ((w.alloc (.cells #[.int .i64 x, .int .i64 (k : Nat)] 57)).cell? ⟨w.heap.size, 0, none⟩ = some (.int .i64 x)) := by show _ = _; simp [go_sem]
  have hbl : ∀ q, v.ownBlock = some q → q ≠ w.heap.size := fun q hq => by have := (ho.block q hq).2; omega
  have hbl := Lib.hid hbl
  clear ho
  go_enter Try.func57, Try.ntmps57
  go_wp2
  generalize w.alloc (.cells #[.int .i64 x, .int .i64 (k : Nat)] 57) = w1 at *
  go_loopw [0, 7] (fun u i wr => ∃ j : Nat, j ≤ k ∧ i = .int .i64 (j : Nat) ∧ Hid (Own wr B u (xs ++ List.replicate j x)) ∧ Hid (Below B w wr) ∧ Hid (wr.cell? ⟨w.heap.size, 0, none⟩ = some (.int .i64 x)) ∧ Hid (∀ q, u.ownBlock = some q → q ≠ w.heap.size) ∧ Hid (w.heap.size + 1 ≤ wr.heap.size)) (fun _ i _ => k - (intOf i).toNat)
  case atStart => exact ⟨0, Nat.zero_le _, rfl, (by simpa using h0), hb0, hc0, hbl, Lib.hid (by omega)⟩
  case round =>
    obtain ⟨j, hj, rfl, hO, hb, hc, hq, hs⟩ := hrel
    by_cases hlt : j < k
    · have c1 := hc.out
      have o5 := hO.out
      have hsz : B ≤ wr.heap.size := by have := hs.out; omega
      have hq1 : (xs ++ List.replicate j x).length + 1 ≤ 1000000000 := by rw [List.length_append, List.length_replicate]; omega
      have HE := Lib.hid (show xs ++ List.replicate (j + 1) x = (xs ++ List.replicate j x) ++ [x] by rw [List.replicate_succ', List.append_assoc])
      generalize xs ++ List.replicate j x = L at *
      go_wp2_with (at_builtin; refine wpList_appH _ rfl _ _ rfl B _ L _ ?_ ?_ o5 hq1 hsz ?_; rfl; rfl)
      intro v' w6 ho6 hb6 hkeep hblk hgs
      have HC6 : Hid (w6.cell? ⟨w.heap.size, 0, none⟩ = some (.int .i64 x)) := (World.cell?_of_block (w := wr) (a := ⟨w.heap.size, 0, none⟩) (hkeep w.heap.size (by have := hs.out; omega) (fun e => hq.out _ e rfl))).trans c1
      have HQ6 : Hid (∀ q, v'.ownBlock = some q → q ≠ w.heap.size) := fun q hq' => by
        rcases hblk q hq' with h | h
        · exact hq.out q h
        · have := hs.out; omega
      have HS6 : Hid (w.heap.size + 1 ≤ w6.heap.size) := Nat.le_trans hs.out hgs
      clear hkeep hblk hgs
      go_wp2
      go_roundw
      case rel => exact ⟨j + 1, by omega, by go_num, (by rw [HE.out]; exact ho6), hb.out.trans hb6, HC6, HQ6, HS6⟩
      case measure => simp [intOf]; omega
    · have e : j = k := by omega
      subst e
      go_wp2
      go_ret
      exact ⟨_, rfl, hO.out, hb.out⟩
end Go.Proofs.Ythfgaoojgdikpaa.Fr
