/- When a space is valid: lists alone, no program. Both ways of looking at a root agree. -/
import Derived.Lib.Hide
namespace Go.Proofs.YtifjkjcgpghmhaaDoor.Sp
abbrev TE := Int × Bool × Bool × Bool
abbrev TC := Int × Int × Bool
abbrev dE : TE := (0, false, false, false)
abbrev dC : TC := (0, 0, false)
def emp : TE := (-1, false, false, false)
def isF (x : Int) : Bool := decide (0 ≤ x) && decide (x ≤ 15)
def isPg (x : Int) : Bool := decide (0 ≤ x) && decide (x ≤ 63)
def kOk (root : List Int) (tss : List (List TE)) (k : Nat) : Bool := decide (root.count (k : Int) = 1) && decide ((tss.getD k []).length = 8)
def inR (n : Nat) (x : Int) : Bool := decide (-1 ≤ x) && decide (x ≤ (n : Int) - 1)
def okTab (root : List Int) (tss : List (List TE)) : Bool := decide (root.length = 8) && decide (tss.length ≤ 8) && ((List.range tss.length).all (kOk root tss) && root.all (inR tss.length))
/-- The number of the root at a place is none, or that of a table that did not occur before. -/
def gd (root : List Int) (n : Nat) (j : Nat) : Bool := decide (root.getD j 0 = -1) || (decide (0 ≤ root.getD j 0) && decide (root.getD j 0 ≤ (n : Int) - 1) && !decide (root.getD j 0 ∈ root.take j))
def cnt (root : List Int) : Nat := (root.filter (fun x => decide (x ≠ -1))).length
def okRoot (root : List Int) (n : Nat) : Bool := decide (root.length = 8) && decide (n ≤ 8) && ((List.range root.length).all (gd root n) && decide (cnt root = n))
def len8 (tss : List (List TE)) : Bool := tss.all fun t => decide (t.length = 8)
theorem take_succ_getD (l : List Int) (j : Nat) (h : j < l.length) : l.take (j + 1) = l.take j ++ [l.getD j 0] := by
  rw [List.take_succ_eq_append_getElem h, List.getD_eq_getElem?_getD, List.getElem?_eq_getElem h]; rfl
theorem cnt_succ (l : List Int) (j : Nat) (h : j < l.length) : cnt (l.take (j + 1)) = cnt (l.take j) + if l.getD j 0 = -1 then 0 else 1 := by
  rw [take_succ_getD l j h]
  unfold cnt
  rw [List.filter_append, List.length_append]
  generalize l.getD j 0 = u
  by_cases e : u = -1
  · rw [if_pos e]; simp [e]
  · rw [if_neg e]; simp [e]
theorem count_succ (l : List Int) (j : Nat) (k : Int) (h : j < l.length) : (l.take (j + 1)).count k = (l.take j).count k + if l.getD j 0 = k then 1 else 0 := by
  rw [take_succ_getD l j h, List.count_append, List.count_singleton]
  generalize l.getD j 0 = u
  by_cases e : u = k
  · rw [if_pos e, if_pos (by simp [e])]
  · rw [if_neg e, if_neg (by simp [e])]
/-- The sum of the counts of the tables. -/
def sumC (l : List Int) : Nat → Nat
  | 0 => 0
  | n + 1 => sumC l n + l.count (n : Int)
theorem sumC_nil (n : Nat) : sumC [] n = 0 := by
  induction n with
  | zero => rfl
  | succ n ih => simp [sumC, ih]
theorem sumC_cons (x : Int) (l : List Int) (n : Nat) : sumC (x :: l) n = sumC l n + if 0 ≤ x ∧ x < (n : Int) then 1 else 0 := by
  induction n with
  | zero => simp [sumC]; try omega
  | succ n ih =>
    rw [sumC, sumC, ih, List.count_cons]
    by_cases e : x = (n : Int)
    · subst e
      rw [if_neg (by omega), if_pos (by simp), if_pos (by omega)]
      omega
    · rw [if_neg (show ¬ (x == (n : Int)) = true by simp [e])]
      by_cases h : 0 ≤ x ∧ x < (n : Int)
      · rw [if_pos h, if_pos (by omega)]; omega
      · rw [if_neg h, if_neg (by omega)]; omega
theorem cnt_sum (l : List Int) (n : Nat) (h : ∀ x ∈ l, inR n x = true) : cnt l = sumC l n := by
  induction l with
  | nil => rw [sumC_nil]; rfl
  | cons x l ih =>
    have hx := h x (by simp)
    have ih' := ih fun y hy => h y (by simp [hy])
    rw [sumC_cons, ← ih']
    simp [inR] at hx
    unfold cnt
    by_cases e : x = -1
    · subst e
      rw [if_neg (by omega)]; simp
    · rw [if_pos (by omega)]; simp [e]
theorem sumC_ones (l : List Int) : ∀ (n : Nat), (∀ k, k < n → l.count (k : Int) ≤ 1) → sumC l n ≤ n ∧ (sumC l n = n → ∀ k, k < n → l.count (k : Int) = 1)
  | 0, _ => ⟨Nat.le_refl _, fun _ k h => by omega⟩
  | n + 1, h => by
    obtain ⟨i1, i2⟩ := sumC_ones l n fun k hk => h k (by omega)
    have hn := h n (by omega)
    refine ⟨by simp only [sumC]; omega, fun e k hk => ?_⟩
    simp only [sumC] at e
    by_cases hkn : k = n
    · subst hkn; omega
    · exact i2 (by omega) k (by omega)
theorem sumC_all (l : List Int) : ∀ (n : Nat), (∀ k, k < n → l.count (k : Int) = 1) → sumC l n = n
  | 0, _ => rfl
  | n + 1, h => by rw [sumC, sumC_all l n fun k hk => h k (by omega), h n (by omega)]
theorem gd_counts (root : List Int) (n : Nat) (h : ∀ j, j < root.length → gd root n j = true) (k : Nat) : ∀ j, j ≤ root.length → (root.take j).count (k : Int) ≤ 1
  | 0, _ => by simp
  | j + 1, hj => by
    have ih := gd_counts root n h k j (by omega)
    rw [count_succ root j k (by omega)]
    by_cases e : root.getD j 0 = (k : Int)
    · rw [if_pos e]
      have hg := h j (by omega)
      unfold gd at hg
      rw [e] at hg
      have hne : ¬ ((k : Int) = -1) := by omega
      simp [hne] at hg
      have : (root.take j).count (k : Int) = 0 := List.count_eq_zero.2 hg.2
      omega
    · rw [if_neg e]; omega
theorem mem_getD (l : List Int) (j : Nat) (h : j < l.length) : l.getD j 0 ∈ l := by
  rw [List.getD_eq_getElem?_getD, List.getElem?_eq_getElem h]; exact List.getElem_mem h
theorem gd_inR (root : List Int) (n : Nat) (h : ∀ j, j < root.length → gd root n j = true) : ∀ x ∈ root, inR n x = true := fun x hx => by
  obtain ⟨j, hj, e⟩ := List.mem_iff_getElem.1 hx
  have hg := h j hj
  have e2 : root.getD j 0 = x := by rw [List.getD_eq_getElem?_getD, List.getElem?_eq_getElem hj]; exact e
  unfold gd at hg
  rw [e2] at hg
  simp at hg
  simp [inR]
  omega
theorem inR_gd (root : List Int) (n : Nat) (h : ∀ x ∈ root, inR n x = true) (hc : ∀ k, k < n → root.count (k : Int) = 1) (j : Nat) (hj : j < root.length) : gd root n j = true := by
  have hx := h _ (mem_getD root j hj)
  have h4' := fun k => count_succ root j k hj
  unfold gd
  generalize root.getD j 0 = u at *
  simp [inR] at hx
  by_cases e : u = -1
  · rw [decide_eq_true e]; rfl
  · have h0 : 0 ≤ u := by omega
    have h1 : u ≤ (n : Int) - 1 := by omega
    have hn : u ∉ root.take j := fun hm => by
      obtain ⟨k, hk⟩ : ∃ k : Nat, u = (k : Int) := ⟨u.toNat, by omega⟩
      have h2 := hc k (by omega)
      have h3 : 1 ≤ (root.take j).count (k : Int) := List.count_pos_iff.2 (by rw [← hk]; exact hm)
      have h4 := h4' k
      rw [if_pos hk] at h4
      have h5 : (root.take (j + 1)).count (k : Int) ≤ root.count (k : Int) := (List.take_sublist _ _).count_le _
      omega
    rw [decide_eq_true h0, decide_eq_true h1, decide_eq_false hn]; simp
theorem okTab_eq (root : List Int) (tss : List (List TE)) : okTab root tss = (okRoot root tss.length && len8 tss) := by
  rw [Bool.eq_iff_iff]
  unfold okTab okRoot len8
  simp only [Bool.and_eq_true, decide_eq_true_eq, List.all_eq_true, List.mem_range]
  have h8 : (∀ k, k < tss.length → (tss.getD k []).length = 8) ↔ ∀ t ∈ tss, t.length = 8 := by
    constructor
    · intro h t ht
      obtain ⟨k, hk, e⟩ := List.mem_iff_getElem.1 ht
      have := h k hk
      rw [List.getD_eq_getElem?_getD, List.getElem?_eq_getElem hk] at this
      rw [← e]; exact this
    · intro h k hk
      rw [List.getD_eq_getElem?_getD, List.getElem?_eq_getElem hk]
      exact h _ (List.getElem_mem hk)
  constructor
  · rintro ⟨⟨h1, h2⟩, h3, h4⟩
    have hc : ∀ k, k < tss.length → root.count (k : Int) = 1 := fun k hk => by have := h3 k hk; simp [kOk] at this; exact this.1
    refine ⟨⟨⟨h1, h2⟩, fun j hj => inR_gd root _ h4 hc j hj, ?_⟩, h8.1 fun k hk => by have := h3 k hk; simp [kOk] at this; exact this.2⟩
    rw [cnt_sum root _ h4, sumC_all root _ hc]
  · rintro ⟨⟨⟨h1, h2⟩, h3, h4⟩, h5⟩
    have hr := gd_inR root _ h3
    have hle : ∀ k, k < tss.length → root.count (k : Int) ≤ 1 := fun k _ => by have := gd_counts root _ h3 k root.length (Nat.le_refl _); rwa [List.take_length] at this
    have hs := (sumC_ones root _ hle).2 (by rw [← cnt_sum root _ hr]; exact h4)
    refine ⟨⟨h1, h2⟩, fun k hk => ?_, hr⟩
    have := h8.2 h5 k hk
    simp only [kOk, Bool.and_eq_true, decide_eq_true_eq]
    exact ⟨hs k hk, this⟩
/-! Frames that occur once. -/
def eOk (seen : List Int) (e : TE) : Option (List Int) := if e = emp then some seen else if isF e.1 && !decide (e.1 ∈ seen) && (e.2.2.1 || !e.2.2.2) then some (seen ++ [e.1]) else none
def rowF (s : Option (List Int)) (row : List TE) : Option (List Int) := row.foldl (fun s e => s.bind (eOk · e)) s
def tabF (s : Option (List Int)) (tss : List (List TE)) : Option (List Int) := tss.foldl rowF s
def okEnts (tss : List (List TE)) : Bool := (tabF (some []) tss).isSome
theorem rowF_none (row : List TE) : rowF none row = none := by
  induction row with
  | nil => rfl
  | cons e r ih => exact ih
theorem tabF_none (tss : List (List TE)) : tabF none tss = none := by
  induction tss with
  | nil => rfl
  | cons t r ih => unfold tabF; rw [List.foldl_cons, rowF_none]; exact ih
theorem rowF_succ (s : Option (List Int)) (row : List TE) (j : Nat) (h : j < row.length) : rowF s (row.take (j + 1)) = (rowF s (row.take j)).bind (eOk · (row.getD j dE)) := by
  rw [List.take_succ_eq_append_getElem h, List.getD_eq_getElem?_getD, List.getElem?_eq_getElem h]
  unfold rowF
  rw [List.foldl_append]
  rfl
theorem tabF_succ (s : Option (List Int)) (tss : List (List TE)) (k : Nat) (h : k < tss.length) : tabF s (tss.take (k + 1)) = rowF (tabF s (tss.take k)) (tss.getD k []) := by
  rw [List.take_succ_eq_append_getElem h, List.getD_eq_getElem?_getD, List.getElem?_eq_getElem h]
  unfold tabF
  rw [List.foldl_append]
  rfl
theorem rowF_split (s : Option (List Int)) (row : List TE) (j : Nat) : rowF s row = rowF (rowF s (row.take j)) (row.drop j) := by
  unfold rowF; rw [← List.foldl_append, List.take_append_drop]
theorem tabF_split (s : Option (List Int)) (tss : List (List TE)) (k : Nat) : tabF s tss = tabF (tabF s (tss.take k)) (tss.drop k) := by
  unfold tabF; rw [← List.foldl_append, List.take_append_drop]
theorem okEnts_no (tss : List (List TE)) (k j : Nat) (hk : k < tss.length) (hj : j < (tss.getD k []).length) (s0 seen : List Int) (h0 : tabF (some []) (tss.take k) = some s0)
    (h1 : rowF (some s0) ((tss.getD k []).take j) = some seen) (h2 : eOk seen ((tss.getD k []).getD j dE) = none) : okEnts tss = false := by
  have e1 : rowF (some s0) ((tss.getD k []).take (j + 1)) = none := by rw [rowF_succ _ _ _ hj, h1]; exact h2
  have e2 : rowF (some s0) (tss.getD k []) = none := by rw [rowF_split _ _ (j + 1), e1, rowF_none]
  have e3 : tabF (some []) tss = none := by rw [tabF_split _ _ (k + 1), tabF_succ _ _ _ hk, h0, e2, tabF_none]
  unfold okEnts; rw [e3]; rfl
theorem okEnts_yes (tss : List (List TE)) (seen : List Int) (h : tabF (some []) (tss.take tss.length) = some seen) : okEnts tss = true := by
  rw [List.take_length] at h
  unfold okEnts; rw [h]; rfl
theorem eOk_emp (seen : List Int) : eOk seen emp = some seen := by unfold eOk; rw [if_pos rfl]
theorem eOk_yes (seen : List Int) (f : Int) (wr us di : Bool) (he : ¬ (f, wr, us, di) = emp) (h0 : isF f = true) (h1 : f ∉ seen) (h2 : (us || !di) = true) : eOk seen (f, wr, us, di) = some (seen ++ [f]) := by
  unfold eOk; rw [if_neg he, h0, decide_eq_false h1, h2]; rfl
theorem eOk_no (seen : List Int) (f : Int) (wr us di : Bool) (he : ¬ (f, wr, us, di) = emp) (h : isF f = false ∨ f ∈ seen ∨ (us || !di) = false) : eOk seen (f, wr, us, di) = none := by
  unfold eOk
  rw [if_neg he, if_neg]
  rcases h with h | h | h
  · show ¬ (isF f && _ && _) = true
    rw [h]; simp
  · show ¬ (isF f && !decide (f ∈ seen) && _) = true
    rw [decide_eq_true h]; simp
  · show ¬ (_ && _ && (us || !di)) = true
    rw [h]; simp
/-! Buffers. -/
def bOk (buf : List TC) (i : Nat) : Bool := isPg (buf.getD i dC).1 && isF (buf.getD i dC).2.1 && !decide ((buf.getD i dC).1 ∈ (buf.take i).map (·.1))
def okBuf (buf : List TC) : Bool := decide (buf.length ≤ 4) && (List.range buf.length).all (bOk buf)
def okSpace (root : List Int) (tss : List (List TE)) (buf : List TC) : Bool := okTab root tss && okEnts tss && okBuf buf
theorem range_all_no (n j : Nat) (p : Nat → Bool) (h : j < n) (hp : p j = false) : (List.range n).all p = false := by
  rw [List.all_eq_false]; exact ⟨j, List.mem_range.2 h, by rw [hp]; simp⟩
theorem range_all_succ (j : Nat) (p : Nat → Bool) : (List.range (j + 1)).all p = ((List.range j).all p && p j) := by
  rw [List.range_succ, List.all_append]; simp
/-- Where a page is in a buffer. -/
def pos (p : Int) : List TC → Nat → Int
  | [], _ => -1
  | c :: r, i => if c.1 = p then (i : Int) else pos p r (i + 1)
theorem pos_no (p : Int) : ∀ (l : List TC) (i : Nat), p ∉ l.map (·.1) → pos p l i = -1
  | [], _, _ => rfl
  | c :: r, i, h => by
    simp at h
    rw [pos, if_neg (fun e => h.1 e.symm)]
    exact pos_no p r (i + 1) (by simpa using h.2)
theorem pos_yes (p : Int) : ∀ (l : List TC) (i : Nat), p ∈ l.map (·.1) → (i : Int) ≤ pos p l i ∧ pos p l i < (i : Int) + l.length
  | [], _, h => by simp at h
  | c :: r, i, h => by
    rw [pos]
    by_cases e : c.1 = p
    · rw [if_pos e]; simp; omega
    · rw [if_neg e]
      have := pos_yes p r (i + 1) (by simp at h ⊢; rcases h with h | h; exact absurd h.symm e; exact h)
      simp; omega
theorem pos_at (p : Int) : ∀ (l : List TC) (i j : Nat), j < l.length → (∀ t, t < j → (l.getD t dC).1 ≠ p) → (l.getD j dC).1 = p → pos p l i = (i : Int) + j
  | [], _, j, h, _, _ => by simp at h
  | c :: r, i, 0, _, _, h => by
    have h : c.1 = p := h
    rw [pos, if_pos h]; simp
  | c :: r, i, j + 1, hj, hn, h => by
    have h0 : c.1 ≠ p := hn 0 (by omega)
    rw [pos, if_neg h0, pos_at p r (i + 1) j (by simpa using hj) (fun t ht => hn (t + 1) (by omega)) h]
    omega
theorem pos_end (p : Int) (l : List TC) (i : Nat) (hn : ∀ t, t < l.length → (l.getD t dC).1 ≠ p) : pos p l i = -1 := by
  refine pos_no p l i fun hm => ?_
  obtain ⟨c, hc, e⟩ := List.mem_map.1 hm
  obtain ⟨t, ht, e2⟩ := List.mem_iff_getElem.1 hc
  exact hn t ht (by rw [List.getD_eq_getElem?_getD, List.getElem?_eq_getElem ht]; show (l[t]).1 = p; rw [e2]; exact e)
theorem pos_ge (p : Int) (l : List TC) : decide (0 ≤ pos p l 0) = decide (p ∈ l.map (·.1)) := by
  by_cases h : p ∈ l.map (·.1)
  · rw [decide_eq_true h, decide_eq_true (by have := pos_yes p l 0 h; omega)]
  · rw [decide_eq_false h, pos_no p l 0 h]; rfl
end Go.Proofs.YtifjkjcgpghmhaaDoor.Sp
