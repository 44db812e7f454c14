/- Moves of a pebbling: the sets behind one, whether it can be made, and those behind several. No program. -/
import Derived.Test.YtepobkflahjldaaPlainPeb
import Derived.Test.YtepobkflahjldaaCgms
namespace Go.Proofs.Ytepobkflahjldaa.Pb
theorem and_pow : ∀ a : Fin 64, ∀ k : Fin 6, a.val &&& 2 ^ k.val = if a.val.testBit k.val then 2 ^ k.val else 0 := by decide +kernel
theorem or_pow : ∀ a : Fin 64, ∀ k : Fin 6, decide (a.val ||| 2 ^ k.val = a.val) = a.val.testBit k.val := by decide +kernel
theorem adn_pow : ∀ a : Fin 64, ∀ k : Fin 6, decide (adn a.val (2 ^ k.val) = a.val) = !a.val.testBit k.val := by decide +kernel
/-- The sets behind a move of a kind with a node that there is, as the program makes them. -/
def nx (bs : List (List Int)) (f s : Nat) (k : Int) (i : Nat) : Nat × Nat :=
  if k = 0 then (f ||| (s &&& 2 ^ i), s)
  else if k = 1 then (f, s ||| (f &&& 2 ^ i))
  else if k = 2 then (if (src bs bs.length &&& 2 ^ i) = 0 ∧ adn (nd bs i) f = 0 then (f ||| 2 ^ i, s) else (f, s))
  else if k = 3 then (adn f (2 ^ i), s)
  else (f, s)
theorem and_lt (a b : Nat) (h : a < 64) : a &&& b < 64 := Nat.lt_of_le_of_lt Nat.and_le_left h
theorem nx_lt (bs : List (List Int)) (f s : Nat) (k : Int) (i : Nat) (hf : f < 64) (hs : s < 64) (hi : i < 6) : (nx bs f s k i).1 < 64 ∧ (nx bs f s k i).2 < 64 := by
  unfold nx
  split
  · exact ⟨or_lt _ _ hf (and_lt _ _ hs), hs⟩
  split
  · exact ⟨hf, or_lt _ _ hs (and_lt _ _ hf)⟩
  split
  · split
    · exact ⟨or_lt _ _ hf (pow_lt i hi), hs⟩
    · exact ⟨hf, hs⟩
  split
  · exact ⟨adn_lt _ _ hf, hs⟩
  · exact ⟨hf, hs⟩
/-- Whether a move with a node that there is can be made. -/
def okM (bs : List (List Int)) (p : Int) (f s : Nat) (k : Int) (i : Nat) : Bool := decide (nx bs f s k i ≠ (f, s)) && decide ((cnt (nx bs f s k i).1 : Int) ≤ p)
def isN (bs : List (List Int)) (x : Int) : Bool := decide (0 ≤ x) && decide (x < (bs.length : Int))
def okA (bs : List (List Int)) (p : Int) (f s : Nat) (k x : Int) : Bool := isN bs x && okM bs p f s k x.toNat
theorem isN_at {bs : List (List Int)} {x : Int} (h : isN bs x = true) : ∃ i : Nat, x = (i : Int) ∧ i < bs.length := by
  unfold isN at h
  simp only [Bool.and_eq_true, decide_eq_true_eq] at h
  exact ⟨x.toNat, by omega, by omega⟩
theorem okA_no {bs : List (List Int)} {p : Int} {f s : Nat} {k x : Int} (h : isN bs x = false) : okA bs p f s k x = false := by unfold okA; rw [h]; rfl
theorem okA_yes {bs : List (List Int)} {p : Int} {f s : Nat} {k : Int} {i : Nat} (h : i < bs.length) : okA bs p f s k (i : Int) = okM bs p f s k i := by
  unfold okA isN
  rw [decide_eq_true (by omega), decide_eq_true (by omega)]
  rfl
/-! ### What a move of each kind does -/
theorem src_bit (bs : List (List Int)) (t : Nat) : ∀ j, (src bs j).testBit t = (decide (t < j) && decide (nd bs t = 0))
  | 0 => by simp [src]
  | j + 1 => by
    have h := src_bit bs t j
    by_cases e : t = j
    · subst e
      rw [src]
      by_cases hz : nd bs t = 0
      · rw [if_pos hz, Nat.testBit_or, h, Nat.testBit_two_pow]; simp [hz]
      · rw [if_neg hz, h]; simp [hz]
    · have e1 : decide (t < j + 1) = decide (t < j) := decide_eq_decide.2 (by omega)
      rw [src, e1, ← h]
      split
      · rw [Nat.testBit_or, Nat.testBit_two_pow, decide_eq_false (show ¬ j = t from fun h => e h.symm), Bool.or_false]
      · rfl
theorem src_and {bs : List (List Int)} {i : Nat} (hi : i < bs.length) (h6 : bs.length ≤ 6) : (src bs bs.length &&& 2 ^ i) = 0 ↔ bs.getD i [] ≠ [] := by
  have h1 := and_pow ⟨_, src_lt bs bs.length h6⟩ ⟨i, by omega⟩
  have h2 := src_bit bs i bs.length
  rw [decide_eq_true hi, Bool.true_and] at h2
  rw [show (src bs bs.length &&& 2 ^ i) = if (src bs bs.length).testBit i then 2 ^ i else 0 from h1, h2]
  by_cases hz : nd bs i = 0
  · rw [decide_eq_true hz, if_pos rfl]
    have := Nat.two_pow_pos i
    exact ⟨fun h => by omega, fun h => absurd ((nd_zero bs i).1 hz) h⟩
  · rw [decide_eq_false hz, if_neg (by simp)]
    exact ⟨fun _ h => hz ((nd_zero bs i).2 h), fun _ => rfl⟩
theorem needs_iff (xs : List Int) (f : Nat) : adn (putL xs 0) f = 0 ↔ ∀ b ∈ xs, f.testBit b.toNat = true := by
  constructor
  · intro h b hb
    have h1 := adn_bit (putL xs 0) f b.toNat
    rw [h, putL_bit] at h1
    have h2 : (xs.any fun c => decide (c.toNat = b.toNat)) = true := List.any_eq_true.2 ⟨b, hb, by simp⟩
    rw [h2] at h1
    simpa using h1
  · intro h
    apply Nat.eq_of_testBit_eq
    intro t
    rw [adn_bit, putL_bit, Nat.zero_testBit, Bool.false_or]
    cases ha : xs.any fun c => decide (c.toNat = t)
    · rfl
    · obtain ⟨b, hb, he⟩ := List.any_eq_true.1 ha
      have := h b hb
      rw [of_decide_eq_true he] at this
      rw [this]; rfl
theorem pair_ne {a b c d : Nat} (h : a ≠ c) : decide ((a, b) ≠ (c, d)) = true := by simp [h]
theorem pair_ne2 {a b c d : Nat} (h : b ≠ d) : decide ((a, b) ≠ (c, d)) = true := by simp [h]
theorem pair_eq {a b : Nat} : decide ((a, b) ≠ (a, b)) = false := by simp
theorem nx0 {bs : List (List Int)} {f s i : Nat} : nx bs f s 0 i = (f ||| (s &&& 2 ^ i), s) := rfl
theorem nx1 {bs : List (List Int)} {f s i : Nat} : nx bs f s 1 i = (f, s ||| (f &&& 2 ^ i)) := rfl
theorem nx3 {bs : List (List Int)} {f s i : Nat} : nx bs f s 3 i = (adn f (2 ^ i), s) := rfl
theorem load_no {bs : List (List Int)} {p : Int} {f s i : Nat} (hf : f < 64) (hs : s < 64) (hi : i < 6) (h : f.testBit i = true ∨ s.testBit i = false) : okM bs p f s 0 i = false := by
  have e : f ||| (s &&& 2 ^ i) = f := by
    have h1 : (s &&& 2 ^ i) = if s.testBit i then 2 ^ i else 0 := and_pow ⟨s, hs⟩ ⟨i, hi⟩
    have h2 : decide (f ||| 2 ^ i = f) = f.testBit i := or_pow ⟨f, hf⟩ ⟨i, hi⟩
    rw [h1]
    rcases h with h | h
    · split
      · rw [h] at h2; exact of_decide_eq_true h2
      · exact Nat.or_zero f
    · rw [h]; simp
  unfold okM
  rw [nx0, e, pair_eq]; rfl
theorem load_yes {bs : List (List Int)} {p : Int} {f s i : Nat} (hf : f < 64) (hs : s < 64) (hi : i < 6) (h1 : f.testBit i = false) (h2 : s.testBit i = true) : okM bs p f s 0 i = decide ((cnt (f ||| 2 ^ i) : Int) ≤ p) ∧ nx bs f s 0 i = (f ||| 2 ^ i, s) := by
  have h3 : (s &&& 2 ^ i) = if s.testBit i then 2 ^ i else 0 := and_pow ⟨s, hs⟩ ⟨i, hi⟩
  have h4 : decide (f ||| 2 ^ i = f) = f.testBit i := or_pow ⟨f, hf⟩ ⟨i, hi⟩
  rw [h2, if_pos rfl] at h3
  rw [h1] at h4
  unfold okM
  rw [nx0, h3, pair_ne (of_decide_eq_false h4)]
  exact ⟨rfl, rfl⟩
theorem store_no {bs : List (List Int)} {p : Int} {f s i : Nat} (hf : f < 64) (hs : s < 64) (hi : i < 6) (h : f.testBit i = false ∨ s.testBit i = true) : okM bs p f s 1 i = false := by
  have e : s ||| (f &&& 2 ^ i) = s := by
    have h1 : (f &&& 2 ^ i) = if f.testBit i then 2 ^ i else 0 := and_pow ⟨f, hf⟩ ⟨i, hi⟩
    have h2 : decide (s ||| 2 ^ i = s) = s.testBit i := or_pow ⟨s, hs⟩ ⟨i, hi⟩
    rw [h1]
    rcases h with h | h
    · rw [h]; simp
    · split
      · rw [h] at h2; exact of_decide_eq_true h2
      · exact Nat.or_zero s
  unfold okM
  rw [nx1, e, pair_eq]; rfl
theorem store_yes {bs : List (List Int)} {p : Int} {f s i : Nat} (hf : f < 64) (hs : s < 64) (hi : i < 6) (h1 : f.testBit i = true) (h2 : s.testBit i = false) : okM bs p f s 1 i = decide ((cnt f : Int) ≤ p) ∧ nx bs f s 1 i = (f, s ||| 2 ^ i) := by
  have h3 : (f &&& 2 ^ i) = if f.testBit i then 2 ^ i else 0 := and_pow ⟨f, hf⟩ ⟨i, hi⟩
  have h4 : decide (s ||| 2 ^ i = s) = s.testBit i := or_pow ⟨s, hs⟩ ⟨i, hi⟩
  rw [h1, if_pos rfl] at h3
  rw [h2] at h4
  unfold okM
  rw [nx1, h3, pair_ne2 (of_decide_eq_false h4)]
  exact ⟨rfl, rfl⟩
theorem drop_no {bs : List (List Int)} {p : Int} {f s i : Nat} (hf : f < 64) (hi : i < 6) (h : f.testBit i = false) : okM bs p f s 3 i = false := by
  have h4 : decide (adn f (2 ^ i) = f) = !f.testBit i := adn_pow ⟨f, hf⟩ ⟨i, hi⟩
  rw [h] at h4
  unfold okM
  rw [nx3, of_decide_eq_true h4, pair_eq]; rfl
theorem drop_yes {bs : List (List Int)} {p : Int} {f s i : Nat} (hf : f < 64) (hi : i < 6) (h : f.testBit i = true) : okM bs p f s 3 i = decide ((cnt (adn f (2 ^ i)) : Int) ≤ p) := by
  have h4 : decide (adn f (2 ^ i) = f) = !f.testBit i := adn_pow ⟨f, hf⟩ ⟨i, hi⟩
  rw [h] at h4
  unfold okM
  rw [nx3, pair_ne (of_decide_eq_false h4)]; rfl
theorem comp_has {bs : List (List Int)} {p : Int} {f s i : Nat} (hf : f < 64) (hi : i < 6) (h : f.testBit i = true) : okM bs p f s 2 i = false := by
  have h4 : decide (f ||| 2 ^ i = f) = f.testBit i := or_pow ⟨f, hf⟩ ⟨i, hi⟩
  rw [h] at h4
  have e : nx bs f s 2 i = (f, s) := by
    unfold nx
    rw [if_neg (by omega), if_neg (by omega), if_pos rfl]
    split
    · rw [of_decide_eq_true h4]
    · rfl
  unfold okM
  rw [e, pair_eq]; rfl
theorem comp_no {bs : List (List Int)} {p : Int} {f s i : Nat} (h : ¬ ((src bs bs.length &&& 2 ^ i) = 0 ∧ adn (nd bs i) f = 0)) : okM bs p f s 2 i = false := by
  have e : nx bs f s 2 i = (f, s) := by
    unfold nx
    rw [if_neg (by omega), if_neg (by omega), if_pos rfl, if_neg h]
  unfold okM
  rw [e, pair_eq]; rfl
theorem comp_yes {bs : List (List Int)} {p : Int} {f s i : Nat} (hf : f < 64) (hi : i < 6) (h1 : f.testBit i = false) (h : (src bs bs.length &&& 2 ^ i) = 0 ∧ adn (nd bs i) f = 0) : okM bs p f s 2 i = decide ((cnt (f ||| 2 ^ i) : Int) ≤ p) ∧ nx bs f s 2 i = (f ||| 2 ^ i, s) := by
  have h4 : decide (f ||| 2 ^ i = f) = f.testBit i := or_pow ⟨f, hf⟩ ⟨i, hi⟩
  rw [h1] at h4
  have e : nx bs f s 2 i = (f ||| 2 ^ i, s) := by
    unfold nx
    rw [if_neg (by omega), if_neg (by omega), if_pos rfl, if_pos h]
  unfold okM
  rw [e, pair_ne (of_decide_eq_false h4)]
  exact ⟨rfl, rfl⟩
theorem other_no {bs : List (List Int)} {p : Int} {f s i : Nat} {k : Int} (h0 : k ≠ 0) (h1 : k ≠ 1) (h2 : k ≠ 2) (h3 : k ≠ 3) : okM bs p f s k i = false := by
  have e : nx bs f s k i = (f, s) := by
    unfold nx
    rw [if_neg h0, if_neg h1, if_neg h2, if_neg h3]
  unfold okM
  rw [e, pair_eq]; rfl
end Go.Proofs.Ytepobkflahjldaa.Pb
