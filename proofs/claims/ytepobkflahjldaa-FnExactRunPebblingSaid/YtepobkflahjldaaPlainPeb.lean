/- Graphs of a computation: when one is valid, the sets of its nodes as bits, sources and outputs. No program. -/
import Derived.Test.YtepobkflahjldaaCset3
namespace Go.Proofs.Ytepobkflahjldaa.Pb
/-- An element of what a node needs. -/
def okRow (i : Nat) (xs : List Int) : Bool := Tr.riseH ((i : Int) - 1) xs xs.length
def okTo (bs : List (List Int)) (j : Nat) : Bool := (List.range j).all fun i => okRow i (bs.getD i [])
def okG (bs : List (List Int)) : Bool := decide (1 ≤ bs.length) && decide (bs.length ≤ 6) && okTo bs bs.length
theorem okTo_succ (bs : List (List Int)) (j : Nat) : okTo bs (j + 1) = (okTo bs j && okRow j (bs.getD j [])) := by simp [okTo, List.range_succ]
theorem okTo_no (bs : List (List Int)) (j n : Nat) (hj : j < n) (h : okRow j (bs.getD j []) = false) : okTo bs n = false := by
  unfold okTo
  rw [List.all_eq_false]
  exact ⟨j, by simpa using hj, by simpa using h⟩
theorem okG_low {bs : List (List Int)} (h : ¬ 1 ≤ bs.length) : okG bs = false := by unfold okG; rw [decide_eq_false h]; rfl
theorem okG_high {bs : List (List Int)} (h : ¬ bs.length ≤ 6) : okG bs = false := by unfold okG; rw [decide_eq_false h]; simp
theorem okG_no {bs : List (List Int)} (j : Nat) (hj : j < bs.length) (h : okRow j (bs.getD j []) = false) : okG bs = false := by unfold okG; rw [okTo_no bs j _ hj h]; simp
theorem okG_yes {bs : List (List Int)} (h1 : 1 ≤ bs.length) (h2 : bs.length ≤ 6) (h3 : okTo bs bs.length = true) : okG bs = true := by unfold okG; rw [decide_eq_true h1, decide_eq_true h2, h3]; rfl
theorem okG_len {bs : List (List Int)} (h : okG bs = true) : 1 ≤ bs.length ∧ bs.length ≤ 6 := by
  unfold okG at h
  simp only [Bool.and_eq_true, decide_eq_true_eq] at h
  exact h.1
theorem okG_row {bs : List (List Int)} (h : okG bs = true) (i : Nat) (hi : i < bs.length) : okRow i (bs.getD i []) = true := by
  cases e : okRow i (bs.getD i [])
  · rw [okG_no i hi e] at h; cases h
  · rfl
theorem okTo_row {bs : List (List Int)} {j : Nat} (h : okTo bs j = true) (i : Nat) (hi : i < j) : okRow i (bs.getD i []) = true := by
  cases e : okRow i (bs.getD i [])
  · rw [okTo_no bs i j hi e] at h; cases h
  · rfl
theorem okRow_at {i : Nat} {xs : List Int} (h : okRow i xs = true) (k : Nat) (hk : k < xs.length) : 0 ≤ xs.getD k 0 ∧ xs.getD k 0 < (i : Int) := by
  have := Tr.riseH_at h k hk
  omega
theorem okRow_mem {i : Nat} {xs : List Int} (h : okRow i xs = true) (b : Int) (hb : b ∈ xs) : 0 ≤ b ∧ b < (i : Int) := by
  obtain ⟨k, hk, rfl⟩ := List.getElem_of_mem hb
  have := okRow_at h k hk
  rwa [List.getD_eq_getElem?_getD, List.getElem?_eq_getElem hk] at this
theorem riseH_lt {H : Int} {s : List Int} {n : Nat} (h : Tr.riseH H s n = true) (j : Nat) (hj : j + 1 < n) : s.getD j 0 < s.getD (j + 1) 0 := by
  unfold Tr.riseH at h
  have := List.all_eq_true.1 h (j + 1) (by simpa using hj)
  simp only [Bool.and_eq_true, Bool.or_eq_true, decide_eq_true_eq] at this
  rcases this.2 with h | h
  · omega
  · simpa using h
/-- The k-th element of a row is at least k. -/
theorem okRow_ge {i : Nat} {xs : List Int} (h : okRow i xs = true) : ∀ k, k < xs.length → (k : Int) ≤ xs.getD k 0
  | 0, hk => (okRow_at h 0 hk).1
  | k + 1, hk => by
    have h1 := okRow_ge h k (by omega)
    have h2 := riseH_lt h k hk
    omega
theorem okRow_len {i : Nat} {xs : List Int} (h : okRow i xs = true) : xs.length ≤ i := by
  rcases Nat.eq_zero_or_pos xs.length with h0 | h0
  · omega
  · have h1 := okRow_ge h (xs.length - 1) (by omega)
    have h2 := (okRow_at h (xs.length - 1) (by omega)).2
    omega
/-! ### Sets of nodes as bits -/
def adn (a b : Nat) : Nat := a ^^^ (a &&& b)
theorem adn_bit (a b t : Nat) : (adn a b).testBit t = (a.testBit t && !b.testBit t) := by
  unfold adn
  rw [Nat.testBit_xor, Nat.testBit_and]
  cases a.testBit t <;> cases b.testBit t <;> rfl
theorem adn_lt (a b : Nat) (h : a < 64) : adn a b < 64 := Nat.xor_lt_two_pow (n := 6) h (Nat.lt_of_le_of_lt Nat.and_le_left h)
theorem or_lt (a b : Nat) (h : a < 64) (h2 : b < 64) : a ||| b < 64 := Nat.or_lt_two_pow (n := 6) h h2
theorem pow_lt (k : Nat) (h : k < 6) : 2 ^ k < 64 := by have h2 : 2 ^ k < 2 ^ 6 := Nat.pow_lt_pow_right (by omega) h; simpa using h2
/-- Bits of nodes are put to a set. -/
def putL : List Int → Nat → Nat
  | [], m => m
  | b :: l, m => putL l (m ||| 2 ^ b.toNat)
theorem putL_bit : ∀ (xs : List Int) (m t : Nat), (putL xs m).testBit t = (m.testBit t || xs.any fun b => decide (b.toNat = t))
  | [], m, t => by simp [putL]
  | b :: l, m, t => by
    rw [putL, putL_bit l, Nat.testBit_or, Nat.testBit_two_pow, List.any_cons, Bool.or_assoc]
theorem putL_snoc : ∀ (xs : List Int) (b : Int) (m : Nat), putL (xs ++ [b]) m = putL xs m ||| 2 ^ b.toNat
  | [], _, _ => rfl
  | c :: l, b, m => by rw [List.cons_append, putL, putL_snoc l b, putL]
theorem putL_take (xs : List Int) (m j : Nat) (h : j < xs.length) : putL (xs.take (j + 1)) m = putL (xs.take j) m ||| 2 ^ (xs.getD j 0).toNat := by
  rw [List.take_succ_eq_append_getElem h, putL_snoc, List.getD_eq_getElem?_getD, List.getElem?_eq_getElem h]; rfl
theorem putL_lt : ∀ (xs : List Int) (m : Nat), m < 64 → (∀ b ∈ xs, b.toNat < 6) → putL xs m < 64
  | [], _, h, _ => h
  | b :: l, m, h, hx => putL_lt l _ (or_lt _ _ h (pow_lt _ (hx b (by simp)))) fun c hc => hx c (by simp [hc])
/-- What a node needs. -/
def nd (bs : List (List Int)) (i : Nat) : Nat := putL (bs.getD i []) 0
theorem nd_bit (bs : List (List Int)) (i t : Nat) : (nd bs i).testBit t = (bs.getD i []).any fun b => decide (b.toNat = t) := by
  unfold nd; rw [putL_bit]; simp
theorem nd_zero (bs : List (List Int)) (i : Nat) : nd bs i = 0 ↔ bs.getD i [] = [] := by
  constructor
  · intro h
    cases e : bs.getD i [] with
    | nil => rfl
    | cons b l =>
      have h1 := nd_bit bs i b.toNat
      rw [h, e] at h1
      simp at h1
  · intro h
    unfold nd; rw [h]; rfl
theorem row_six {i : Nat} {xs : List Int} (h : okRow i xs = true) (hi : i ≤ 6) : ∀ b ∈ xs, b.toNat < 6 := fun b hb => by have := okRow_mem h b hb; omega
theorem nd_lt {bs : List (List Int)} {i : Nat} (h : okRow i (bs.getD i []) = true) (hi : i ≤ 6) : nd bs i < 64 := putL_lt _ _ (by omega) (row_six h hi)
/-- The sources among the first j nodes. -/
def src (bs : List (List Int)) : Nat → Nat
  | 0 => 0
  | j + 1 => if nd bs j = 0 then src bs j ||| 2 ^ j else src bs j
theorem src_lt (bs : List (List Int)) : ∀ j, j ≤ 6 → src bs j < 64
  | 0, _ => by show 0 < 64; omega
  | j + 1, h => by
    have h1 := src_lt bs j (by omega)
    unfold src
    split
    · exact or_lt _ _ h1 (pow_lt j (by omega))
    · exact h1
/-- The outputs among the first j nodes, as the program finds them. -/
def out (bs : List (List Int)) : Nat → Nat
  | 0 => 0
  | j + 1 => adn (out bs j) (nd bs j) ||| 2 ^ j
theorem out_lt (bs : List (List Int)) : ∀ j, j ≤ 6 → out bs j < 64
  | 0, _ => by show 0 < 64; omega
  | j + 1, h => or_lt _ _ (adn_lt _ _ (out_lt bs j (by omega))) (pow_lt j (by omega))
theorem out_bit (bs : List (List Int)) (t : Nat) : ∀ j, (∀ i, i < j → okRow i (bs.getD i []) = true) → (out bs j).testBit t = (decide (t < j) && (List.range j).all fun i => !(nd bs i).testBit t)
  | 0, _ => by simp [out]
  | j + 1, h => by
    have h1 := out_bit bs t j fun i hi => h i (by omega)
    have hj : (nd bs j).testBit t = true → t < j := fun hx => by
      rw [nd_bit, List.any_eq_true] at hx
      obtain ⟨b, hb, he⟩ := hx
      have := okRow_mem (h j (by omega)) b hb
      simp at he
      omega
    have hall : t = j → ((List.range j).all fun i => !(nd bs i).testBit t) = true := fun e => by
      rw [List.all_eq_true]
      intro i hi
      have hi' : i < j := by simpa using hi
      cases hx : (nd bs i).testBit t
      · rfl
      · rw [nd_bit, List.any_eq_true] at hx
        obtain ⟨b, hb, he⟩ := hx
        have := okRow_mem (h i (by omega)) b hb
        simp at he
        omega
    unfold out
    rw [Nat.testBit_or, adn_bit, h1, Nat.testBit_two_pow, List.range_succ, List.all_append]
    simp only [List.all_cons, List.all_nil, Bool.and_true]
    by_cases e : t = j
    · rw [hall e]
      have hn : (nd bs j).testBit t = false := by
        cases hx : (nd bs j).testBit t
        · rfl
        · have := hj hx; omega
      rw [hn]
      subst e
      simp
    · rw [decide_eq_false (show ¬ j = t from fun h => e h.symm), Bool.or_false]
      by_cases hlt : t < j
      · rw [decide_eq_true hlt, decide_eq_true (show t < j + 1 by omega)]
        cases (nd bs j).testBit t <;> cases (List.range j).all fun i => !(nd bs i).testBit t <;> rfl
      · rw [decide_eq_false hlt, decide_eq_false (show ¬ t < j + 1 by omega)]; rfl
/-- Bits of nodes are taken out of a set. -/
def offL : List Int → Nat → Nat
  | [], m => m
  | b :: l, m => offL l (adn m (2 ^ b.toNat))
theorem offL_bit : ∀ (xs : List Int) (m t : Nat), (offL xs m).testBit t = (m.testBit t && !xs.any fun b => decide (b.toNat = t))
  | [], m, t => by simp [offL]
  | b :: l, m, t => by
    rw [offL, offL_bit l, adn_bit, Nat.testBit_two_pow, List.any_cons]
    cases m.testBit t <;> cases decide (b.toNat = t) <;> simp
theorem offL_snoc : ∀ (xs : List Int) (b : Int) (m : Nat), offL (xs ++ [b]) m = adn (offL xs m) (2 ^ b.toNat)
  | [], _, _ => rfl
  | c :: l, b, m => by rw [List.cons_append, offL, offL_snoc l b, offL]
theorem offL_take (xs : List Int) (m j : Nat) (h : j < xs.length) : offL (xs.take (j + 1)) m = adn (offL (xs.take j) m) (2 ^ (xs.getD j 0).toNat) := by
  rw [List.take_succ_eq_append_getElem h, offL_snoc, List.getD_eq_getElem?_getD, List.getElem?_eq_getElem h]; rfl
theorem offL_lt : ∀ (xs : List Int) (m : Nat), m < 64 → offL xs m < 64
  | [], _, h => h
  | b :: l, m, h => offL_lt l _ (adn_lt _ _ h)
/-- The outputs as the model finds them. -/
def outS (bs : List (List Int)) : Nat → Nat
  | 0 => 2 ^ bs.length - 1
  | j + 1 => offL (bs.getD j []) (outS bs j)
theorem outS_lt (bs : List (List Int)) (h : bs.length ≤ 6) : ∀ j, outS bs j < 64
  | 0 => by
    have : 2 ^ bs.length ≤ 2 ^ 6 := Nat.pow_le_pow_right (by omega) h
    have := Nat.two_pow_pos bs.length
    unfold outS; omega
  | j + 1 => offL_lt _ _ (outS_lt bs h j)
theorem outS_bit (bs : List (List Int)) (t : Nat) : ∀ j, (outS bs j).testBit t = (decide (t < bs.length) && (List.range j).all fun i => !(nd bs i).testBit t)
  | 0 => by unfold outS; rw [Nat.testBit_two_pow_sub_one]; simp
  | j + 1 => by
    unfold outS
    rw [offL_bit, outS_bit bs t j, List.range_succ, List.all_append, ← nd_bit, Bool.and_assoc]
    simp only [List.all_cons, List.all_nil, Bool.and_true]
theorem out_same {bs : List (List Int)} (h : okG bs = true) : outS bs bs.length = out bs bs.length := by
  apply Nat.eq_of_testBit_eq
  intro t
  rw [outS_bit, out_bit bs t _ fun i hi => okG_row h i hi]
/-- The nodes of a set, in order. -/
def bitL (m j : Nat) : List Int := ((List.range j).filter fun t => m.testBit t).map Int.ofNat
theorem bitL_succ (m j : Nat) : bitL m (j + 1) = bitL m j ++ if m.testBit j then [(j : Int)] else [] := by
  unfold bitL
  rw [List.range_succ, List.filter_append, List.map_append]
  cases h : m.testBit j <;> simp [List.filter, h]
theorem bitL_len (m j : Nat) : (bitL m j).length ≤ j := by
  unfold bitL
  rw [List.length_map]
  have := List.length_filter_le (fun t => m.testBit t) (List.range j)
  simpa using this
end Go.Proofs.Ytepobkflahjldaa.Pb
