/- Three rows of bits: what they span; rows that are brought to a form in which each has a bit that the others lack. No program. -/
import Derived.PlainAid
namespace Go.Proofs.Ytfdjjaogmnagaaa.Ix
/-- The eight numbers that three rows span. -/
def spanL (a b c : Nat) : List Nat := [0, a, b, a ^^^ b, c, a ^^^ c, b ^^^ c, a ^^^ b ^^^ c]
def InS (a b c x : Nat) : Prop := x ∈ spanL a b c
theorem x1 (a b : Nat) : a ^^^ (a ^^^ b) = b := by rw [← Nat.xor_assoc, Nat.xor_self, Nat.zero_xor]
theorem ins_iff (a b c x : Nat) : InS a b c x ↔ ∃ s t u : Bool, x = (bif s then a else 0) ^^^ (bif t then b else 0) ^^^ (bif u then c else 0) := by
  constructor
  · intro h
    simp only [InS, spanL, List.mem_cons, List.not_mem_nil, or_false] at h
    rcases h with h | h | h | h | h | h | h | h
    · exact ⟨false, false, false, by simpa using h⟩
    · exact ⟨true, false, false, by simpa using h⟩
    · exact ⟨false, true, false, by simpa using h⟩
    · exact ⟨true, true, false, by simpa using h⟩
    · exact ⟨false, false, true, by simpa using h⟩
    · exact ⟨true, false, true, by simpa using h⟩
    · exact ⟨false, true, true, by simpa using h⟩
    · exact ⟨true, true, true, by simpa using h⟩
  · rintro ⟨s, t, u, rfl⟩
    cases s <;> cases t <;> cases u <;> simp [InS, spanL]
theorem sw01 (a b c x : Nat) : InS a b c x ↔ InS b a c x := by
  rw [ins_iff, ins_iff]
  constructor <;> (rintro ⟨s, t, u, rfl⟩; refine ⟨t, s, u, ?_⟩; rw [Nat.xor_comm (bif s then _ else 0)])
theorem sw12 (a b c x : Nat) : InS a b c x ↔ InS a c b x := by
  rw [ins_iff, ins_iff]
  constructor <;> (rintro ⟨s, t, u, rfl⟩; refine ⟨s, u, t, ?_⟩; rw [Nat.xor_assoc, Nat.xor_assoc, Nat.xor_comm (bif t then _ else 0)])
theorem ad1 (a b c x : Nat) : InS a (b ^^^ a) c x ↔ InS a b c x := by
  rw [ins_iff, ins_iff]
  constructor
  · rintro ⟨s, t, u, rfl⟩
    refine ⟨s ^^ t, t, u, ?_⟩
    cases s <;> cases t <;> simp [Nat.xor_comm b a, x1]
  · rintro ⟨s, t, u, rfl⟩
    refine ⟨s ^^ t, t, u, ?_⟩
    cases s <;> cases t <;> simp [Nat.xor_comm b a, x1]
theorem sw02 (a b c x : Nat) : InS a b c x ↔ InS c b a x := by rw [sw01, sw12, sw01]
theorem ad01 (a b c x : Nat) : InS a (b ^^^ a) c x ↔ InS a b c x := ad1 a b c x
theorem ad02 (a b c x : Nat) : InS a b (c ^^^ a) x ↔ InS a b c x := by rw [sw12, ad1, sw12]
theorem ad10 (a b c x : Nat) : InS (a ^^^ b) b c x ↔ InS a b c x := by rw [sw01, ad1, sw01]
theorem ad12 (a b c x : Nat) : InS a b (c ^^^ b) x ↔ InS a b c x := by rw [sw01, ad02, sw01]
theorem ad20 (a b c x : Nat) : InS (a ^^^ c) b c x ↔ InS a b c x := by rw [sw02, ad02, sw02]
theorem ad21 (a b c x : Nat) : InS a (b ^^^ c) c x ↔ InS a b c x := by rw [sw12, ad12, sw12]
theorem ins_lt {a b c x : Nat} (ha : a < 64) (hb : b < 64) (hc : c < 64) (h : InS a b c x) : x < 64 := by
  obtain ⟨s, t, u, rfl⟩ := (ins_iff _ _ _ _).1 h
  have f : ∀ (s : Bool) (n : Nat), n < 64 → (bif s then n else 0) < 2 ^ 6 := fun s n hn => by cases s <;> simp <;> omega
  exact Nat.xor_lt_two_pow (Nat.xor_lt_two_pow (f s a ha) (f t b hb)) (f u c hc)
/-! ### Reduced rows -/
structure Inv (t k : Nat) (r : Nat → Nat) (p : Nat → Nat) : Prop where
  k3 : k ≤ 3
  lt : ∀ i, i < 3 → r i < 64
  piv : ∀ j, j < k → t ≤ p j ∧ p j < 6 ∧ (r j).testBit (p j) = true ∧ r j < 2 ^ (p j + 1)
  alone : ∀ j, j < k → ∀ i, i < 3 → i ≠ j → (r i).testBit (p j) = false
  dec : ∀ j, j + 1 < k → p (j + 1) < p j
  rest : ∀ i, k ≤ i → i < 3 → r i < 2 ^ t
theorem lt_of_bit {n t : Nat} (h : n < 2 ^ (t + 1)) (hb : n.testBit t = false) : n < 2 ^ t := by
  rw [Nat.testBit_eq_decide_div_mod_eq, decide_eq_false_iff_not] at hb
  have hp : 0 < 2 ^ t := Nat.two_pow_pos t
  have h2 : n / 2 ^ t < 2 := by rw [Nat.div_lt_iff_lt_mul hp]; rw [Nat.pow_succ] at h; omega
  have h3 : n / 2 ^ t = 0 := by
    generalize n / 2 ^ t = q at *
    omega
  rcases Nat.div_eq_zero_iff.1 h3 with h4 | h4
  · omega
  · exact h4
theorem Inv.skip {t k : Nat} {r p : Nat → Nat} (h : Inv (t + 1) k r p) (hb : ∀ i, k ≤ i → i < 3 → (r i).testBit t = false) : Inv t k r p :=
  ⟨h.k3, h.lt, fun j hj => by have := h.piv j hj; exact ⟨by omega, this.2⟩, h.alone, h.dec, fun i h1 h2 => lt_of_bit (h.rest i h1 h2) (hb i h1 h2)⟩
def swapF (r : Nat → Nat) (k i : Nat) : Nat → Nat := fun m => if m = k then r i else if m = i then r k else r m
def clearF (r : Nat → Nat) (t k : Nat) : Nat → Nat := fun m => if m ≠ k ∧ (r m).testBit t = true then r m ^^^ r k else r m
theorem testBit_hi {n t q : Nat} (h : n < 2 ^ t) (hq : t ≤ q) : n.testBit q = false := Nat.testBit_lt_two_pow (Nat.lt_of_lt_of_le h (Nat.pow_le_pow_right (by omega) hq))
theorem Inv.swap {t k i : Nat} {r p : Nat → Nat} (h : Inv (t + 1) k r p) (hk : k ≤ i) (hi : i < 3) : Inv (t + 1) k (swapF r k i) p := by
  refine ⟨h.k3, fun m hm => ?_, fun j hj => ?_, fun j hj m hm hne => ?_, h.dec, fun m h1 h2 => ?_⟩
  · unfold swapF; split
    · exact h.lt i hi
    · split
      · exact h.lt k (by omega)
      · exact h.lt m hm
  · have e : swapF r k i j = r j := by unfold swapF; rw [if_neg (by omega), if_neg (by omega)]
    rw [e]; exact h.piv j hj
  · have hp := h.piv j hj
    unfold swapF; split
    · exact h.alone j hj i hi (by omega)
    · split
      · exact h.alone j hj k (by omega) (by omega)
      · exact h.alone j hj m hm hne
  · unfold swapF; split
    · exact h.rest i hk hi
    · split
      · exact h.rest k (Nat.le_refl _) (by omega)
      · exact h.rest m h1 h2
theorem Inv.take {t k : Nat} {r p : Nat → Nat} (h : Inv (t + 1) k r p) (ht : t < 6) (hk : k < 3) (hb : (r k).testBit t = true) :
    Inv t (k + 1) (clearF r t k) (fun j => if j = k then t else p j) := by
  have hrk := h.rest k (Nat.le_refl _) hk
  have ek : clearF r t k k = r k := by unfold clearF; rw [if_neg (by simp)]
  have hout : ∀ m, m < 3 → m ≠ k → (clearF r t k m).testBit t = false := fun m hm hne => by
    unfold clearF
    cases hc : (r m).testBit t
    · rw [if_neg (by simp)]; exact hc
    · rw [if_pos ⟨hne, rfl⟩, Nat.testBit_xor, hc, hb]; rfl
  have hkp : ∀ j, j < k → (r k).testBit (p j) = false := fun j hj => h.alone j hj k hk (by omega)
  have hsame : ∀ j, j < k → ∀ m, (clearF r t k m).testBit (p j) = (r m).testBit (p j) := fun j hj m => by
    unfold clearF; split
    · rw [Nat.testBit_xor, hkp j hj, Bool.xor_false]
    · rfl
  have hbd : ∀ m q, r m < 2 ^ q → t + 1 ≤ q → clearF r t k m < 2 ^ q := fun m q hm hq => by
    unfold clearF; split
    · exact Nat.xor_lt_two_pow hm (Nat.lt_of_lt_of_le hrk (Nat.pow_le_pow_right (by omega) hq))
    · exact hm
  refine ⟨by omega, fun m hm => ?_, fun j hj => ?_, fun j hj m hm hne => ?_, fun j hj => ?_, fun m h1 h2 => ?_⟩
  · exact hbd m 6 (h.lt m hm) (by omega)
  · by_cases e : j = k
    · subst e
      rw [if_pos rfl, ek]
      exact ⟨Nat.le_refl _, ht, hb, hrk⟩
    · rw [if_neg e]
      have hp := h.piv j (by omega)
      exact ⟨by omega, hp.2.1, by rw [hsame j (by omega)]; exact hp.2.2.1, hbd j _ hp.2.2.2 (by omega)⟩
  · by_cases e : j = k
    · subst e
      rw [if_pos rfl]
      exact hout m hm hne
    · rw [if_neg e, hsame j (by omega)]
      exact h.alone j (by omega) m hm hne
  · by_cases e : j + 1 = k
    · rw [if_pos e, if_neg (by omega)]
      have := h.piv j (by omega); omega
    · rw [if_neg e, if_neg (by omega)]
      exact h.dec j (by omega)
  · exact lt_of_bit (hbd m _ (h.rest m (by omega) h2) (Nat.le_refl _)) (hout m h2 (by omega))
/-- What the rows span, as a function of an index. -/
def SpF (r : Nat → Nat) (x : Nat) : Prop := InS (r 0) (r 1) (r 2) x
theorem sp_swap (r : Nat → Nat) (k i : Nat) (hk : k < 3) (hi : i < 3) (x : Nat) : SpF (swapF r k i) x ↔ SpF r x := by
  unfold SpF swapF
  obtain rfl | rfl | rfl : k = 0 ∨ k = 1 ∨ k = 2 := by omega
  all_goals
    obtain rfl | rfl | rfl : i = 0 ∨ i = 1 ∨ i = 2 := by omega
    all_goals simp
  · exact sw01 _ _ _ _
  · exact sw02 _ _ _ _
  · exact sw01 _ _ _ _
  · exact sw12 _ _ _ _
  · exact sw02 _ _ _ _
  · exact sw12 _ _ _ _
theorem sp_clear (r : Nat → Nat) (t k : Nat) (hk : k < 3) (x : Nat) : SpF (clearF r t k) x ↔ SpF r x := by
  unfold SpF clearF
  obtain rfl | rfl | rfl : k = 0 ∨ k = 1 ∨ k = 2 := by omega
  · cases h1 : (r 1).testBit t <;> cases h2 : (r 2).testBit t <;> simp [ad01, ad02]
  · cases h1 : (r 0).testBit t <;> cases h2 : (r 2).testBit t <;> simp [ad10, ad12]
  · cases h1 : (r 0).testBit t <;> cases h2 : (r 1).testBit t <;> simp [ad20, ad21]
end Go.Proofs.Ytfdjjaogmnagaaa.Ix
