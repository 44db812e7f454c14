/- The numbers of a text that are separated by blanks: the model's walk over bytes, and the words that are cut at blanks. -/
import Derived.Test.YtdilbogjihafoaaDoorPlainRead
import Derived.Lib.SplitLaws
namespace Go.Proofs.YtdilbogjihafoaaDoor.Nm
open Go.RowKit
/-- The model's walk: the bytes of the word so far, the rest, the numbers so far. -/
def go : List UInt8 → List UInt8 → List Int → Option (List Int)
  | pre, [], out => (Rd.rd pre).bind fun n => if out.length = 80 then none else some (out ++ [n])
  | pre, b :: r, out => if b = 32 then (Rd.rd pre).bind fun n => if out.length = 80 then none else go [] r (out ++ [n]) else go (pre ++ [b]) r out
/-- The same over words. -/
def gov : List (List UInt8) → List Int → Option (List Int)
  | [], out => some out
  | x :: xs, out => (Rd.rd x).bind fun n => if out.length = 80 then none else gov xs (out ++ [n])
/-- The words, at least one. -/
def sp1 : List UInt8 → List UInt8 × List (List UInt8)
  | [] => ([], [])
  | b :: r => if b = 32 then ([], (sp1 r).1 :: (sp1 r).2) else (b :: (sp1 r).1, (sp1 r).2)
def words (s : List UInt8) : List (List UInt8) := (sp1 s).1 :: (sp1 s).2
theorem go_gov : ∀ (r pre : List UInt8) (out : List Int), go pre r out = gov ((pre ++ (sp1 r).1) :: (sp1 r).2) out
  | [], pre, out => by simp [go, gov, sp1]
  | b :: r, pre, out => by
    unfold go sp1
    split
    · simp only [gov, List.append_nil]
      congr 1; funext n
      split
      · rfl
      · rw [go_gov r [] (out ++ [n])]; simp [gov]
    · rw [go_gov r (pre ++ [b]) out]; simp
/-- The values of words. -/
def vals : List (List UInt8) → Option (List Int)
  | [] => some []
  | x :: xs => (Rd.rd x).bind fun n => (vals xs).map (n :: ·)
theorem gov_many : ∀ (ws : List (List UInt8)) (out : List Int), out.length ≤ 80 → 80 < out.length + ws.length → gov ws out = none
  | [], out, h, h2 => by simp at h2; omega
  | x :: xs, out, h, h2 => by
    unfold gov
    cases Rd.rd x with
    | none => rfl
    | some n =>
      simp only [Option.bind_some]
      split
      · rfl
      · exact gov_many xs _ (by simp; omega) (by simp at h2 ⊢; omega)
theorem gov_few : ∀ (ws : List (List UInt8)) (out : List Int), out.length + ws.length ≤ 80 → gov ws out = (vals ws).map (out ++ ·)
  | [], out, h => by simp [gov, vals]
  | x :: xs, out, h => by
    unfold gov vals
    cases Rd.rd x with
    | none => rfl
    | some n =>
      simp only [Option.bind_some]
      rw [if_neg (by simp at h; omega), gov_few xs _ (by simp at h ⊢; omega)]
      cases vals xs <;> simp
theorem sp1_eq (r : List UInt8) : sp1 (32 :: r) = ([], (sp1 r).1 :: (sp1 r).2) := by simp [sp1]
theorem sp1_ne (b : UInt8) (r : List UInt8) (h : b ≠ 32) : sp1 (b :: r) = (b :: (sp1 r).1, (sp1 r).2) := by simp [sp1, h]
theorem index_eq (l : List UInt8) (c : UInt8) : Lib.index (c :: l) [c] = 0 := by rw [Lib.index]; simp [List.isPrefixOf]
theorem index_ne (b c : UInt8) (l : List UInt8) (h : b ≠ c) : Lib.index (b :: l) [c] = if Lib.index l [c] == -1 then -1 else Lib.index l [c] + 1 := by
  have hp : ([c] : List UInt8).isPrefixOf (b :: l) = false := by simp [List.isPrefixOf, Ne.symm h]
  rw [Lib.index, hp]; simp
theorem splitK_eq (k : Nat) (r : List UInt8) : Lib.splitK [32] 0 (k + 1) (32 :: r) = [] :: Lib.splitK [32] 0 k r := by
  rw [Lib.splitK, index_eq]; simp
theorem splitK_ne (k : Nat) (b : UInt8) (r : List UInt8) (h : b ≠ 32) : ∃ x xs, Lib.splitK [32] 0 k r = x :: xs ∧ Lib.splitK [32] 0 k (b :: r) = (b :: x) :: xs := by
  cases k with
  | zero => exact ⟨r, [], rfl, rfl⟩
  | succ k =>
    by_cases hm : Lib.index r [32] = -1
    · have h2 : Lib.index (b :: r) [32] = -1 := by rw [index_ne b 32 r h, if_pos (beq_iff_eq.2 hm)]
      exact ⟨r, [], by rw [Lib.splitK, if_pos (beq_iff_eq.2 hm)], by rw [Lib.splitK, if_pos (beq_iff_eq.2 h2)]⟩
    · have hge := Lib.index_ge r [32]
      obtain ⟨j, hj⟩ : ∃ j : Nat, Lib.index r [32] = j := ⟨(Lib.index r [32]).toNat, by omega⟩
      have h2 : Lib.index (b :: r) [32] = ((j + 1 : Nat) : Int) := by rw [index_ne b 32 r h, if_neg (fun e => hm (beq_iff_eq.1 e)), hj]; omega
      refine ⟨r.take j, Lib.splitK [32] 0 k (r.drop (j + 1)), ?_, ?_⟩
      · rw [Lib.splitK, if_neg (fun e => hm (beq_iff_eq.1 e)), hj]; simp
      · rw [Lib.splitK, if_neg (fun e => by have := beq_iff_eq.1 e; omega), h2]; simp
/-- Cut at so many blanks at least as there are, the pieces are the words. -/
theorem splitK_words : ∀ (r : List UInt8) (k : Nat), (sp1 r).2.length ≤ k → Lib.splitK [32] 0 k r = words r
  | [], k, _ => by cases k <;> simp [Lib.splitK, words, sp1, Lib.index]
  | b :: r, k, h => by
    by_cases hb : b = 32
    · subst hb
      rw [sp1_eq] at h
      obtain ⟨k, rfl⟩ : ∃ j, k = j + 1 := ⟨k - 1, by simp at h; omega⟩
      rw [splitK_eq, splitK_words r k (by simp at h; omega)]
      simp [words, sp1_eq]
    · rw [sp1_ne b r hb] at h
      obtain ⟨x, xs, h1, h2⟩ := splitK_ne k b r hb
      rw [splitK_words r k h] at h1
      unfold words at h1
      injection h1 with h3 h4
      rw [h2, words, sp1_ne b r hb, h3, h4]
theorem splitK_more : ∀ (r : List UInt8) (k : Nat), k ≤ (sp1 r).2.length → (Lib.splitK [32] 0 k r).length = k + 1
  | [], k, h => by obtain rfl : k = 0 := by simpa [sp1] using h
                   rfl
  | b :: r, k, h => by
    by_cases hb : b = 32
    · subst hb
      rw [sp1_eq] at h
      cases k with
      | zero => rfl
      | succ k => rw [splitK_eq, List.length_cons, splitK_more r k (by simp at h; omega)]
    · rw [sp1_ne b r hb] at h
      obtain ⟨x, xs, h1, h2⟩ := splitK_ne k b r hb
      have := splitK_more r k h
      rw [h1] at this
      rw [h2]; simpa using this
theorem sp1_len : ∀ r : List UInt8, (sp1 r).2.length ≤ r.length
  | [] => by simp [sp1]
  | b :: r => by
    have := sp1_len r
    unfold sp1
    split <;> simp <;> omega
/-- What both read. -/
def nums (s : List UInt8) : Option (List Int) := if s = [110, 111, 110, 101] then some [] else go [] s []
/-- The pieces that the program cuts: too many, or the words. -/
theorem nums_many (s : List UInt8) (hn : s ≠ [110, 111, 110, 101]) (h : 80 < (Lib.splitK [32] 0 (min 81 (s.length + 1) - 1) s).length) : nums s = none := by
  unfold nums
  rw [if_neg hn, go_gov]
  refine gov_many _ _ (by simp) ?_
  have hl := sp1_len s
  by_cases hk : (sp1 s).2.length ≤ min 81 (s.length + 1) - 1
  · rw [splitK_words s _ hk] at h
    simp [words] at h ⊢; omega
  · simp; omega
theorem nums_few (s : List UInt8) (hn : s ≠ [110, 111, 110, 101]) (h : (Lib.splitK [32] 0 (min 81 (s.length + 1) - 1) s).length ≤ 80) : nums s = vals (Lib.splitK [32] 0 (min 81 (s.length + 1) - 1) s) := by
  have hl := sp1_len s
  unfold nums
  rw [if_neg hn, go_gov]
  by_cases hk : (sp1 s).2.length ≤ min 81 (s.length + 1) - 1
  · rw [splitK_words s _ hk] at h ⊢
    rw [gov_few _ _ (by simp [words] at h ⊢; omega)]
    simp only [List.nil_append, words]
    cases vals ((sp1 s).1 :: (sp1 s).2) <;> rfl
  · have := splitK_more s (min 81 (s.length + 1) - 1) (by omega)
    omega
end Go.Proofs.YtdilbogjihafoaaDoor.Nm
