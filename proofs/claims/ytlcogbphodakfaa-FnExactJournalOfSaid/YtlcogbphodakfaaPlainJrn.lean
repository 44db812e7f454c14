/- The newlines of a text, its lines, and what of a journal is whole: no program. -/
import Derived.Test.YtlcogbphodakfaaCchk
import Derived.Lib.Bytealg
namespace Go.Proofs.Ytlcogbphodakfaa.Jn
open Go.RowKit
/-- Where the newlines of a text lie, its first byte at k. -/
def nl : List UInt8 → Nat → List Nat
  | [], _ => []
  | c :: l, k => if c = 10 then k :: nl l (k + 1) else nl l (k + 1)
theorem nl_snoc (l : List UInt8) (c : UInt8) (k : Nat) : nl (l ++ [c]) k = nl l k ++ (if c = 10 then [k + l.length] else []) := by
  induction l generalizing k with
  | nil => by_cases h : c = 10 <;> simp [nl, h]
  | cons a l ih =>
    have e : k + 1 + l.length = k + (a :: l).length := by simp; omega
    by_cases h : a = 10
    · rw [List.cons_append, nl, nl, if_pos h, if_pos h, ih, e]; rfl
    · rw [List.cons_append, nl, nl, if_neg h, if_neg h, ih, e]
theorem nl_head : ∀ (l : List UInt8) (k p : Nat) (ps : List Nat), nl l k = p :: ps → k ≤ p ∧ p < k + l.length ∧ nl (l.drop (p - k + 1)) (p + 1) = ps
  | [], _, _, _, h => by simp [nl] at h
  | a :: l, k, p, ps, h => by
    rw [nl] at h
    by_cases ha : a = 10
    · rw [if_pos ha] at h
      injection h with h1 h2
      subst h1
      refine ⟨Nat.le_refl _, by simp, ?_⟩
      rw [Nat.sub_self, List.drop_succ_cons, List.drop_zero]
      exact h2
    · rw [if_neg ha] at h
      obtain ⟨h1, h2, h3⟩ := nl_head l (k + 1) p ps h
      refine ⟨by omega, by simp; omega, ?_⟩
      rw [List.drop_succ_cons]
      rw [show p - (k + 1) + 1 = p - k by omega] at h3
      exact h3
theorem ix_nil (l : List UInt8) (k : Nat) (h : nl l k = []) : Lib.indexByte l 10 = -1 := by
  induction l generalizing k with
  | nil => rfl
  | cons a l ih =>
    rw [nl] at h
    by_cases ha : a = 10
    · rw [if_pos ha] at h; cases h
    · rw [if_neg ha] at h
      rw [Lib.indexByte, if_neg (by simpa using ha), ih _ h]; rfl
theorem ix_cons (l : List UInt8) (k d : Nat) (ps : List Nat) (h : nl l k = (k + d) :: ps) : Lib.indexByte l 10 = (d : Int) := by
  induction l generalizing k d with
  | nil => simp [nl] at h
  | cons a l ih =>
    rw [nl] at h
    by_cases ha : a = 10
    · rw [if_pos ha] at h
      injection h with h1 h2
      have : d = 0 := by omega
      subst this
      rw [Lib.indexByte, if_pos (by simpa using ha)]; rfl
    · rw [if_neg ha] at h
      have hk := (nl_head l (k + 1) (k + d) ps h).1
      obtain ⟨d', rfl⟩ : ∃ d', d = d' + 1 := ⟨d - 1, by omega⟩
      have e := ih (k + 1) d' (by rw [show k + 1 + d' = k + (d' + 1) by omega]; exact h)
      rw [Lib.indexByte, if_neg (by simpa using ha), e, if_neg (by simp)]; rfl
def lst (f : Nat) (ps : List Nat) : Nat := ps.foldl (fun _ p => p + 1) f
theorem lst_snoc (f : Nat) (ps : List Nat) (p : Nat) : lst f (ps ++ [p]) = p + 1 := by simp [lst]
def cut (s : ByteArray) : Nat → List Nat → List ByteArray
  | _, [] => []
  | f, p :: ps => s.extract f p :: cut s (p + 1) ps
theorem cut_len (s : ByteArray) : ∀ (f : Nat) (ps : List Nat), (cut s f ps).length = ps.length
  | _, [] => rfl
  | f, p :: ps => by rw [cut, List.length_cons, cut_len s, List.length_cons]
theorem cut_snoc (s : ByteArray) : ∀ (f : Nat) (ps : List Nat) (p : Nat), cut s f (ps ++ [p]) = cut s f ps ++ [s.extract (lst f ps) p]
  | _, [], _ => rfl
  | f, q :: ps, p => by rw [List.cons_append, cut, cut, cut_snoc s (q + 1) ps p]; rfl
theorem cut_get (s : ByteArray) : ∀ (pre : List Nat) (f p : Nat) (post : List Nat), (cut s f (pre ++ p :: post)).getD pre.length ByteArray.empty = s.extract (lst f pre) p
  | [], _, _, _ => rfl
  | q :: pre, f, p, post => by
    rw [List.cons_append, cut, List.length_cons, List.getD_cons_succ, cut_get s pre (q + 1) p post]; rfl
def nx (s : ByteArray) (a p : Nat) (le : ByteArray) : ByteArray := Ck.letters (Ck.chk (le ++ s.extract (a + 3) p).data.toList)
/-- What of a journal is whole: its lines, and where it ends. -/
def rc (s : ByteArray) : List Nat → Nat → ByteArray → List ByteArray × Nat
  | [], a, _ => ([], a)
  | p :: ps, a, le => if p < a + 3 then ([], a) else if s.extract a (a + 3) = nx s a p le ++ ⟨#[32]⟩ then (s.extract (a + 3) p :: (rc s ps (p + 1) (nx s a p le)).1, (rc s ps (p + 1) (nx s a p le)).2) else ([], a)
theorem rc_short {s : ByteArray} {p a : Nat} {ps : List Nat} {le : ByteArray} (h : p < a + 3) : rc s (p :: ps) a le = ([], a) := if_pos h
theorem rc_no {s : ByteArray} {p a : Nat} {ps : List Nat} {le : ByteArray} (h : ¬ p < a + 3) (h2 : ¬ s.extract a (a + 3) = nx s a p le ++ ⟨#[32]⟩) : rc s (p :: ps) a le = ([], a) := by rw [rc, if_neg h, if_neg h2]
theorem rc_yes {s : ByteArray} {p a : Nat} {ps : List Nat} {le : ByteArray} (h : ¬ p < a + 3) (h2 : s.extract a (a + 3) = nx s a p le ++ ⟨#[32]⟩) : rc s (p :: ps) a le = (s.extract (a + 3) p :: (rc s ps (p + 1) (nx s a p le)).1, (rc s ps (p + 1) (nx s a p le)).2) := by rw [rc, if_neg h, if_pos h2]
theorem rc_len (s : ByteArray) : ∀ (ps : List Nat) (a : Nat) (le : ByteArray), (rc s ps a le).1.length ≤ ps.length
  | [], _, _ => Nat.le_refl _
  | p :: ps, a, le => by
    by_cases h : p < a + 3
    · rw [rc_short h]; simp
    · by_cases h2 : s.extract a (a + 3) = nx s a p le ++ ⟨#[32]⟩
      · rw [rc_yes h h2]; simp only [List.length_cons]; have := rc_len s ps (p + 1) (nx s a p le); omega
      · rw [rc_no h h2]; simp
theorem nl_len : ∀ (l : List UInt8) (k : Nat), (nl l k).length ≤ l.length
  | [], _ => Nat.le_refl _
  | a :: l, k => by
    have := nl_len l (k + 1)
    rw [nl]
    split <;> simp <;> omega
theorem letters_size (c : Nat) : (Ck.letters c).size = 2 := rfl
theorem nx_size (s : ByteArray) (a p : Nat) (le : ByteArray) : (nx s a p le).size = 2 := rfl
end Go.Proofs.Ytlcogbphodakfaa.Jn
