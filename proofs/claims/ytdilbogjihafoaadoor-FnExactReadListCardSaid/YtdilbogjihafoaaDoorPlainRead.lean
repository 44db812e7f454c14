/- Reading a decimal number: the digits' value; a number's own text is read back, by the model's fold and by strconv's parse. No program. -/
import Derived.Test.YtdilbogjihafoaaDoorPlainText
import Derived.Lib.ParseIntB
namespace Go.Proofs.YtdilbogjihafoaaDoor.Rd
open Dc
def st (n : Nat) (c : UInt8) : Nat := if 48 ≤ c.toNat ∧ c.toNat ≤ 57 then 10 * n + (c.toNat - 48) else n
def val (l : List UInt8) : Nat := l.foldl st 0
theorem val_snoc (l : List UInt8) (c : UInt8) : val (l ++ [c]) = st (val l) c := by simp [val, List.foldl_append]
theorem digit (d : Nat) (h : d < 10) : (UInt8.ofNat (48 + d)).toNat = 48 + d := by
  rw [UInt8.toNat_ofNat']; omega
theorem val_decR (m : Nat) : val (decR m) = m := by
  induction m using Nat.strongRecOn with
  | ind m ih =>
    by_cases h : m = 0
    · subst h; rw [decR_zero]; rfl
    · rw [decR_step m (by omega), val_snoc, ih (m / 10) (by omega), st, digit _ (by omega), if_pos (by omega)]
      omega
theorem dig_decR (m : Nat) : ∀ c ∈ decR m, 48 ≤ c.toNat ∧ c.toNat ≤ 57 := by
  induction m using Nat.strongRecOn with
  | ind m ih =>
    by_cases h : m = 0
    · subst h; rw [decR_zero]; simp
    · rw [decR_step m (by omega)]
      intro c hc
      rcases List.mem_append.1 hc with hc | hc
      · exact ih (m / 10) (by omega) c hc
      · rw [List.mem_singleton] at hc; rw [hc, digit _ (by omega)]; omega
theorem val_minus (l : List UInt8) : val (45 :: l) = val l := rfl
theorem val_lt (l : List UInt8) : val l < 10 ^ l.length := by
  rcases List.eq_nil_or_concat l with rfl | ⟨l', c, rfl⟩
  · decide
  · rw [List.concat_eq_append]
    have ih := val_lt l'
    rw [val_snoc, List.length_append, List.length_singleton, Nat.pow_succ]
    unfold st
    split <;> omega
termination_by l.length
decreasing_by simp_all
/-- The number that the model's text reader reckons. -/
def num (l : List UInt8) : Int := if l.head? = some 45 then -(val l : Int) else val l
theorem head_decR (m : Nat) (_h : 0 < m) : (decR m).head? ≠ some 45 := by
  intro e
  have hm : (45 : UInt8) ∈ decR m := List.mem_of_mem_head? e
  have := dig_decR m 45 hm
  simp at this
theorem num_itoa (n : Int) : num (Lib.itoa n) = n := by
  by_cases hz : n = 0
  · subst hz; rw [itoa_zero]; rfl
  · by_cases hp : 0 < n
    · obtain ⟨u, rfl⟩ := Int.eq_ofNat_of_zero_le (show 0 ≤ n by omega)
      rw [itoa_pos u (by omega), num, if_neg (head_decR u (by omega)), val_decR]
    · obtain ⟨u, hu⟩ := Int.eq_ofNat_of_zero_le (show 0 ≤ -n by omega)
      rw [show n = -(u : Int) by omega, itoa_neg u (by omega), num, if_pos (show (45 :: decR u).head? = some 45 from rfl), val_minus, val_decR]
theorem itoa_11 (n : Int) (h0 : -1000000000 ≤ n) (h1 : n ≤ 1000000000) : (Lib.itoa n).length ≤ 11 := by
  by_cases hz : n = 0
  · subst hz; rw [itoa_zero]; simp
  · by_cases hp : 0 < n
    · obtain ⟨u, rfl⟩ := Int.eq_ofNat_of_zero_le (show 0 ≤ n by omega)
      rw [itoa_pos u (by omega)]
      exact decR_len 11 u (by omega)
    · obtain ⟨u, hu⟩ := Int.eq_ofNat_of_zero_le (show 0 ≤ -n by omega)
      rw [show n = -(u : Int) by omega, itoa_neg u (by omega)]
      have := decR_len 10 u (by omega)
      simp; omega
theorem fold_ge (l : List UInt8) (a : Nat) : a ≤ l.foldl st a := by
  induction l generalizing a with
  | nil => exact Nat.le_refl _
  | cons c r ih =>
    refine Nat.le_trans ?_ (ih (st a c))
    unfold st
    split <;> omega
theorem parseM (l : List UInt8) (a : Nat) (hd : ∀ c ∈ l, 48 ≤ c.toNat ∧ c.toNat ≤ 57) (h : l.foldl st a ≤ 1000000000) : Lib.parseUintM (2 ^ 64 - 1) a l = .ok (l.foldl st a) := by
  induction l generalizing a with
  | nil => rfl
  | cons c r ih =>
    have hc := hd c (List.mem_cons_self ..)
    have e : st a c = 10 * a + (c.toNat - 48) := by unfold st; rw [if_pos hc]
    have hg := fold_ge r (st a c)
    have hf : (c :: r).foldl st a = r.foldl st (st a c) := rfl
    rw [hf] at h
    rw [Lib.parseUintM, if_pos hc, if_neg (by omega), if_neg (by omega), show a * 10 + (c.toNat - 48) = st a c by omega, ih _ (fun d hd' => hd d (List.mem_cons_of_mem _ hd')) h, hf]
theorem parseB (m : Nat) (h0 : 0 < m) (h : m ≤ 1000000000) : Lib.parseUintB 64 (decR m) = .ok m := by
  have hne : decR m ≠ [] := by rw [decR_step m h0]; simp
  have hv : (decR m).foldl st 0 = m := val_decR m
  rw [Lib.parseUintB, if_neg hne, parseM _ 0 (dig_decR m) (by omega), hv]
theorem parse_itoa (n : Int) (h0 : -1000000000 ≤ n) (h1 : n ≤ 1000000000) : Lib.parseIntB 64 (Lib.itoa n) = .ok n := by
  by_cases hz : n = 0
  · subst hz; rw [itoa_zero]; decide
  · by_cases hp : 0 < n
    · obtain ⟨u, rfl⟩ := Int.eq_ofNat_of_zero_le (show 0 ≤ n by omega)
      rw [itoa_pos u (by omega)]
      have hb := parseB u (by omega) (by omega)
      have hd := dig_decR u
      cases hl : decR u with
      | nil => have := decR_step u (by omega); rw [hl] at this; simp at this
      | cons c r =>
        rw [hl] at hb hd
        have hc := hd c (List.mem_cons_self ..)
        have n1 : ¬ (c.toNat = 43 ∨ c.toNat = 45) := by omega
        have n2 : ¬ c.toNat = 45 := by omega
        have p : (2 : Nat) ^ (64 - 1) = 9223372036854775808 := by decide
        simp only [Lib.parseIntB]
        rw [if_neg n1, hb, p]
        simp only []
        rw [if_neg (by omega), if_neg (by omega), if_neg n2]
    · obtain ⟨u, hu⟩ := Int.eq_ofNat_of_zero_le (show 0 ≤ -n by omega)
      rw [show n = -(u : Int) by omega, itoa_neg u (by omega)]
      have hb := parseB u (by omega) (by omega)
      have e : (45 : UInt8).toNat = 45 := rfl
      have p : (2 : Nat) ^ (64 - 1) = 9223372036854775808 := by decide
      simp only [Lib.parseIntB, e]
      rw [if_pos (Or.inr trivial), hb, p]
      simp only []
      rw [if_neg (fun h => h.1 trivial), if_neg (fun h => by have := h.2; omega), if_pos trivial]
/-- What both readers return. -/
def rd (l : List UInt8) : Option Int := if Lib.itoa (num l) = l ∧ -1000000000 ≤ num l ∧ num l ≤ 1000000000 ∧ l.length ≤ 11 then some (num l) else none
theorem rd_of {l : List UInt8} {v : Int} (h : Lib.itoa v = l) (h0 : -1000000000 ≤ v) (h1 : v ≤ 1000000000) : rd l = some v := by
  subst h
  unfold rd
  rw [num_itoa, if_pos ⟨rfl, h0, h1, itoa_11 v h0 h1⟩]
theorem rd_some {l : List UInt8} {v : Int} (h : rd l = some v) : Lib.itoa v = l ∧ -1000000000 ≤ v ∧ v ≤ 1000000000 := by
  unfold rd at h
  split at h
  · rename_i hc
    cases h
    exact ⟨hc.1, hc.2.1, hc.2.2.1⟩
  · cases h
theorem val_step (s : ByteArray) (k : Nat) (h : k < s.size) : val (s.data.toList.take (k + 1)) = st (val (s.data.toList.take k)) s[k] := by
  rw [List.take_succ_eq_append_getElem (by simpa using h), val_snoc]; rfl
theorem val_end (s : ByteArray) : val (s.data.toList.take s.size) = val s.data.toList := by rw [List.take_of_length_le (by simp)]
theorem val_bd (s : ByteArray) (k : Nat) (h : s.size ≤ 11) : val (s.data.toList.take k) ≤ 99999999999 := by
  have h1 := val_lt (s.data.toList.take k)
  have h2 : (s.data.toList.take k).length ≤ 11 := by
    rw [List.length_take]
    have : s.data.toList.length = s.size := by simp
    omega
  have h3 : 10 ^ (s.data.toList.take k).length ≤ 10 ^ 11 := Nat.pow_le_pow_right (by omega) h2
  omega
theorem num_minus (s : ByteArray) (h : 0 < s.size) (hc : s[0].toNat = 45) : num s.data.toList = -(val s.data.toList : Int) := by
  have e : s.data.toList.head? = some 45 := by
    rw [List.head?_eq_getElem?, List.getElem?_eq_getElem (by simpa using h)]
    congr 1
    exact UInt8.toNat_inj.1 hc
  rw [num, if_pos e]
theorem num_plus (s : ByteArray) (hc : ∀ h : 0 < s.size, s[0].toNat ≠ 45) : num s.data.toList = (val s.data.toList : Int) := by
  have e : ¬ s.data.toList.head? = some 45 := by
    intro he
    by_cases h : 0 < s.size
    · rw [List.head?_eq_getElem?, List.getElem?_eq_getElem (by simpa using h)] at he
      have := Option.some.inj he
      exact hc h (by show (s.data.toList[0]'_).toNat = 45; rw [this]; rfl)
    · have hl : s.data.toList.length = s.size := by simp
      have : s.data.toList = [] := List.eq_nil_of_length_eq_zero (by omega)
      rw [this] at he
      cases he
  rw [num, if_neg e]
end Go.Proofs.YtdilbogjihafoaaDoor.Rd
