/- Spans put together row by row, as the program and the model do; rank. No program. -/
import Derived.Test.YtfdjjaogmnagaaaPlainIx2
namespace Go.Proofs.Ytfdjjaogmnagaaa.Ix
open Tr Bt
/-- What the program's list holds after j rows. -/
def spL (r : Nat → Nat) : Nat → List Nat
  | 0 => [0]
  | j + 1 => spL r j ++ (spL r j).map (fun n => n ^^^ r j)
theorem spL_len (r : Nat → Nat) (j : Nat) : (spL r j).length = 2 ^ j := by
  induction j with
  | zero => rfl
  | succ j ih => rw [spL, List.length_append, List.length_map, ih, Nat.pow_succ]; omega
theorem xor_lt64 {a b : Nat} (ha : a < 64) (hb : b < 64) : a ^^^ b < 64 := Nat.xor_lt_two_pow (n := 6) ha hb
theorem spL_lt {r : Nat → Nat} (h : ∀ i, r i < 64) (j : Nat) : ∀ x ∈ spL r j, x < 64 := by
  induction j with
  | zero => intro x hx; simp [spL] at hx; omega
  | succ j ih =>
    intro x hx
    rcases List.mem_append.1 hx with hx | hx
    · exact ih x hx
    · obtain ⟨y, hy, rfl⟩ := List.mem_map.1 hx
      exact xor_lt64 (ih y hy) (h j)
theorem spL_three (r : Nat → Nat) : ∀ x, x ∈ spL r 3 ↔ SpF r x := fun x => by
  simp only [spL, SpF, InS, spanL, List.map_append, List.map_cons, List.map_nil, Nat.zero_xor, List.mem_append, List.mem_cons, List.not_mem_nil, or_false, or_assoc]
theorem spL_up (r : Nat → Nat) (i d : Nat) (h : ∀ j, i ≤ j → r j = 0) : ∀ x, x ∈ spL r (i + d) ↔ x ∈ spL r i := by
  induction d with
  | zero => intro x; rfl
  | succ d ih =>
    intro x
    rw [← Nat.add_assoc, spL, h (i + d) (by omega), List.mem_append, List.mem_map]
    constructor
    · rintro (h | ⟨y, hy, rfl⟩)
      · exact (ih x).1 h
      · rw [Nat.xor_zero]; exact (ih y).1 hy
    · intro h; exact .inl ((ih x).2 h)
theorem spL_pad (ns : List Nat) (hn : ns.length ≤ 3) : ∀ x, x ∈ spL (pad ns) ns.length ↔ SpF (pad ns) x := fun x => by
  rw [← spL_three]
  have := spL_up (pad ns) ns.length (3 - ns.length) (fun j hj => by simp [pad, List.getD_eq_getElem?_getD, List.getElem?_eq_none hj]) x
  rw [← this, show ns.length + (3 - ns.length) = 3 by omega]
theorem setP_cast {l m : List Nat} (h : ∀ x, x ∈ l ↔ x ∈ m) : setP (castL l) = setP (castL m) := setP_congr fun y => by
  rw [mem_castL, mem_castL]
  constructor
  · rintro ⟨n, hn, e⟩; exact ⟨n, (h n).1 hn, e⟩
  · rintro ⟨n, hn, e⟩; exact ⟨n, (h n).2 hn, e⟩
theorem spanS_i (r : Nat → Nat) : setP (castL (spL r 3)) = spanS r := setP_cast fun x => spL_three r x
/-- What the program's list holds inside a row: k numbers done. -/
def spK (r : Nat → Nat) (j k : Nat) : List Nat := spL r j ++ ((spL r j).take k).map (fun n => n ^^^ r j)
theorem spK_zero (r : Nat → Nat) (j : Nat) : spK r j 0 = spL r j := by simp [spK]
theorem spK_succ (r : Nat → Nat) (j k : Nat) (h : k < 2 ^ j) : castL (spK r j (k + 1)) = castL (spK r j k) ++ [(((spL r j).getD k 0 ^^^ r j : Nat) : Int)] := by
  have hl : k < (spL r j).length := by rw [spL_len]; exact h
  unfold spK castL
  rw [List.take_succ_eq_append_getElem hl, List.map_append, List.map_append, List.map_append, List.map_append, List.append_assoc]
  simp [List.getD_eq_getElem?_getD, List.getElem?_eq_getElem hl]
theorem spK_end (r : Nat → Nat) (j : Nat) : spK r j (2 ^ j) = spL r (j + 1) := by
  unfold spK
  rw [show (spL r j).take (2 ^ j) = spL r j from List.take_of_length_le (by rw [spL_len]; exact Nat.le_refl _)]
  rfl
theorem spK_len (r : Nat → Nat) (j k : Nat) (h : k ≤ 2 ^ j) : (spK r j k).length = 2 ^ j + k := by
  unfold spK; rw [List.length_append, List.length_map, List.length_take, spL_len]; omega
/-- The model's list: the same numbers, each put in where it is new. -/
structure Dup (r : Nat → Nat) (j k : Nat) (S0 S : List Nat) : Prop where
  mem0 : ∀ x, x ∈ S0 ↔ x ∈ spL r j
  mem : ∀ x, x ∈ S ↔ x ∈ S0 ∨ x ∈ (S0.take k).map (fun n => n ^^^ r j)
  pre : ∃ t, S = S0 ++ t ∧ t.length ≤ k
theorem Dup.start {r : Nat → Nat} {j : Nat} {S : List Nat} (h : ∀ x, x ∈ S ↔ x ∈ spL r j) : Dup r j 0 S S := ⟨h, fun x => by simp, [], by simp, by simp⟩
theorem Dup.get {r : Nat → Nat} {j k : Nat} {S0 S : List Nat} (h : Dup r j k S0 S) (hk : k < S0.length) : S.getD k 0 = S0.getD k 0 := by
  obtain ⟨t, rfl, _⟩ := h.pre
  rw [List.getD_eq_getElem?_getD, List.getD_eq_getElem?_getD, List.getElem?_append_left hk]
theorem Dup.step {r : Nat → Nat} {j k : Nat} {S0 S : List Nat} (h : Dup r j k S0 S) (hk : k < S0.length) :
    (S.contains (S0.getD k 0 ^^^ r j) = true → Dup r j (k + 1) S0 S) ∧ (S.contains (S0.getD k 0 ^^^ r j) = false → Dup r j (k + 1) S0 (S ++ [S0.getD k 0 ^^^ r j])) := by
  have hg : S0.getD k 0 = S0[k] := by simp [List.getD_eq_getElem?_getD, List.getElem?_eq_getElem hk]
  have ht : ∀ x, x ∈ (S0.take (k + 1)).map (fun n => n ^^^ r j) ↔ x ∈ (S0.take k).map (fun n => n ^^^ r j) ∨ x = S0.getD k 0 ^^^ r j := fun x => by
    rw [List.take_succ_eq_append_getElem hk, List.map_append, List.mem_append, hg]; simp
  obtain ⟨t, ht1, ht2⟩ := h.pre
  constructor
  · intro hc
    have hc' : S0.getD k 0 ^^^ r j ∈ S := by simpa using hc
    refine ⟨h.mem0, fun x => ?_, t, ht1, by omega⟩
    rw [ht]
    constructor
    · intro hx
      rcases (h.mem x).1 hx with hx | hx
      · exact .inl hx
      · exact .inr (.inl hx)
    · rintro (hx | hx | rfl)
      · exact (h.mem x).2 (.inl hx)
      · exact (h.mem x).2 (.inr hx)
      · exact hc'
  · intro _
    refine ⟨h.mem0, fun x => ?_, t ++ [S0.getD k 0 ^^^ r j], by rw [ht1, List.append_assoc], by simp; omega⟩
    rw [List.mem_append, ht, h.mem x]
    simp only [List.mem_singleton, or_assoc]
theorem Dup.done {r : Nat → Nat} {j : Nat} {S0 S : List Nat} (h : Dup r j S0.length S0 S) : ∀ x, x ∈ S ↔ x ∈ spL r (j + 1) := fun x => by
  rw [h.mem, List.take_length, spL, List.mem_append, List.mem_map, List.mem_map, h.mem0]
  constructor
  · rintro (hx | ⟨y, hy, e⟩)
    · exact .inl hx
    · exact .inr ⟨y, (h.mem0 y).1 hy, e⟩
  · rintro (hx | ⟨y, hy, e⟩)
    · exact .inl hx
    · exact .inr ⟨y, (h.mem0 y).2 hy, e⟩
theorem castL_contains (S : List Nat) (x : Nat) : (castL S).contains (x : Int) = S.contains x := by
  rw [Bool.eq_iff_iff]
  simp only [List.contains_iff_mem, mem_castL]
  constructor
  · rintro ⟨n, hn, e⟩
    have : n = x := by omega
    rw [← this]; exact hn
  · intro h; exact ⟨x, h, rfl⟩
theorem castL_snoc (S : List Nat) (x : Nat) : castL (S ++ [x]) = castL S ++ [(x : Int)] := by simp [castL]
/-- The value of SpanOf. -/
def spanV (xs : List Int) : List Int := if okX xs then spanS (fun i => (xs.getD i 0).toNat) else []
theorem spanS_len (r : Nat → Nat) : (spanS r).length ≤ 8 := by
  have := setP_length (castL (spanL (r 0) (r 1) (r 2)))
  rw [castL_len] at this
  exact this
theorem spanV_len (xs : List Int) : (spanV xs).length ≤ 1000000 := by
  unfold spanV
  split
  · have := spanS_len (fun i => (xs.getD i 0).toNat); omega
  · simp
/-- The rank of as many numbers as a power of two. -/
def rk : Nat → Nat → Nat
  | 0, _ => 0
  | f + 1, n => if 1 < n then 1 + rk f (n / 2) else 0
theorem rk_pow (k f : Nat) (h : k ≤ f) : rk f (2 ^ k) = k := by
  induction f generalizing k with
  | zero => obtain rfl : k = 0 := by omega
            rfl
  | succ f ih =>
    cases k with
    | zero => simp [rk]
    | succ k =>
      have h1 : 1 < 2 ^ (k + 1) := Nat.one_lt_two_pow (by omega)
      rw [rk, if_pos h1, show 2 ^ (k + 1) / 2 = 2 ^ k by rw [Nat.pow_succ]; omega, ih k (by omega)]
      omega
def rankV (xs : List Int) : Int := if okX xs then ((rk 8 (spanS (fun i => (xs.getD i 0).toNat)).length : Nat) : Int) else 0
/-- The value of ReducedIndex. -/
def redV (xs : List Int) : List Int := if okX xs then redL (spanS (fun i => (xs.getD i 0).toNat)) tops else []
theorem redV_len (xs : List Int) : (redV xs).length ≤ 1000000 := by
  unfold redV
  split
  · have := redL_len (spanS (fun i => (xs.getD i 0).toNat)) tops
    have e : tops.length = 6 := rfl
    omega
  · simp
end Go.Proofs.Ytfdjjaogmnagaaa.Ix
