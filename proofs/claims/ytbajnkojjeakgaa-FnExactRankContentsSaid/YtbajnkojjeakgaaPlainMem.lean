/- What a memory with ranks holds, in the order of coming and as a set. No program. -/
import Derived.Test.YtbajnkojjeakgaaPlainSets
namespace Go.Proofs.Ytbajnkojjeakgaa.Tr
def rkn (rs : List Int) (x : Int) : Int := rs.getD x.toNat 0
/-- The place of the greatest rank among the first. -/
def worstK (rs L : List Int) : Nat → Nat
  | 0 => 0
  | k + 1 => if rkn rs (L.getD (worstK rs L k) 0) < rkn rs (L.getD k 0) then k else worstK rs L k
def cutAt (L : List Int) (k : Nat) : List Int := L.take k ++ L.drop (k + 1)
def memS (rs : List Int) (n : Nat) (L : List Int) (a : Int) : List Int :=
  if a ∈ L then L else (if L.length = n then cutAt L (worstK rs L L.length) else L) ++ [a]
def mem (rs : List Int) (n : Nat) (xs : List Int) : List Int := xs.foldl (memS rs n) []
/-- How many of the first uses are misses. -/
def memC (rs : List Int) (n : Nat) (xs : List Int) : Nat → Nat
  | 0 => 0
  | j + 1 => memC rs n xs j + if xs.getD j 0 ∈ mem rs n (xs.take j) then 0 else 1
theorem memC_le (rs : List Int) (n : Nat) (xs : List Int) (j : Nat) : memC rs n xs j ≤ j := by
  induction j with
  | zero => exact Nat.le_refl _
  | succ j ih => rw [memC]; split <;> omega
theorem mem_take (rs : List Int) (n : Nat) (xs : List Int) (j : Nat) (h : j < xs.length) : mem rs n (xs.take (j + 1)) = memS rs n (mem rs n (xs.take j)) (xs.getD j 0) := by
  unfold mem
  rw [List.take_succ_eq_append_getElem h, List.foldl_append, ← getD_get' xs j h]; rfl
theorem worst_lt (rs L : List Int) (h : L ≠ []) (k : Nat) (hk : k ≤ L.length) : worstK rs L k < L.length := by
  have h0 : 0 < L.length := List.length_pos_iff.2 h
  induction k with
  | zero => exact h0
  | succ k ih =>
    rw [worstK]; split
    · omega
    · exact ih (by omega)
theorem worst_max (rs L : List Int) (k : Nat) : ∀ i, i < k → rkn rs (L.getD i 0) ≤ rkn rs (L.getD (worstK rs L k) 0) := by
  induction k with
  | zero => intro i h; omega
  | succ k ih =>
    intro i hi
    rw [worstK]
    split
    · rename_i hc
      rcases Nat.lt_or_ge i k with h | h
      · have := ih i h; omega
      · have e : i = k := by omega
        subst e; exact Int.le_refl _
    · rename_i hc
      rcases Nat.lt_or_ge i k with h | h
      · exact ih i h
      · have e : i = k := by omega
        subst e; omega
theorem mem_cutAt (L : List Int) (k : Nat) (hk : k < L.length) (hd : L.Nodup) (y : Int) : y ∈ cutAt L k ↔ y ∈ L ∧ y ≠ L.getD k 0 := by
  have e : L = L.take k ++ L.getD k 0 :: L.drop (k + 1) := by
    rw [getD_get' L k hk, ← List.drop_eq_getElem_cons hk, List.take_append_drop]
  have hd2 := hd
  rw [e] at hd2
  rw [List.nodup_append, List.nodup_cons] at hd2
  obtain ⟨_, ⟨h2, _⟩, h3⟩ := hd2
  unfold cutAt
  generalize L.getD k 0 = z at *
  constructor
  · intro h
    refine ⟨by rw [e]; rcases List.mem_append.1 h with h | h <;> simp [h], ?_⟩
    rintro rfl
    rcases List.mem_append.1 h with h | h
    · exact h3 y h y (by simp) rfl
    · exact h2 h
  · rintro ⟨h, hne⟩
    rw [e] at h
    rcases List.mem_append.1 h with h | h
    · exact List.mem_append.2 (.inl h)
    · rcases List.mem_cons.1 h with h | h
      · exact absurd h hne
      · exact List.mem_append.2 (.inr h)
theorem cutAt_nodup (L : List Int) (k : Nat) (hd : L.Nodup) : (cutAt L k).Nodup := by
  unfold cutAt
  rw [← List.eraseIdx_eq_take_drop_succ]
  exact (List.eraseIdx_sublist L k).nodup hd
theorem cutAt_length (L : List Int) (k : Nat) (hk : k < L.length) : (cutAt L k).length = L.length - 1 := by
  unfold cutAt; simp; omega
/-- What stays true of what is held. -/
def Kept (n : Nat) (L : List Int) : Prop := L.Nodup ∧ (∀ y ∈ L, 0 ≤ y ∧ y ≤ 63) ∧ L.length ≤ n
theorem memS_kept (rs : List Int) (n : Nat) (hn : 1 ≤ n) (L : List Int) (a : Int) (h : Kept n L) (ha : 0 ≤ a ∧ a ≤ 63) : Kept n (memS rs n L a) := by
  obtain ⟨h1, h2, h3⟩ := h
  unfold memS
  by_cases hm : a ∈ L
  · rw [if_pos hm]; exact ⟨h1, h2, h3⟩
  · rw [if_neg hm]
    have key : ∀ M : List Int, M.Nodup → (∀ y ∈ M, y ∈ L) → M.length + 1 ≤ n → Kept n (M ++ [a]) := fun M m1 m2 m3 => by
      refine ⟨?_, fun y hy => ?_, by simp; omega⟩
      · refine List.nodup_append.2 ⟨m1, by simp, fun y hy z hz e => ?_⟩
        rw [List.mem_singleton] at hz
        rw [e, hz] at hy
        exact hm (m2 _ hy)
      · rcases List.mem_append.1 hy with hy | hy
        · exact h2 y (m2 y hy)
        · rw [List.mem_singleton] at hy; rw [hy]; exact ha
    by_cases hl : L.length = n
    · rw [if_pos hl]
      have hne : L ≠ [] := by rintro rfl; simp at hl; omega
      have hw := worst_lt rs L hne L.length (Nat.le_refl _)
      exact key _ (cutAt_nodup L _ h1) (fun y hy => ((mem_cutAt L _ hw h1 y).1 hy).1) (by rw [cutAt_length L _ hw]; omega)
    · rw [if_neg hl]
      exact key L h1 (fun _ h => h) (by omega)
theorem mem_kept (rs : List Int) (n : Nat) (hn : 1 ≤ n) (xs : List Int) (hx : ∀ j, j < xs.length → 0 ≤ xs.getD j 0 ∧ xs.getD j 0 ≤ 63) (j : Nat) (hj : j ≤ xs.length) : Kept n (mem rs n (xs.take j)) := by
  induction j with
  | zero => exact ⟨List.nodup_nil, fun y hy => absurd hy (by simp [mem]), Nat.zero_le _⟩
  | succ j ih => rw [mem_take rs n xs j (by omega)]; exact memS_kept rs n hn _ _ (ih (by omega)) (hx j (by omega))
theorem foldl_put_len (xs : List Int) : ∀ s : List Int, Up s → xs.Nodup → (∀ x ∈ xs, x ∉ s) → (xs.foldl put s).length = s.length + xs.length := by
  induction xs with
  | nil => intro s _ _ _; simp
  | cons x xs ih =>
    intro s hs hd hx
    have hd' := List.nodup_cons.1 hd
    have h1 := put_new (n := x) hs (hx x (by simp))
    have hl : (put s x).length = s.length + 1 := by rw [h1]; simp; have := below_le s x; omega
    rw [List.foldl_cons, ih (put s x) (put_up x hs) hd'.2 (fun y hy hm => ?_), hl, List.length_cons]
    · omega
    · rcases (mem_put s x y).1 hm with rfl | hm
      · exact hd'.1 hy
      · exact hx y (by simp [hy]) hm
theorem setP_len (L : List Int) (h : L.Nodup) : (setP L).length = L.length := by
  have := foldl_put_len L [] (by simp [Up]) h (by simp); simpa [setP] using this
/-- The set without one of its elements. -/
def but (s : List Int) (m : Int) : List Int := s.filter (fun x => decide (x ≠ m))
theorem but_up {s : List Int} (m : Int) (h : Up s) : Up (but s m) := List.Pairwise.filter _ h
theorem mem_but (s : List Int) (m y : Int) : y ∈ but s m ↔ y ∈ s ∧ y ≠ m := by simp [but]
/-- Whoever has the greatest rank is the one that goes. -/
theorem set_memS (rs : List Int) (n : Nat) (hn : 1 ≤ n) (L : List Int) (a m : Int) (h : Kept n L)
    (hinj : ∀ x y : Int, 0 ≤ x ∧ x ≤ 63 → 0 ≤ y ∧ y ≤ 63 → rkn rs x = rkn rs y → x = y) (ha : a ∉ L) (hm : (setP L).length = n → m ∈ setP L ∧ ∀ y ∈ setP L, rkn rs y ≤ rkn rs m) :
    setP (memS rs n L a) = put (if (setP L).length = n then but (setP L) m else setP L) a := by
  obtain ⟨h1, h2, h3⟩ := h
  unfold memS
  rw [if_neg ha, setP_len L h1]
  rw [setP_len L h1] at hm
  by_cases hl : L.length = n
  · rw [if_pos hl, if_pos hl, setP_snoc]
    congr 1
    obtain ⟨m1, m2⟩ := hm hl
    have hne : L ≠ [] := by rintro rfl; simp at hl; omega
    have hw := worst_lt rs L hne L.length (Nat.le_refl _)
    have hwm := worst_max rs L L.length
    have m1' : m ∈ L := (mem_setP L m).1 m1
    have hz : L.getD (worstK rs L L.length) 0 ∈ L := by rw [getD_get' L _ hw]; exact List.getElem_mem hw
    have e : L.getD (worstK rs L L.length) 0 = m := by
      refine hinj _ _ (h2 _ hz) (h2 _ m1') ?_
      obtain ⟨i, hi, e⟩ := List.getElem_of_mem m1'
      have q1 := hwm i hi
      rw [getD_get' L i hi, e] at q1
      have q2 := m2 _ ((mem_setP L _).2 hz)
      omega
    refine up_ext (setP_up _) (but_up m (setP_up L)) fun y => ?_
    rw [mem_setP, mem_cutAt L _ hw h1, mem_but, mem_setP, e]
  · rw [if_neg hl, if_neg hl, setP_snoc]
theorem set_memS_old (rs : List Int) (n : Nat) (L : List Int) (a : Int) (ha : a ∈ L) : memS rs n L a = L := by unfold memS; rw [if_pos ha]
theorem rk_inj (rs : List Int) (h : rs.Nodup) (hl : rs.length = 64) (x y : Int) (hx : 0 ≤ x ∧ x ≤ 63) (hy : 0 ≤ y ∧ y ≤ 63) (e : rkn rs x = rkn rs y) : x = y := by
  have h1 : x.toNat < rs.length := by omega
  have h2 : y.toNat < rs.length := by omega
  unfold rkn at e
  rw [getD_get' rs _ h1, getD_get' rs _ h2] at e
  have hp := List.pairwise_iff_getElem.1 h
  rcases Nat.lt_trichotomy x.toNat y.toNat with h3 | h3 | h3
  · exact absurd e (hp _ _ h1 h2 h3)
  · omega
  · exact absurd e.symm (hp _ _ h2 h1 h3)
end Go.Proofs.Ytbajnkojjeakgaa.Tr
