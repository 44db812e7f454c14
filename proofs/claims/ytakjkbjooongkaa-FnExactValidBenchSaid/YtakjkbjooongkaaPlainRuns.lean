/- Runs of a list: they give the list back, are not empty, and neighbours differ. No program. -/
import Derived.Test.YtakjkbjooongkaaPlainSets
namespace Go.Proofs.Ytakjkbjooongkaa.Tr
/-- Runs: one more item. -/
def rstep (acc : List (Int × Nat)) (x : Int) : List (Int × Nat) :=
  match acc.getLast? with
  | none => [(x, 1)]
  | some (y, c) => if y = x then acc.dropLast ++ [(y, c + 1)] else acc ++ [(x, 1)]
def runsP (xs : List Int) : List (Int × Nat) := xs.foldl rstep []
theorem runsP_snoc (xs : List Int) (x : Int) : runsP (xs ++ [x]) = rstep (runsP xs) x := by simp [runsP]
theorem rstep_nil (x : Int) : rstep [] x = [(x, 1)] := rfl
theorem rstep_same (acc : List (Int × Nat)) (x : Int) (c : Nat) : rstep (acc ++ [(x, c)]) x = acc ++ [(x, c + 1)] := by simp [rstep]
theorem rstep_new (acc : List (Int × Nat)) (x y : Int) (c : Nat) (h : y ≠ x) : rstep (acc ++ [(y, c)]) x = acc ++ [(y, c), (x, 1)] := by simp [rstep, h]
theorem snoc_cases {α} (l : List α) : l = [] ∨ ∃ a b, l = a ++ [b] := by
  rcases List.eq_nil_or_concat l with h | ⟨a, b, h⟩
  · exact .inl h
  · exact .inr ⟨a, b, by simpa using h⟩
/-- all that is known of runs -/
def Runs (xs : List Int) (rs : List (Int × Nat)) : Prop :=
  rs.flatMap (fun r => List.replicate r.2 r.1) = xs ∧ (∀ r ∈ rs, 1 ≤ r.2) ∧ ∀ a y c, rs = a ++ [(y, c)] → xs.getLast? = some y
theorem Runs.flat {xs : List Int} {rs : List (Int × Nat)} (h : Runs xs rs) : rs.flatMap (fun r => List.replicate r.2 r.1) = xs := h.1
theorem Runs.pos {xs : List Int} {rs : List (Int × Nat)} (h : Runs xs rs) : ∀ r ∈ rs, 1 ≤ r.2 := h.2.1
theorem Runs.last {xs : List Int} {rs : List (Int × Nat)} (h : Runs xs rs) : ∀ a y c, rs = a ++ [(y, c)] → xs.getLast? = some y := h.2.2
theorem runs_of (xs : List Int) : Runs xs (runsP xs) := by
  have : ∀ n, ∀ xs : List Int, xs.length = n → Runs xs (runsP xs) := by
    intro n
    induction n with
    | zero => intro xs h; obtain rfl := List.eq_nil_of_length_eq_zero h; exact ⟨rfl, by simp [runsP], by simp [runsP]⟩
    | succ n ih =>
      intro xs h
      rcases snoc_cases xs with rfl | ⟨ys, x, rfl⟩
      · simp at h
      · have h1 := ih ys (by simpa using h)
        rw [runsP_snoc]
        rcases snoc_cases (runsP ys) with h2 | ⟨a, ⟨y, c⟩, h2⟩
        · rw [h2] at h1 ⊢
          have : ys = [] := by simpa using h1.flat.symm
          subst this
          exact ⟨by simp [rstep_nil], by simp [rstep_nil], by
            intro a y c h; rw [rstep_nil] at h
            cases a with
            | nil => simp at h; simp [h.1]
            | cons b a => simp at h⟩
        · rw [h2] at h1 ⊢
          by_cases e : y = x
          · subst e
            rw [rstep_same]
            refine ⟨?_, ?_, ?_⟩
            · have := h1.flat
              simp only [List.flatMap_append, List.flatMap_cons, List.flatMap_nil, List.append_nil] at this ⊢
              rw [← this, List.replicate_succ', List.append_assoc]
            · intro r hr
              rcases List.mem_append.1 hr with hr | hr
              · exact h1.pos r (by simp [hr])
              · simp at hr; subst hr; simp
            · intro a' y' c' h
              have := List.append_inj_right' h rfl
              simp at this; simp [this.1]
          · rw [rstep_new _ _ _ _ e]
            refine ⟨?_, ?_, ?_⟩
            · have := h1.flat
              simp only [List.flatMap_append, List.flatMap_cons, List.flatMap_nil, List.append_nil] at this ⊢
              rw [← this]; simp
            · intro r hr
              rcases List.mem_append.1 hr with hr | hr
              · exact h1.pos r (by simp [hr])
              · simp at hr
                rcases hr with rfl | rfl
                · exact h1.pos _ (by simp)
                · simp
            · intro a' y' c' h
              have h' : (a ++ [(y, c)]) ++ [(x, 1)] = a' ++ [(y', c')] := by simpa using h
              have := List.append_inj_right' h' rfl
              simp at this; simp [this.1]
  exact this _ xs rfl
/-- neighbours part -/
theorem runs_part (xs : List Int) : ∀ a r1 r2 b, runsP xs = a ++ r1 :: r2 :: b → r1.1 ≠ r2.1 := by
  have : ∀ n, ∀ xs : List Int, xs.length = n → ∀ a r1 r2 b, runsP xs = a ++ r1 :: r2 :: b → r1.1 ≠ r2.1 := by
    intro n
    induction n with
    | zero => intro xs h a r1 r2 b; obtain rfl := List.eq_nil_of_length_eq_zero h; simp [runsP]
    | succ n ih =>
      intro xs h a r1 r2 b hr
      rcases snoc_cases xs with rfl | ⟨ys, x, rfl⟩
      · simp at h
      · have h1 := ih ys (by simpa using h)
        rw [runsP_snoc] at hr
        rcases snoc_cases (runsP ys) with h2 | ⟨p, ⟨y, c⟩, h2⟩
        · rw [h2, rstep_nil] at hr
          have := congrArg List.length hr; simp at this; omega
        · rw [h2] at hr h1
          by_cases e : y = x
          · subst e
            rw [rstep_same] at hr
            rcases snoc_cases b with rfl | ⟨b', rl, rfl⟩
            · have h' : p ++ [(y, c + 1)] = (a ++ [r1]) ++ [r2] := by simpa using hr
              have h3 := List.append_inj_right' h' rfl
              have h4 := List.append_inj_left' h' rfl
              simp at h3
              have := h1 a r1 (y, c) [] (by rw [h4]; simp)
              rw [← h3]; exact this
            · have h' : p ++ [(y, c + 1)] = (a ++ r1 :: r2 :: b') ++ [rl] := by simpa using hr
              have h4 := List.append_inj_left' h' rfl
              exact h1 a r1 r2 (b' ++ [(y, c)]) (by rw [h4]; simp)
          · rw [rstep_new _ _ _ _ e] at hr
            rcases snoc_cases b with rfl | ⟨b', rl, rfl⟩
            · have h' : (p ++ [(y, c)]) ++ [(x, 1)] = (a ++ [r1]) ++ [r2] := by simpa using hr
              have h3 := List.append_inj_right' h' rfl
              have h4 := List.append_inj_left' h' rfl
              have h5 := List.append_inj_right' h4 rfl
              simp at h3 h5
              rw [← h3, ← h5]; exact e
            · have h' : (p ++ [(y, c)]) ++ [(x, 1)] = (a ++ r1 :: r2 :: b') ++ [rl] := by simpa using hr
              have h4 := List.append_inj_left' h' rfl
              exact h1 a r1 r2 b' h4
  exact this _ xs rfl
end Go.Proofs.Ytakjkbjooongkaa.Tr
