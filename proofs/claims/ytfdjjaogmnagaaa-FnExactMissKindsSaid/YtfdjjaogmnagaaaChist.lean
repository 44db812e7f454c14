/- The program's history of uses: a map of what has been used since, ranged over at each use. -/
import Derived.Test.YtfdjjaogmnagaaaCmapS
import Derived.Test.YtfdjjaogmnagaaaCixv
import Derived.Test.YtfdjjaogmnagaaaCuses
import Derived.Test.YtfdjjaogmnagaaaCixk
import Derived.Maps.AppendAt
namespace Go.Proofs.Ytfdjjaogmnagaaa.Ix
open Go.RowKit Tr Bt
/-- The cells of a list of reuses. -/
def ucells (rs : List (Nat × Nat)) : List Value := rs.flatMap (fun p => [.int .i64 (p.1 : Int), .int .u64 (p.2 : Int)])
theorem ucells_len (rs : List (Nat × Nat)) : (ucells rs).length = rs.length * 2 := by
  induction rs with
  | nil => rfl
  | cons p rs ih => simp only [ucells, List.flatMap_cons, List.length_append, List.length_cons, List.length_nil] at ih ⊢; omega
theorem ucells_app (rs : List (Nat × Nat)) (p : Nat × Nat) : ucells (rs ++ [p]) = ucells rs ++ [.int .i64 (p.1 : Int), .int .u64 (p.2 : Int)] := by simp [ucells]
theorem ucells_get (rs : List (Nat × Nat)) (i : Nat) (hi : i < rs.length) : (ucells rs)[i * 2]? = some (.int .i64 ((rs.getD i (0, 0)).1 : Int)) ∧ (ucells rs)[i * 2 + 1]? = some (.int .u64 ((rs.getD i (0, 0)).2 : Int)) := by
  induction rs generalizing i with
  | nil => simp at hi
  | cons p rs ih =>
    have e : ucells (p :: rs) = .int .i64 (p.1 : Int) :: .int .u64 (p.2 : Int) :: ucells rs := rfl
    cases i with
    | zero => rw [e]; exact ⟨rfl, rfl⟩
    | succ i =>
      have h := ih i (by simpa using hi)
      rw [e, show (i + 1) * 2 = i * 2 + 1 + 1 by omega, show i * 2 + 1 + 1 + 1 = (i * 2 + 1) + 1 + 1 by omega]
      simp only [List.getElem?_cons_succ, List.getD_cons_succ]
      exact h
/-- A list of reuses of the call's own. -/
def OwnU (w : World) (B : Nat) (v : Value) (rs : List (Nat × Nat)) : Prop := w.ownsRow B 62 2 v rs.length (ucells rs)
theorem OwnU.nil (w : World) (B : Nat) : OwnU w B (.slice none 0 0) [] := World.ownsRow_nil _ _ _ _
theorem OwnU.below {w w' : World} {B : Nat} {v : Value} {rs : List (Nat × Nat)} (h : OwnU w B v rs) {C : Nat} (hb : Below C w w') (hC : w.heap.size ≤ C) : OwnU w' B v rs := by
  refine ⟨h.1, ?_⟩
  rcases h.2 with hn | ⟨g, cap, cur, hv, hg, hh, r⟩
  · exact .inl hn
  · exact .inr ⟨g, cap, cur, hv, hg, by rw [hb.block g (Nat.lt_of_lt_of_le (Array.getElem?_eq_some_iff.1 hh).1 hC)]; exact hh, r⟩
theorem OwnU.kept {w w' : World} {B : Nat} {v : Value} {rs : List (Nat × Nat)} {row : Option Nat} (h : OwnU w B v rs) (hg : w.grownBy w' row) (hr : ∀ r, row = some r → r < B) : OwnU w' B v rs := by
  refine World.ownsRow.kept h hg ?_
  cases hv : v.ownBlock with
  | none => exact .inl rfl
  | some k => exact .inr (fun e => by have h1 := (World.ownsRow.lt h k hv).1; have := hr k e.symm; omega)
theorem OwnU.form {w : World} {B : Nat} {v : Value} {rs : List (Nat × Nat)} (h : OwnU w B v rs) : ∃ a c, v = .slice a rs.length c := by
  have h0 : w.ownsRow B 62 2 v rs.length (ucells rs) := h
  rcases h0.2 with ⟨rfl, hn⟩ | ⟨g, cap, cur, rfl, _⟩
  · exact ⟨none, 0, by rw [hn]⟩
  · exact ⟨_, _, rfl⟩
theorem OwnU.mono {w : World} {B B' : Nat} {v : Value} {rs : List (Nat × Nat)} (h : OwnU w B v rs) (hB : B' ≤ B) : OwnU w B' v rs := by
  refine ⟨h.1, ?_⟩
  rcases h.2 with hn | ⟨g, cap, cur, hv, hg, r⟩
  · exact .inl hn
  · exact .inr ⟨g, cap, cur, hv, by omega, r⟩
theorem infoU : (Try.prog.info? 62).map (fun i => (i.zero, i.size, i.bytes)) = some (some (.agg #[.int .i64 0, .int .u64 0]), 2, 16) := by kernel_rfl
theorem wpList_appU {ops : Array Oper} {rest : List Oper} {o : Oper} {a : Act} {Q : Exit → Act → World → Prop} (wr : World) (hgd : o.guard = none) (s x : Operand)
    (ho : o.op = .call { callee := .builtin .append, args := #[s, x], argTypes := #[47, 47] })
    (B : Nat) (v : Value) (rs : List (Nat × Nat)) (ad ot : Nat) (hs : a.eval s = v) (hx : a.eval x = .slice (some ⟨wr.heap.size, 0, none⟩) 1 1) (hown : OwnU wr B v rs)
    (hlen : rs.length + 1 ≤ 100000000) (hB : B ≤ wr.heap.size)
    (h : ∀ v' w', OwnU w' B v' (rs ++ [(ad, ot)]) → Below B wr w' → wr.heap.size ≤ w'.heap.size → wpList Try.prog ops Q rest (a.put o.dst v') w') :
    wpList Try.prog ops Q (o :: rest) a (wr.alloc (.cells #[.int .i64 (ad : Int), .int .u64 (ot : Int)] 62)) := by
  obtain ⟨i0, hi, hz0, hz1, hz2⟩ := info_parts infoU
  have hsz : (wr.alloc (.cells #[.int .i64 (ad : Int), .int .u64 (ot : Int)] 62)).heap.size = wr.heap.size + 1 := Array.size_push _
  refine wpList_append_own _ hgd s x 47 ho B 62 i0 (.agg #[.int .i64 0, .int .u64 0]) 2 16 Try.underlying47 hi hz0 hz1 hz2 rfl (by decide) v rs.length (ucells rs) hs (World.ownsRow.alloc hown _)
    ⟨wr.heap.size, 0, none⟩ 1 1 [.int .i64 (ad : Int), .int .u64 (ot : Int)] hx rfl ?_ ?_ ?_ ?_ ?_ ?_
  · intro j u' hj
    match j, hj with
    | 0, hj => simp at hj; subst hj; simp [Addr.add]
    | 1, hj => simp at hj; subst hj; simp [Addr.add]
  · intro u' hu; simp at hu; rcases hu with hu | hu <;> subst hu <;> rfl
  · unfold maxLen; omega
  · omega
  · simp; omega
  · intro v' w' hown' hgrow _
    refine h v' w' ?_ ?_ (by have := hgrow.size; omega)
    · show World.ownsRow _ _ _ _ _ (rs ++ [(ad, ot)]).length _
      rw [List.length_append, ucells_app]
      exact hown'
    · exact ((Below.refl B wr).alloc hB _).grown hgrow (by omega) (fun k hk => (World.ownsRow.lt hown k hk).1)
theorem lawH : Go.Maps.Keyed Try.prog 2 := Go.Maps.int_keyed Try.underlying2
theorem zeroH (w : World) : (zeroValue 59).run Try.prog w = .ok (.int .u64 0) w := by kernel_rfl
theorem plainU (o : Nat) (ho : o < 18446744073709551616) : plainElem (H := Unit) Try.prog 59 (.int .u64 (o : Int)) = some (.lit (.int .u64 (o : Int)), []) :=
  plainElem_int Try.underlying59 (WalkArith.wf_u64 (by omega))
/-- What stands behind j uses. -/
structure HiR (us : List Nat) (w : World) (j : Nat) (v : Value) (wr : World) : Prop where
  res : Kb wr w.heap.size [.int .i64 0, .slice none 0 0] 49
  his : Kb wr (w.heap.size + 1) [.int .i64 ((frst us j : Nat) : Int), v] 49
  map : ∃ D : DataW Unit, wr.ownsMap Try.prog 2 (plainElem Try.prog 59) (w.heap.size + 2) j D ∧ MapS us j D
  own : OwnU wr (w.heap.size + 3) v (reus us j)
  big : w.heap.size + 3 ≤ wr.heap.size
  bel : Below w.heap.size w wr
end Go.Proofs.Ytfdjjaogmnagaaa.Ix
